/-
  The reference's Put: bytes put into a string.
-/
import Derived.Test.YtpjoekjakjajcaaFe
import Derived.ArgAppend
import Derived.Laws.BytesArg
import Derived.Lib.ConvBytes
namespace Go.Proofs.Ytpjoekjakjajcaa
open Go.RowKit

/-! ### A slice of bytes that has come since w0, told by its cells -/
structure ByAt (w0 w : World) (G cap : Nat) (l : Txt) : Prop where
  new : w0.heap.size ≤ G
  lt : G < w.heap.size
  fr : Fr w0 w
  le : l.length ≤ cap
  holds : ∀ j (h : j < l.length), w.cell? ⟨G, j, none⟩ = some (.int .u8 (l[j].toNat : Nat))
  there : ∀ j, j < cap → (w.cell? ⟨G, j, none⟩).isSome = true ∧ w.frozen? ⟨G, j, none⟩ = false
theorem ByAt.frr {w0 w w' : World} {G cap : Nat} {l : Txt} (h : ByAt w0 w G cap l) (hf : Fr w w') : ByAt w0 w' G cap l :=
  ⟨h.new, Nat.lt_of_lt_of_le h.lt hf.size, h.fr.trans hf, h.le, fun j hj => hf.cell (h.holds j hj), fun j hj => by
    have hb := hf.block h.lt
    have := h.there j hj
    exact ⟨by rw [World.cell?_of_block (a := ⟨G, j, none⟩) hb]; exact this.1, by rw [World.frozen?_of_block (a := ⟨G, j, none⟩) hb]; exact this.2⟩⟩
theorem ByAt.ofString (w : World) (l : Txt) : ByAt w (Lib.bytesWorld w 5 (S l)) w.heap.size (grownCap w l.length 0 5) l := by
  have hsz := Lib.bytesWorld_size w 5 (S l)
  have hge := grownCap_ge w l.length 0 5
  have hcs : (Lib.bytesCells w 5 (S l)).size = grownCap w l.length 0 5 := by
    unfold Lib.bytesCells
    rw [Array.size_append, Array.size_map, Array.size_replicate]
    show l.toArray.size + (grownCap w l.length 0 5 - l.length) = _
    rw [List.size_toArray]
    omega
  have hn := Lib.bytesWorld_at_new w 5 (S l)
  refine ⟨Nat.le_refl _, by omega, ⟨rfl, rfl, rfl, by omega, fun k hk _ => Lib.bytesWorld_at_old w _ (S l) k hk⟩, hge, fun j hj => ?_, fun j hj => ⟨?_, ?_⟩⟩
  · rw [Lib.bytesWorld_cell w _ (S l) j hj]
    have : (S l).data.toList = l := rfl
    rw [this, List.getD_eq_getElem?_getD, List.getElem?_eq_getElem hj]
    rfl
  · unfold World.cell?
    rw [hn]
    simp
    omega
  · unfold World.frozen?
    rw [hn]
    simp
    omega
theorem ByAt.set {w0 w : World} {G cap : Nat} {l : Txt} (h : ByAt w0 w G cap l) (i : Nat) (hi : i < cap) (x : UInt8) (l' : Txt) (hl : l'.length ≤ cap)
    (hx : ∀ j (hj : j < l'.length), (j = i ∧ l'[j] = x) ∨ (j ≠ i ∧ ∃ h' : j < l.length, l'[j] = l[j])) : ByAt w0 (w.setCell ⟨G, i, none⟩ (.int .u8 (x.toNat : Nat))) G cap l' := by
  have ho := OnlyB.setCell w G i (.int .u8 (x.toNat : Nat))
  have hsome := (h.there i hi).1
  obtain ⟨u, hu⟩ := Option.isSome_iff_exists.1 hsome
  refine ⟨h.new, by rw [ho.2.2.2.1]; exact h.lt, h.fr.only ho h.new, hl, fun j hj => ?_, fun j hj => ⟨?_, ?_⟩⟩
  · rcases hx j hj with ⟨rfl, e⟩ | ⟨hne, h', e⟩
    · rw [World.cell?_setCell_same (h := hu), e]
    · rw [World.cell?_setCell_other (h := fun h => hne (Addr.mk.inj h).2.1.symm), e]
      exact h.holds j h'
  · by_cases e : i = j
    · subst e
      rw [World.cell?_setCell_same (h := hu)]; rfl
    · rw [World.cell?_setCell_other (h := fun h => e (Addr.mk.inj h).2.1)]
      exact (h.there j hj).1
  · rw [World.frozen?_setCell]
    exact (h.there j hj).2
theorem ByAt.conv {w0 w : World} {G cap : Nat} {l : Txt} (h : ByAt w0 w G cap l) (c : Nat) :
    (convert 74 9 (.slice (some ⟨G, 0, none⟩) l.length c)).run Try.prog w = .ok (.string (S l)) w := by
  rw [run_convert_bytes_arg (P := Try.prog) w 74 5 Try.underlying74 Try.underlying5 G 0 l.length c (l.map fun b => (b.toNat : Int)) (by rw [List.length_map]) (fun i hi => ?_) 9 Try.underlying9]
  · congr 2
    unfold strOfNums S
    rw [List.map_map, show ((fun n : Int => UInt8.ofNat n.toNat) ∘ fun b : UInt8 => (b.toNat : Int)) = id from by funext b; simp, List.map_id]
  · rw [Nat.zero_add, h.holds i hi, List.getD_eq_getElem?_getD, List.getElem?_map, List.getElem?_eq_getElem hi]
    rfl
theorem infoU8 : (Try.prog.info? 5).map (fun i => (i.zero, i.size, i.bytes)) = some (some (.int .u8 0), 1, 1) := by kernel_rfl
theorem wpList_byte {w0 w : World} {ops : Array Oper} {rest : List Oper} {o : Oper} {a : Act} {Q : Exit → Act → World → Prop} (hgd : o.guard = none) (s x : Operand)
    (ho : o.op = .call { callee := .builtin .append, args := #[s, x], argTypes := #[74, 74] })
    {G cap : Nat} {l : Txt} (h : ByAt w0 w G cap l) (hs : a.eval s = .slice (some ⟨G, 0, none⟩) l.length cap) (c : Nat) (hx : a.eval x = .slice (some ⟨w.heap.size, 0, none⟩) 1 c) (hl : l.length ≤ 100000000)
    (hK : ∀ G' cap' w', ByAt w0 w' G' cap' (l ++ [0]) → wpList Try.prog ops Q rest (a.put o.dst (.slice (some ⟨G', 0, none⟩) (l.length + 1) cap')) w') :
    wpList Try.prog ops Q (o :: rest) a (w.alloc (.cells #[.int .u8 0] 5)) := by
  obtain ⟨i0, hi, hz0, hz1, hz2⟩ := info_parts infoU8
  have h1 := h.frr (Fr.alloc w (.cells #[.int .u8 0] 5))
  have hnew : (w.alloc (.cells #[.int .u8 0] 5)).cell? ⟨w.heap.size, 0, none⟩ = some (.int .u8 0) := cellOf (heap_alloc_new w _) rfl
  refine wpList_append_arg _ hgd s x 74 ho 5 i0 (.int .u8 0) 1 1 Try.underlying74 hi hz0 hz1 hz2 rfl (by decide) G 0 l.length cap (l.map fun b => Value.int .u8 (b.toNat : Nat)) hs (by simp)
    (fun j u hj => ?_) ⟨w.heap.size, 0, none⟩ 1 c [.int .u8 0] hx rfl (fun j u hj => ?_) (by simp [Value.oneCell']) (fun hr j hj => ?_) (by unfold maxLen; omega) (by omega) (fun hr => ?_) (fun hr v' w' hown hgr => ?_)
  · rw [List.getElem?_map] at hj
    have hjl : j < l.length := by
      rcases Nat.lt_or_ge j l.length with h' | h'
      · exact h'
      · rw [List.getElem?_eq_none h'] at hj; simp at hj
    rw [List.getElem?_eq_getElem hjl] at hj
    obtain rfl := Option.some.inj hj
    rw [Nat.zero_add]
    exact h1.holds j hjl
  · match j, hj with
    | 0, hj =>
      obtain rfl := Option.some.inj hj
      exact hnew
  · obtain rfl : j = 0 := by simpa using hj
    have := h1.there l.length (by omega)
    simpa using this
  · have h2 := h1.set l.length (by omega) 0 (l ++ [0]) (by simp; omega) (fun j hj => by
      rcases Nat.lt_or_ge j l.length with h' | h'
      · exact .inr ⟨by omega, h', by rw [List.getElem_append_left h']⟩
      · have : j = l.length := by simp at hj; omega
        subst this
        exact .inl ⟨rfl, by simp⟩)
    have e : (w.alloc (.cells #[.int .u8 0] 5)).setCells G (0 + l.length * 1) [.int .u8 0] = (w.alloc (.cells #[.int .u8 0] 5)).setCell ⟨G, l.length, none⟩ (.int .u8 ((0 : UInt8).toNat : Nat)) := by
      rw [Nat.zero_add, Nat.mul_one]; rfl
    rw [e]
    exact hK _ _ _ h2
  · rcases hown.2 with ⟨_, h0⟩ | ⟨g, cap', cur, rfl, hB, hg, hc, _, hsz, ht⟩
    · omega
    · refine hK g cap' w' ⟨Nat.le_trans h1.fr.size hB, (Array.getElem?_eq_some_iff.1 hg).1, h1.fr.trans hgr, by simpa using hc, fun j hj => ?_, fun j hj => ⟨?_, frozenOf hg j⟩⟩
      · rw [cell_of_row w' g j cur 5 (0, 0) hg]
        have : (cur.toList.take ((l.length + 1) * 1))[j]? = ((l.map fun b => Value.int .u8 (b.toNat : Nat)) ++ [.int .u8 0])[j]? := by rw [ht]
        rw [List.getElem?_take, if_pos (by simp at hj; omega), Array.getElem?_toList] at this
        rw [this]
        rcases Nat.lt_or_ge j l.length with h' | h'
        · rw [List.getElem?_append_left (by simpa using h'), List.getElem?_map, List.getElem?_eq_getElem h', List.getElem_append_left h']; rfl
        · have : j = l.length := by simp at hj; omega
          subst this
          simp
      · rw [cell_of_row w' g j cur 5 (0, 0) hg, Array.getElem?_eq_getElem (by omega)]; rfl
end Go.Proofs.Ytpjoekjakjajcaa
