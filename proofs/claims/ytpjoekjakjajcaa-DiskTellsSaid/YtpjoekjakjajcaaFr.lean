/-
  The reference's disk: Arm.
-/
import Derived.Test.YtpjoekjakjajcaaFv
import Derived.Deep.AppendSrc
namespace Go.Proofs.Ytpjoekjakjajcaa
open Go.RowKit

/-- Another list at hand. -/
theorem RfAt.setKeep {w w3 : World} {O : Nat → Prop} {B : Nat} {fv qv kv : Value} {r : FS} (h : RfAt w O B fv qv kv r) (hfr : Fr w w3) {v : Value} {ks : List Int} (hown : w3.ownsRow 0 3 1 v ks.length (iCells ks))
    (hb : ∀ p, v.ownBlock = some p → w.heap.size ≤ p) : (RfT B { r with keep := ks }).step O w (w3.setCell ⟨B, 5, none⟩ v) := by
  have hr := h.fr hfr
  have hob := OnlyB.setCell w3 B 5 v
  have hsz : (w3.setCell ⟨B, 5, none⟩ v).heap.size = w3.heap.size := hob.2.2.2.1
  have ho := hob.2.2.2.2
  have hlt : ∀ p, v.ownBlock = some p → p < w3.heap.size := fun p hp => (hown.lt p hp).2
  refine ⟨fun k => O k ∨ v.ownBlock = some k, ⟨fv, qv, v, fun k hk => ?_, .inl h.oB, fun p hp => .inl (h.oF p hp), fun p hp => .inl (h.oQ p hp), fun p hp => .inr hp, heapB hr.heap, ?_, ?_, ?_⟩, fun k hk => ?_, (Own.of_fr hfr).only hob (.inl h.oB)⟩
  · rw [hsz]
    rcases hk with hk | hk
    · exact hr.bound k hk
    · exact hlt k hk
  · exact ownsRow_heap hr.files fun p hp => ho p (rowB_ne hr.files hr.heap (by decide) p hp)
  · exact ownsRow_heap hr.queue fun p hp => ho p (rowB_ne hr.queue hr.heap (by decide) p hp)
  · exact ownsRow_heap hown fun p hp => ho p (rowB_ne hown hr.heap (by decide) p hp)
  · rcases hk with hk | hk
    · exact .inl hk
    · exact .inr ⟨hb k hk, by rw [hsz]; exact hlt k hk⟩

/-- A list appended to an empty one. -/
theorem wpList_ints {w : World} {ops : Array Oper} {rest : List Oper} {o : Oper} {a : Act} {Q : Exit → Act → World → Prop} (hgd : o.guard = none) (s x : Operand)
    (ho : o.op = .call { callee := .builtin .append, args := #[s, x], argTypes := #[31, 31] })
    (hs : a.eval s = .slice (some ⟨w.heap.size, 0, none⟩) 0 0) {v : Value} {ks : List Int} (hk : Ints (w.alloc (.cells #[] 3)) v ks) (hx : a.eval x = v) (hn : ks.length * 8 ≤ 140737488355328)
    (hK : ∀ g m cap w', m = ks.length → w'.ownsRow 0 3 1 (.slice (some ⟨g, 0, none⟩) m cap) ks.length (iCells ks) → Fr w w' → w.heap.size ≤ g → wpList Try.prog ops Q rest (a.put o.dst (.slice (some ⟨g, 0, none⟩) m cap)) w') :
    wpList Try.prog ops Q (o :: rest) a (w.alloc (.cells #[] 3)) := by
  obtain ⟨i0, hi, hz0, hz1, hz2⟩ := info_parts infoInt
  have hnew := heap_alloc_new w (.cells #[] 3)
  have hrow : (w.alloc (.cells #[] 3)).ownsRow 0 3 1 (.slice (some ⟨w.heap.size, 0, none⟩) 0 0) 0 [] := ⟨rfl, .inr ⟨w.heap.size, 0, #[], rfl, Nat.zero_le _, hnew, Nat.le_refl _, Nat.zero_le _, rfl, rfl⟩⟩
  have empty : ∀ a' c, v = .slice a' 0 c → ks = [] → wpList Try.prog ops Q (o :: rest) a (w.alloc (.cells #[] 3)) := fun a' c hv hks => by
    subst hks
    have hsrc : Src Try.prog i0.size 31 (.slice a' 0 c) 0 [] (w.alloc (.cells #[] 3)) := by
      cases a' with
      | none => exact Src.ofNil _ Try.underlying31 c
      | some ad => exact Src.ofSlice _ Try.underlying31 ad 0 c [] (by simp) (fun j u hu => by simp at hu) (fun u hu => by simp at hu)
    have hrun := run_append_room_src (P := Try.prog) (w.alloc (.cells #[] 3)) 31 31 o.type 3 i0 Try.underlying31 hi w.heap.size 0 0 0 (.slice a' 0 c) 0 [] hsrc (Nat.le_refl _) (fun j hj => by simp at hj) (fun j hj => by simp at hj)
    refine wpList_plain hgd fun K hK' => ?_
    have hx' : a.eval x = .slice a' 0 c := hx.trans hv
    unfold Oper.wp
    simp [execOp, ho, resolve, invoke, builtin, hs, hx', hrun, Result.andThen]
    exact hK' _ _ (hK w.heap.size 0 0 _ rfl hrow (Fr.alloc w _) (Nat.le_refl _))
  rcases hk with ⟨hks, a', c, hv⟩ | ⟨b, off, c, hv, hat⟩
  · exact empty a' c hv hks
  · by_cases hks : ks = []
    · subst hks
      exact empty _ _ hv rfl
    · have hpos : 0 < ks.length := List.length_pos_iff.2 hks
      refine wpList_append_lies _ hgd s x 31 ho 0 3 i0 (.int .i64 0) 1 8 Try.underlying31 hi hz0 hz1 hz2 rfl (by decide) _ 0 [] hs hrow ⟨b, off, none⟩ ks.length c (iCells ks) (hx.trans hv) (by rw [iCells_length, Nat.mul_one]) (fun j u hu => ?_) (iCells_one ks) hpos (by unfold maxLen; omega) (by omega) (Nat.zero_le _) _ rfl ?_
      · rw [Addr.add_mid]
        have hj : j < ks.length := by have := (List.getElem?_eq_some_iff.1 hu).1; rw [iCells_length] at this; omega
        rw [hat j hj, ← hu]
        simp [iCells, hj]
      · intro g cap w' hown hgrow hat' hlt
        have hg : w.heap.size ≤ g := by
          rcases hat' with e | e
          · have e : w.heap.size = g := by simpa [Value.ownBlock] using e
            omega
          · rw [e]; simp
        refine hK g (0 + ks.length) cap w' (Nat.zero_add _) ?_ ?_ hg
        · simpa using hown
        · refine (Fr.alloc w (.cells #[] 3)).of_own (O := fun k => k = w.heap.size) (fun k hk => Nat.le_of_eq hk.symm) ?_
          have hpp : ∀ p, (Value.slice (some ⟨w.heap.size, 0, none⟩) 0 0).ownBlock = some p → p = w.heap.size := fun p hp => by
            have : w.heap.size = p := by simpa [Value.ownBlock] using hp
            exact this.symm
          exact (Own.refl _ _).grown hgrow fun p hp => .inl (hpp p hp)

set_option maxHeartbeats 1000000 in
theorem rarm_any {w : World} {O : Nat → Prop} {B : Nat} {r : FS} (h : (RfT B r).at_ w O) (n : Int) {v : Value} {ks : List Int} (hk : Ints w v ks) (hoff : ∀ p, ks ≠ [] → v.ownBlock = some p → p < w.heap.size ∧ ¬ O p) (hn : ks.length * 8 ≤ 140737488355328) :
    Calls Try.prog 35 #[.pointer (some ⟨B, 0, none⟩), .int .i64 n, v] w fun e w' => e = .returned (.tuple #[]) ∧ (RfT B { r with armed := n.toNat, keep := ks }).step O w w' := by
  obtain ⟨fv, qv, kv, hh⟩ := h
  have h1 : RfAt (w.setCell ⟨B, 4, none⟩ (.int .i64 (n.toNat : Int))) O B fv qv kv { r with armed := n.toNat } := hh.scalar 4 (.int .i64 (n.toNat : Int)) _ rfl rfl rfl rfl
  have hW1 : Own O w (w.setCell ⟨B, 4, none⟩ (.int .i64 (n.toNat : Int))) := (Own.refl O w).only (OnlyB.setCell _ B 4 _) (.inl hh.oB)
  have hk1 : Ints (w.setCell ⟨B, 4, none⟩ (.int .i64 (n.toNat : Int))) v ks := hk.frame fun p h0 hp _ => (OnlyB.setCell w B 4 _).2.2.2.2 p fun e => (hoff p h0 hp).2 (e ▸ hh.oB)
  have hk2 : Ints ((w.setCell ⟨B, 4, none⟩ (.int .i64 (n.toNat : Int))).alloc (.cells #[] 3)) v ks := hk1.frame fun p h0 hp hlt => (Fr.alloc _ _).block hlt
  have c4 := hh.c.2.2.2.2.1
  have z4 := hh.fz 4
  obtain ⟨av, mv, cv, rfl⟩ := row_form hh.keep
  have H1 := Lib.hid h1
  have HW1 := Lib.hid hW1
  have HK2 := Lib.hid hk2
  have HN := Lib.hid hn
  clear hh h1 hW1 hk1 hk2 hk hoff hn
  rcases Int.lt_or_le n 0 with hneg | hpos
  · have hn0 : n.toNat = 0 := by omega
    rw [hn0] at H1 HW1 HK2 ⊢
    rw [show ((0 : Nat) : Int) = 0 from rfl] at H1 HW1 HK2
    clear hn0
    go_enter Try.func35, Try.ntmps35
    go_wp2_with (at_builtin; go_loud (refine wpList_ints rfl _ _ rfl (by rw [(OnlyB.setCell _ B 4 _).2.2.2.1]; rfl) HK2.out rfl HN.out ?_; intro g m cap w7 hm hown hfr hge; subst hm; have hr7 := H1.out.fr hfr; have c5 := hr7.c.2.2.2.2.2; have z5 := hr7.fz 5; have HS7 := Lib.hid (Thing.step_trans (fun _ hk => .inl hk) HW1.out (H1.out.setKeep hfr hown (fun p hp => by simp only [Value.ownBlock, Option.some.injEq] at hp; omega))); clear hr7 hown hfr))
    go_end0
    exact ⟨rfl, HS7.out⟩
  · obtain ⟨k, rfl⟩ : ∃ k : Nat, n = k := ⟨n.toNat, by omega⟩
    simp only [Int.toNat_natCast] at H1 HW1 HK2 ⊢
    go_enter Try.func35, Try.ntmps35
    go_wp2_with (at_builtin; go_loud (refine wpList_ints rfl _ _ rfl (by rw [(OnlyB.setCell _ B 4 _).2.2.2.1]; rfl) HK2.out rfl HN.out ?_; intro g m cap w7 hm hown hfr hge; subst hm; have hr7 := H1.out.fr hfr; have c5 := hr7.c.2.2.2.2.2; have z5 := hr7.fz 5; have HS7 := Lib.hid (Thing.step_trans (fun _ hk => .inl hk) HW1.out (H1.out.setKeep hfr hown (fun p hp => by simp only [Value.ownBlock, Option.some.injEq] at hp; omega))); clear hr7 hown hfr))
    go_end0
    exact ⟨rfl, HS7.out⟩
end Go.Proofs.Ytpjoekjakjajcaa
