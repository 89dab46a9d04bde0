/-
  For JournalTorn: the mathematics, bytes in a block, files.
-/
import Derived.Test.YtgncliigmjeffaaDoorJh
import Derived.Test.YtgncliigmjeffaaDoorJs
import Derived.Test.YtgncliigmjeffaaDoorJz
import Derived.Test.YtgncliigmjeffaaDoorJf
import Derived.Laws.BytesArg
import Derived.Lib.ConvBytes
import Derived.Deep.OwnRows
namespace Go.Proofs.YtgncliigmjeffaaDoor
open Go.RowKit

abbrev Tx := List UInt8
/-- The records that are read are those of which nothing is missing. -/
theorem Jm.torn_recs {l : List Tx} {torn rest : Tx} {rs : List Tx} {m : Nat} (hz : Jm.Zd (Jm.forms l) torn) (hs : ∀ r ∈ l, r.length ≤ 2000) (hr : Jm.Recs torn rs rest) (hm : m ≤ l.length) (hin : Jm.forms (l.take m) <+: torn)
    (hend : m = l.length ∨ ¬ Jm.forms (l.take (m + 1)) <+: torn) : rs = l.take m := by
  obtain ⟨ps, hl, _⟩ := hz.recs hs hr
  obtain ⟨t, ht⟩ := hin
  have hsm : Jm.Small (l.take m) := fun r hr => by have := hs r (List.mem_of_mem_take hr); omega
  obtain ⟨qs, hq, _⟩ := Jm.Recs.more hsm (by rw [ht]; exact hr)
  cases qs with
  | nil => rw [hq, List.append_nil]
  | cons x qs =>
    exfalso
    have h1 : rs.length = m + (qs.length + 1) := by rw [hq, List.length_append, List.length_take]; simp; omega
    have h2 : l.length = rs.length + ps.length := by rw [hl, List.length_append]
    rcases hend with h | h
    · omega
    · apply h
      have h3 : l.take (m + 1) = rs.take (m + 1) := by rw [hl, List.take_append_of_le_length (by omega)]
      rw [h3, hr.eq]
      refine ⟨Jm.forms (rs.drop (m + 1)) ++ rest, ?_⟩
      rw [← List.append_assoc, ← Jm.forms_append, List.take_append_drop]
theorem Jm.forms_le {rs : List Tx} (h : ∀ r ∈ rs, r.length ≤ 200) : (Jm.forms rs).length ≤ rs.length * 251 := by
  induction rs with
  | nil => simp [Jm.forms_nil]
  | cons r rs ih =>
    have h1 := Jm.form_len r (by have := h r (by simp); omega)
    have h2 := h r (by simp)
    have h3 := ih fun x hx => h x (by simp [hx])
    rw [Jm.forms_cons, List.length_append, List.length_cons]
    omega
theorem Jm.forms_take {l : List Tx} (k : Nat) : Jm.forms (l.take k) <+: Jm.forms l := ⟨Jm.forms (l.drop k), by rw [← Jm.forms_append, List.take_append_drop]⟩
/-- The sizes of the file. -/
def endAt (l : List Tx) (j : Nat) : Nat := (Jm.forms (l.take (j + 1))).length
def endsC (l : List Tx) (k : Nat) : List Value := (List.range k).map fun j => Value.int .i64 (endAt l j : Nat)
theorem endsC_length (l : List Tx) (k : Nat) : (endsC l k).length = k := by simp [endsC]
theorem endsC_succ (l : List Tx) (k : Nat) : endsC l (k + 1) = endsC l k ++ [.int .i64 (endAt l k : Nat)] := by simp [endsC, List.range_succ]
/-- File 0 has x; nothing else has anything. -/
def FF (x : Tx) : Nat → Tx := put (fun _ => []) 0 x
theorem FF_put (x y : Tx) : put (FF x) 0 y = FF y := by
  funext g
  unfold FF put
  by_cases h : g = 0 <;> simp [h]
theorem FF_0 (x : Tx) : FF x 0 = x := rfl
theorem FF_1 (x : Tx) : FF x 1 = [] := rfl

/-- Bytes in a block. -/
def BytesT (B : Nat) (bs : Tx) : Thing where
  at_ w O := B < w.heap.size ∧ (∀ i (h : i < bs.length), w.cell? ⟨B, i, none⟩ = some (Value.int .u8 (bs[i].toNat : Nat)) ∧ w.frozen? ⟨B, i, none⟩ = false) ∧ ∀ k, O k ↔ k = B
  bound h k hk := by rw [(h.2.2 k).1 hk]; exact h.1
  frame h hs hw := ⟨Nat.lt_of_lt_of_le h.1 hs, fun i hi => by
    have := h.2.1 i hi
    have hb := hw _ ((h.2.2 _).2 rfl)
    exact ⟨by rw [World.cell?_of_block hb]; exact this.1, by rw [World.frozen?_of_block hb]; exact this.2⟩, h.2.2⟩
/-- Z is L, but some bytes are 0. -/
def Zl (L Z : Tx) : Prop := Z.length = L.length ∧ ∀ i (h : i < Z.length) (h' : i < L.length), Z[i] = 0 ∨ Z[i] = L[i]
theorem Zl.refl (L : Tx) : Zl L L := ⟨rfl, fun _ _ _ => .inr rfl⟩
theorem Zl.set {L Z : Tx} (h : Zl L Z) (i : Nat) : Zl L (Z.set i 0) := ⟨by rw [List.length_set]; exact h.1, fun j hj hj' => by
  rw [List.getElem_set]
  split
  · exact .inl rfl
  · exact h.2 j (by rw [List.length_set] at hj; exact hj) hj'⟩
theorem Zl.zd {L Z : Tx} (h : Zl L Z) (m : Nat) : Jm.Zd L (Z.take m) := Jm.Zd.of_get (by rw [List.length_take, h.1]; omega) fun i hi hi' => by
  rw [List.getElem_take]
  exact h.2 i (by rw [List.length_take] at hi; omega) hi'

theorem fr_bytes (w : World) (s : ByteArray) : Fr w (Lib.bytesWorld w 5 s) :=
  ⟨rfl, rfl, rfl, by rw [Lib.bytesWorld_size]; omega, fun k hk _ => Lib.bytesWorld_at_old w _ s k hk⟩
theorem Has.bytes {W w : World} {U : Thing} (h : Has W w U) (l : Tx) : Has W (Lib.bytesWorld w 5 (S l)) ((BytesT w.heap.size l).sep U) := by
  have hsz := Lib.bytesWorld_size w 5 (S l)
  refine h.new ⟨fun k => k = w.heap.size, ⟨by omega, fun i hi => ⟨?_, ?_⟩, fun _ => Iff.rfl⟩, fun k hk => .inr (by omega), .of_fr (fr_bytes w (S l))⟩
  · rw [Lib.bytesWorld_cell w _ (S l) i hi]
    have : (S l).data.toList = l := rfl
    rw [this, List.getD_eq_getElem?_getD, List.getElem?_eq_getElem hi]
    rfl
  · have hn := Lib.bytesWorld_at_new w 5 (S l)
    have hc : l.length ≤ (Lib.bytesCells w 5 (S l)).size := by
      unfold Lib.bytesCells
      rw [Array.size_append, Array.size_map]
      show l.length ≤ l.toArray.size + _
      rw [List.size_toArray]
      omega
    unfold World.frozen?
    rw [hn]
    simp
    omega
theorem Has.byte {W w : World} {U : Thing} {B : Nat} {l : Tx} (h : Has W w ((BytesT B l).sep U)) (i : Nat) (hi : i < l.length) : w.cell? ⟨B, i, none⟩ = some (Value.int .u8 (l[i].toNat : Nat)) ∧ w.frozen? ⟨B, i, none⟩ = false := by
  obtain ⟨O, hT, _⟩ := h.open
  exact hT.2.1 i hi
theorem Has.zero {W w : World} {U : Thing} {B : Nat} {l : Tx} (h : Has W w ((BytesT B l).sep U)) (i : Nat) (_hi : i < l.length) : Has W (w.setCell ⟨B, i, none⟩ (Value.int .u8 0)) ((BytesT B (l.set i 0)).sep U) := by
  obtain ⟨O, hT, _, hb⟩ := h.open
  refine hb _ _ ⟨O, ⟨by simpa using hT.1, fun j hj => ?_, hT.2.2⟩, fun k hk => .inl hk, (Own.refl O w).setCell (.inl ((hT.2.2 _).2 rfl)) _⟩
  rw [List.length_set] at hj
  have hc := hT.2.1 j hj
  refine ⟨?_, by rw [World.frozen?_setCell]; exact hc.2⟩
  rw [List.getElem_set]
  by_cases e : i = j
  · subst e
    rw [if_pos rfl, World.cell?_setCell_same (h := hc.1)]
    rfl
  · rw [if_neg e, World.cell?_setCell_other (h := fun h => e (Addr.mk.inj h).2.1)]
    exact hc.1
theorem Has.conv {W w : World} {U : Thing} {B : Nat} {l : Tx} (h : Has W w ((BytesT B l).sep U)) (m c : Nat) (hm : m ≤ l.length) :
    (convert 65 9 (.slice (some ⟨B, 0, none⟩) m c)).run Tryd.prog w = .ok (.string (S (l.take m))) w := by
  have hlen : (l.take m).length = m := by rw [List.length_take]; omega
  rw [run_convert_bytes_arg (P := Tryd.prog) w 65 5 Tryd.underlying65 Tryd.underlying5 B 0 m c ((l.take m).map fun b => (b.toNat : Int)) (by rw [List.length_map, hlen]) (fun i hi => ?_) 9 Tryd.underlying9]
  · congr 2
    unfold strOfNums S
    rw [List.map_map, show ((fun n : Int => UInt8.ofNat n.toNat) ∘ fun b : UInt8 => (b.toNat : Int)) = id from by funext b; simp, List.map_id]
  · have := (h.byte i (by omega)).1
    rw [Nat.zero_add, this, List.getD_eq_getElem?_getD, List.getElem?_map, List.getElem?_eq_getElem (by omega), List.getElem_take]
    rfl
theorem Has.ends {W w : World} {U : Thing} {a : Option Addr} {c n : Nat} {l : List Tx} (h : Has W w ((RowT 3 1 (.slice a n c) n (endsC l n)).sep U)) (k : Nat) (hk : k < n) : ∃ g, a = some ⟨g, 0, none⟩ ∧ w.cell? ⟨g, k, none⟩ = some (.int .i64 (endAt l k : Nat)) := by
  have hr := h.row
  rcases hr.2 with ⟨h0, _⟩ | ⟨g, cap, cur, h0, _⟩
  · simp at h0; omega
  · obtain ⟨rfl, rfl⟩ : a = some ⟨g, 0, none⟩ ∧ c = cap := by simpa using h0
    refine ⟨g, rfl, ?_⟩
    rw [hr.cellAt k (by omega)]
    simp [endsC, hk]

/-! ### Made bytes -/
def zeros (n : Nat) : Tx := List.replicate n 0
theorem zeros_length (n : Nat) : (zeros n).length = n := List.length_replicate
theorem infoU8 : (Tryd.prog.info? 5).map (fun i => (i.zero, i.size, i.bytes)) = some (some (.int .u8 0), 1, 1) := by kernel_rfl
theorem make_bytes (z : Int) (n : Nat) (hz : z = (n : Int)) (hn : n ≤ 281474976710656) (w : World) :
    (Instr.makeSlice 65 (.int .i64 z) (.int .i64 z)).run Tryd.prog w = .ok (.slice (some ⟨w.heap.size, 0, none⟩) n n) (w.alloc (.cells (madeCells #[Value.int .u8 0] n) 5)) := by
  subst hz
  exact run_make_row' (P := Tryd.prog) 65 5 (.int .u8 0) 1 Tryd.underlying65 infoU8 rfl .i64 .i64 n (by omega) (by omega) w
theorem conv_bytes (n : Nat) (w : World) :
    (convert 65 9 (.slice (some ⟨w.heap.size, 0, none⟩) n n)).run Tryd.prog (w.alloc (.cells (madeCells #[Value.int .u8 0] n) 5)) = .ok (.string (S (zeros n))) (w.alloc (.cells (madeCells #[Value.int .u8 0] n) 5)) := by
  have hr := World.rowIs_made w (.int .u8 0) n 5
  rw [run_convert_bytes_arg (P := Tryd.prog) _ 65 5 Tryd.underlying65 Tryd.underlying5 w.heap.size 0 n n (List.replicate n 0) List.length_replicate (fun i hi => by rw [Nat.zero_add, hr.cell hi]; simp [hi]) 9 Tryd.underlying9]
  congr 2
  unfold strOfNums S zeros
  simp
/-- What Get returns. -/
def gat (rs : List Tx) (i : Int) : Tx := if i < 0 then [] else rs.getD i.toNat []
theorem gat_last (rs : List Tx) (r : Tx) (k : Nat) (h : rs.length = k) : gat (rs ++ [r]) (k : Int) = r := by
  unfold gat
  rw [if_neg (by omega), Int.toNat_natCast, List.getD_eq_getElem?_getD, ← h]
  simp
theorem gat_more (rs : List Tx) (r : Tx) (k : Nat) (h : rs.length = k) : gat (rs ++ [r]) ((k : Int) + 1) = [] := by
  unfold gat
  rw [if_neg (by omega), show ((k : Int) + 1).toNat = k + 1 by omega, List.getD_eq_getElem?_getD, List.getElem?_eq_none (by simp [h])]
  rfl
theorem gat_neg (rs : List Tx) : gat rs (-1) = [] := by unfold gat; rw [if_pos (by decide)]
theorem isSl_take {w : World} {ad : Option Addr} {c : Nat} {l : List Tx} (h : IsSl w (.slice ad l.length c) (l.map fun z => Value.string (S z))) (k : Nat) (hk : k ≤ l.length) : IsSl w (.slice ad k c) ((l.take k).map fun z => Value.string (S z)) := by
  rcases h with ⟨h0, a, c', hv⟩ | ⟨b, o, c', hv, hc⟩
  · have : l = [] := by simpa using h0
    subst this
    have hk0 : k = 0 := by simpa using hk
    subst hk0
    exact .inl ⟨rfl, ad, c, rfl⟩
  · rcases Nat.eq_zero_or_pos k with h0 | h0
    · subst h0
      exact .inl ⟨by simp, ad, c, rfl⟩
    · obtain ⟨rfl, _⟩ : ad = some ⟨b, o, none⟩ ∧ _ := by simpa using hv
      refine .inr ⟨b, o, c, by rw [List.length_map, List.length_take, Nat.min_eq_left hk], fun i x hx => hc i x ?_⟩
      rw [List.getElem?_map, List.getElem?_take] at hx
      rw [List.getElem?_map]
      split at hx
      · exact hx
      · simp at hx
end Go.Proofs.YtgncliigmjeffaaDoor
