/-
  The reference's disk in memory (RfT); New, Down, may, fits, get, Size, pending.
-/
import Derived.Test.YtpjoekjakjajcaaFn
import Derived.Test.YtpjoekjakjajcaaFh
namespace Go.Proofs.Ytpjoekjakjajcaa
open Go.RowKit

/-- A string out of its bytes. -/
def S (l : List UInt8) : ByteArray := ⟨l.toArray⟩
theorem S_size_rfl (l : List UInt8) : (S l).size = l.length := rfl
@[go_sem] theorem S_size (l : List UInt8) : (S l).size = l.length := (S_size_rfl l).trans (Eq.refl _)
@[go_sem] theorem S_toList (l : List UInt8) : (S l).toList = l := ByteArray.toList_mk l
theorem S_data_rfl (l : List UInt8) : (S l).data.toList = l := rfl
@[go_sem] theorem S_data (l : List UInt8) : (S l).data.toList = l := (S_data_rfl l).trans (Eq.refl _)
theorem S_eta (s : ByteArray) : s = S s.data.toList := by cases s; rfl
theorem S_get_rfl (l : List UInt8) (k : Nat) (h : k < (S l).size) : (S l)[k] = l[k]'(S_size l ▸ h) := rfl
@[go_sem] theorem S_get (l : List UInt8) (k : Nat) (h : k < (S l).size) : (S l)[k] = l[k]'(S_size l ▸ h) := (S_get_rfl l k h).trans (Eq.refl _)
theorem S_extract (l : List UInt8) (a b : Nat) : (S l).extract a b = S ((l.drop a).take (b - a)) := by
  have h : ((S l).extract a b).data.toList = (S ((l.drop a).take (b - a))).data.toList := by
    rw [ByteArray.data_extract, Array.toList_extract]; simp [S, List.extract_eq_take_drop]
  cases hx : (S l).extract a b with
  | mk d => rw [hx] at h; have : d = (S ((l.drop a).take (b - a))).data := Array.ext' h; rw [this]

/-- Files as cells. -/
def fC (l : List (Nat × Txt × Txt)) : List Value := l.flatMap fun p => [.int .i64 p.1, .string (S p.2.1), .string (S p.2.2)]
theorem fC_cons (p : Nat × Txt × Txt) (l : List (Nat × Txt × Txt)) : fC (p :: l) = .int .i64 p.1 :: .string (S p.2.1) :: .string (S p.2.2) :: fC l := by simp [fC]
theorem fC_length (l : List (Nat × Txt × Txt)) : (fC l).length = l.length * 3 := by
  induction l with
  | nil => rfl
  | cons a l ih => rw [fC_cons]; simp only [List.length_cons, ih]; omega
theorem fC_append (l m : List (Nat × Txt × Txt)) : fC (l ++ m) = fC l ++ fC m := by simp [fC]
theorem fC_one (l : List (Nat × Txt × Txt)) : ∀ v ∈ fC l, v.oneCell' = true := by
  intro v hv
  simp only [fC, List.mem_flatMap, List.mem_cons, List.not_mem_nil, or_false] at hv
  obtain ⟨_, _, rfl | rfl | rfl⟩ := hv <;> rfl
theorem fC_get (l : List (Nat × Txt × Txt)) (i : Nat) (h : i < l.length) : (fC l)[3 * i]? = some (.int .i64 l[i].1) ∧ (fC l)[3 * i + 1]? = some (.string (S l[i].2.1)) ∧ (fC l)[3 * i + 2]? = some (.string (S l[i].2.2)) := by
  induction l generalizing i with
  | nil => simp at h
  | cons a l ih =>
    rw [fC_cons]
    cases i with
    | zero => simp
    | succ i =>
      have := ih i (by simpa using h)
      rw [show 3 * (i + 1) = 3 * i + 1 + 1 + 1 by omega]
      simp only [List.getElem?_cons_succ]
      simpa using this
theorem infoFile : (Try.prog.info? 64).map (fun i => (i.zero, i.size, i.bytes)) = some (some (.agg #[.int .i64 0, .string (S []), .string (S [])]), 3, 40) := by kernel_rfl
/-- Cells of a row, wherever they stand. -/
theorem own_cell {w : World} {base e size n : Nat} {a : Option Addr} {c : Nat} {xs : List Value} (h : w.ownsRow base e size (.slice a n c) n xs) (h0 : 0 < n) :
    ∃ g, a = some ⟨g, 0, none⟩ ∧ n ≤ c ∧ ∀ j u, j < n * size → xs[j]? = some u → w.cell? ⟨g, j, none⟩ = some u := by
  rcases h.2 with ⟨hv, h1⟩ | ⟨g, cap, cur, hv, hB, hg, hc, _, hs, ht⟩
  · omega
  · obtain ⟨rfl, rfl⟩ : a = some ⟨g, 0, none⟩ ∧ c = cap := by simpa using hv
    refine ⟨g, rfl, hc, fun j u hj hu => ?_⟩
    rw [cell_of_row w g j cur e (0, 0) hg]
    rw [← ht, List.getElem?_take, if_pos hj] at hu
    simpa using hu

/-- What a world holds of the reference's disk in state r, at block B; O: the blocks that belong to it. -/
structure RfAt (w : World) (O : Nat → Prop) (B : Nat) (fv qv kv : Value) (r : FS) : Prop where
  bound : ∀ k, O k → k < w.heap.size
  oB : O B
  oF : ∀ p, fv.ownBlock = some p → O p
  oQ : ∀ p, qv.ownBlock = some p → O p
  oK : ∀ p, kv.ownBlock = some p → O p
  heap : w.heap[B]? = some (.cells #[fv, qv, .int .i64 r.lost, .bool r.down, .int .i64 r.armed, kv] 60 (0, 0))
  files : w.ownsRow 0 64 3 fv r.fl.length (fC r.fl)
  queue : w.ownsRow 0 82 2 qv r.q.length (qCells r.q)
  keep : w.ownsRow 0 3 1 kv r.keep.length (iCells r.keep)
theorem RfAt.frame {w w' : World} {O : Nat → Prop} {B : Nat} {fv qv kv : Value} {r : FS} (h : RfAt w O B fv qv kv r) (hs : w.heap.size ≤ w'.heap.size) (hw : ∀ k, O k → w'.heap[k]? = w.heap[k]?) : RfAt w' O B fv qv kv r :=
  ⟨fun k hk => Nat.lt_of_lt_of_le (h.bound k hk) hs, h.oB, h.oF, h.oQ, h.oK, by rw [hw B h.oB]; exact h.heap, ownsRow_heap h.files (fun p hp => hw p (h.oF p hp)), ownsRow_heap h.queue (fun p hp => hw p (h.oQ p hp)), ownsRow_heap h.keep (fun p hp => hw p (h.oK p hp))⟩
theorem RfAt.fr {w w' : World} {O : Nat → Prop} {B : Nat} {fv qv kv : Value} {r : FS} (h : RfAt w O B fv qv kv r) (hf : Fr w w') : RfAt w' O B fv qv kv r := h.frame hf.size fun k hk => hf.block (h.bound k hk)
/-- The reference's disk in state r at block B. -/
def RfT (B : Nat) (r : FS) : Thing where
  at_ w O := ∃ fv qv kv, RfAt w O B fv qv kv r
  bound h k hk := let ⟨_, _, _, h'⟩ := h; h'.bound k hk
  frame h hs hw := let ⟨fv, qv, kv, h'⟩ := h; ⟨fv, qv, kv, h'.frame hs hw⟩
theorem RfAt.c {w : World} {O : Nat → Prop} {B : Nat} {fv qv kv : Value} {r : FS} (h : RfAt w O B fv qv kv r) :
    w.cell? ⟨B, 0, none⟩ = some fv ∧ w.cell? ⟨B, 1, none⟩ = some qv ∧ w.cell? ⟨B, 2, none⟩ = some (.int .i64 r.lost) ∧ w.cell? ⟨B, 3, none⟩ = some (.bool r.down) ∧ w.cell? ⟨B, 4, none⟩ = some (.int .i64 r.armed) ∧ w.cell? ⟨B, 5, none⟩ = some kv :=
  ⟨cellOf h.heap rfl, cellOf h.heap rfl, cellOf h.heap rfl, cellOf h.heap rfl, cellOf h.heap rfl, cellOf h.heap rfl⟩
theorem RfAt.fz {w : World} {O : Nat → Prop} {B : Nat} {fv qv kv : Value} {r : FS} (h : RfAt w O B fv qv kv r) (i : Nat) : w.frozen? ⟨B, i, none⟩ = false := frozenOf h.heap i

/-! ### New, Down, may, fits -/
set_option maxHeartbeats 1000000 in
theorem rnew_any (w : World) : Calls Try.prog 11 #[] w fun e w' => ∃ B, e = .returned (.pointer (some ⟨B, 0, none⟩)) ∧ (RfT B newF).step (fun _ => False) w w' := by
  have hs : (w.alloc (.cells #[.slice none 0 0, .slice none 0 0, .int .i64 0, .bool false, .int .i64 0, .slice none 0 0] 60)).heap.size = w.heap.size + 1 := by simp
  have hb := heap_alloc_new w (.cells #[.slice none 0 0, .slice none 0 0, .int .i64 0, .bool false, .int .i64 0, .slice none 0 0] 60)
  have HS : Hid ((RfT w.heap.size newF).step (fun _ => False) w (w.alloc (.cells #[.slice none 0 0, .slice none 0 0, .int .i64 0, .bool false, .int .i64 0, .slice none 0 0] 60))) := by
    refine Lib.hid ⟨fun k => k = w.heap.size, ⟨.slice none 0 0, .slice none 0 0, .slice none 0 0, fun k hk => by rw [hs, hk]; omega, rfl, fun p hp => by simp [Value.ownBlock] at hp, fun p hp => by simp [Value.ownBlock] at hp, fun p hp => by simp [Value.ownBlock] at hp, hb, World.ownsRow_nil _ _ _ _, World.ownsRow_nil _ _ _ _, World.ownsRow_nil _ _ _ _⟩, fun k hk => .inr (by rw [hs]; omega), .of_fr (Fr.alloc _ _)⟩
  clear hs hb
  go_enter Try.func11, Try.ntmps11
  go_wp2
  go_ret
  exact ⟨_, rfl, HS.out⟩
theorem rdown_any {w : World} {O : Nat → Prop} {B : Nat} {r : FS} (h : (RfT B r).at_ w O) :
    Calls Try.prog 15 #[.pointer (some ⟨B, 0, none⟩)] w fun e w' => e = .returned (.bool r.down) ∧ w' = w := by
  obtain ⟨fv, qv, kv, hr⟩ := h
  obtain ⟨_, _, _, c3, _, _⟩ := hr.c
  clear hr
  go_enter Try.func15, Try.ntmps15
  go_wp2
  go_ret
  exact ⟨rfl, rfl⟩
/-- The first two errors. -/
def mayE (r : FS) (f : Int) : Int := if r.down then 8 else if isF f then 0 else 1
theorem rmay_any {w : World} {O : Nat → Prop} {B : Nat} {r : FS} (h : (RfT B r).at_ w O) (f : Int) :
    Calls Try.prog 47 #[.pointer (some ⟨B, 0, none⟩), .int .i64 f] w fun e w' => e = .returned (.int .i64 (mayE r f)) ∧ w' = w := by
  obtain ⟨fv, qv, kv, hr⟩ := h
  obtain ⟨_, _, _, c3, _, _⟩ := hr.c
  have HM := Lib.hid (show mayE r f = if r.down = true then 8 else if isF f then 0 else 1 from rfl)
  clear hr
  generalize mayE r f = z at *
  generalize r.down = dn at *
  cases dn with
  | true =>
    have hz : z = 8 := by rw [HM.out]; simp
    subst hz
    go_enter Try.func47, Try.ntmps47
    go_wp2
    go_ret
    exact ⟨rfl, rfl⟩
  | false =>
    by_cases hf : isF f
    · have hz : z = 0 := by rw [HM.out]; simp [hf]
      subst hz
      have h0 := hf.1
      have h1 : f ≤ 15 := by have := hf.2; omega
      clear hf HM
      go_enter Try.func47, Try.ntmps47
      go_wp2
      go_ret
      exact ⟨rfl, rfl⟩
    · have hz : z = 1 := by rw [HM.out]; simp [hf]
      subst hz
      unfold isF at hf
      clear HM
      by_cases h0 : f < 0
      · go_enter Try.func47, Try.ntmps47
        go_wp2
        go_ret
        exact ⟨rfl, rfl⟩
      · have h1 : 15 < f := by omega
        go_enter Try.func47, Try.ntmps47
        go_wp2
        go_ret
        exact ⟨rfl, rfl⟩
def fitsB (a : Int) (n : Nat) : Bool := decide (0 ≤ a) && decide (a ≤ 16777216) && decide (a + n ≤ 16777216)
theorem rfits_any (a : Int) (s : Txt) (w : World) (hs : s.length ≤ 9223372036820000000) :
    Calls Try.prog 54 #[.int .i64 a, .string (S s)] w fun e w' => e = .returned (.bool (fitsB a s.length)) ∧ w' = w := by
  unfold fitsB
  by_cases h0 : 0 ≤ a
  · by_cases h1 : a ≤ 16777216
    · go_enter Try.func54, Try.ntmps54
      go_wp2
      go_ret
      exact ⟨by simp [h0, h1], rfl⟩
    · go_enter Try.func54, Try.ntmps54
      go_wp2
      go_ret
      exact ⟨by simp []; try omega, rfl⟩
  · go_enter Try.func54, Try.ntmps54
    go_wp2
    go_ret
    exact ⟨by simp []; try omega, rfl⟩

/-! ### get -/
def getI (l : List (Nat × Txt × Txt)) (f : Int) : Txt × Txt := ((l.find? fun p => (p.1 : Int) == f).map (·.2)).getD ([], [])
theorem getI_nat (l : List (Nat × Txt × Txt)) (f : Nat) : getI l f = getF l f := by
  unfold getI getF
  congr 2
  congr 1
  funext p
  rw [Bool.eq_iff_iff]; simp only [beq_iff_eq]; omega
theorem getI_out {l : List (Nat × Txt × Txt)} (h : Fine l) {f : Int} (hf : ¬ isF f) : getI l f = ([], []) := by
  unfold getI
  rw [List.find?_eq_none.2 (fun p hp => by have := h.small p hp; unfold isF at hf; simp; omega)]
  rfl
theorem getI_hit {l : List (Nat × Txt × Txt)} {f : Int} {k : Nat} (hk : k < l.length) (h : (l[k].1 : Int) = f) (hn : ∀ j (hj : j < l.length), j < k → (l[j].1 : Int) ≠ f) : getI l f = l[k].2 := by
  unfold getI
  have : l.find? (fun p => (p.1 : Int) == f) = some l[k] := by
    rw [List.find?_eq_some_iff_getElem]
    refine ⟨by simpa using h, k, hk, rfl, fun j hj => ?_⟩
    simpa using hn j (by omega) hj
  rw [this]; rfl
theorem getI_miss {l : List (Nat × Txt × Txt)} {f : Int} (hn : ∀ j (hj : j < l.length), (l[j].1 : Int) ≠ f) : getI l f = ([], []) := by
  unfold getI
  rw [List.find?_eq_none.2 (fun p hp => by
    obtain ⟨j, hj, rfl⟩ := List.mem_iff_getElem.1 hp
    simpa using hn j hj)]
  rfl
/-- A file, as a value. -/
def fileV (f : Int) (x : Txt × Txt) : Value := .agg #[.int .i64 f, .string (S x.1), .string (S x.2)]
end Go.Proofs.Ytpjoekjakjajcaa
