/-
  Rows of claims; the library's searches over claims: cmp.Compare, BinarySearchFunc, IndexFunc, ContainsFunc.
-/
import Derived.Test.YthppefkamklakaaDoorVm
import Derived.Test.YthppefkamklakaaDoorCx
namespace Go.Proofs.YthppefkamklakaaDoor
open Go.RowKit

/-! ### Rows of claims -/
def cC (l : List C) : List Value := l.flatMap fun c => [.int .i64 c.k, .int .i64 c.n, .int .i64 c.t, .string (S c.s)]
theorem cC_cons (c : C) (l : List C) : cC (c :: l) = .int .i64 c.k :: .int .i64 c.n :: .int .i64 c.t :: .string (S c.s) :: cC l := by simp [cC]
theorem cC_length (l : List C) : (cC l).length = l.length * 4 := by
  induction l with
  | nil => rfl
  | cons a l ih => rw [cC_cons]; simp only [List.length_cons, ih]; omega
theorem cC_append (l m : List C) : cC (l ++ m) = cC l ++ cC m := by simp [cC]
theorem cC_get (l : List C) (i : Nat) (h : i < l.length) : (cC l)[4 * i]? = some (.int .i64 l[i].k) ∧ (cC l)[4 * i + 1]? = some (.int .i64 l[i].n) ∧ (cC l)[4 * i + 2]? = some (.int .i64 l[i].t) ∧ (cC l)[4 * i + 3]? = some (.string (S l[i].s)) := by
  induction l generalizing i with
  | nil => simp at h
  | cons a l ih =>
    rw [cC_cons]
    cases i with
    | zero => simp
    | succ i =>
      have := ih i (by simpa using h)
      rw [show 4 * (i + 1) = 4 * i + 1 + 1 + 1 + 1 by omega]
      simp only [List.getElem?_cons_succ]
      simpa using this
theorem cC_one (l : List C) : ∀ v ∈ cC l, v.oneCell' = true := by
  intro v hv
  simp only [cC, List.mem_flatMap, List.mem_cons, List.not_mem_nil, or_false] at hv
  obtain ⟨_, _, rfl | rfl | rfl | rfl⟩ := hv <;> rfl
set_option maxRecDepth 100000 in
theorem infoCl : (Tryd.prog.info? 68).map (fun i => (i.zero, i.size, i.bytes)) = some (some (.agg #[.int .i64 0, .int .i64 0, .int .i64 0, .string (S [])]), 4, 40) := by kernel_rfl
/-- A claim in four cells. -/
def CIn (w : World) (g i : Nat) (c : C) : Prop := w.cell? ⟨g, i, none⟩ = some (.int .i64 c.k) ∧ w.cell? ⟨g, i + 1, none⟩ = some (.int .i64 c.n) ∧ w.cell? ⟨g, i + 2, none⟩ = some (.int .i64 c.t) ∧ w.cell? ⟨g, i + 3, none⟩ = some (.string (S c.s))
theorem CIn.fr {w w' : World} {g i : Nat} {c : C} (h : CIn w g i c) (hf : Fr w w') : CIn w' g i c := ⟨hf.cell h.1, hf.cell h.2.1, hf.cell h.2.2.1, hf.cell h.2.2.2⟩
theorem crow_at {w : World} {base n : Nat} {v : Value} {l : List C} (h : w.ownsRow base 68 4 v n (cC l)) (hl : n = l.length) (h0 : 0 < l.length) :
    ∃ g cap, v = .slice (some ⟨g, 0, none⟩) l.length cap ∧ l.length ≤ cap ∧ ∀ (i : Nat) (h : i < l.length), CIn w g (i * 4) l[i] := by
  subst hl
  rcases h.2 with ⟨rfl, h1⟩ | ⟨g, cap, cur, rfl, hB, hg, hc, _, hs, ht⟩
  · omega
  · refine ⟨g, cap, rfl, hc, fun i hi => ?_⟩
    have hget : ∀ j u, j < l.length * 4 → (cC l)[j]? = some u → w.cell? ⟨g, j, none⟩ = some u := fun j u hj hu => by
      rw [Lib.cell_of_heap hg]
      rw [← ht, List.getElem?_take, if_pos hj] at hu
      simpa using hu
    have hc := cC_get l i hi
    exact ⟨hget _ _ (by omega) (by rw [Nat.mul_comm]; exact hc.1), hget _ _ (by omega) (by rw [Nat.mul_comm]; exact hc.2.1), hget _ _ (by omega) (by rw [Nat.mul_comm]; exact hc.2.2.1), hget _ _ (by omega) (by rw [Nat.mul_comm]; exact hc.2.2.2)⟩
/-- Claims that lie from place o of block b on. -/
def ClAt (w : World) (b o : Nat) (l : List C) : Prop := ∀ (i : Nat) (h : i < l.length), CIn w b (o + i * 4) l[i]
theorem ClAt.fr {w w' : World} {b o : Nat} {l : List C} (h : ClAt w b o l) (hf : Fr w w') : ClAt w' b o l := fun i hi => (h i hi).fr hf
/-- A slice of claims: empty, or claims at an address. -/
def ClSl (w : World) (v : Value) (l : List C) : Prop := (l = [] ∧ ∃ a c, v = .slice a 0 c) ∨ ∃ b o c, v = .slice (some ⟨b, o, none⟩) l.length c ∧ ClAt w b o l
theorem ClSl.fr {w w' : World} {v : Value} {l : List C} (h : ClSl w v l) (hf : Fr w w') : ClSl w' v l := by
  rcases h with h | ⟨b, o, c, hv, hc⟩
  · exact .inl h
  · exact .inr ⟨b, o, c, hv, hc.fr hf⟩
theorem ClSl.len {w : World} {v : Value} {l : List C} (h : ClSl w v l) : ∃ a c, v = .slice a l.length c := by
  rcases h with ⟨rfl, a, c, rfl⟩ | ⟨b, o, c, rfl, _⟩
  · exact ⟨a, c, rfl⟩
  · exact ⟨_, _, rfl⟩
theorem ClSl.own {B n : Nat} {w : World} {v : Value} {l : List C} (h : w.ownsRow B 68 4 v n (cC l)) (hn : n = l.length) : ClSl w v l := by
  rcases Nat.eq_zero_or_pos l.length with h0 | h0
  · have hl : l = [] := List.length_eq_zero_iff.1 h0
    obtain ⟨a, c, rfl⟩ := row_form h
    subst hl
    exact .inl ⟨rfl, a, c, by rw [hn]; rfl⟩
  · obtain ⟨g, cap, rfl, _, hc⟩ := crow_at h hn h0
    exact .inr ⟨g, 0, cap, rfl, fun i hi => by rw [Nat.zero_add]; exact hc i hi⟩

/-! ### Compare, and the place of a moment -/
def cmpI (a b : Int) : Int := if a < b then -1 else if b < a then 1 else 0
set_option maxRecDepth 100000 in
theorem isNaN_any (a : Int) (w : World) : Calls Tryd.prog 70 #[.int .i64 a] w fun e w' => e = .returned (.bool false) ∧ w' = w := by
  go_enter Tryd.func70, Tryd.ntmps70
  go_wp2
  go_ret
  exact ⟨rfl, rfl⟩
set_option maxRecDepth 100000 in
theorem compare_any (a b : Int) (w : World) : Calls Tryd.prog 63 #[.int .i64 a, .int .i64 b] w fun e w' => e = .returned (.int .i64 (cmpI a b)) ∧ w' = w := by
  unfold cmpI
  by_cases h1 : a < b
  · rw [if_pos h1]
    go_enter Tryd.func63, Tryd.ntmps63
    go_wp2_with (go_at_call 70; refine (isNaN_any _ _).mono ?_; rintro e w' ⟨rfl, rfl⟩)
    go_ret
    exact ⟨rfl, rfl⟩
  · rw [if_neg h1]
    by_cases h2 : b < a
    · rw [if_pos h2]
      go_enter Tryd.func63, Tryd.ntmps63
      go_wp2_with (go_at_call 70; refine (isNaN_any _ _).mono ?_; rintro e w' ⟨rfl, rfl⟩)
      go_ret
      exact ⟨rfl, rfl⟩
    · rw [if_neg h2]
      go_enter Tryd.func63, Tryd.ntmps63
      go_wp2_with (go_at_call 70; refine (isNaN_any _ _).mono ?_; rintro e w' ⟨rfl, rfl⟩)
      go_ret
      exact ⟨rfl, rfl⟩
set_option maxRecDepth 100000 in
theorem place1_any (c : C) (t : Int) (w : World) : Calls Tryd.prog 62 #[c.v, .int .i64 t] w fun e w' => e = .returned (.int .i64 (cmpI c.t t)) ∧ Fr w w' := by
  have hA := (CAt.new w c)
  have hf := Fr.alloc w (.cells #[.int .i64 c.k, .int .i64 c.n, .int .i64 c.t, .string (S c.s)] 68)
  obtain ⟨a0, a1, a2, a3⟩ := hA
  unfold C.v
  go_enter Tryd.func62, Tryd.ntmps62
  go_wp2_with (go_at_call 63; refine (compare_any _ _ _).mono ?_; rintro e w' ⟨rfl, rfl⟩)
  go_ret
  exact ⟨rfl, hf⟩
end Go.Proofs.YthppefkamklakaaDoor
