/-
  View: Accept.
-/
import Derived.Test.YthppefkamklakaaDoorVi
namespace Go.Proofs.YthppefkamklakaaDoor
open Go.RowKit Go.MapKept Go.Maps Go.WideMaps Go.BigFrame

section
variable {W w : World} {B R : Nat} {k : Int} {l : List Sg} {d : VD} {U : Thing}
theorem vlearn (h : Has W w ((ViewT B R k l d).sep U)) (hd : HdOk d) (c : C) (hc : okB c = true) :
    Calls Tryd.prog 29 #[.pointer (some ⟨B, 0, none⟩), c.v] w fun e w' => e = .returned (.tuple #[]) ∧ Has W w' ((ViewT B R k l (lrn d c)).sep U) := by
  have hf := ok_fits hc
  have hb := ok_bounds hc
  by_cases h0 : c.k = 0
  · obtain ⟨ck, n, t, s⟩ := c
    simp only at h0; subst h0
    exact vlearn_0 h n t s hf.2.1 hf.2.2.2
  · by_cases h1 : c.k = 1
    · obtain ⟨ck, n, t, s⟩ := c
      simp only at h1; subst h1
      exact vlearn_1 h hd n t s
    · by_cases h2 : c.k = 2
      · obtain ⟨ck, n, t, s⟩ := c
        simp only at h2; subst h2
        exact vlearn_2 h n t s (by have : s.length ≤ 20000 := hb.2.2.2.2.2.2; unfold maxLen; omega)
      · exact vlearn_x h c h0 h1 h2
end
set_option maxRecDepth 100000 in
theorem isOfLog_any (c : C) (w : World) (hc : okB c = true) : Calls Tryd.prog 27 #[c.v] w fun e w' => e = .returned (.bool (decide (c.k ≤ 2))) ∧ Fr w w' := by
  have hb := ok_bounds hc
  obtain ⟨a0, a1, a2, a3⟩ := CAt.new w c
  have hf := Fr.alloc w (.cells #[.int .i64 c.k, .int .i64 c.n, .int .i64 c.t, .string (S c.s)] 68)
  have hcase : c.k = 0 ∨ c.k = 1 ∨ c.k = 2 ∨ c.k = 3 ∨ c.k = 4 := by omega
  unfold C.v
  clear hb hc
  rcases hcase with h | h | h | h | h
  all_goals
    rw [h] at a0 hf ⊢
    go_enter Tryd.func27, Tryd.ntmps27
    go_wp2_with fail
    go_ret
    exact ⟨rfl, Fr.alloc _ _⟩

/-! ### What Accept makes of a signature -/
noncomputable def accE (q : List Sd) (k : Int) (d : VD) (s : Sg) : Int :=
  if holds q s then (if s.1 = k then (match readC s.2.1 with
    | none => 2
    | some c => if c.k ≤ 2 then (if dny d c then 21 else 0) else 2) else 22) else 18
noncomputable def accB (q : List Sd) (k : Int) (d : VD) (s : Sg) : Bool := decide (accE q k d s = 0) && !d.mm s.2.2
noncomputable def accL (q : List Sd) (k : Int) (d : VD) (l : List Sg) (s : Sg) : List Sg := if accB q k d s then l ++ [s] else l
noncomputable def accD (q : List Sd) (k : Int) (d : VD) (s : Sg) : VD := if accB q k d s then vst d s else d
theorem acc_no {q : List Sd} {k : Int} {d : VD} {s : Sg} (l : List Sg) (h : accE q k d s ≠ 0) : accL q k d l s = l ∧ accD q k d s = d := by
  unfold accL accD accB
  rw [decide_eq_false h]; exact ⟨rfl, rfl⟩
theorem acc_seal {q : List Sd} {k : Int} {d : VD} {s : Sg} (l : List Sg) (h : holds q s = false) : accE q k d s = 18 ∧ accL q k d l s = l ∧ accD q k d s = d := by
  have he : accE q k d s = 18 := by unfold accE; rw [h]; rfl
  exact ⟨he, acc_no l (by rw [he]; decide)⟩
theorem acc_key {q : List Sd} {k : Int} {d : VD} {s : Sg} (l : List Sg) (h : holds q s = true) (hk : s.1 ≠ k) : accE q k d s = 22 ∧ accL q k d l s = l ∧ accD q k d s = d := by
  have he : accE q k d s = 22 := by unfold accE; rw [h, if_neg hk]; rfl
  exact ⟨he, acc_no l (by rw [he]; decide)⟩
theorem acc_none {q : List Sd} {k : Int} {d : VD} {s : Sg} (l : List Sg) (h : holds q s = true) (hk : s.1 = k) (hr : readC s.2.1 = none) : accE q k d s = 2 ∧ accL q k d l s = l ∧ accD q k d s = d := by
  have he : accE q k d s = 2 := by unfold accE; rw [h, if_pos hk, hr]; rfl
  exact ⟨he, acc_no l (by rw [he]; decide)⟩
theorem acc_kind {q : List Sd} {k : Int} {d : VD} {s : Sg} (l : List Sg) (h : holds q s = true) (hk : s.1 = k) {c : C} (hr : readC s.2.1 = some c) (hc : ¬ c.k ≤ 2) : accE q k d s = 2 ∧ accL q k d l s = l ∧ accD q k d s = d := by
  have he : accE q k d s = 2 := by unfold accE; rw [h, if_pos hk, hr]; simp [hc]
  exact ⟨he, acc_no l (by rw [he]; decide)⟩
theorem acc_split {q : List Sd} {k : Int} {d : VD} {s : Sg} (l : List Sg) (h : holds q s = true) (hk : s.1 = k) {c : C} (hr : readC s.2.1 = some c) (hc : c.k ≤ 2) (hd : dny d c = true) : accE q k d s = 21 ∧ accL q k d l s = l ∧ accD q k d s = d := by
  have he : accE q k d s = 21 := by unfold accE; rw [h, if_pos hk, hr]; simp [hc, hd]
  exact ⟨he, acc_no l (by rw [he]; decide)⟩
theorem acc_ok {q : List Sd} {k : Int} {d : VD} {s : Sg} (h : holds q s = true) (hk : s.1 = k) {c : C} (hr : readC s.2.1 = some c) (hc : c.k ≤ 2) (hd : dny d c = false) : accE q k d s = 0 := by
  unfold accE; rw [h, if_pos hk, hr]; simp [hc, hd]
theorem acc_again {q : List Sd} {k : Int} {d : VD} {s : Sg} (l : List Sg) (_he : accE q k d s = 0) (hm : d.mm s.2.2 = true) : accL q k d l s = l ∧ accD q k d s = d := by
  unfold accL accD accB; rw [hm]; simp
theorem acc_new {q : List Sd} {k : Int} {d : VD} {s : Sg} (l : List Sg) (he : accE q k d s = 0) (hm : d.mm s.2.2 = false) : accL q k d l s = l ++ [s] ∧ accD q k d s = vst d s := by
  unfold accL accD accB; rw [hm, he]; simp

/-! ### Parts -/
def VQ.restA (p : VQ) (B R : Nat) (k : Int) (d : VD) (U : Thing) : Thing :=
  (BoxT 87 B (p.cells R k)).sep ((MbT p.mM (mmV d) p.n1).sep ((MeT p.mE (enV d) p.n2).sep ((MapT p.mF (fiV d) p.n3).sep ((MapT p.mA (abV d) p.n4).sep ((RowT 68 4 p.hv d.hd.length (cC d.hd)).sep U)))))
section
variable {W w : World} {p : VQ} {B R : Nat} {k : Int} {l : List Sg} {d : VD} {U : Thing}
theorem VP.forAppend (h : VP W w p B R k l d U) : Has W w ((RowT 37 3 p.av l.length (sgC l)).sep (p.restA B R k d U)) := Has.turn h
theorem acc_done {v : Value} {l' : List Sg} (h : Has W w ((RowT 37 3 v l'.length (sgC l')).sep (p.restA B R k d U))) :
    w.heap[B]? = some (.cells (p.cells R k) 87 (0, 0)) ∧ VP W (w.setCell ⟨B, 2, none⟩ v) { p with av := v } B R k l' d U := by
  have h1 := h.turn
  exact ⟨h1.boxed, h1.set 2 v⟩
/-- A signature that is boxed beside a view. -/
def SB (T : Nat) (s : Sg) : Thing := BoxT 37 T #[.int .i64 s.1, .string (S s.2.1), .int .i64 s.2.2]
theorem SB.at {T : Nat} {s : Sg} {X : Thing} (h : Has W w ((SB T s).sep X)) : SgAt w T 0 s := by
  have hb := h.boxed
  refine ⟨?_, ?_, ?_⟩ <;> (rw [Lib.cell_of_heap hb]; rfl)
end
end Go.Proofs.YthppefkamklakaaDoor
