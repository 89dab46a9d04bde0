/-
  Contracts: package claim: denies, sizesClash, Contradict.
-/
import Derived.Test.YtapdabebiinnnaaGreatDoorCc
namespace Go.Proofs.YtapdabebiinnnaaGreatDoor
open Go.RowKit

/-- The two boxes of two claims. -/
theorem boxes (w : World) (a b : C) :
    ∃ w', w' = (w.alloc (.cells #[.int .i64 a.k, .int .i64 a.n, .int .i64 a.t, .string (S a.s)] 35)).alloc (.cells #[.int .i64 b.k, .int .i64 b.n, .int .i64 b.t, .string (S b.s)] 35) ∧
      CAt w' w.heap.size a ∧ CAt w' (w.heap.size + 1) b ∧ Fr w w' := by
  refine ⟨_, rfl, (CAt.new w a).fr (Fr.alloc _ _), ?_, (Fr.alloc _ _).trans (Fr.alloc _ _)⟩
  have := CAt.new (w.alloc (.cells #[.int .i64 a.k, .int .i64 a.n, .int .i64 a.t, .string (S a.s)] 35)) b
  simpa using this

theorem bne_dec {α : Type} [BEq α] [LawfulBEq α] [DecidableEq α] (x y : α) : (x != y) = decide (x ≠ y) := by
  by_cases h : x = y <;> simp [h]
theorem beq_dec {α : Type} [BEq α] [LawfulBEq α] [DecidableEq α] (x y : α) : (x == y) = decide (x = y) := by
  by_cases h : x = y <;> simp [h]

set_option maxHeartbeats 1000000 in
set_option maxRecDepth 100000 in
theorem denies_any (a b : C) (w : World) (hb : b.fits) (hk : b.k = 0 → (key b.s).isSome = true) :
    Calls Tryz.prog 82 #[a.v, b.v] w fun e w' => e = .returned (.bool (den a b)) ∧ Fr w w' := by
  have HD := Lib.hid (show den a b = (decide (a.k = 2) && decide (b.k = 0) && decide (b.n < a.n) && decide (key b.s = some a.s)) from rfl)
  obtain ⟨w1, hw1, hA, hB, hF⟩ := boxes w a b
  obtain ⟨c0, c1, c2, c3⟩ := hA
  obtain ⟨d0, d1, d2, d3⟩ := hB
  have hs := hb.2.2.2
  obtain ⟨k, n, t, s⟩ := a
  obtain ⟨k', n', t', s'⟩ := b
  simp only at HD c0 c1 c2 c3 d0 d1 d2 d3 hs hk hw1
  unfold C.v
  simp only
  generalize den ⟨k, n, t, s⟩ ⟨k', n', t', s'⟩ = x at *
  have HF := Lib.hid hF
  clear hF hb
  by_cases h1 : k = 2
  · subst h1
    by_cases h2 : k' = 0
    · subst h2
      by_cases h3 : n' < n
      · have hy := hk rfl
        obtain ⟨y, hy'⟩ := Option.isSome_iff_exists.1 hy
        have hx : x = decide (y = s) := by rw [HD.out, hy']; simp [h3]
        subst hx
        have HY := Lib.hid hy'
        have hs2 : s'.length ≤ 9223372036854775807 := by omega
        clear hk hy hy' HD
        go_enter Tryz.func82, Tryz.ntmps82
        go_wp2_with fail
        rw [← hw1]
        refine (key_any s' _ hs2).mono ?_
        rw [HY.out]
        unfold keyV
        rintro e w2 ⟨rfl, hf2⟩
        replace c3 := hf2.cell c3
        go_wp2_with fail
        go_ret
        exact ⟨ret_bool (beq_dec y s), HF.out.trans hf2⟩
      · have hx : x = false := by rw [HD.out]; simp [h3]
        subst hx
        have h3' : n ≤ n' := by omega
        clear hk
        go_enter Tryz.func82, Tryz.ntmps82
        go_wp2_with fail
        go_ret
        exact ⟨rfl, by rw [← hw1]; exact HF.out⟩
    · have hx : x = false := by rw [HD.out]; simp [h2]
      subst hx
      have h2' : (k' != 0) = true := bne_iff_ne.2 h2
      clear hk
      go_enter Tryz.func82, Tryz.ntmps82
      go_wp2_with fail
      go_ret
      exact ⟨rfl, by rw [← hw1]; exact HF.out⟩
  · have hx : x = false := by rw [HD.out]; simp [h1]
    subst hx
    have h1' : (k != 2) = true := bne_iff_ne.2 h1
    clear hk
    go_enter Tryz.func82, Tryz.ntmps82
    go_wp2_with fail
    go_ret
    exact ⟨rfl, by rw [← hw1]; exact HF.out⟩

theorem szs_eq (a b : C) (h : a.t ≤ b.t) : szs a b = (decide (b.n < a.n) || (decide (a.t = b.t) && decide (a.n ≠ b.n))) := by
  unfold szs
  rw [Bool.eq_iff_iff]
  simp only [Bool.or_eq_true, Bool.and_eq_true, decide_eq_true_eq]
  omega
set_option maxHeartbeats 1000000 in
set_option maxRecDepth 100000 in
theorem sizes_any (a b : C) (w : World) :
    Calls Tryz.prog 83 #[a.v, b.v] w fun e w' => e = .returned (.bool (szs a b)) ∧ Fr w w' := by
  obtain ⟨w1, hw1, hA, hB, hF⟩ := boxes w a b
  by_cases hlt : b.t < a.t
  · have HD := Lib.hid (szs_eq b a (by omega))
    have HC := Lib.hid (szs_comm a b)
    obtain ⟨w2, hw2, hA2, hB2, hF2⟩ := boxes w b a
    have HA2 := Lib.hid hA2
    have HB2 := Lib.hid hB2
    have HF2 := Lib.hid hF2
    have HW2 := Lib.hid hw2
    clear hA2 hB2 hF2 hw2 hA hB hF
    generalize szs a b = x at *
    generalize szs b a = y at *
    obtain ⟨k, n, t, s⟩ := a
    obtain ⟨k', n', t', s'⟩ := b
    simp only at HD HA2 HB2 HF2 HW2 hlt
    unfold C.v
    simp only
    clear hw1
    go_enter Tryz.func83, Tryz.ntmps83
    go_upto_region 3 with fail
    rw [← HW2.out]
    obtain ⟨c0, c1, c2, c3⟩ := HA2.out
    obtain ⟨d0, d1, d2, d3⟩ := HB2.out
    simp only at c0 c1 c2 c3 d0 d1 d2 d3
    have h2 : (t' == t) = false := beq_eq_false_iff_ne.2 (by omega)
    by_cases h1 : n < n'
    · have hx : x = true := by rw [HC.out, HD.out]; simp [h1]
      subst hx
      go_wp2_with fail
      go_ret
      exact ⟨rfl, HF2.out⟩
    · have hx : x = false := by rw [HC.out, HD.out, ← beq_dec, h2]; simp [h1]
      subst hx
      go_wp2_with fail
      go_ret
      exact ⟨rfl, HF2.out⟩
  · have hle : a.t ≤ b.t := by omega
    have HD := Lib.hid (szs_eq a b hle)
    obtain ⟨c0, c1, c2, c3⟩ := hA
    obtain ⟨d0, d1, d2, d3⟩ := hB
    have HF := Lib.hid hF
    clear hF
    generalize szs a b = x at *
    obtain ⟨k, n, t, s⟩ := a
    obtain ⟨k', n', t', s'⟩ := b
    simp only at HD c0 c1 c2 c3 d0 d1 d2 d3 hw1 hle hlt
    unfold C.v
    simp only
    by_cases h1 : n' < n
    · have hx : x = true := by rw [HD.out]; simp [h1]
      subst hx
      go_enter Tryz.func83, Tryz.ntmps83
      go_wp2_with fail
      go_ret
      exact ⟨rfl, by rw [← hw1]; exact HF.out⟩
    · by_cases h2 : t = t'
      · have hx : x = (n != n') := by rw [HD.out, bne_dec]; simp [h1, h2]
        subst hx
        subst h2
        go_enter Tryz.func83, Tryz.ntmps83
        go_wp2_with fail
        go_ret
        exact ⟨rfl, by rw [← hw1]; exact HF.out⟩
      · have hx : x = false := by rw [HD.out]; simp [h1, h2]
        subst hx
        have h2' : (t == t') = false := beq_eq_false_iff_ne.2 h2
        go_enter Tryz.func83, Tryz.ntmps83
        go_wp2_with fail
        go_ret
        exact ⟨rfl, by rw [← hw1]; exact HF.out⟩
end Go.Proofs.YtapdabebiinnnaaGreatDoor
