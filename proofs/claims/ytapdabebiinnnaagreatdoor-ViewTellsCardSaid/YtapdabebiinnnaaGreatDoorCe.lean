/-
  Contracts: package claim: Contradict.
-/
import Derived.Test.YtapdabebiinnnaaGreatDoorCd
namespace Go.Proofs.YtapdabebiinnnaaGreatDoor
open Go.RowKit

theorem ok_key {c : C} (h : okB c = true) : c.k = 0 → (key c.s).isSome = true := fun hk => by
  rcases ((okB_iff c).1 h).2.2.2.2.2 with h1 | h1
  · exact absurd hk h1
  · exact h1
set_option maxHeartbeats 4000000 in
set_option maxRecDepth 100000 in
theorem contra_any (a b : C) (w : World) (ha : a.fits) (hb : b.fits) :
    Calls Tryz.prog 44 #[a.v, b.v] w fun e w' => e = .returned (.bool (contra a b)) ∧ Fr w w' := by
  have HD := Lib.hid (show contra a b = (okB a && okB b && (if a.k = b.k then alike a b else den a b || den b a)) from rfl)
  have HRa := Lib.hid (fun w' => right_any a w' ha)
  have HRb := Lib.hid (fun w' => right_any b w' hb)
  have HNa := Lib.hid (fun w' (h : okB b = true) => denies_any a b w' hb (ok_key h))
  have HNb := Lib.hid (fun w' (h : okB a = true) => denies_any b a w' ha (ok_key h))
  have HS := Lib.hid (fun w' => sizes_any a b w')
  have HBa := Lib.hid (ok_bounds (c := a))
  have HAL := Lib.hid (show alike a b = (if a.k = 0 then decide (a.n = b.n ∧ a.s ≠ b.s) else if a.k = 1 then szs a b else if a.k = 3 then decide (a.s = b.s ∧ a.n ≠ b.n) else if a.k = 4 then decide (a.n = b.n ∧ a.t = b.t ∧ a.s ≠ b.s) else false) from rfl)
  obtain ⟨w1, hw1, hA, hB, hF⟩ := boxes w a b
  have HF := Lib.hid hF
  clear hF ha hb
  generalize contra a b = x at *
  generalize alike a b = l at *
  generalize szs a b = z at *
  generalize den a b = d1 at *
  generalize den b a = d2 at *
  generalize okB a = oa at *
  generalize okB b = ob at *
  obtain ⟨k, n, t, s⟩ := a
  obtain ⟨k', n', t', s'⟩ := b
  unfold C.v at HRa HRb HNa HNb HS
  simp only at HD HAL HBa hw1 HRa HRb HNa HNb HS
  unfold CAt at hA hB
  simp only at hA hB
  unfold C.v
  simp only
  go_enter Tryz.func44, Tryz.ntmps44
  go_wp2_with fail
  rw [← hw1]
  refine (HRa.out _).mono ?_
  rintro e w2 ⟨rfl, hf2⟩
  have hF2 := HF.out.trans hf2
  replace hA : _ ∧ _ ∧ _ ∧ _ := ⟨hf2.cell hA.1, hf2.cell hA.2.1, hf2.cell hA.2.2.1, hf2.cell hA.2.2.2⟩
  replace hB : _ ∧ _ ∧ _ ∧ _ := ⟨hf2.cell hB.1, hf2.cell hB.2.1, hf2.cell hB.2.2.1, hf2.cell hB.2.2.2⟩
  clear hw1 HF HRa hf2
  generalize w.heap.size = A at *
  cases oa with
  | false =>
    have hx : x = false := by rw [HD.out]; rfl
    subst hx
    go_wp2_with fail
    go_ret
    exact ⟨rfl, hF2⟩
  | true =>
    obtain ⟨e0, e1, e2, e3⟩ := hB
    go_wp2_with fail
    refine (HRb.out _).mono ?_
    rintro e w3 ⟨rfl, hf3⟩
    have hF3 := hF2.trans hf3
    replace hA : _ ∧ _ ∧ _ ∧ _ := ⟨hf3.cell hA.1, hf3.cell hA.2.1, hf3.cell hA.2.2.1, hf3.cell hA.2.2.2⟩
    replace e0 := hf3.cell e0
    replace e1 := hf3.cell e1
    replace e2 := hf3.cell e2
    replace e3 := hf3.cell e3
    clear HRb hf3 hF2
    cases ob with
    | false =>
      have hx : x = false := by rw [HD.out]; rfl
      subst hx
      go_wp2_with fail
      go_ret
      exact ⟨rfl, hF3⟩
    | true =>
      obtain ⟨c0, c1, c2, c3⟩ := hA
      have hk0 := (HBa.out (by first | trivial | rfl)).1
      have hk4 := (HBa.out (by first | trivial | rfl)).2.1
      have HX : Hid (x = if k = k' then l else d1 || d2) := Lib.hid (by rw [HD.out]; rfl)
      clear HD HBa
      by_cases hk : k = k'
      · subst hk
        have hx : x = l := by rw [HX.out]; simp
        subst hx
        clear HX HNa HNb
        have hcase : k = 0 ∨ k = 1 ∨ k = 2 ∨ k = 3 ∨ k = 4 := by omega
        clear hk0 hk4
        rcases hcase with rfl | rfl | rfl | rfl | rfl
        · by_cases hn : n = n'
          · subst hn
            have hl : x = (s != s') := by rw [HAL.out, bne_dec]; simp
            subst hl
            go_wp2_with fail
            go_ret
            exact ⟨rfl, hF3⟩
          · have hl : x = false := by rw [HAL.out]; simp [hn]
            subst hl
            have hn' : (n == n') = false := beq_eq_false_iff_ne.2 hn
            go_wp2_with fail
            go_ret
            exact ⟨rfl, hF3⟩
        · have hl : x = z := by rw [HAL.out]; simp
          subst hl
          go_wp2_with fail
          refine (HS.out _).mono ?_
          rintro e w4 ⟨rfl, hf4⟩
          go_wp2_with fail
          go_ret
          exact ⟨rfl, hF3.trans hf4⟩
        · have hl : x = false := by rw [HAL.out]; simp
          subst hl
          go_wp2_with fail
          go_ret
          exact ⟨rfl, hF3⟩
        · by_cases hs : s = s'
          · subst hs
            have hl : x = (n != n') := by rw [HAL.out, bne_dec]; simp
            subst hl
            go_wp2_with fail
            go_ret
            exact ⟨rfl, hF3⟩
          · have hl : x = false := by rw [HAL.out]; simp [hs]
            subst hl
            have hs' : (s == s') = false := beq_eq_false_iff_ne.2 hs
            go_wp2_with fail
            go_ret
            exact ⟨rfl, hF3⟩
        · by_cases hn : n = n'
          · subst hn
            by_cases ht : t = t'
            · subst ht
              have hl : x = (s != s') := by rw [HAL.out, bne_dec]; simp
              subst hl
              go_wp2_with fail
              go_ret
              exact ⟨rfl, hF3⟩
            · have hl : x = false := by rw [HAL.out]; simp [ht]
              subst hl
              have ht' : (t == t') = false := beq_eq_false_iff_ne.2 ht
              go_wp2_with fail
              go_ret
              exact ⟨rfl, hF3⟩
          · have hl : x = false := by rw [HAL.out]; simp [hn]
            subst hl
            have hn' : (n == n') = false := beq_eq_false_iff_ne.2 hn
            go_wp2_with fail
            go_ret
            exact ⟨rfl, hF3⟩
      · have hk' : (k != k') = true := bne_iff_ne.2 hk
        have hx : x = (d1 || d2) := by rw [HX.out, if_neg hk]
        subst hx
        clear HX hk HAL HS
        go_wp2_with fail
        refine (HNa.out _ (by first | trivial | rfl)).mono ?_
        rintro e w4 ⟨rfl, hf4⟩
        have hF4 := hF3.trans hf4
        replace c0 := hf4.cell c0
        replace c1 := hf4.cell c1
        replace c2 := hf4.cell c2
        replace c3 := hf4.cell c3
        replace e0 := hf4.cell e0
        replace e1 := hf4.cell e1
        replace e2 := hf4.cell e2
        replace e3 := hf4.cell e3
        cases d1 with
        | true =>
          go_wp2_with fail
          go_ret
          exact ⟨rfl, hF4⟩
        | false =>
          go_wp2_with fail
          refine (HNb.out _ (by first | trivial | rfl)).mono ?_
          rintro e w5 ⟨rfl, hf5⟩
          go_wp2_with fail
          go_ret
          exact ⟨rfl, hF4.trans hf5⟩
end Go.Proofs.YtapdabebiinnnaaGreatDoor
