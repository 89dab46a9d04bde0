/-
  Contracts: the reference of layer 6: one, Contradict.
-/
import Derived.Test.YtdaiapopncpilaaDoorCt
namespace Go.Proofs.YtdaiapopncpilaaDoor
open Go.RowKit

/-- What one computes. -/
def alike1 (a b : C) : Bool :=
  if a.k = 0 then decide (a.n = b.n ∧ a.s ≠ b.s) else if a.k = 1 then (decide (a.t = b.t ∧ a.n ≠ b.n) || decide (a.t < b.t ∧ b.n < a.n)) else if a.k = 3 then decide (a.s = b.s ∧ a.n ≠ b.n) else if a.k = 4 then decide (a.t = b.t ∧ a.n = b.n ∧ a.s ≠ b.s) else false
noncomputable def oneB (a b : C) : Bool := if a.k = b.k then alike1 a b else den a b
theorem alike_one {a b : C} (h : a.k = b.k) : (alike1 a b || alike1 b a) = alike a b := by
  unfold alike1 alike szs
  rw [← h]
  by_cases h0 : a.k = 0
  · simp only [if_pos h0]
    rw [Bool.eq_iff_iff]; simp only [Bool.or_eq_true, decide_eq_true_eq]
    exact ⟨fun h => by rcases h with h | h; exact h; exact ⟨h.1.symm, fun e => h.2 e.symm⟩, fun h => .inl h⟩
  simp only [if_neg h0]
  by_cases h1 : a.k = 1
  · simp only [if_pos h1]
    rw [Bool.eq_iff_iff]; simp only [Bool.or_eq_true, decide_eq_true_eq]
    omega
  simp only [if_neg h1]
  by_cases h3 : a.k = 3
  · simp only [if_pos h3]
    rw [Bool.eq_iff_iff]; simp only [Bool.or_eq_true, decide_eq_true_eq]
    exact ⟨fun h => by rcases h with h | h; exact h; exact ⟨h.1.symm, fun e => h.2 e.symm⟩, fun h => .inl h⟩
  simp only [if_neg h3]
  by_cases h4 : a.k = 4
  · simp only [if_pos h4]
    rw [Bool.eq_iff_iff]; simp only [Bool.or_eq_true, decide_eq_true_eq]
    exact ⟨fun h => by rcases h with h | h; exact ⟨h.2.1, h.1, h.2.2⟩; exact ⟨h.2.1.symm, h.1.symm, fun e => h.2.2 e.symm⟩, fun h => .inl ⟨h.2.1, h.1, h.2.2⟩⟩
  simp only [if_neg h4]; rfl
theorem contra_one (a b : C) : (okB a && okB b && (oneB a b || oneB b a)) = contra a b := by
  unfold contra oneB
  congr 1
  by_cases h : a.k = b.k
  · rw [if_pos h, if_pos h.symm, if_pos h, alike_one h]
  · rw [if_neg h, if_neg (fun e => h e.symm), if_neg h]

set_option maxHeartbeats 4000000 in
theorem rone_any (a b : C) (w : World) (hb : b.fits) (h0 : 0 ≤ a.k) (h4 : a.k ≤ 4) :
    Calls Tryd.prog 40 #[a.v, b.v] w fun e w' => e = .returned (.bool (oneB a b)) ∧ Fr w w' := by
  have HX := Lib.hid (show oneB a b = if a.k = b.k then alike1 a b else den a b from rfl)
  have HD := Lib.hid (show den a b = (decide (a.k = 2) && decide (b.k = 0) && decide (b.n < a.n) && decide (key b.s = some a.s)) from rfl)
  have HAL := Lib.hid (show alike1 a b = (if a.k = 0 then decide (a.n = b.n ∧ a.s ≠ b.s) else if a.k = 1 then (decide (a.t = b.t ∧ a.n ≠ b.n) || decide (a.t < b.t ∧ b.n < a.n)) else if a.k = 3 then decide (a.s = b.s ∧ a.n ≠ b.n) else if a.k = 4 then decide (a.t = b.t ∧ a.n = b.n ∧ a.s ≠ b.s) else false) from rfl)
  obtain ⟨w1, hw1, hA, hB, hF⟩ := boxes w a b
  have hF3 := hF
  have hs := hb.2.2.2
  clear hF hb
  generalize oneB a b = x at *
  generalize alike1 a b = l at *
  generalize den a b = d at *
  obtain ⟨k, n, t, s⟩ := a
  obtain ⟨k', n', t', s'⟩ := b
  simp only at HD HAL HX hw1 hs h0 h4
  obtain ⟨a0, a1, a2, a3⟩ := hA
  obtain ⟨b0, b1, b2, b3⟩ := hB
  simp only at a0 a1 a2 a3 b0 b1 b2 b3
  have hs2 : s'.length ≤ 9223372036854775807 := by omega
  unfold C.v
  simp only
  by_cases hd : k = 2 ∧ k' = 0
  · obtain ⟨rfl, rfl⟩ := hd
    obtain ⟨y, hy⟩ : ∃ y, y = key s' := ⟨_, rfl⟩
    have HO : Hid (x = (decide (n' < n) && decide (y = some s))) := Lib.hid (by rw [HX.out, hy, if_neg (by decide), HD.out]; simp)
    have HK := Lib.hid (fun w' => rkey_any s' w' hs2)
    rw [← hy] at HK
    clear hy HX HD HAL
    go_enter Tryd.func40, Tryd.ntmps40
    go_wp2_with fail
    rw [← hw1]
    refine (HK.out _).mono ?_
    unfold keyV
    rintro e w2 ⟨rfl, hf2⟩
    replace a1 := hf2.cell a1
    replace a3 := hf2.cell a3
    replace b1 := hf2.cell b1
    have hF4 := hF3.trans hf2
    cases y with
    | none =>
      have hx : x = false := by rw [HO.out]; simp
      subst hx
      go_wp2_with fail
      go_ret
      exact ⟨rfl, hF4⟩
    | some q =>
      by_cases hn : n' < n
      · have hx : x = (q == s) := by rw [HO.out, beq_dec]; simp [hn]
        subst hx
        go_wp2_with fail
        go_ret
        exact ⟨rfl, hF4⟩
      · have hx : x = false := by rw [HO.out]; simp [hn]
        subst hx
        go_wp2_with fail
        go_ret
        exact ⟨rfl, hF4⟩
  · by_cases hk : k = k'
    · subst hk
      have hx : x = l := by rw [HX.out, if_pos rfl]
      subst hx
      clear HX HD hd
      have hcase : k = 0 ∨ k = 1 ∨ k = 2 ∨ k = 3 ∨ k = 4 := by omega
      clear h0 h4
      rcases hcase with rfl | rfl | rfl | rfl | rfl
      · by_cases hn : n = n'
        · subst hn
          have hl : x = (s != s') := by rw [HAL.out, bne_dec]; simp
          subst hl
          go_enter Tryd.func40, Tryd.ntmps40
          go_wp2_with fail
          go_ret
          exact ⟨rfl, by rw [← hw1]; exact hF3⟩
        · have hl : x = false := by rw [HAL.out]; simp [hn]
          subst hl
          have hn' : (n == n') = false := beq_eq_false_iff_ne.2 hn
          go_enter Tryd.func40, Tryd.ntmps40
          go_wp2_with fail
          go_ret
          exact ⟨rfl, by rw [← hw1]; exact hF3⟩
      · by_cases ht : t = t'
        · subst ht
          by_cases hn : n = n'
          · subst hn
            have hl : x = false := by rw [HAL.out]; simp
            subst hl
            go_enter Tryd.func40, Tryd.ntmps40
            go_wp2_with fail
            go_ret
            exact ⟨rfl, by rw [← hw1]; exact hF3⟩
          · have hl : x = true := by rw [HAL.out]; simp [hn]
            subst hl
            have hn' : (n != n') = true := bne_iff_ne.2 hn
            go_enter Tryd.func40, Tryd.ntmps40
            go_wp2_with fail
            go_ret
            exact ⟨rfl, by rw [← hw1]; exact hF3⟩
        · have ht' : (t == t') = false := beq_eq_false_iff_ne.2 ht
          by_cases hlt : t < t'
          · have hl : x = decide (n' < n) := by rw [HAL.out]; simp [ht, hlt]
            subst hl
            go_enter Tryd.func40, Tryd.ntmps40
            go_wp2_with fail
            go_ret
            exact ⟨rfl, by rw [← hw1]; exact hF3⟩
          · have hl : x = false := by rw [HAL.out]; simp [ht, hlt]
            subst hl
            go_enter Tryd.func40, Tryd.ntmps40
            go_wp2_with fail
            go_ret
            exact ⟨rfl, by rw [← hw1]; exact hF3⟩
      · have hl : x = false := by rw [HAL.out]; simp
        subst hl
        go_enter Tryd.func40, Tryd.ntmps40
        go_wp2_with fail
        go_ret
        exact ⟨rfl, by rw [← hw1]; exact hF3⟩
      · by_cases hss : s = s'
        · subst hss
          have hl : x = (n != n') := by rw [HAL.out, bne_dec]; simp
          subst hl
          go_enter Tryd.func40, Tryd.ntmps40
          go_wp2_with fail
          go_ret
          exact ⟨rfl, by rw [← hw1]; exact hF3⟩
        · have hl : x = false := by rw [HAL.out]; simp [hss]
          subst hl
          have hs' : (s == s') = false := beq_eq_false_iff_ne.2 hss
          go_enter Tryd.func40, Tryd.ntmps40
          go_wp2_with fail
          go_ret
          exact ⟨rfl, by rw [← hw1]; exact hF3⟩
      · by_cases ht : t = t'
        · subst ht
          by_cases hn : n = n'
          · subst hn
            have hl : x = (s != s') := by rw [HAL.out, bne_dec]; simp
            subst hl
            go_enter Tryd.func40, Tryd.ntmps40
            go_wp2_with fail
            go_ret
            exact ⟨rfl, by rw [← hw1]; exact hF3⟩
          · have hl : x = false := by rw [HAL.out]; simp [hn]
            subst hl
            have hn' : (n == n') = false := beq_eq_false_iff_ne.2 hn
            go_enter Tryd.func40, Tryd.ntmps40
            go_wp2_with fail
            go_ret
            exact ⟨rfl, by rw [← hw1]; exact hF3⟩
        · have hl : x = false := by rw [HAL.out]; simp [ht]
          subst hl
          have ht' : (t == t') = false := beq_eq_false_iff_ne.2 ht
          go_enter Tryd.func40, Tryd.ntmps40
          go_wp2_with fail
          go_ret
          exact ⟨rfl, by rw [← hw1]; exact hF3⟩
    · have hk' : (k != k') = true := bne_iff_ne.2 hk
      have hx : x = false := by
        rw [HX.out, if_neg hk, HD.out]
        by_cases h2 : k = 2
        · have : k' ≠ 0 := fun e => hd ⟨h2, e⟩
          simp [this]
        · simp [h2]
      subst hx
      clear HX HD HAL
      by_cases h2 : k = 2
      · subst h2
        have hk0 : (k' == 0) = false := beq_eq_false_iff_ne.2 (fun e => hd ⟨rfl, e⟩)
        clear hd
        go_enter Tryd.func40, Tryd.ntmps40
        go_wp2_with fail
        go_ret
        exact ⟨rfl, by rw [← hw1]; exact hF3⟩
      · have hk2 : (k == 2) = false := beq_eq_false_iff_ne.2 h2
        clear hd
        go_enter Tryd.func40, Tryd.ntmps40
        go_wp2_with fail
        go_ret
        exact ⟨rfl, by rw [← hw1]; exact hF3⟩

set_option maxHeartbeats 4000000 in
theorem rcontra_any (a b : C) (w : World) (ha : a.fits) (hb : b.fits) :
    Calls Tryd.prog 18 #[a.v, b.v] w fun e w' => e = .returned (.bool (contra a b)) ∧ Fr w w' := by
  have HD := Lib.hid (contra_one a b)
  have HRa := Lib.hid (fun w' => rright_any a w' ha)
  have HRb := Lib.hid (fun w' => rright_any b w' hb)
  have HNa := Lib.hid (fun w' (h : okB a = true) => rone_any a b w' hb (ok_bounds h).1 (ok_bounds h).2.1)
  have HNb := Lib.hid (fun w' (h : okB b = true) => rone_any b a w' ha (ok_bounds h).1 (ok_bounds h).2.1)
  obtain ⟨w1, hw1, hA, hB, hF⟩ := boxes w a b
  have HF := Lib.hid hF
  have HCC : Hid (∀ w', Fr w1 w' → CAt w' w.heap.size a ∧ CAt w' (w.heap.size + 1) b) := Lib.hid fun w' h => ⟨hA.fr h, hB.fr h⟩
  clear hF ha hb hA hB
  generalize contra a b = x at *
  generalize oneB a b = d1 at *
  generalize oneB b a = d2 at *
  generalize okB a = oa at *
  generalize okB b = ob at *
  obtain ⟨k, n, t, s⟩ := a
  obtain ⟨k', n', t', s'⟩ := b
  unfold C.v at HRa HRb HNa HNb
  unfold CAt at HCC
  simp only at HD hw1 HRa HRb HNa HNb HCC
  unfold C.v
  simp only
  obtain ⟨⟨a0, a1, a2, a3⟩, ⟨b0, b1, b2, b3⟩⟩ := HCC.out w1 (Fr.refl _)
  go_enter Tryd.func18, Tryd.ntmps18
  go_wp2_with fail
  rw [← hw1]
  generalize w.heap.size = A at *
  clear hw1
  refine (HRa.out _).mono ?_
  rintro e w2 ⟨rfl, h2⟩
  clear a0 a1 a2 a3 b0 b1 b2 b3
  obtain ⟨⟨a0, a1, a2, a3⟩, ⟨b0, b1, b2, b3⟩⟩ := HCC.out w2 h2
  cases oa with
  | false =>
    have hx : x = false := by rw [← HD.out]; rfl
    subst hx
    go_wp2_with fail
    go_ret
    exact ⟨rfl, HF.out.trans h2⟩
  | true =>
    go_wp2_with fail
    refine (HRb.out _).mono ?_
    rintro e w3 ⟨rfl, h3⟩
    replace h3 := h2.trans h3
    clear a0 a1 a2 a3 b0 b1 b2 b3 h2
    obtain ⟨⟨a0, a1, a2, a3⟩, ⟨b0, b1, b2, b3⟩⟩ := HCC.out w3 h3
    cases ob with
    | false =>
      have hx : x = false := by rw [← HD.out]; rfl
      subst hx
      go_wp2_with fail
      go_ret
      exact ⟨rfl, HF.out.trans h3⟩
    | true =>
      have hx : x = (d1 || d2) := by rw [← HD.out]; simp
      subst hx
      go_wp2_with fail
      refine (HNa.out _ (by first | trivial | rfl)).mono ?_
      rintro e w4 ⟨rfl, h4⟩
      replace h4 := h3.trans h4
      clear a0 a1 a2 a3 b0 b1 b2 b3 h3
      obtain ⟨⟨a0, a1, a2, a3⟩, ⟨b0, b1, b2, b3⟩⟩ := HCC.out w4 h4
      cases d1 with
      | true =>
        go_wp2_with fail
        go_ret
        exact ⟨rfl, HF.out.trans h4⟩
      | false =>
        go_wp2_with fail
        refine (HNb.out _ (by first | trivial | rfl)).mono ?_
        rintro e w5 ⟨rfl, h5⟩
        go_wp2_with fail
        go_ret
        exact ⟨rfl, HF.out.trans (h4.trans h5)⟩
end Go.Proofs.YtdaiapopncpilaaDoor
