/-
  The walk of ClaimPairs.
-/
import Derived.Test.YtdaiapopncpilaaDoorCf
namespace Go.Proofs.YtdaiapopncpilaaDoor
open Go.RowKit

/-- Where two claims that differ differ first. -/
theorem C.differ {a b : C} (h : a ≠ b) : a.k ≠ b.k ∨ (a.k = b.k ∧ a.n ≠ b.n) ∨ (a.k = b.k ∧ a.n = b.n ∧ a.t ≠ b.t) ∨ (a.k = b.k ∧ a.n = b.n ∧ a.t = b.t ∧ a.s ≠ b.s) := by
  rw [Ne, C.eq_iff] at h
  by_cases h1 : a.k = b.k
  · by_cases h2 : a.n = b.n
    · by_cases h3 : a.t = b.t
      · exact .inr (.inr (.inr ⟨h1, h2, h3, fun h4 => h ⟨h1, h2, h3, h4⟩⟩))
      · exact .inr (.inr (.inl ⟨h1, h2, h3⟩))
    · exact .inr (.inl ⟨h1, h2⟩)
  · exact .inl h1
set_option maxHeartbeats 4000000 in
theorem pairs_any (a b : C) (w : World) (ha : a.fits) (hb : b.fits) (ht : Tab w) :
    Calls Tryd.prog 6 #[a.v, b.v] w fun e w' => e = .returned (.bool true) ∧ Fr w w' := by
  have HC := Lib.hid (contra_comm b a)
  have HS := Lib.hid (contra_self a)
  have HK := Lib.hid (contra_kinds (a := a) (b := b))
  have HO := Lib.hid (contra_ok (a := a) (b := b))
  have HN := Lib.hid (contra_ne (a := a) (b := b))
  have HDf := Lib.hid (C.differ (a := a) (b := b))
  have H1 := Lib.hid (fun w' => contra_any a b w' ha hb)
  have H2 := Lib.hid (fun w' => contra_any b a w' hb ha)
  have H3 := Lib.hid (fun w' => contra_any a a w' ha ha)
  have HRa := Lib.hid (fun w' => right_any a w' ha)
  have HRb := Lib.hid (fun w' => right_any b w' hb)
  rw [HC.out] at H2
  rw [HS.out] at H3
  obtain ⟨w1, hw1, hA, hB, hF⟩ := boxes w a b
  have HF := Lib.hid hF
  have HT := Lib.hid (ht.fr hF)
  have HCC : Hid (∀ w', Fr w1 w' → CAt w' w.heap.size a ∧ CAt w' (w.heap.size + 1) b) := Lib.hid fun w' h => ⟨hA.fr h, hB.fr h⟩
  clear hF ha hb HC HS hA hB ht
  generalize hx : contra a b = x at *
  generalize okB a = oa at *
  generalize okB b = ob at *
  clear hx
  obtain ⟨k, n, t, s⟩ := a
  obtain ⟨k', n', t', s'⟩ := b
  unfold C.v at H1 H2 H3 HRa HRb
  unfold CAt at HCC
  simp only at HK HDf hw1 H1 H2 H3 HRa HRb HCC
  unfold C.v
  simp only
  go_enter Tryd.func6, Tryd.ntmps6
  go_wp2_with fail
  rw [← hw1]
  generalize w.heap.size = A at *
  clear hw1
  refine (small_any _ HT.out).mono ?_
  rintro e w2 ⟨rfl, h2⟩
  obtain ⟨⟨a0, a1, a2, a3⟩, ⟨b0, b1, b2, b3⟩⟩ := HCC.out w2 h2
  go_wp2_with fail
  refine (H1.out _).mono ?_
  rintro e w3 ⟨rfl, h3⟩
  replace h3 := h2.trans h3
  clear a0 a1 a2 a3 b0 b1 b2 b3 h2
  obtain ⟨⟨a0, a1, a2, a3⟩, ⟨b0, b1, b2, b3⟩⟩ := HCC.out w3 h3
  go_wp2_with fail
  refine (H2.out _).mono ?_
  rintro e w4 ⟨rfl, h4⟩
  replace h4 := h3.trans h4
  have hxx : (x != x) = false := by cases x <;> rfl
  clear a0 a1 a2 a3 b0 b1 b2 b3 h3
  obtain ⟨⟨a0, a1, a2, a3⟩, ⟨b0, b1, b2, b3⟩⟩ := HCC.out w4 h4
  go_wp2_with fail
  refine (H3.out _).mono ?_
  rintro e w5 ⟨rfl, h5⟩
  replace h5 := h4.trans h5
  clear a0 a1 a2 a3 b0 b1 b2 b3 h4
  obtain ⟨⟨a0, a1, a2, a3⟩, ⟨b0, b1, b2, b3⟩⟩ := HCC.out w5 h5
  cases x with
  | false =>
    go_wp2_with fail
    go_ret
    exact ⟨rfl, HF.out.trans h5⟩
  | true =>
    have hkd := HK.out (by first | trivial | rfl)
    have hoa : oa = true := (HO.out (by first | trivial | rfl)).1
    have hob : ob = true := (HO.out (by first | trivial | rfl)).2
    have hd := HDf.out (HN.out (by first | trivial | rfl))
    subst hoa
    subst hob
    clear HK HDf HN HO H1 H2 H3
    rcases hkd with ⟨hk, hk2⟩ | ⟨hk, hk'⟩ | ⟨hk, hk'⟩
    · subst hk
      have g2 : (k == 2) = false := beq_eq_false_iff_ne.2 hk2
      have g3 : (k != 2) = true := bne_iff_ne.2 hk2
      by_cases hk0 : k = 0
      all_goals
        have g0 : (k == 0) = decide (k = 0) := beq_dec k 0
        first | rw [decide_eq_true hk0] at g0 | rw [decide_eq_false hk0] at g0
        clear hk0 hk2
        rcases hd with hd | ⟨_, hd⟩ | ⟨_, hn, hd⟩ | ⟨_, hn, ht, hd⟩
        · exact absurd rfl hd
        · have g4 : (n == n') = false := beq_eq_false_iff_ne.2 hd
          clear hd
          go_wp2_with fail
          refine (HRa.out _).mono ?_
          rintro e w6 ⟨rfl, h6⟩
          replace h6 := h5.trans h6
          clear a0 a1 a2 a3 b0 b1 b2 b3 h5
          obtain ⟨⟨a0, a1, a2, a3⟩, ⟨b0, b1, b2, b3⟩⟩ := HCC.out w6 h6
          go_wp2_with fail
          refine (HRb.out _).mono ?_
          rintro e w7 ⟨rfl, h7⟩
          replace h7 := h6.trans h7
          clear a0 a1 a2 a3 b0 b1 b2 b3 h6
          obtain ⟨⟨a0, a1, a2, a3⟩, ⟨b0, b1, b2, b3⟩⟩ := HCC.out w7 h7
          go_wp2_with fail
          go_ret
          exact ⟨rfl, HF.out.trans h7⟩
        · subst hn
          have g4 : (t == t') = false := beq_eq_false_iff_ne.2 hd
          clear hd
          go_wp2_with fail
          refine (HRa.out _).mono ?_
          rintro e w6 ⟨rfl, h6⟩
          replace h6 := h5.trans h6
          clear a0 a1 a2 a3 b0 b1 b2 b3 h5
          obtain ⟨⟨a0, a1, a2, a3⟩, ⟨b0, b1, b2, b3⟩⟩ := HCC.out w6 h6
          go_wp2_with fail
          refine (HRb.out _).mono ?_
          rintro e w7 ⟨rfl, h7⟩
          replace h7 := h6.trans h7
          clear a0 a1 a2 a3 b0 b1 b2 b3 h6
          obtain ⟨⟨a0, a1, a2, a3⟩, ⟨b0, b1, b2, b3⟩⟩ := HCC.out w7 h7
          go_wp2_with fail
          go_ret
          exact ⟨rfl, HF.out.trans h7⟩
        · subst hn
          subst ht
          have g4 : (s == s') = false := beq_eq_false_iff_ne.2 hd
          clear hd
          go_wp2_with fail
          refine (HRa.out _).mono ?_
          rintro e w6 ⟨rfl, h6⟩
          replace h6 := h5.trans h6
          clear a0 a1 a2 a3 b0 b1 b2 b3 h5
          obtain ⟨⟨a0, a1, a2, a3⟩, ⟨b0, b1, b2, b3⟩⟩ := HCC.out w6 h6
          go_wp2_with fail
          refine (HRb.out _).mono ?_
          rintro e w7 ⟨rfl, h7⟩
          replace h7 := h6.trans h7
          clear a0 a1 a2 a3 b0 b1 b2 b3 h6
          obtain ⟨⟨a0, a1, a2, a3⟩, ⟨b0, b1, b2, b3⟩⟩ := HCC.out w7 h7
          go_wp2_with fail
          go_ret
          exact ⟨rfl, HF.out.trans h7⟩
    · subst hk
      subst hk'
      clear hd
      go_wp2_with fail
      refine (HRa.out _).mono ?_
      rintro e w6 ⟨rfl, h6⟩
      replace h6 := h5.trans h6
      clear a0 a1 a2 a3 b0 b1 b2 b3 h5
      obtain ⟨⟨a0, a1, a2, a3⟩, ⟨b0, b1, b2, b3⟩⟩ := HCC.out w6 h6
      go_wp2_with fail
      refine (HRb.out _).mono ?_
      rintro e w7 ⟨rfl, h7⟩
      replace h7 := h6.trans h7
      clear a0 a1 a2 a3 b0 b1 b2 b3 h6
      obtain ⟨⟨a0, a1, a2, a3⟩, ⟨b0, b1, b2, b3⟩⟩ := HCC.out w7 h7
      go_wp2_with fail
      go_ret
      exact ⟨rfl, HF.out.trans h7⟩
    · subst hk
      subst hk'
      clear hd
      go_wp2_with fail
      refine (HRa.out _).mono ?_
      rintro e w6 ⟨rfl, h6⟩
      replace h6 := h5.trans h6
      clear a0 a1 a2 a3 b0 b1 b2 b3 h5
      obtain ⟨⟨a0, a1, a2, a3⟩, ⟨b0, b1, b2, b3⟩⟩ := HCC.out w6 h6
      go_wp2_with fail
      refine (HRb.out _).mono ?_
      rintro e w7 ⟨rfl, h7⟩
      replace h7 := h6.trans h7
      clear a0 a1 a2 a3 b0 b1 b2 b3 h6
      obtain ⟨⟨a0, a1, a2, a3⟩, ⟨b0, b1, b2, b3⟩⟩ := HCC.out w7 h7
      go_wp2_with fail
      go_ret
      exact ⟨rfl, HF.out.trans h7⟩
end Go.Proofs.YtdaiapopncpilaaDoor
