/-
  The walk of ClaimBack.
-/
import Derived.Test.YtdaiapopncpilaaDoorCg
import Derived.Test.YtdaiapopncpilaaDoorCh
namespace Go.Proofs.YtdaiapopncpilaaDoor
open Go.RowKit

theorem textR_ok {c : C} (h : okB c = true) : textR c = textC c := by unfold textR; rw [h]; rfl
theorem textR_no {c : C} (h : okB c = false) : textR c = [] := by unfold textR; rw [h]; rfl
theorem textR_ne {a b : C} (ha : okB a = true) (h : a ≠ b) : (textC a == textR b) = false := by
  refine beq_eq_false_iff_ne.2 fun e => ?_
  cases hb : okB b with
  | false => rw [textR_no hb] at e; exact textC_ne a e
  | true =>
    rw [textR_ok hb] at e
    exact h (textC_pf (r := []) (s := []) (ok_dom ha) (ok_dom hb) (by simpa using e)).1
theorem half_less {c : C} (h : okB c = true) : readC ((textC c).take ((textC c).length / 2)) = none := by
  have hne := List.length_pos_iff.2 (textC_ne c)
  refine readC_less (q := (textC c).drop ((textC c).length / 2)) h (List.take_append_drop _ _).symm fun e => ?_
  have := congrArg List.length e
  rw [List.length_drop, List.length_nil] at this
  omega
set_option maxHeartbeats 4000000 in
theorem back_law (a b : C) (w : World) (ha : a.fits) (hb : b.fits) (ht : Tab w) :
    Calls Tryd.prog 4 #[a.v, b.v] w fun e w' => e = .returned (.bool true) ∧ Fr w w' := by
  have HTa := Lib.hid (fun w' ht' => textC_any a w' ha ht')
  have HTb := Lib.hid (fun w' ht' => textC_any b w' hb ht')
  have HRa := Lib.hid (fun w' => right_any a w' ha)
  obtain ⟨w1, hw1, hA, hB, hF⟩ := boxes w a b
  have HF := Lib.hid hF
  have HT := Lib.hid (show ∀ w', Fr w1 w' → Tab w' from fun w' h => ht.fr (hF.trans h))
  have HCC : Hid (∀ w', Fr w1 w' → CAt w' w.heap.size a ∧ CAt w' (w.heap.size + 1) b) := Lib.hid fun w' h => ⟨hA.fr h, hB.fr h⟩
  have hw : w.heap.size + 1 < w1.heap.size := by rw [hw1]; simp
  clear hF ha hb hA hB ht
  cases hoa : okB a with
  | false =>
    rw [hoa] at HRa
    rw [textR_no hoa] at HTa
    clear hoa HTb
    obtain ⟨k, n, t, s⟩ := a
    obtain ⟨k', n', t', s'⟩ := b
    unfold C.v at HTa HRa
    unfold CAt at HCC
    simp only at hw1 HTa HRa HCC
    unfold C.v
    simp only
    go_enter Tryd.func4, Tryd.ntmps4
    go_wp2_with fail
    rw [← hw1]
    generalize w.heap.size = A at *
    clear hw1
    refine (small_any _ (HT.out _ (Fr.refl _))).mono ?_
    rintro e w2 ⟨rfl, h2⟩
    obtain ⟨⟨a0, a1, a2, a3⟩, ⟨b0, b1, b2, b3⟩⟩ := HCC.out w2 h2
    go_wp2_with fail
    refine (HTa.out _ (HT.out _ h2)).mono ?_
    rintro e w3 ⟨rfl, h3⟩
    replace h3 := h2.trans h3
    clear a0 a1 a2 a3 b0 b1 b2 b3 h2
    obtain ⟨⟨a0, a1, a2, a3⟩, ⟨b0, b1, b2, b3⟩⟩ := HCC.out w3 h3
    go_wp2_with fail
    refine (HRa.out _).mono ?_
    rintro e w4 ⟨rfl, h4⟩
    go_wp2_with fail
    go_ret
    exact ⟨rfl, HF.out.trans (h3.trans h4)⟩
  | true =>
    rw [hoa] at HRa
    rw [textR_ok hoa] at HTa
    have hlen := textC_len hoa
    have hne : (textC a == []) = false := beq_eq_false_iff_ne.2 (textC_ne a)
    have hne' : (textC a != []) = true := bne_iff_ne.2 (textC_ne a)
    have HR1 := Lib.hid (fun w' => read_any (textC a) w' (by omega))
    have HR2 := Lib.hid (fun w' => read_any (textC a ++ [48, 59]) w' (by simp; omega))
    have HR3 := Lib.hid (fun w' => read_any ((textC a).take ((textC a).length / 2)) w' (by rw [List.length_take]; omega))
    rw [readC_text hoa] at HR1
    rw [readC_more hoa (by simp)] at HR2
    rw [half_less hoa] at HR3
    have HCV : Hid (∀ r : C, readV (some r) = .tuple #[r.v, .int .i64 0]) := Lib.hid fun _ => rfl
    rw [HCV.out] at HR1
    unfold readV zeroC at HR2 HR3
    have hcase : ((textC a == textR b) = true ∧ a.k = b.k ∧ a.n = b.n ∧ a.t = b.t ∧ a.s = b.s) ∨ ((textC a == textR b) = false ∧ (a.k ≠ b.k ∨ (a.k = b.k ∧ a.n ≠ b.n) ∨ (a.k = b.k ∧ a.n = b.n ∧ a.t ≠ b.t) ∨ (a.k = b.k ∧ a.n = b.n ∧ a.t = b.t ∧ a.s ≠ b.s))) := by
      by_cases hab : a = b
      · exact .inl ⟨by rw [← hab, textR_ok hoa]; exact beq_self_eq_true _, (C.eq_iff a b).1 hab⟩
      · exact .inr ⟨textR_ne hoa hab, C.differ hab⟩
    clear hoa
    obtain ⟨tb, htb⟩ : ∃ x, x = textR b := ⟨_, rfl⟩
    rw [← htb] at HTb hcase
    generalize textC a = ta at *
    clear htb
    obtain ⟨k, n, t, s⟩ := a
    obtain ⟨k', n', t', s'⟩ := b
    unfold C.v at HTa HRa HTb HR1 HR2 HR3
    unfold CAt at HCC
    simp only at hw1 HTa HTb HRa HCC HR1 HR2 HR3 hcase
    unfold C.v
    simp only
    go_enter Tryd.func4, Tryd.ntmps4
    go_wp2_with fail
    rw [← hw1]
    generalize w.heap.size = A at *
    clear hw1
    refine (small_any _ (HT.out _ (Fr.refl _))).mono ?_
    rintro e w2 ⟨rfl, h2⟩
    obtain ⟨⟨a0, a1, a2, a3⟩, ⟨b0, b1, b2, b3⟩⟩ := HCC.out w2 h2
    go_wp2_with fail
    refine (HTa.out _ (HT.out _ h2)).mono ?_
    rintro e w3 ⟨rfl, h3⟩
    replace h3 := h2.trans h3
    clear a0 a1 a2 a3 b0 b1 b2 b3 h2
    obtain ⟨⟨a0, a1, a2, a3⟩, ⟨b0, b1, b2, b3⟩⟩ := HCC.out w3 h3
    go_wp2_with fail
    refine (HRa.out _).mono ?_
    rintro e w4 ⟨rfl, h4⟩
    replace h4 := h3.trans h4
    clear a0 a1 a2 a3 b0 b1 b2 b3 h3 HTa HRa
    go_wp2_with fail
    refine (HR1.out _).mono ?_
    rintro e w5 ⟨rfl, h5⟩
    have hD := CAt.new w5 ⟨k, n, t, s⟩
    simp only at hD
    replace h5 := (h4.trans h5).trans (Fr.alloc w5 (.cells #[.int .i64 k, .int .i64 n, .int .i64 t, .string (S s)] 23))
    clear h4
    go_wp2_with fail
    generalize w5.alloc (.cells #[.int .i64 k, .int .i64 n, .int .i64 t, .string (S s)] 23) = w6 at *
    generalize w5.heap.size = D at *
    rw [show (⟨#[48, 59]⟩ : ByteArray) = S [48, 59] from rfl, S_append]
    refine (HR2.out _).mono ?_
    rintro e w7 ⟨rfl, h7⟩
    replace h7 := h7.trans (Fr.alloc w7 (.cells #[.int .i64 0, .int .i64 0, .int .i64 0, .string (S [])] 23))
    go_wp2_with fail
    generalize w7.alloc (.cells #[.int .i64 0, .int .i64 0, .int .i64 0, .string (S [])] 23) = w8 at *
    generalize w7.heap.size = D2 at *
    rw [S_extract]
    simp only [List.drop_zero, Nat.sub_zero]
    refine (HR3.out _).mono ?_
    rintro e w9 ⟨rfl, h9⟩
    have h69 := h7.trans (h9.trans (Fr.alloc w9 (.cells #[.int .i64 0, .int .i64 0, .int .i64 0, .string (S [])] 23)))
    go_upto_region 8 with fail
    generalize w9.alloc (.cells #[.int .i64 0, .int .i64 0, .int .i64 0, .string (S [])] 23) = w10 at *
    generalize w9.heap.size = D3 at *
    have h10 := h5.trans h69
    have HX : Hid (∀ w', Fr w10 w' → w'.cell? ⟨D, 0, none⟩ = some (.int .i64 k) ∧ w'.cell? ⟨D, 1, none⟩ = some (.int .i64 n) ∧ w'.cell? ⟨D, 2, none⟩ = some (.int .i64 t) ∧ w'.cell? ⟨D, 3, none⟩ = some (.string (S s)) ∧ w'.cell? ⟨A, 0, none⟩ = some (.int .i64 k) ∧ w'.cell? ⟨A, 1, none⟩ = some (.int .i64 n) ∧ w'.cell? ⟨A, 2, none⟩ = some (.int .i64 t) ∧ w'.cell? ⟨A, 3, none⟩ = some (.string (S s)) ∧ w'.cell? ⟨A + 1, 0, none⟩ = some (.int .i64 k') ∧ w'.cell? ⟨A + 1, 1, none⟩ = some (.int .i64 n') ∧ w'.cell? ⟨A + 1, 2, none⟩ = some (.int .i64 t') ∧ w'.cell? ⟨A + 1, 3, none⟩ = some (.string (S s'))) := Lib.hid fun w' h =>
      let ⟨⟨p0, p1, p2, p3⟩, q0, q1, q2, q3⟩ := HCC.out w' (h10.trans h)
      let ⟨r0, r1, r2, r3⟩ := hD.fr (h69.trans h)
      ⟨r0, r1, r2, r3, p0, p1, p2, p3, q0, q1, q2, q3⟩
    have HTt := Lib.hid (show ∀ w', Fr w10 w' → Tab w' from fun w' h => HT.out w' (h10.trans h))
    have HF10 := Lib.hid (HF.out.trans h10)
    have HCD := Lib.hid (HX.out _ (Fr.drew w10))
    obtain ⟨r0, r1, r2, r3, p0, p1, p2, p3, q0, q1, q2, q3⟩ := HX.out w10 (Fr.refl _)
    clear h5 h7 h9 h10 h69 hD HCC HT HF HR1 HR2 HR3 HCV hw
    rcases hcase with ⟨hq, rfl, rfl, rfl, rfl⟩ | ⟨hq, hc | ⟨rfl, hc⟩ | ⟨rfl, rfl, hc⟩ | ⟨rfl, rfl, rfl, hc⟩⟩
    · go_region_held3 (fun w' => w'.cell? ⟨D, 0, none⟩ = some (.int .i64 k) ∧ w'.cell? ⟨D, 1, none⟩ = some (.int .i64 n) ∧ w'.cell? ⟨D, 2, none⟩ = some (.int .i64 t) ∧ w'.cell? ⟨D, 3, none⟩ = some (.string (S s)) ∧ w'.cell? ⟨A, 0, none⟩ = some (.int .i64 k) ∧ w'.cell? ⟨A, 1, none⟩ = some (.int .i64 n) ∧ w'.cell? ⟨A, 2, none⟩ = some (.int .i64 t) ∧ w'.cell? ⟨A, 3, none⟩ = some (.string (S s)) ∧ w'.cell? ⟨A + 1, 0, none⟩ = some (.int .i64 k) ∧ w'.cell? ⟨A + 1, 1, none⟩ = some (.int .i64 n) ∧ w'.cell? ⟨A + 1, 2, none⟩ = some (.int .i64 t) ∧ w'.cell? ⟨A + 1, 3, none⟩ = some (.string (S s)))
        (first | exact HCD.out | exact HC2.out)
        (first | (go_at_call 15; refine (HTb.out _ (HTt.out _ (Fr.drew w10))).mono ?_; rintro e w11 ⟨rfl, h11⟩; have HC2 := Lib.hid (HX.out _ ((Fr.drew w10).trans h11)); have H11 := Lib.hid h11; clear h11))
      all_goals (go_wp2_with fail; go_ret; exact ⟨rfl, HF10.out.trans ((Fr.drew w10).trans H11.out)⟩)
    · have g : (k == k') = false := beq_eq_false_iff_ne.2 hc
      clear hc
      go_region_held3 (fun w' => w'.cell? ⟨D, 0, none⟩ = some (.int .i64 k) ∧ w'.cell? ⟨D, 1, none⟩ = some (.int .i64 n) ∧ w'.cell? ⟨D, 2, none⟩ = some (.int .i64 t) ∧ w'.cell? ⟨D, 3, none⟩ = some (.string (S s)) ∧ w'.cell? ⟨A, 0, none⟩ = some (.int .i64 k) ∧ w'.cell? ⟨A, 1, none⟩ = some (.int .i64 n) ∧ w'.cell? ⟨A, 2, none⟩ = some (.int .i64 t) ∧ w'.cell? ⟨A, 3, none⟩ = some (.string (S s)) ∧ w'.cell? ⟨A + 1, 0, none⟩ = some (.int .i64 k') ∧ w'.cell? ⟨A + 1, 1, none⟩ = some (.int .i64 n') ∧ w'.cell? ⟨A + 1, 2, none⟩ = some (.int .i64 t') ∧ w'.cell? ⟨A + 1, 3, none⟩ = some (.string (S s')))
        (first | exact HCD.out | exact HC2.out)
        (first | (go_at_call 15; refine (HTb.out _ (HTt.out _ (Fr.drew w10))).mono ?_; rintro e w11 ⟨rfl, h11⟩; have HC2 := Lib.hid (HX.out _ ((Fr.drew w10).trans h11)); have H11 := Lib.hid h11; clear h11))
      all_goals (go_wp2_with fail; go_ret; exact ⟨rfl, HF10.out.trans ((Fr.drew w10).trans H11.out)⟩)
    · have g : (n == n') = false := beq_eq_false_iff_ne.2 hc
      clear hc
      go_region_held3 (fun w' => w'.cell? ⟨D, 0, none⟩ = some (.int .i64 k) ∧ w'.cell? ⟨D, 1, none⟩ = some (.int .i64 n) ∧ w'.cell? ⟨D, 2, none⟩ = some (.int .i64 t) ∧ w'.cell? ⟨D, 3, none⟩ = some (.string (S s)) ∧ w'.cell? ⟨A, 0, none⟩ = some (.int .i64 k) ∧ w'.cell? ⟨A, 1, none⟩ = some (.int .i64 n) ∧ w'.cell? ⟨A, 2, none⟩ = some (.int .i64 t) ∧ w'.cell? ⟨A, 3, none⟩ = some (.string (S s)) ∧ w'.cell? ⟨A + 1, 0, none⟩ = some (.int .i64 k) ∧ w'.cell? ⟨A + 1, 1, none⟩ = some (.int .i64 n') ∧ w'.cell? ⟨A + 1, 2, none⟩ = some (.int .i64 t') ∧ w'.cell? ⟨A + 1, 3, none⟩ = some (.string (S s')))
        (first | exact HCD.out | exact HC2.out)
        (first | (go_at_call 15; refine (HTb.out _ (HTt.out _ (Fr.drew w10))).mono ?_; rintro e w11 ⟨rfl, h11⟩; have HC2 := Lib.hid (HX.out _ ((Fr.drew w10).trans h11)); have H11 := Lib.hid h11; clear h11))
      all_goals (go_wp2_with fail; go_ret; exact ⟨rfl, HF10.out.trans ((Fr.drew w10).trans H11.out)⟩)
    · have g : (t == t') = false := beq_eq_false_iff_ne.2 hc
      clear hc
      go_region_held3 (fun w' => w'.cell? ⟨D, 0, none⟩ = some (.int .i64 k) ∧ w'.cell? ⟨D, 1, none⟩ = some (.int .i64 n) ∧ w'.cell? ⟨D, 2, none⟩ = some (.int .i64 t) ∧ w'.cell? ⟨D, 3, none⟩ = some (.string (S s)) ∧ w'.cell? ⟨A, 0, none⟩ = some (.int .i64 k) ∧ w'.cell? ⟨A, 1, none⟩ = some (.int .i64 n) ∧ w'.cell? ⟨A, 2, none⟩ = some (.int .i64 t) ∧ w'.cell? ⟨A, 3, none⟩ = some (.string (S s)) ∧ w'.cell? ⟨A + 1, 0, none⟩ = some (.int .i64 k) ∧ w'.cell? ⟨A + 1, 1, none⟩ = some (.int .i64 n) ∧ w'.cell? ⟨A + 1, 2, none⟩ = some (.int .i64 t') ∧ w'.cell? ⟨A + 1, 3, none⟩ = some (.string (S s')))
        (first | exact HCD.out | exact HC2.out)
        (first | (go_at_call 15; refine (HTb.out _ (HTt.out _ (Fr.drew w10))).mono ?_; rintro e w11 ⟨rfl, h11⟩; have HC2 := Lib.hid (HX.out _ ((Fr.drew w10).trans h11)); have H11 := Lib.hid h11; clear h11))
      all_goals (go_wp2_with fail; go_ret; exact ⟨rfl, HF10.out.trans ((Fr.drew w10).trans H11.out)⟩)
    · have g : (s == s') = false := beq_eq_false_iff_ne.2 hc
      clear hc
      go_region_held3 (fun w' => w'.cell? ⟨D, 0, none⟩ = some (.int .i64 k) ∧ w'.cell? ⟨D, 1, none⟩ = some (.int .i64 n) ∧ w'.cell? ⟨D, 2, none⟩ = some (.int .i64 t) ∧ w'.cell? ⟨D, 3, none⟩ = some (.string (S s)) ∧ w'.cell? ⟨A, 0, none⟩ = some (.int .i64 k) ∧ w'.cell? ⟨A, 1, none⟩ = some (.int .i64 n) ∧ w'.cell? ⟨A, 2, none⟩ = some (.int .i64 t) ∧ w'.cell? ⟨A, 3, none⟩ = some (.string (S s)) ∧ w'.cell? ⟨A + 1, 0, none⟩ = some (.int .i64 k) ∧ w'.cell? ⟨A + 1, 1, none⟩ = some (.int .i64 n) ∧ w'.cell? ⟨A + 1, 2, none⟩ = some (.int .i64 t) ∧ w'.cell? ⟨A + 1, 3, none⟩ = some (.string (S s')))
        (first | exact HCD.out | exact HC2.out)
        (first | (go_at_call 15; refine (HTb.out _ (HTt.out _ (Fr.drew w10))).mono ?_; rintro e w11 ⟨rfl, h11⟩; have HC2 := Lib.hid (HX.out _ ((Fr.drew w10).trans h11)); have H11 := Lib.hid h11; clear h11))
      all_goals (go_wp2_with fail; go_ret; exact ⟨rfl, HF10.out.trans ((Fr.drew w10).trans H11.out)⟩)
end Go.Proofs.YtdaiapopncpilaaDoor
