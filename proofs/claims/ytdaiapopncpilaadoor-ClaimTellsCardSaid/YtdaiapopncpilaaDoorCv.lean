/-
  The walk of ClaimTells.
-/
import Derived.Test.YtdaiapopncpilaaDoorCf
import Derived.Test.YtdaiapopncpilaaDoorCu
namespace Go.Proofs.YtdaiapopncpilaaDoor
open Go.RowKit

theorem readV_form (o : Option C) : ∃ (c : C) (e : Int), readV o = .tuple #[.agg #[.int .i64 c.k, .int .i64 c.n, .int .i64 c.t, .string (S c.s)], .int .i64 e] := by
  cases o with
  | none => exact ⟨zeroC, 2, rfl⟩
  | some c => exact ⟨c, 0, rfl⟩
theorem keyV_form (y : Option Txt) : ∃ (q : Txt) (b : Bool), keyV y = .tuple #[.string (S q), .bool b] := by
  cases y with
  | none => exact ⟨[], false, rfl⟩
  | some q => exact ⟨q, true, rfl⟩
set_option maxHeartbeats 8000000 in
theorem tells_any (a b : C) (z : Txt) (w : World) (ha : a.fits) (hb : b.fits) (hz : z.length ≤ 9223372036854775807) (ht : Tab w) :
    Calls Tryd.prog 3 #[a.v, b.v, .string (S z)] w fun e w' => e = .returned (.bool true) ∧ Fr w w' := by
  have HR1 := Lib.hid (fun w' => right_any a w' ha)
  have HR2 := Lib.hid (fun w' => rright_any a w' ha)
  have HT1 := Lib.hid (fun w' ht' => textC_any a w' ha ht')
  have HT2 := Lib.hid (fun w' => rtextC_any a w' ha)
  have HC1 := Lib.hid (fun w' => contra_any a b w' ha hb)
  have HC2 := Lib.hid (fun w' => rcontra_any a b w' ha hb)
  have HD1 := Lib.hid (fun w' => read_any z w' hz)
  have HD2 := Lib.hid (fun w' => rread_any z w' hz)
  have HK1 := Lib.hid (fun w' => key_any z w' (by omega))
  have HK2 := Lib.hid (fun w' => rkey_any z w' (by omega))
  obtain ⟨⟨x1, x2, x3, x4⟩, er, hrv⟩ := readV_form (readC z)
  obtain ⟨q, is, hkv⟩ := keyV_form (key z)
  simp only at hrv
  rw [hrv] at HD1 HD2
  rw [hkv] at HK1 HK2
  clear hrv hkv
  obtain ⟨w1, hw1, hA, hB, hF⟩ := boxes w a b
  have HF := Lib.hid hF
  have HT := Lib.hid (show ∀ w', Fr w1 w' → Tab w' from fun w' h => ht.fr (hF.trans h))
  have HCC : Hid (∀ w', Fr w1 w' → CAt w' w.heap.size a ∧ CAt w' (w.heap.size + 1) b) := Lib.hid fun w' h => ⟨hA.fr h, hB.fr h⟩
  clear hF ha hb hA hB ht hz
  generalize contra a b = x at *
  generalize okB a = o at *
  generalize textR a = tx at *
  have hoo : (o == o) = true := by cases o <;> rfl
  have hxx : (x == x) = true := by cases x <;> rfl
  have hii : (is == is) = true := by cases is <;> rfl
  obtain ⟨k, n, t, s⟩ := a
  obtain ⟨k', n', t', s'⟩ := b
  unfold C.v at HR1 HR2 HT1 HT2 HC1 HC2
  unfold CAt at HCC
  simp only at hw1 HR1 HR2 HT1 HT2 HC1 HC2 HCC
  unfold C.v
  simp only
  go_enter Tryd.func3, Tryd.ntmps3
  go_wp2_with fail
  rw [← hw1]
  generalize w.heap.size = A at *
  clear hw1
  refine (small_any _ (HT.out _ (Fr.refl _))).mono ?_
  rintro e w2 ⟨rfl, h2⟩
  go_wp2_with fail
  refine (HD1.out _).mono ?_
  rintro e w3 ⟨rfl, h3⟩
  have hD1 := CAt.new w3 ⟨x1, x2, x3, x4⟩
  simp only at hD1
  replace h3 := (h2.trans h3).trans (Fr.alloc w3 (.cells #[.int .i64 x1, .int .i64 x2, .int .i64 x3, .string (S x4)] 23))
  clear h2
  go_wp2_with fail
  generalize w3.alloc (.cells #[.int .i64 x1, .int .i64 x2, .int .i64 x3, .string (S x4)] 23) = w4 at *
  generalize w3.heap.size = D1 at *
  refine (HD2.out _).mono ?_
  rintro e w5 ⟨rfl, h5⟩
  have hD2 := CAt.new w5 ⟨x1, x2, x3, x4⟩
  simp only at hD2
  replace h5 := h5.trans (Fr.alloc w5 (.cells #[.int .i64 x1, .int .i64 x2, .int .i64 x3, .string (S x4)] 23))
  replace hD1 := hD1.fr h5
  replace h5 := h3.trans h5
  clear h3
  go_wp2_with fail
  generalize w5.alloc (.cells #[.int .i64 x1, .int .i64 x2, .int .i64 x3, .string (S x4)] 23) = w6 at *
  generalize w5.heap.size = D2 at *
  refine (HK1.out _).mono ?_
  rintro e w7 ⟨rfl, h7⟩
  go_wp2_with fail
  refine (HK2.out _).mono ?_
  rintro e w8 ⟨rfl, h8⟩
  replace h8 := h7.trans h8
  replace hD1 := hD1.fr h8
  replace hD2 := hD2.fr h8
  have h18 := h5.trans h8
  have HX : Hid (∀ w', Fr w8 w' → w'.cell? ⟨A, 0, none⟩ = some (.int .i64 k) ∧ w'.cell? ⟨A, 1, none⟩ = some (.int .i64 n) ∧ w'.cell? ⟨A, 2, none⟩ = some (.int .i64 t) ∧ w'.cell? ⟨A, 3, none⟩ = some (.string (S s)) ∧ w'.cell? ⟨D1, 0, none⟩ = some (.int .i64 x1) ∧ w'.cell? ⟨D1, 1, none⟩ = some (.int .i64 x2) ∧ w'.cell? ⟨D1, 2, none⟩ = some (.int .i64 x3) ∧ w'.cell? ⟨D1, 3, none⟩ = some (.string (S x4)) ∧ w'.cell? ⟨D2, 0, none⟩ = some (.int .i64 x1) ∧ w'.cell? ⟨D2, 1, none⟩ = some (.int .i64 x2) ∧ w'.cell? ⟨D2, 2, none⟩ = some (.int .i64 x3) ∧ w'.cell? ⟨D2, 3, none⟩ = some (.string (S x4))) := Lib.hid fun w' h =>
    let ⟨⟨p0, p1, p2, p3⟩, _⟩ := HCC.out w' (h18.trans h)
    let ⟨r0, r1, r2, r3⟩ := hD1.fr h
    let ⟨q0, q1, q2, q3⟩ := hD2.fr h
    ⟨p0, p1, p2, p3, r0, r1, r2, r3, q0, q1, q2, q3⟩
  have HX2 : Hid (∀ w', Fr w8 w' → w'.cell? ⟨A, 0, none⟩ = some (.int .i64 k) ∧ w'.cell? ⟨A, 1, none⟩ = some (.int .i64 n) ∧ w'.cell? ⟨A, 2, none⟩ = some (.int .i64 t) ∧ w'.cell? ⟨A, 3, none⟩ = some (.string (S s)) ∧ w'.cell? ⟨A + 1, 0, none⟩ = some (.int .i64 k') ∧ w'.cell? ⟨A + 1, 1, none⟩ = some (.int .i64 n') ∧ w'.cell? ⟨A + 1, 2, none⟩ = some (.int .i64 t') ∧ w'.cell? ⟨A + 1, 3, none⟩ = some (.string (S s'))) := Lib.hid fun w' h =>
    let ⟨⟨p0, p1, p2, p3⟩, q0, q1, q2, q3⟩ := HCC.out w' (h18.trans h)
    ⟨p0, p1, p2, p3, q0, q1, q2, q3⟩
  have HTt := Lib.hid (show ∀ w', Fr w8 w' → Tab w' from fun w' h => HT.out w' (h18.trans h))
  have HF8 := Lib.hid (HF.out.trans h18)
  have HCD := Lib.hid (HX.out _ (Fr.drew w8))
  obtain ⟨p0, p1, p2, p3, r0, r1, r2, r3, q0, q1, q2, q3⟩ := HX.out w8 (Fr.refl _)
  clear h5 h7 h8 h18 hD1 hD2 HCC HT HF HD1 HD2 HK1 HK2
  go_upto_region 6 with fail
  go_cut [16] (fun b wx => b = .bool true ∧ Hid (Fr w8 wx))
  case first =>
    go_region_held3 (fun w' => w'.cell? ⟨A, 0, none⟩ = some (.int .i64 k) ∧ w'.cell? ⟨A, 1, none⟩ = some (.int .i64 n) ∧ w'.cell? ⟨A, 2, none⟩ = some (.int .i64 t) ∧ w'.cell? ⟨A, 3, none⟩ = some (.string (S s)) ∧ w'.cell? ⟨D1, 0, none⟩ = some (.int .i64 x1) ∧ w'.cell? ⟨D1, 1, none⟩ = some (.int .i64 x2) ∧ w'.cell? ⟨D1, 2, none⟩ = some (.int .i64 x3) ∧ w'.cell? ⟨D1, 3, none⟩ = some (.string (S x4)) ∧ w'.cell? ⟨D2, 0, none⟩ = some (.int .i64 x1) ∧ w'.cell? ⟨D2, 1, none⟩ = some (.int .i64 x2) ∧ w'.cell? ⟨D2, 2, none⟩ = some (.int .i64 x3) ∧ w'.cell? ⟨D2, 3, none⟩ = some (.string (S x4)))
      (first | exact HCD.out | exact HC5.out | exact HC4.out | exact HC3.out | exact HC0.out)
      (first
        | (go_at_call 16; have hy := F3.out; refine (HT2.out _).mono ?_; rintro e w12 ⟨rfl, h12⟩; have F4 := Lib.hid (hy.trans h12); have HC5 := Lib.hid (HX.out _ F4.out); clear h12 hy)
        | (go_at_call 15; have hy := F2.out; refine (HT1.out _ (HTt.out _ hy)).mono ?_; rintro e w11 ⟨rfl, h11⟩; have F3 := Lib.hid (hy.trans h11); have HC4 := Lib.hid (HX.out _ F3.out); clear h11 hy)
        | (go_at_call 14; have hy := F1.out; refine (HR2.out _).mono ?_; rintro e w10 ⟨rfl, h10⟩; have F2 := Lib.hid (hy.trans h10); have HC3 := Lib.hid (HX.out _ F2.out); clear h10 hy)
        | (go_at_call 13; refine (HR1.out _).mono ?_; rintro e w9 ⟨rfl, h9⟩; have F1 := Lib.hid ((Fr.drew w8).trans h9); have HC0 := Lib.hid (HX.out _ F1.out); clear h9))
    all_goals (go_wp2_with fail; go_meet; exact ⟨rfl, F4⟩)
  case rest =>
    obtain ⟨rfl, hR5⟩ := hcut
    clear p0 p1 p2 p3 r0 r1 r2 r3 q0 q1 q2 q3 HCD
    obtain ⟨p0, p1, p2, p3, q0, q1, q2, q3⟩ := HX2.out wc hR5.out
    have HCD := Lib.hid (HX2.out _ (hR5.out.trans (Fr.drew wc)))
    clear HR1 HR2 HT1 HT2 HX HTt hoo
    go_upto_region 7 with fail
    go_region_held3 (fun w' => w'.cell? ⟨A, 0, none⟩ = some (.int .i64 k) ∧ w'.cell? ⟨A, 1, none⟩ = some (.int .i64 n) ∧ w'.cell? ⟨A, 2, none⟩ = some (.int .i64 t) ∧ w'.cell? ⟨A, 3, none⟩ = some (.string (S s)) ∧ w'.cell? ⟨A + 1, 0, none⟩ = some (.int .i64 k') ∧ w'.cell? ⟨A + 1, 1, none⟩ = some (.int .i64 n') ∧ w'.cell? ⟨A + 1, 2, none⟩ = some (.int .i64 t') ∧ w'.cell? ⟨A + 1, 3, none⟩ = some (.string (S s')))
      (first | exact HCD.out | exact HC5.out | exact HC4.out)
      (first
        | (go_at_call 18; have hy := F3.out; refine (HC2.out _).mono ?_; rintro e w12 ⟨rfl, h12⟩; have F4 := Lib.hid (hy.trans h12); have HC5 := Lib.hid (HX2.out _ F4.out); clear h12 hy)
        | (go_at_call 17; refine (HC1.out _).mono ?_; rintro e w11 ⟨rfl, h11⟩; have F3 := Lib.hid ((hR5.out.trans (Fr.drew wc)).trans h11); have HC4 := Lib.hid (HX2.out _ F3.out); clear h11))
    all_goals (go_wp2_with fail; go_ret; exact ⟨rfl, HF8.out.trans F4.out⟩)
end Go.Proofs.YtdaiapopncpilaaDoor
