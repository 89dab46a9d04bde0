/-
  View: the law's small.
-/
import Derived.Test.YtapdabebiinnnaaVq
namespace Go.Proofs.Ytapdabebiinnnaa
open Go.RowKit Go.MapKept Go.Maps Go.WideMaps

section
variable {W w : World} {R : Nat} {U : Thing}
theorem sm_s1 (h : Has W w ((RingT R []).sep U)) : Calls Try.prog 16 #[.pointer (some ⟨R, 0, none⟩), .int .i64 3, .string ⟨#[49, 59, 50, 59, 55, 59, 48, 58, 44]⟩] w fun e w' => e = .returned (.agg #[.int .i64 3, .string (S tA), .int .i64 0]) ∧ Has W w' ((RingT R [(3, tA)]).sep U) := h.sign 3 tA (by decide) (by decide)
theorem sm_s2 (h : Has W w ((RingT R [(3, tA)]).sep U)) : Calls Try.prog 16 #[.pointer (some ⟨R, 0, none⟩), .int .i64 3, .string ⟨#[48, 59, 48, 59, 48, 59, 53, 58, 49, 58, 97, 44, 120, 44]⟩] w fun e w' => e = .returned (.agg #[.int .i64 3, .string (S tB), .int .i64 1]) ∧ Has W w' ((RingT R [(3, tA), (3, tB)]).sep U) := h.sign 3 tB (by decide) (by decide)
theorem sm_s3 (h : Has W w ((RingT R [(3, tA), (3, tB)]).sep U)) : Calls Try.prog 16 #[.pointer (some ⟨R, 0, none⟩), .int .i64 3, .string ⟨#[50, 59, 48, 59, 48, 59, 49, 58, 97, 44]⟩] w fun e w' => e = .returned (.agg #[.int .i64 3, .string (S tC), .int .i64 2]) ∧ Has W w' ((RingT R [(3, tA), (3, tB), (3, tC)]).sep U) := h.sign 3 tC (by decide) (by decide)
theorem sm_s4 (h : Has W w ((RingT R [(3, tA), (3, tB), (3, tC)]).sep U)) : Calls Try.prog 16 #[.pointer (some ⟨R, 0, none⟩), .int .i64 3, .string ⟨#[49, 59, 49, 59, 56, 59, 48, 58, 44]⟩] w fun e w' => e = .returned (.agg #[.int .i64 3, .string (S tD), .int .i64 3]) ∧ Has W w' ((RingT R q4).sep U) := h.sign 3 tD (by decide) (by decide)
theorem sm_n (h : Has W w ((RingT R q4).sep U)) : Calls Try.prog 6 #[.pointer (some ⟨R, 0, none⟩), .int .i64 3] w fun e w' => ∃ B, e = .returned (.pointer (some ⟨B, 0, none⟩)) ∧ Has W w' (VR B R [] U) := vnew_yes h R 3 (by decide)
end
set_option maxHeartbeats 400000 in
set_option maxRecDepth 100000 in
theorem small_any (w : World) : Calls Try.prog 4 #[] w fun e w' => e = .returned (.bool true) ∧ Fr w w' := by
  go_enter Try.func4, Try.ntmps4
  go_upto_region 4 with (go_at_call 5; refine ((Has.here w).ring).mono ?_; rintro e w1 ⟨R, rfl, h1⟩)
  have H1 := Lib.hid h1
  clear h1
  go_upto_region 5 with (go_at_call 16; refine (sm_s1 H1.out).mono ?_; rintro e w2 ⟨rfl, h2⟩; have H2 := Lib.hid h2; clear h2)
  have H3 := Lib.hid ((H2.out.box 41 #[.int .i64 3, .string (S tA), .int .i64 0]).turn)
  obtain ⟨A, hA⟩ : ∃ A, A = w2.heap.size := ⟨_, rfl⟩
  rw [← hA] at H3 ⊢
  generalize w2.alloc (.cells #[.int .i64 3, .string (S tA), .int .i64 0] 41) = w3 at *
  clear hA H1 H2
  go_upto_region 6 with (go_at_call 16; refine (sm_s2 H3.out).mono ?_; rintro e w4 ⟨rfl, h4⟩; have H4 := Lib.hid h4; clear h4)
  have H5 := Lib.hid ((H4.out.box 41 #[.int .i64 3, .string (S tB), .int .i64 1]).turn)
  obtain ⟨B, hB⟩ : ∃ B, B = w4.heap.size := ⟨_, rfl⟩
  rw [← hB] at H5 ⊢
  generalize w4.alloc (.cells #[.int .i64 3, .string (S tB), .int .i64 1] 41) = w5 at *
  clear hB H3 H4
  go_upto_region 7 with (go_at_call 16; refine (sm_s3 H5.out).mono ?_; rintro e w6 ⟨rfl, h6⟩; have H6 := Lib.hid h6; clear h6)
  have H7 := Lib.hid ((H6.out.box 41 #[.int .i64 3, .string (S tC), .int .i64 2]).turn)
  obtain ⟨C, hC⟩ : ∃ C, C = w6.heap.size := ⟨_, rfl⟩
  rw [← hC] at H7 ⊢
  generalize w6.alloc (.cells #[.int .i64 3, .string (S tC), .int .i64 2] 41) = w7 at *
  clear hC H5 H6
  go_upto_region 8 with (go_at_call 16; refine (sm_s4 H7.out).mono ?_; rintro e w8 ⟨rfl, h8⟩; have H8 := Lib.hid h8; clear h8)
  have H9 := Lib.hid ((H8.out.box 41 #[.int .i64 3, .string (S tD), .int .i64 3]).turn)
  obtain ⟨D, hD⟩ : ∃ D, D = w8.heap.size := ⟨_, rfl⟩
  rw [← hD] at H9 ⊢
  generalize w8.alloc (.cells #[.int .i64 3, .string (S tD), .int .i64 3] 41) = w9 at *
  clear hD H7 H8
  obtain ⟨U, hU⟩ : ∃ U : Thing, U = ((BoxT 41 D #[.int .i64 3, .string (S tD), .int .i64 3]).sep ((BoxT 41 C #[.int .i64 3, .string (S tC), .int .i64 2]).sep ((BoxT 41 B #[.int .i64 3, .string (S tB), .int .i64 1]).sep ((BoxT 41 A #[.int .i64 3, .string (S tA), .int .i64 0]).sep .emp)))) := ⟨_, rfl⟩
  rw [← hU] at H9
  have HBX : Hid (∀ (w' : World) (X Y : Thing), Has w w' (X.sep (Y.sep U)) → (w'.cell? ⟨A, 0, none⟩ = some (.int .i64 3) ∧ w'.cell? ⟨A, 1, none⟩ = some (.string (S tA)) ∧ w'.cell? ⟨A, 2, none⟩ = some (.int .i64 0)) ∧ (w'.cell? ⟨B, 0, none⟩ = some (.int .i64 3) ∧ w'.cell? ⟨B, 1, none⟩ = some (.string (S tB)) ∧ w'.cell? ⟨B, 2, none⟩ = some (.int .i64 1)) ∧
      (w'.cell? ⟨C, 0, none⟩ = some (.int .i64 3) ∧ w'.cell? ⟨C, 1, none⟩ = some (.string (S tC)) ∧ w'.cell? ⟨C, 2, none⟩ = some (.int .i64 2)) ∧ (w'.cell? ⟨D, 0, none⟩ = some (.int .i64 3) ∧ w'.cell? ⟨D, 1, none⟩ = some (.string (S tD)) ∧ w'.cell? ⟨D, 2, none⟩ = some (.int .i64 3))) := Lib.hid fun w' X Y h => by
    have h1 := h.right.right
    rw [hU] at h1
    have d := h1.boxed
    have c := h1.right.boxed
    have b := h1.right.right.boxed
    have a := h1.right.right.right.boxed
    exact ⟨⟨cellOf a rfl, cellOf a rfl, cellOf a rfl⟩, ⟨cellOf b rfl, cellOf b rfl, cellOf b rfl⟩, ⟨cellOf c rfl, cellOf c rfl, cellOf c rfl⟩, ⟨cellOf d rfl, cellOf d rfl, cellOf d rfl⟩⟩
  clear hU
  go_upto_region 9 with (go_at_call 6; refine (sm_n H9.out).mono ?_; rintro e wa ⟨V, rfl, ha⟩; have HA := Lib.hid ha; clear ha)
  go_upto_region 11 with (first
    | (go_at_call 6; refine (vnew_no _ _ _ (by first | exact .inl rfl | exact .inr (by decide))).mono ?_; first
       | (rintro e wc ⟨rfl, hfc⟩; have HFC := Lib.hid (HFB.out.trans hfc); clear hfc)
       | (rintro e wb ⟨rfl, hfb⟩; have HFB := Lib.hid hfb; clear hfb)))
  have HC := Lib.hid (HA.out.fr HFC.out)
  clear HFB HFC HA H9
  obtain ⟨⟨a0, a1, a2⟩, ⟨b0, b1, b2⟩, ⟨c0, c1, c2⟩, ⟨d0, d1, d2⟩⟩ := HBX.out _ _ _ HC.out
  go_upto_region 12 with (first
    | (go_at_call 13; refine (sm_5 H4.out).mono ?_; rintro e w5' ⟨rfl, h5⟩; have H5 := Lib.hid h5; clear h5)
    | (go_at_call 13; refine (sm_4 H3.out).mono ?_; rintro e w4' ⟨rfl, h4⟩; have H4 := Lib.hid h4; obtain ⟨⟨a0, a1, a2⟩, ⟨b0, b1, b2⟩, ⟨c0, c1, c2⟩, ⟨d0, d1, d2⟩⟩ := HBX.out _ _ _ h4; clear h4)
    | (go_at_call 13; refine (sm_3 H2.out).mono ?_; rintro e w3' ⟨rfl, h3⟩; have H3 := Lib.hid h3; obtain ⟨⟨a0, a1, a2⟩, ⟨b0, b1, b2⟩, ⟨c0, c1, c2⟩, ⟨d0, d1, d2⟩⟩ := HBX.out _ _ _ h3; clear h3)
    | (go_at_call 13; refine (sm_2 H1.out).mono ?_; rintro e w2' ⟨rfl, h2⟩; have H2 := Lib.hid h2; obtain ⟨⟨a0, a1, a2⟩, ⟨b0, b1, b2⟩, ⟨c0, c1, c2⟩, ⟨d0, d1, d2⟩⟩ := HBX.out _ _ _ h2; clear h2)
    | (go_at_call 13; refine (sm_1 HC.out).mono ?_; rintro e w1' ⟨rfl, h1⟩; have H1 := Lib.hid h1; obtain ⟨⟨a0, a1, a2⟩, ⟨b0, b1, b2⟩, ⟨c0, c1, c2⟩, ⟨d0, d1, d2⟩⟩ := HBX.out _ _ _ h1; clear h1))
  clear a0 a1 a2 b0 b1 b2 c0 c1 c2 d0 d1 d2 HC H1 H2 H3 H4
  obtain ⟨_, _, _, ⟨d0, d1, d2⟩⟩ := HBX.out _ _ _ H5.out
  go_upto_region 13 with (go_at_call 9; refine (sm_size H5.out).mono ?_; rintro e w12 ⟨rfl, hf⟩; have H12 := Lib.hid (H5.out.fr hf); clear hf H5)
  go_upto_region 14 with (go_at_call 10; refine (sm_t0 H12.out).mono ?_; rintro e w13 ⟨rfl, rfl⟩)
  go_upto_region 15 with (go_at_call 10; refine (sm_t1 H12.out).mono ?_; rintro e w14 ⟨rfl, rfl⟩)
  go_upto_region 16 with (go_at_call 11; refine (sm_a H12.out).mono ?_; rintro e w15 ⟨rfl, rfl⟩)
  go_upto_region 17 with (go_at_call 11; refine (sm_b H12.out).mono ?_; rintro e w16 ⟨rfl, rfl⟩)
  obtain ⟨_, _, _, ⟨d0, d1, d2⟩⟩ := HBX.out _ _ _ H12.out
  go_upto_region 18 with (go_at_call 17; refine (sm_c H12.out).mono ?_; rintro e w17 ⟨rfl, hf⟩; have H17 := Lib.hid (H12.out.fr hf); clear hf H12)
  have hx := Fr.alloc w17 (.cells #[.int .i64 3, .string (S tA), .int .i64 0] 41)
  have HX0 := Lib.hid (show ∀ w', Fr (w17.alloc (.cells #[.int .i64 3, .string (S tA), .int .i64 0] 41)) w' → w'.cell? ⟨w17.heap.size, 0, none⟩ = some (.int .i64 3) ∧ w'.cell? ⟨w17.heap.size, 1, none⟩ = some (.string (S tA)) ∧ w'.cell? ⟨w17.heap.size, 2, none⟩ = some (.int .i64 0) from fun w' hf => ⟨hf.cell (cellOf (heap_alloc_new w17 _) rfl), hf.cell (cellOf (heap_alloc_new w17 _) rfl), hf.cell (cellOf (heap_alloc_new w17 _) rfl)⟩)
  have H18 := Lib.hid (H17.out.fr hx)
  obtain ⟨X, hX⟩ : ∃ X, X = w17.heap.size := ⟨_, rfl⟩
  rw [← hX] at HX0 ⊢
  clear hX hx H17 d0 d1 d2
  generalize w17.alloc (.cells #[.int .i64 3, .string (S tA), .int .i64 0] 41) = w18 at *
  go_upto_region 19 with (first
    | (go_at_call 12; first
        | (refine (sm_k2 HK.out).mono ?_; rintro e w22 ⟨rfl, rfl⟩)
        | (refine (sm_k1 H20.out).mono ?_; rintro e w21 ⟨rfl, rfl⟩; have HK := Lib.hid H20.out))
    | (go_at_call 15; first
        | (refine (sm_g6 H19.out).mono ?_; rintro e w20 ⟨rfl, hf⟩; have H20 := Lib.hid (H19.out.fr hf); have HF20 := Lib.hid (HF19.out.trans hf); clear hf)
        | (refine (sm_g9 H18.out).mono ?_; rintro e w19 ⟨rfl, hf⟩; have H19 := Lib.hid (H18.out.fr hf); have HF19 := Lib.hid hf; clear hf)))
  obtain ⟨⟨a0, a1, a2⟩, _⟩ := HBX.out _ _ _ H20.out
  obtain ⟨x0, x1, x2⟩ := HX0.out _ HF20.out
  go_wp2_with (first
    | (go_at_call 18; refine (vkey HL.out).mono ?_; rintro e w24 ⟨rfl, rfl⟩)
    | (go_at_call 14; refine (vclaims H20.out (by decide)).mono ?_; rintro e w23 ⟨cv, rfl, hcv, hf⟩; have HL := Lib.hid (H20.out.fr hf); obtain ⟨cg, cp, rfl⟩ := row_form hcv))
  go_ret
  refine ⟨?_, HL.out.toFr⟩
  rfl
end Go.Proofs.Ytapdabebiinnnaa
