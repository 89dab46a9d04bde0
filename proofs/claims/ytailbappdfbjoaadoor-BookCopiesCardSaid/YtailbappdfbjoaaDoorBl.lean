/-
  The law's small.
-/
import Derived.Test.YtailbappdfbjoaaDoorBk
namespace Go.Proofs.YtailbappdfbjoaaDoor
open Go.RowKit Go.MapKept Go.Maps Go.WideMaps

theorem sm_text (x : UInt8) (w : World) (hT : Tab w) : Calls Tryd.prog 31 #[.string ⟨#[x]⟩] w fun e w' => e = .returned (.string (S [49, 58, x, 44])) ∧ Fr w w' :=
  (text_any [x] w (by show 1 ≤ _; omega) hT).mono fun _ _ ⟨he, hf⟩ => ⟨by rw [he, tk], hf⟩
theorem sm_ap1 {W w : World} {B R : Nat} {q : List Sd} {U : Thing} (h : Has W w ((BookT B R s0 q).sep U)) :
    Calls Tryd.prog 26 #[.pointer (some ⟨B, 0, none⟩), .string (S eK)] w fun e w' => e = .returned (.tuple #[.int .i64 0, .int .i64 0]) ∧ Has W w' ((BookT B R s1 q).sep U) := by
  have := bappend h eK (by decide) (by decide)
  rwa [ap_1.1, ap_1.2.1, ap_1.2.2] at this
theorem sm_ap2 {W w : World} {B R : Nat} {q : List Sd} {U : Thing} (h : Has W w ((BookT B R s2 q).sep U)) :
    Calls Tryd.prog 26 #[.pointer (some ⟨B, 0, none⟩), .string (S [49, 58, 106, 44])] w fun e w' => e = .returned (.tuple #[.int .i64 1, .int .i64 0]) ∧ Has W w' ((BookT B R s3 q).sep U) := by
  have := bappend h eJ (by decide) (by decide)
  rwa [ap_2.1, ap_2.2.1, ap_2.2.2] at this
theorem sm_ab1 {W w : World} {B R : Nat} {q : List Sd} {U : Thing} (h : Has W w ((BookT B R s1 q).sep U)) (hT : Tab W) (hq : q.length ≤ 1000000) :
    Calls Tryd.prog 27 #[.pointer (some ⟨B, 0, none⟩), .string ⟨#[107]⟩, .int .i64 0] w fun e w' => e = .returned (.tuple #[sgV (signR q (3, textR ⟨2, 0, 0, [107]⟩)), .int .i64 0]) ∧ Has W w' ((BookT B R s1 (signL q (3, textR ⟨2, 0, 0, [107]⟩))).sep U) := by
  have := babsent h hT [107] 0 ok_1.1 hq
  rwa [ab_1.1, ab_1.2] at this
theorem sm_ab2 {W w : World} {B R : Nat} {q : List Sd} {U : Thing} (h : Has W w ((BookT B R s1 q).sep U)) (hT : Tab W) (hq : q.length ≤ 1000000) :
    Calls Tryd.prog 27 #[.pointer (some ⟨B, 0, none⟩), .string ⟨#[107]⟩, .int .i64 1] w fun e w' => e = .returned (.tuple #[sgV (0, [], 0), .int .i64 5]) ∧ Has W w' ((BookT B R s1 q).sep U) := by
  have := babsent h hT [107] 1 ok_1.1 hq
  rwa [ab_2.1, ab_2.2] at this
noncomputable def e5 : Sd := (3, textR ⟨1, 1, 5, []⟩)
noncomputable def e6 : Sd := (3, textR ⟨1, 2, 6, []⟩)
theorem sm_hd1 {W w : World} {B R : Nat} {q : List Sd} {U : Thing} (h : Has W w ((BookT B R s1 q).sep U)) (hT : Tab W) (hq : q.length ≤ 1000000) :
    Calls Tryd.prog 32 #[.pointer (some ⟨B, 0, none⟩), .int .i64 5] w fun e w' => e = .returned (.tuple #[sgV (signR q e5), .int .i64 0]) ∧ Has W w' ((BookT B R s2 (signL q e5)).sep U) := by
  have := bhead h hT 5 ok_1.1 hq
  rwa [hd_1.1, hd_1.2.1, hd_1.2.2] at this
theorem sm_hd2 {W w : World} {B R : Nat} {q : List Sd} {U : Thing} (h : Has W w ((BookT B R s2 q).sep U)) (hT : Tab W) (hq : q.length ≤ 1000000) :
    Calls Tryd.prog 32 #[.pointer (some ⟨B, 0, none⟩), .int .i64 5] w fun e w' => e = .returned (.tuple #[sgV (signR q e5), .int .i64 0]) ∧ Has W w' ((BookT B R s2 (signL q e5)).sep U) := by
  have := bhead h hT 5 ok_1.2.1 hq
  rwa [hd_2.1, hd_2.2.1, hd_2.2.2] at this
theorem sm_hd3 {W w : World} {B R : Nat} {q : List Sd} {U : Thing} (h : Has W w ((BookT B R s3 q).sep U)) (hT : Tab W) (hq : q.length ≤ 1000000) :
    Calls Tryd.prog 32 #[.pointer (some ⟨B, 0, none⟩), .int .i64 5] w fun e w' => e = .returned (.tuple #[sgV (0, [], 0), .int .i64 7]) ∧ Has W w' ((BookT B R s3 q).sep U) := by
  have := bhead h hT 5 ok_1.2.2 hq
  rwa [hd_3.1, hd_3.2.1, hd_3.2.2] at this
theorem sm_hd4 {W w : World} {B R : Nat} {q : List Sd} {U : Thing} (h : Has W w ((BookT B R s3 q).sep U)) (hT : Tab W) (hq : q.length ≤ 1000000) :
    Calls Tryd.prog 32 #[.pointer (some ⟨B, 0, none⟩), .int .i64 6] w fun e w' => e = .returned (.tuple #[sgV (signR q e6), .int .i64 0]) ∧ Has W w' ((BookT B R s4 (signL q e6)).sep U) := by
  have := bhead h hT 6 ok_1.2.2 hq
  rwa [hd_4.1, hd_4.2.1, hd_4.2.2] at this
theorem Has.bvalid {W w : World} {B R : Nat} {s : BS} {q : List Sd} {U : Thing} (h : Has W w ((BookT B R s q).sep U)) (g : Sg) (hq : q.length ≤ 1000000) :
    Calls Tryd.prog 21 #[.pointer (some ⟨R, 0, none⟩), sgV g] w fun r w' => r = .returned (.bool (holds q g)) ∧ Fr w w' := by
  obtain ⟨M, ev, m, hb⟩ := h.bopen
  exact Has.valid hb g hq
theorem signL_len (q : List Sd) (e : Sd) : (signL q e).length ≤ q.length + 1 := by
  unfold signL
  split
  · exact (addL_len q e).2
  · omega

set_option maxHeartbeats 4000000 in
set_option maxRecDepth 100000 in
theorem small_any (w : World) (hT : Tab w) : Calls Tryd.prog 7 #[] w fun e w' => e = .returned (.bool true) ∧ Fr w w' := by
  have HT := Lib.hid hT
  clear hT
  have hadd := Lib.hid (fun w' : World => show (Op.stringOp .add (S [49, 58, 107, 44]) ⟨#[118]⟩).run Tryd.prog w' = .ok (.string (S eK)) w' from run_concat w' [49, 58, 107, 44] [118] (by decide))
  go_enter Tryd.func7, Tryd.ntmps7
  go_upto_region 4 with (go_at_call 9; refine ((Has.here w).ring).mono ?_; rintro e w1 ⟨R, rfl, h1⟩)
  have H1 := Lib.hid h1
  clear h1
  go_upto_region 7 with (go_at_call 11; refine (bnew_yes H1.out 3 (by decide)).mono ?_; rintro e w2 ⟨B, rfl, h2⟩)
  have H2 := Lib.hid (show Has w w2 ((BookT B R s0 []).sep .emp) from h2)
  clear h2 H1
  have ha := hadd.out
  go_upto_region 8 with (first
    | (go_at_call 31; refine (sm_text 107 _ (HT.out.fr H2.out.toFr)).mono ?_; rintro e w3 ⟨rfl, hf⟩)
    | (go_at_call 26; refine (sm_ap1 (H2.out.fr hf)).mono ?_; rintro e w4 ⟨rfl, h4⟩))
  have H4 := Lib.hid h4
  clear h4 H2 hf ha
  go_upto_region 9 with (go_at_call 27; refine (sm_ab1 H4.out HT.out (by decide)).mono ?_; rintro e w5 ⟨rfl, h5⟩
                         obtain ⟨g, hg⟩ : ∃ g, g = signR [] (3, textR ⟨2, 0, 0, [107]⟩) := ⟨_, rfl⟩
                         rw [← hg]
                         have H5 := Lib.hid h5
                         unfold sgV
                         clear hg h5)
  have H6 := Lib.hid (H5.out.fr (Fr.alloc w5 (.cells #[.int .i64 g.1, .string (S g.2.1), .int .i64 g.2.2] 37)))
  generalize w5.alloc (.cells #[.int .i64 g.1, .string (S g.2.1), .int .i64 g.2.2] 37) = w6 at *
  obtain ⟨q1, hq1⟩ : ∃ q1, q1 = signL [] (3, textR ⟨2, 0, 0, [107]⟩) := ⟨_, rfl⟩
  have hl1 : q1.length ≤ 1 := by rw [hq1]; exact signL_len _ _
  rw [← hq1] at H6
  have HL1 := Lib.hid hl1
  clear H5 H4 hq1 hl1
  go_upto_region 10 with (go_at_call 27; refine (sm_ab2 H6.out HT.out (by have := HL1.out; omega)).mono ?_; rintro e w7 ⟨rfl, h7⟩; have H7 := Lib.hid h7; unfold sgV; clear h7)
  have H8 := Lib.hid (H7.out.fr (Fr.alloc w7 (.cells #[.int .i64 0, .string (S []), .int .i64 0] 37)))
  generalize w7.alloc (.cells #[.int .i64 0, .string (S []), .int .i64 0] 37) = w8 at *
  clear H6 H7
  go_upto_region 11 with (go_at_call 32; refine (sm_hd1 H8.out HT.out (by have := HL1.out; omega)).mono ?_; rintro e w9 ⟨rfl, h9⟩
                          obtain ⟨x, hx⟩ : ∃ x, x = signR q1 e5 := ⟨_, rfl⟩
                          rw [← hx]
                          have HX := Lib.hid hx
                          have H9 := Lib.hid h9
                          unfold sgV
                          clear hx h9)
  have H10 := Lib.hid ((H9.out.box 37 #[.int .i64 x.1, .string (S x.2.1), .int .i64 x.2.2]).turn)
  obtain ⟨X, hX⟩ : ∃ X, X = w9.heap.size := ⟨_, rfl⟩
  rw [← hX] at H10 ⊢
  generalize w9.alloc (.cells #[.int .i64 x.1, .string (S x.2.1), .int .i64 x.2.2] 37) = w10 at *
  obtain ⟨q2, hq2⟩ : ∃ q2, q2 = signL q1 e5 := ⟨_, rfl⟩
  have hl2 : q2.length ≤ 2 := by have := HL1.out; have := signL_len q1 e5; rw [hq2]; omega
  rw [← hq2] at H10
  have HQ2 := Lib.hid hq2
  have HL2 := Lib.hid hl2
  clear H8 H9 hq2 hl2 hX
  go_upto_region 12 with (go_at_call 32; refine (sm_hd2 H10.out HT.out (by have := HL2.out; omega)).mono ?_; rintro e w11 ⟨rfl, h11⟩
                          rw [show signR q2 e5 = x from by rw [HX.out, HQ2.out]; have := signR_again (q := q1) (e := e5) []; rwa [List.append_nil] at this]
                          rw [show signL q2 e5 = q2 from signL_old (by rw [HQ2.out]; exact signL_mem (by decide))] at h11
                          have H11 := Lib.hid h11
                          unfold sgV
                          clear h11)
  have H12 := Lib.hid ((H11.out.box 37 #[.int .i64 x.1, .string (S x.2.1), .int .i64 x.2.2]).turn)
  obtain ⟨Y, hY⟩ : ∃ Y, Y = w11.heap.size := ⟨_, rfl⟩
  rw [← hY] at H12 ⊢
  generalize w11.alloc (.cells #[.int .i64 x.1, .string (S x.2.1), .int .i64 x.2.2] 37) = w12 at *
  clear H10 H11 hY
  go_upto_region 13 with (first
    | (go_at_call 31; refine (sm_text 106 _ (HT.out.fr H12.out.toFr)).mono ?_; rintro e w13 ⟨rfl, hf⟩)
    | (go_at_call 26; refine (sm_ap2 (H12.out.fr hf)).mono ?_; rintro e w14 ⟨rfl, h14⟩))
  have H14 := Lib.hid h14
  clear H12 hf h14
  go_upto_region 14 with (go_at_call 32; refine (sm_hd3 H14.out HT.out (by have := HL2.out; omega)).mono ?_; rintro e w15 ⟨rfl, h15⟩; have H15 := Lib.hid h15; unfold sgV; clear h15)
  have H16 := Lib.hid (H15.out.fr (Fr.alloc w15 (.cells #[.int .i64 0, .string (S []), .int .i64 0] 37)))
  generalize w15.alloc (.cells #[.int .i64 0, .string (S []), .int .i64 0] 37) = w16 at *
  clear H14 H15
  go_upto_region 15 with (go_at_call 32; refine (sm_hd4 H16.out HT.out (by have := HL2.out; omega)).mono ?_; rintro e w17 ⟨rfl, h17⟩
                          obtain ⟨g6, hg⟩ : ∃ g6, g6 = signR q2 e6 := ⟨_, rfl⟩
                          rw [← hg]
                          have H17 := Lib.hid h17
                          unfold sgV
                          clear hg h17)
  have H18 := Lib.hid (H17.out.fr (Fr.alloc w17 (.cells #[.int .i64 g6.1, .string (S g6.2.1), .int .i64 g6.2.2] 37)))
  generalize w17.alloc (.cells #[.int .i64 g6.1, .string (S g6.2.1), .int .i64 g6.2.2] 37) = w18 at *
  clear H16 H17
  obtain ⟨m, hm⟩ := signL_cut q2 e6
  have hx1 : x.1 = 3 := by rw [HX.out]; unfold signR; rw [if_pos (by decide)]; rfl
  have HV := Lib.hid (show holds (signL q2 e6) x = true by rw [hm, HX.out, HQ2.out]; exact holds_sign (by decide) m)
  have HL3 := Lib.hid (show (signL q2 e6).length ≤ 3 by have := HL2.out; have := signL_len q2 e6; omega)
  have hB1 := H18.out.right.boxed
  have hB2 := H18.out.right.right.boxed
  have y0 : w18.cell? ⟨Y, 0, none⟩ = some (.int .i64 x.1) := cellOf hB1 rfl
  have y1 : w18.cell? ⟨Y, 1, none⟩ = some (.string (S x.2.1)) := cellOf hB1 rfl
  have y2 : w18.cell? ⟨Y, 2, none⟩ = some (.int .i64 x.2.2) := cellOf hB1 rfl
  have x0 : w18.cell? ⟨X, 0, none⟩ = some (.int .i64 x.1) := cellOf hB2 rfl
  have x1 : w18.cell? ⟨X, 1, none⟩ = some (.string (S x.2.1)) := cellOf hB2 rfl
  have x2 : w18.cell? ⟨X, 2, none⟩ = some (.int .i64 x.2.2) := cellOf hB2 rfl
  obtain ⟨xk, xt, xm⟩ := x
  simp only at hx1 y0 y1 y2 x0 x1 x2
  subst hx1
  clear hB1 hB2 hm
  go_wp2_with (first
    | (go_at_call 21; refine (H18.out.bvalid (3, xt, xm) (by have := HL3.out; omega)).mono ?_; rw [HV.out]; rintro e w19 ⟨rfl, hf9⟩)
    | (go_at_call 17; refine (blen (H18.out.fr hf9)).mono ?_; rintro e w20 ⟨rfl, rfl⟩))
  go_ret
  exact ⟨rfl, (H18.out.fr hf9).toFr⟩
end Go.Proofs.YtailbappdfbjoaaDoor
