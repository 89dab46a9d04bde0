/-
  The examples of the documentation (small).
-/
import Derived.Test.YtdaiapopncpilaaDoorCe
namespace Go.Proofs.YtdaiapopncpilaaDoor
open Go.RowKit

theorem dec1 (u : Nat) (h : u < 10) : Lib.itoa (u : Int) = [UInt8.ofNat (48 + u)] := by
  rw [Lib.itoa_nonneg, Lib.decDigits, dif_pos h]
def xE : C := ⟨0, 2, 0, [49, 58, 97, 44, 120]⟩
def xT : C := ⟨1, 3, 7, []⟩
def xA (n : Int) : C := ⟨2, n, 0, [97]⟩
def xZ (n : Int) : C := ⟨1, n, 8, []⟩
def xB : C := ⟨1, 0, 0, [97]⟩
theorem numE1 (u : Nat) (h : u < 10) : (Wm.numE 59).f (u : Int) = [UInt8.ofNat (48 + u), 59] := by rw [Wm.numE_f, dec1 u h]; rfl
theorem ex_text : textC xE = [48, 59, 50, 59, 48, 59, 53, 58, 49, 58, 97, 44, 120, 44] := by
  unfold textC xE
  rw [show (0 : Int) = ((0 : Nat) : Int) from rfl, show (2 : Int) = ((2 : Nat) : Int) from rfl, numE1 0 (by omega), numE1 2 (by omega), Wm.textE_f]
  simp only [List.length_cons, List.length_nil]
  rw [dec1 _ (by omega)]; rfl
theorem ex_three : textC xT = [49, 59, 51, 59, 55, 59, 48, 58, 44] := by
  unfold textC xT
  rw [show (1 : Int) = ((1 : Nat) : Int) from rfl, show (3 : Int) = ((3 : Nat) : Int) from rfl, show (7 : Int) = ((7 : Nat) : Int) from rfl, numE1 1 (by omega), numE1 3 (by omega), numE1 7 (by omega), Wm.textE_f]
  simp only [List.length_nil]
  rw [dec1 _ (by omega)]; rfl
theorem ex_bad : textC ⟨1, 3, 7, [97]⟩ = [49, 59, 51, 59, 55, 59, 49, 58, 97, 44] := by
  unfold textC
  rw [show (1 : Int) = ((1 : Nat) : Int) from rfl, show (3 : Int) = ((3 : Nat) : Int) from rfl, show (7 : Int) = ((7 : Nat) : Int) from rfl, numE1 1 (by omega), numE1 3 (by omega), numE1 7 (by omega), Wm.textE_f]
  simp only [List.length_cons, List.length_nil]
  rw [dec1 _ (by omega)]; rfl
theorem key_a (q : Txt) : key (49 :: 58 :: 97 :: 44 :: q) = some [97] := by
  have h := key_eq (k := [97]) q (show ([97] : Txt).length ≤ 9223372036854775807 by decide)
  rw [Wm.textE_f] at h
  simp only [List.length_cons, List.length_nil] at h
  rw [dec1 _ (by omega)] at h
  exact h
theorem key_b : key [97] = none := key_none fun k q _ e => by
  have h := congrArg List.length e
  rw [Wm.textE_f] at h
  have := List.length_pos_iff.2 (Wm.itoa_ne k.length)
  simp only [List.length_append, List.length_cons, List.length_nil] at h
  omega
theorem ok_entry : okB xE = true := (okB_iff _).2 ⟨by decide, by decide, by decide, by decide, by decide, .inr (by show (key [49, 58, 97, 44, 120]).isSome = true; rw [key_a]; rfl)⟩
theorem ok_three : okB xT = true := (okB_iff _).2 ⟨by decide, by decide, by decide, by decide, by decide, .inl (by decide)⟩
theorem ok_xA (n : Int) (h0 : 0 ≤ n) (h1 : n ≤ 200000) : okB (xA n) = true := (okB_iff _).2 ⟨h0, h1, show (0 : Int) ≤ 0 by decide, show (0 : Int) ≤ limT 2 by decide, show ((([97] : Txt).length : Nat) : Int) ≤ limS 2 by decide, .inl (show (2 : Int) ≠ 0 by decide)⟩
theorem ok_xZ (n : Int) (h0 : 0 ≤ n) (h1 : n ≤ 200000) : okB (xZ n) = true := (okB_iff _).2 ⟨h0, h1, show (0 : Int) ≤ 8 by decide, show (8 : Int) ≤ limT 1 by decide, show ((([] : Txt).length : Nat) : Int) ≤ limS 1 by decide, .inl (show (1 : Int) ≠ 0 by decide)⟩
theorem ok_xB : okB xB = false := by
  cases h : okB xB with
  | false => rfl
  | true => exact absurd ((okB_iff _).1 h).2.2.2.2.1 (by decide)
theorem read_text (c : C) (h : c.dom) : readC (textC c) = if okB c then some c else none := by
  obtain ⟨h1, h2⟩ := text_rdD h
  unfold readC
  rw [h1, h2]; rfl
theorem ex_read1 : readC [49, 59, 51, 59, 55, 59, 48, 58, 44] = some xT := by rw [← ex_three]; exact readC_text ok_three
theorem ex_read2 : readC [49, 59, 51, 59, 55, 59, 49, 58, 97, 44] = none := by
  have hd : C.dom ⟨1, 3, 7, [97]⟩ := ⟨⟨by decide, by decide⟩, ⟨by decide, by decide⟩, ⟨by decide, by decide⟩, show ([97] : Txt).length ≤ 9223372036854775807 by decide⟩
  rw [← ex_bad, read_text _ hd, if_neg]
  intro h
  exact absurd ((okB_iff _).1 h).2.2.2.2.1 (by decide)
theorem pad_none (q : Txt) : ∀ v r, (Wm.numE 59).dom v → (48 :: 51 :: 59 :: q) ≠ (Wm.numE 59).f v ++ r := by
  intro v r hv e
  obtain ⟨u, rfl⟩ : ∃ u : Nat, v = u := ⟨v.toNat, by have := hv.1; omega⟩
  rw [Wm.numE_f, Lib.itoa_nonneg] at e
  have h := Wm.split_at Wm.isDig (l := [48, 51]) (m := Lib.decDigits u) (r := q) (s := r) (e := 59) (f := 59) (by decide) (Wm.dec_dig u) (by decide) (by decide) (by simpa using e)
  have h2 := Wm.dec_two (u := u) (by rw [← h.1]; decide)
  rw [← h.1] at h2
  exact h2 rfl
theorem ex_read3 : readC [49, 59, 48, 51, 59, 55, 59, 48, 58, 44] = none := by
  cases h : readC [49, 59, 48, 51, 59, 55, 59, 48, 58, 44] with
  | none => rfl
  | some d =>
    obtain ⟨h1, h2⟩ := readC_some.1 h
    have hd := ok_dom h1
    unfold textC at h2
    simp only [List.append_assoc] at h2
    have h3 : (Wm.numE 59).f ((1 : Nat) : Int) ++ [48, 51, 59, 55, 59, 48, 58, 44] = (Wm.numE 59).f d.k ++ ((Wm.numE 59).f d.n ++ ((Wm.numE 59).f d.t ++ Wm.textE.f d.s)) := by rw [numE1 1 (by omega)]; exact h2
    have h4 := (Wm.numE_pf num59' _ _ _ _ ⟨by decide, by decide⟩ hd.1 h3).2
    exact absurd h4 (pad_none [55, 59, 48, 58, 44] _ _ hd.2.1)
theorem ex_c1 : contra xE (xA 3) = true := by
  unfold contra den
  rw [ok_entry, ok_xA 3 (by decide) (by decide)]
  simp only [xE, xA, key_a]; decide
theorem ex_c2 : contra xE (xA 2) = false := by
  unfold contra den
  rw [ok_entry, ok_xA 2 (by decide) (by decide)]
  simp only [xE, xA, key_a]; decide
theorem ex_c3 : contra xT (xZ 2) = true := by
  unfold contra
  rw [ok_three, ok_xZ 2 (by decide) (by decide)]
  decide
theorem ex_c4 : contra xT (xZ 3) = false := by
  unfold contra
  rw [ok_three, ok_xZ 3 (by decide) (by decide)]
  decide
theorem ex_textR : textR xE = [48, 59, 50, 59, 48, 59, 53, 58, 49, 58, 97, 44, 120, 44] := by
  unfold textR; rw [ok_entry, ← ex_text]; rfl
theorem fit_E : xE.fits := ⟨⟨by decide, by decide⟩, ⟨by decide, by decide⟩, ⟨by decide, by decide⟩, by decide⟩
theorem fit_T : xT.fits := ⟨⟨by decide, by decide⟩, ⟨by decide, by decide⟩, ⟨by decide, by decide⟩, by decide⟩
theorem fit_B : xB.fits := ⟨⟨by decide, by decide⟩, ⟨by decide, by decide⟩, ⟨by decide, by decide⟩, by decide⟩
theorem fit_A (n : Int) (h : Wm.inInt n) : (xA n).fits := ⟨⟨show -9223372036854775808 ≤ (2 : Int) by decide, show (2 : Int) ≤ 9223372036854775807 by decide⟩, h, ⟨show -9223372036854775808 ≤ (0 : Int) by decide, show (0 : Int) ≤ 9223372036854775807 by decide⟩, show ([97] : Txt).length ≤ 9223372036854775807 by decide⟩
theorem fit_Z (n : Int) (h : Wm.inInt n) : (xZ n).fits := ⟨⟨show -9223372036854775808 ≤ (1 : Int) by decide, show (1 : Int) ≤ 9223372036854775807 by decide⟩, h, ⟨show -9223372036854775808 ≤ (8 : Int) by decide, show (8 : Int) ≤ 9223372036854775807 by decide⟩, show ([] : Txt).length ≤ 9223372036854775807 by decide⟩

set_option maxHeartbeats 4000000 in
theorem small_any (w : World) (ht : Tab w) :
    Calls Tryd.prog 8 #[] w fun e w' => e = .returned (.bool true) ∧ Fr w w' := by
  obtain ⟨w1, hw1, hA, hB, hF⟩ := boxes w xE xT
  have HC : Hid (∀ w', Fr w1 w' → CAt w' w.heap.size xE ∧ CAt w' (w.heap.size + 1) xT) := Lib.hid fun w' h => ⟨hA.fr h, hB.fr h⟩
  have HF := Lib.hid hF
  have HT : Hid (∀ w', Fr w1 w' → Tab w') := Lib.hid fun w' h => ht.fr (hF.trans h)
  unfold xE xT S at hw1
  clear hA hB hF ht
  go_enter Tryd.func8, Tryd.ntmps8
  go_wp2_with fail
  rw [← hw1]
  generalize w.heap.size = A at *
  refine (read_any [49, 59, 51, 59, 55, 59, 48, 58, 44] _ (by decide)).mono ?_
  rw [ex_read1]
  unfold readV C.v xT
  simp only
  rintro e w2 ⟨rfl, hf2⟩
  have hT := CAt.new w2 xT
  have h2 := hf2.trans (Fr.alloc w2 (.cells #[.int .i64 xT.k, .int .i64 xT.n, .int .i64 xT.t, .string (S xT.s)] 23))
  unfold xT at hT h2
  simp only at hT h2
  clear hf2 hw1
  go_wp2_with fail
  generalize w2.alloc (.cells #[.int .i64 1, .int .i64 3, .int .i64 7, .string (S [])] 23) = w3 at *
  generalize w2.heap.size = D at *
  refine (read_any [49, 59, 51, 59, 55, 59, 49, 58, 97, 44] _ (by decide)).mono ?_
  rw [ex_read2]
  unfold readV zeroC C.v
  simp only
  rintro e w4 ⟨rfl, hf4⟩
  have h4 := hf4.trans (Fr.alloc w4 (.cells #[.int .i64 0, .int .i64 0, .int .i64 0, .string (S [])] 23))
  clear hf4
  go_wp2_with fail
  generalize w4.alloc (.cells #[.int .i64 0, .int .i64 0, .int .i64 0, .string (S [])] 23) = w5 at *
  generalize w4.heap.size = D2 at *
  refine (read_any [49, 59, 48, 51, 59, 55, 59, 48, 58, 44] _ (by decide)).mono ?_
  rw [ex_read3]
  unfold readV zeroC C.v
  simp only
  rintro e w6 ⟨rfl, hf6⟩
  have h6 := hf6.trans (Fr.alloc w6 (.cells #[.int .i64 0, .int .i64 0, .int .i64 0, .string (S [])] 23))
  clear hf6
  go_wp2_with fail
  generalize w6.alloc (.cells #[.int .i64 0, .int .i64 0, .int .i64 0, .string (S [])] 23) = w7 at *
  generalize w6.heap.size = D3 at *
  refine (key_any [49, 58, 97, 44, 120] _ (by decide)).mono ?_
  rw [key_a]
  unfold keyV
  rintro e w8 ⟨rfl, h8⟩
  go_wp2_with fail
  refine (key_any [97] _ (by decide)).mono ?_
  rw [key_b]
  unfold keyV
  rintro e w9 ⟨rfl, h9⟩
  have h39 := ((h4.trans h6).trans h8).trans h9
  have h19 := h2.trans h39
  have HD : Hid (∀ w', Fr w9 w' → CAt w' D ⟨1, 3, 7, []⟩) := Lib.hid fun w' h => hT.fr (h39.trans h)
  have H19 := Lib.hid h19
  clear h2 h4 h6 h8 h9 hT h39 h19
  obtain ⟨⟨a0, a1, a2, a3⟩, ⟨b0, b1, b2, b3⟩⟩ := HC.out w9 H19.out
  obtain ⟨d0, d1, d2, d3⟩ := HD.out w9 (Fr.refl _)
  unfold xE at a0 a1 a2 a3
  unfold xT at b0 b1 b2 b3
  simp only at a0 a1 a2 a3 b0 b1 b2 b3 d0 d1 d2 d3
  go_wp2_with fail
  refine (textC_any xE _ fit_E (HT.out _ H19.out)).mono ?_
  rw [ex_textR]
  rintro e w10 ⟨rfl, h10⟩
  clear a0 a1 a2 a3 b0 b1 b2 b3
  obtain ⟨⟨a0, a1, a2, a3⟩, ⟨b0, b1, b2, b3⟩⟩ := HC.out w10 (H19.out.trans h10)
  unfold xE at a0 a1 a2 a3
  unfold xT at b0 b1 b2 b3
  simp only at a0 a1 a2 a3 b0 b1 b2 b3
  replace d0 := h10.cell d0
  replace d1 := h10.cell d1
  replace d2 := h10.cell d2
  replace d3 := h10.cell d3
  go_wp2_with fail
  refine (contra_any xE (xA 3) _ fit_E (fit_A 3 ⟨by decide, by decide⟩)).mono ?_
  rw [ex_c1]
  rintro e w11 ⟨rfl, h11⟩
  replace h11 := h10.trans h11
  clear h10 d0 d1 d2 d3
  clear a0 a1 a2 a3 b0 b1 b2 b3
  obtain ⟨⟨a0, a1, a2, a3⟩, ⟨b0, b1, b2, b3⟩⟩ := HC.out w11 (H19.out.trans h11)
  unfold xE at a0 a1 a2 a3
  unfold xT at b0 b1 b2 b3
  simp only at a0 a1 a2 a3 b0 b1 b2 b3
  go_wp2_with fail
  refine (contra_any xE (xA 2) _ fit_E (fit_A 2 ⟨by decide, by decide⟩)).mono ?_
  rw [ex_c2]
  rintro e w12 ⟨rfl, h12⟩
  replace h12 := h11.trans h12
  clear h11
  clear a0 a1 a2 a3 b0 b1 b2 b3
  obtain ⟨⟨a0, a1, a2, a3⟩, ⟨b0, b1, b2, b3⟩⟩ := HC.out w12 (H19.out.trans h12)
  unfold xE at a0 a1 a2 a3
  unfold xT at b0 b1 b2 b3
  simp only at a0 a1 a2 a3 b0 b1 b2 b3
  go_wp2_with fail
  refine (contra_any xT (xZ 2) _ fit_T (fit_Z 2 ⟨by decide, by decide⟩)).mono ?_
  rw [ex_c3]
  rintro e w13 ⟨rfl, h13⟩
  replace h13 := h12.trans h13
  clear h12
  clear a0 a1 a2 a3 b0 b1 b2 b3
  obtain ⟨⟨a0, a1, a2, a3⟩, ⟨b0, b1, b2, b3⟩⟩ := HC.out w13 (H19.out.trans h13)
  unfold xE at a0 a1 a2 a3
  unfold xT at b0 b1 b2 b3
  simp only at a0 a1 a2 a3 b0 b1 b2 b3
  go_wp2_with fail
  refine (contra_any xT (xZ 3) _ fit_T (fit_Z 3 ⟨by decide, by decide⟩)).mono ?_
  rw [ex_c4]
  rintro e w14 ⟨rfl, h14⟩
  replace h14 := h13.trans h14
  clear h13
  clear a0 a1 a2 a3 b0 b1 b2 b3
  obtain ⟨⟨a0, a1, a2, a3⟩, ⟨b0, b1, b2, b3⟩⟩ := HC.out w14 (H19.out.trans h14)
  unfold xE at a0 a1 a2 a3
  unfold xT at b0 b1 b2 b3
  simp only at a0 a1 a2 a3 b0 b1 b2 b3
  go_wp2_with fail
  refine (right_any xE _ fit_E).mono ?_
  rw [ok_entry]
  rintro e w15 ⟨rfl, h15⟩
  replace h15 := h14.trans h15
  clear h14
  go_wp2_with fail
  refine (right_any xB _ fit_B).mono ?_
  rw [ok_xB]
  rintro e w16 ⟨rfl, h16⟩
  go_wp2_with fail
  go_ret
  exact ⟨rfl, HF.out.trans (H19.out.trans (h15.trans h16))⟩
end Go.Proofs.YtdaiapopncpilaaDoor
