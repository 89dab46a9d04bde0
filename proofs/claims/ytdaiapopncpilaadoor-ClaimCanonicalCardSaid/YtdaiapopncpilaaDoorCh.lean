/-
  The walk of ClaimCanonical.
-/
import Derived.Test.YtdaiapopncpilaaDoorCf
namespace Go.Proofs.YtdaiapopncpilaaDoor
open Go.RowKit

theorem fits_ok {c : C} (h : okB c = true) : c.fits := by
  obtain ⟨h1, h2, h3, h4, h5, h6, h7⟩ := ok_bounds h
  exact ⟨⟨by omega, by omega⟩, ⟨by omega, by omega⟩, ⟨by omega, by omega⟩, by omega⟩
theorem key_front {s k : Txt} (h : key s = some k) : (Wm.textE.f k).length ≤ s.length ∧ s.take (Wm.textE.f k).length = Wm.textE.f k := by
  obtain ⟨q, _, rfl⟩ := key_some h
  exact ⟨by rw [List.length_append]; omega, by rw [List.take_left]⟩
set_option maxHeartbeats 4000000 in
theorem canonical_any (s : Txt) (w : World) (hs : s.length ≤ 9223372036854775807) (ht : Tab w) :
    Calls Tryd.prog 5 #[.string (S s)] w fun e w' => e = .returned (.bool true) ∧ Fr w w' := by
  have HRD := Lib.hid (fun w' => read_any s w' hs)
  obtain ⟨o, ho⟩ : ∃ o, o = readC s := ⟨_, rfl⟩
  rw [← ho] at HRD
  cases o with
  | none =>
    unfold readV zeroC C.v at HRD
    simp only at HRD
    clear ho
    go_enter Tryd.func5, Tryd.ntmps5
    go_wp2_with fail
    refine (small_any _ ht).mono ?_
    rintro e w2 ⟨rfl, h2⟩
    go_wp2_with fail
    refine (HRD.out _).mono ?_
    rintro e w3 ⟨rfl, h3⟩
    have hA := CAt.new w3 zeroC
    have h4 := (h2.trans h3).trans (Fr.alloc w3 (.cells #[.int .i64 zeroC.k, .int .i64 zeroC.n, .int .i64 zeroC.t, .string (S zeroC.s)] 23))
    unfold zeroC at hA h4
    obtain ⟨a0, a1, a2, a3⟩ := hA
    simp only at a0 a1 a2 a3 h4
    clear h2 h3 HRD
    go_wp2_with fail
    go_ret
    exact ⟨rfl, h4⟩
  | some c =>
    obtain ⟨hok, hst⟩ := readC_some.1 ho.symm
    have hfit := fits_ok hok
    have hb := ok_bounds hok
    have hlen := textC_len hok
    have HT := Lib.hid (fun w' ht' => textC_any c w' hfit ht')
    rw [show textR c = textC c from by unfold textR; rw [hok]; rfl, ← hst] at HT
    have HR := Lib.hid (fun w' => right_any c w' hfit)
    rw [hok] at HR
    have hsl := hb.2.2.2.2.2.2
    have HK := Lib.hid (fun w' => key_any c.s w' (by omega))
    obtain ⟨y, hy⟩ : ∃ y, y = key c.s := ⟨_, rfl⟩
    have hKO : c.k = 0 → y.isSome = true := by rw [hy]; exact ok_key hok
    have HKF : Hid (∀ k, y = some k → (Wm.textE.f k).length ≤ c.s.length ∧ c.s.take (Wm.textE.f k).length = Wm.textE.f k) := Lib.hid fun k h => key_front (by rw [← hy, h])
    have HKL : Hid (∀ k, y = some k → k.length ≤ c.s.length) := Lib.hid fun k h => key_len (by rw [← hy, h])
    rw [← hy] at HK
    have hs2 : s.length ≤ 20100 := by rw [hst]; exact hlen
    have HCV : Hid (∀ r : C, readV (some r) = .tuple #[r.v, .int .i64 0]) := Lib.hid fun _ => rfl
    rw [HCV.out] at HRD
    have HTT := Lib.hid ht
    clear ho hst hfit hb hlen hok hy hs ht HCV
    obtain ⟨k, n, t, z⟩ := c
    unfold C.v at HRD HT HR
    simp only at HRD HT HR HK hKO hsl HKF HKL
    have hkk : k = 0 ∨ (k != 0) = true := by
      by_cases h : k = 0
      · exact .inl h
      · exact .inr (bne_iff_ne.2 h)
    go_enter Tryd.func5, Tryd.ntmps5
    go_wp2_with fail
    refine (small_any _ HTT.out).mono ?_
    rintro e w2 ⟨rfl, h2⟩
    go_wp2_with fail
    refine (HRD.out _).mono ?_
    rintro e w3 ⟨rfl, h3⟩
    have hA := CAt.new w3 ⟨k, n, t, z⟩
    simp only at hA
    have h4 := (h2.trans h3).trans (Fr.alloc w3 (.cells #[.int .i64 k, .int .i64 n, .int .i64 t, .string (S z)] 23))
    have HT4 := Lib.hid (HTT.out.fr h4)
    obtain ⟨a0, a1, a2, a3⟩ := hA
    simp only at a0 a1 a2 a3
    clear h2 h3 HRD HTT
    go_wp2_with fail
    generalize w3.alloc (.cells #[.int .i64 k, .int .i64 n, .int .i64 t, .string (S z)] 23) = w4 at *
    generalize w3.heap.size = A at *
    refine (HK.out _).mono ?_
    unfold keyV
    rintro e w5 ⟨rfl, h5⟩
    have HT5 := Lib.hid (HT4.out.fr h5)
    replace a0 := h5.cell a0
    replace a1 := h5.cell a1
    replace a2 := h5.cell a2
    replace a3 := h5.cell a3
    replace h5 := h4.trans h5
    clear h4 HT4 HK
    cases y with
    | none =>
      have hk1 : (k != 0) = true := by
        rcases hkk with h | h
        · exact absurd (hKO h) (by simp)
        · exact h
      clear hkk hKO HKF HKL
      go_wp2_with fail
      refine (text_any [] _ (by decide) HT5.out).mono ?_
      rintro e w6 ⟨rfl, h6⟩
      have HT6 := Lib.hid (HT5.out.fr h6)
      replace a0 := h6.cell a0
      replace a1 := h6.cell a1
      replace a2 := h6.cell a2
      replace a3 := h6.cell a3
      replace h6 := h5.trans h6
      clear h5 HT5
      go_wp2_with fail
      refine (HR.out _).mono ?_
      rintro e w7 ⟨rfl, h7⟩
      have HT7 := Lib.hid (HT6.out.fr h7)
      replace a0 := h7.cell a0
      replace a1 := h7.cell a1
      replace a2 := h7.cell a2
      replace a3 := h7.cell a3
      replace h7 := h6.trans h7
      clear h6 HT6
      go_wp2_with fail
      refine (HT.out _ HT7.out).mono ?_
      rintro e w8 ⟨rfl, h8⟩
      replace a0 := h8.cell a0
      replace h8 := h7.trans h8
      clear a1 a2 a3 h7
      go_wp2_with fail
      go_ret
      exact ⟨rfl, h8⟩
    | some q =>
      have hq1 := HKL.out q rfl
      have hq2 := (HKF.out q rfl).1
      have hq3 := (HKF.out q rfl).2
      clear HKF HKL hKO
      go_wp2_with fail
      refine (text_any q _ (by omega) HT5.out).mono ?_
      rintro e w6 ⟨rfl, h6⟩
      have HT6 := Lib.hid (HT5.out.fr h6)
      replace a0 := h6.cell a0
      replace a1 := h6.cell a1
      replace a2 := h6.cell a2
      replace a3 := h6.cell a3
      replace h6 := h5.trans h6
      clear h5 HT5
      generalize Wm.textE.f q = f at *
      have hx : (S z).extract 0 f.length = S f := by rw [S_extract]; simp only [List.drop_zero, Nat.sub_zero]; rw [hq3]
      have hm : min (f.length : Int) (z.length : Int) = (f.length : Int) := by omega
      have HQ3 := Lib.hid hq3
      clear hq3
      go_wp2_with fail
      refine (HR.out _).mono ?_
      rintro e w7 ⟨rfl, h7⟩
      have HT7 := Lib.hid (HT6.out.fr h7)
      replace a0 := h7.cell a0
      replace a1 := h7.cell a1
      replace a2 := h7.cell a2
      replace a3 := h7.cell a3
      replace h7 := h6.trans h7
      clear h6 HT6
      go_wp2_with fail
      refine (HT.out _ HT7.out).mono ?_
      rintro e w8 ⟨rfl, h8⟩
      replace a0 := h8.cell a0
      replace h8 := h7.trans h8
      clear a1 a2 a3 h7
      rcases hkk with hk | hk
      · subst hk
        go_wp2_with fail
        go_ret
        exact ⟨rfl, h8⟩
      · go_wp2_with fail
        go_ret
        exact ⟨rfl, h8⟩
end Go.Proofs.YtdaiapopncpilaaDoor
