/-
  Contracts: the reference of layer 6 (ladingref06): Key, within, Right.
-/
import Derived.Test.YtapdabebiinnnaaGreatDoorQrd
import Derived.Test.YtapdabebiinnnaaGreatDoorCe
namespace Go.Proofs.YtapdabebiinnnaaGreatDoor
open Go.RowKit

set_option maxHeartbeats 400000 in
set_option maxRecDepth 100000 in
theorem rkey_any (s : Txt) (w : World) (hs : s.length ≤ 9223372036854775807) :
    Calls Tryz.prog 95 #[.string (S s)] w fun e w' => e = .returned (keyV (key s)) ∧ Fr w w' := by
  go_enter Tryz.func95, Tryz.ntmps95
  go_wp2_with fail
  refine (qopen_any s _).mono ?_
  rintro e w1 ⟨rfl, hrd1, hf1⟩
  have hb := Nat.le_refl w.heap.size
  generalize hB : w.heap.size = B at hrd1
  have HB := Lib.hid hB
  rw [hB] at hb
  go_wp2_with fail
  refine (qText_any hrd1 hs (by simp)).mono ?_
  rintro e w2 ⟨hg, hf2⟩
  have hf := hf1.withB hf2 (Nat.le_of_eq HB.out)
  clear hf1 hf2 hrd1
  rcases hg with ⟨v, q, hv, he, rfl, hrd⟩ | ⟨hn, rfl, hrd⟩
  · have HK := Lib.hid (show key s = some v by rw [he]; exact key_eq q hv)
    have c1 := hrd.c1
    clear hv he
    go_wp2_with fail
    go_ret2
    exact ⟨by rw [HK.out]; rfl, hf⟩
  · have HK := Lib.hid (show key s = none from key_none hn)
    have c1 := hrd.c1
    clear hn
    go_wp2_with fail
    go_ret2
    exact ⟨by rw [HK.out]; rfl, hf⟩

set_option maxRecDepth 100000 in
theorem within_yes (n a b : Int) (w : World) (h0 : a ≤ n) (h1 : n ≤ b) :
    Calls Tryz.prog 96 #[.int .i64 n, .int .i64 a, .int .i64 b] w fun e w' => e = .returned (.bool true) ∧ w' = w := by
  go_enter Tryz.func96, Tryz.ntmps96
  go_wp2
  go_ret
  exact ⟨rfl, rfl⟩
set_option maxRecDepth 100000 in
theorem within_no (n a b : Int) (w : World) (h : n < a ∨ b < n) :
    Calls Tryz.prog 96 #[.int .i64 n, .int .i64 a, .int .i64 b] w fun e w' => e = .returned (.bool false) ∧ w' = w := by
  by_cases h0 : a ≤ n
  · have h1 : ¬ (n ≤ b) := by omega
    go_enter Tryz.func96, Tryz.ntmps96
    go_wp2
    go_ret
    exact ⟨rfl, rfl⟩
  · go_enter Tryz.func96, Tryz.ntmps96
    go_wp2
    go_ret
    exact ⟨rfl, rfl⟩

set_option maxHeartbeats 4000000 in
set_option maxRecDepth 100000 in
theorem rright_any (c : C) (w : World) (hc : c.fits) :
    Calls Tryz.prog 72 #[c.v] w fun e w' => e = .returned (.bool (okB c)) ∧ Fr w w' := by
  have HI := Lib.hid (okB_iff c)
  have hs := hc.2.2.2
  obtain ⟨k, n, t, s⟩ := c
  have HA := CAt.new w ⟨k, n, t, s⟩
  have HF := Lib.hid (Fr.alloc w (.cells #[.int .i64 k, .int .i64 n, .int .i64 t, .string (S s)] 35))
  simp only at hs
  have HI1 := Lib.hid (show okB ⟨k, n, t, s⟩ = true ↔ 0 ≤ n ∧ n ≤ limN k ∧ 0 ≤ t ∧ t ≤ limT k ∧ (s.length : Int) ≤ limS k ∧ (k ≠ 0 ∨ (key s).isSome = true) from HI.out)
  generalize okB ⟨k, n, t, s⟩ = o at *
  clear HI hc
  unfold C.v
  simp only
  by_cases hl : (s.length : Int) ≤ 20000
  · have hs2 : s.length ≤ 9223372036854775807 := by omega
    obtain ⟨a0, a1, a2, a3⟩ := HA
    simp only at a0 a1 a2 a3
    by_cases k0 : k = 0
    · subst k0
      have HO : Hid (o = true ↔ (0 ≤ n ∧ n ≤ 199999) ∧ (0 ≤ t ∧ t ≤ 0) ∧ (key s).isSome = true) := by
        refine Lib.hid (HI1.out.trans ?_)
        rw [show limN 0 = 199999 by decide, show limT 0 = 0 by decide, show limS 0 = 20000 by decide]
        exact ⟨fun ⟨h1, h2, h3, h4, _, h6⟩ => ⟨⟨h1, h2⟩, ⟨h3, h4⟩, by rcases h6 with h | h; exact absurd rfl h; exact h⟩, fun ⟨⟨h1, h2⟩, ⟨h3, h4⟩, h5⟩ => ⟨h1, h2, h3, h4, hl, .inr h5⟩⟩
      clear HI1
      obtain ⟨y, hy⟩ : ∃ y, y = key s := ⟨_, rfl⟩
      rw [← hy] at HO
      have HY := Lib.hid hy
      clear hy
      go_enter Tryz.func72, Tryz.ntmps72
      go_wp2_with fail
      refine (rkey_any s _ hs2).mono ?_
      rw [← HY.out]
      rintro e w2 ⟨rfl, hf2⟩
      replace a1 := hf2.cell a1
      replace a2 := hf2.cell a2
      have hF := HF.out.trans hf2
      have hy2 : (∃ v, y = some v) ∨ y = none := by cases y; exact .inr rfl; exact .inl ⟨_, rfl⟩
      by_cases hn : 0 ≤ n ∧ n ≤ 199999
      · by_cases ht : 0 ≤ t ∧ t ≤ 0
        · obtain rfl : t = 0 := by omega
          rcases hy2 with ⟨v, rfl⟩ | rfl
          · have ho : o = true := HO.out.2 ⟨hn, ht, rfl⟩
            subst ho
            unfold keyV
            go_wp2_with fail
            refine (within_yes n 0 199999 _ hn.1 hn.2).mono ?_
            rintro e w9 ⟨rfl, rfl⟩
            go_wp2_with fail
            go_ret
            exact ⟨rfl, hF⟩
          · have ho : o = false := by cases o with | false => rfl | true => exact absurd (HO.out.1 rfl).2.2 (by simp)
            subst ho
            unfold keyV
            go_wp2_with fail
            refine (within_yes n 0 199999 _ hn.1 hn.2).mono ?_
            rintro e w9 ⟨rfl, rfl⟩
            go_wp2_with fail
            go_ret
            exact ⟨rfl, hF⟩
        · have ho : o = false := by cases o with | false => rfl | true => exact absurd (HO.out.1 rfl).2.1 ht
          subst ho
          have ht0 : (t == 0) = false := beq_eq_false_iff_ne.2 (by omega)
          rcases hy2 with ⟨v, rfl⟩ | rfl
          · unfold keyV
            go_wp2_with fail
            refine (within_yes n 0 199999 _ hn.1 hn.2).mono ?_
            rintro e w9 ⟨rfl, rfl⟩
            go_wp2_with fail
            go_ret
            exact ⟨rfl, hF⟩
          · unfold keyV
            go_wp2_with fail
            refine (within_yes n 0 199999 _ hn.1 hn.2).mono ?_
            rintro e w9 ⟨rfl, rfl⟩
            go_wp2_with fail
            go_ret
            exact ⟨rfl, hF⟩
      · have ho : o = false := by cases o with | false => rfl | true => exact absurd (HO.out.1 rfl).1 hn
        subst ho
        rcases hy2 with ⟨v, rfl⟩ | rfl
        · unfold keyV
          go_wp2_with fail
          refine (within_no n 0 199999 _ (by omega)).mono ?_
          rintro e w9 ⟨rfl, rfl⟩
          go_wp2_with fail
          go_ret
          exact ⟨rfl, hF⟩
        · unfold keyV
          go_wp2_with fail
          refine (within_no n 0 199999 _ (by omega)).mono ?_
          rintro e w9 ⟨rfl, rfl⟩
          go_wp2_with fail
          go_ret
          exact ⟨rfl, hF⟩
    by_cases k1 : k = 1
    · subst k1
      have HO : Hid (o = true ↔ (0 ≤ n ∧ n ≤ 200000) ∧ (0 ≤ t ∧ t ≤ 1073741824) ∧ s = []) := by
        refine Lib.hid (HI1.out.trans ?_)
        rw [show limN 1 = 200000 by decide, show limT 1 = 1073741824 by decide, show limS 1 = 0 by decide]
        exact ⟨fun ⟨h1, h2, h3, h4, h5, _⟩ => ⟨⟨h1, h2⟩, ⟨h3, h4⟩, List.length_eq_zero_iff.1 (by omega)⟩, fun ⟨⟨h1, h2⟩, ⟨h3, h4⟩, h5⟩ => ⟨h1, h2, h3, h4, by rw [h5]; decide, .inl (by decide)⟩⟩
      clear HI1
      go_enter Tryz.func72, Tryz.ntmps72
      go_wp2_with fail
      by_cases hn : 0 ≤ n ∧ n ≤ 200000
      · by_cases ht : 0 ≤ t ∧ t ≤ 1073741824
        · have ho : o = List.isEmpty s := by rw [Bool.eq_iff_iff, HO.out, List.isEmpty_iff]; exact ⟨fun h => h.2.2, fun h => ⟨hn, ht, h⟩⟩
          subst ho
          refine (within_yes n 0 200000 _ hn.1 hn.2).mono ?_
          rintro e w9 ⟨rfl, rfl⟩
          go_wp2_with fail
          refine (within_yes t 0 1073741824 _ ht.1 ht.2).mono ?_
          rintro e w9 ⟨rfl, rfl⟩
          go_wp2_with fail
          go_ret
          exact ⟨rfl, HF.out⟩
        · have ho : o = false := by cases o with | false => rfl | true => exact absurd (HO.out.1 rfl).2.1 ht
          subst ho
          refine (within_yes n 0 200000 _ hn.1 hn.2).mono ?_
          rintro e w9 ⟨rfl, rfl⟩
          go_wp2_with fail
          refine (within_no t 0 1073741824 _ (by omega)).mono ?_
          rintro e w9 ⟨rfl, rfl⟩
          go_wp2_with fail
          go_ret
          exact ⟨rfl, HF.out⟩
      · have ho : o = false := by cases o with | false => rfl | true => exact absurd (HO.out.1 rfl).1 hn
        subst ho
        refine (within_no n 0 200000 _ (by omega)).mono ?_
        rintro e w9 ⟨rfl, rfl⟩
        go_wp2_with fail
        go_ret
        exact ⟨rfl, HF.out⟩
    by_cases k2 : k = 2
    · subst k2
      have HO : Hid (o = true ↔ (0 ≤ n ∧ n ≤ 200000) ∧ (0 ≤ t ∧ t ≤ 0) ) := by
        refine Lib.hid (HI1.out.trans ?_)
        rw [show limN 2 = 200000 by decide, show limT 2 = 0 by decide, show limS 2 = 20000 by decide]
        exact ⟨fun ⟨h1, h2, h3, h4, _, _⟩ => ⟨⟨h1, h2⟩, ⟨h3, h4⟩⟩, fun ⟨⟨h1, h2⟩, ⟨h3, h4⟩⟩ => ⟨h1, h2, h3, h4, hl, .inl (by decide)⟩⟩
      clear HI1
      go_enter Tryz.func72, Tryz.ntmps72
      go_wp2_with fail
      by_cases hn : 0 ≤ n ∧ n ≤ 200000
      · by_cases ht : 0 ≤ t ∧ t ≤ 0
        · obtain rfl : t = 0 := by omega
          have ho : o = true := HO.out.2 ⟨hn, ht⟩
          subst ho
          refine (within_yes n 0 200000 _ hn.1 hn.2).mono ?_
          rintro e w9 ⟨rfl, rfl⟩
          go_wp2_with fail
          go_ret
          exact ⟨rfl, HF.out⟩
        · have ho : o = false := by cases o with | false => rfl | true => exact absurd (HO.out.1 rfl).2 ht
          subst ho
          have ht0 : (t == 0) = false := beq_eq_false_iff_ne.2 (by omega)
          refine (within_yes n 0 200000 _ hn.1 hn.2).mono ?_
          rintro e w9 ⟨rfl, rfl⟩
          go_wp2_with fail
          go_ret
          exact ⟨rfl, HF.out⟩
      · have ho : o = false := by cases o with | false => rfl | true => exact absurd (HO.out.1 rfl).1 hn
        subst ho
        refine (within_no n 0 200000 _ (by omega)).mono ?_
        rintro e w9 ⟨rfl, rfl⟩
        go_wp2_with fail
        go_ret
        exact ⟨rfl, HF.out⟩
    by_cases k3 : k = 3
    · subst k3
      have HO : Hid (o = true ↔ (0 ≤ n ∧ n ≤ 1073741824) ∧ (0 ≤ t ∧ t ≤ 0) ) := by
        refine Lib.hid (HI1.out.trans ?_)
        rw [show limN 3 = 1073741824 by decide, show limT 3 = 0 by decide, show limS 3 = 20000 by decide]
        exact ⟨fun ⟨h1, h2, h3, h4, _, _⟩ => ⟨⟨h1, h2⟩, ⟨h3, h4⟩⟩, fun ⟨⟨h1, h2⟩, ⟨h3, h4⟩⟩ => ⟨h1, h2, h3, h4, hl, .inl (by decide)⟩⟩
      clear HI1
      go_enter Tryz.func72, Tryz.ntmps72
      go_wp2_with fail
      by_cases hn : 0 ≤ n ∧ n ≤ 1073741824
      · by_cases ht : 0 ≤ t ∧ t ≤ 0
        · obtain rfl : t = 0 := by omega
          have ho : o = true := HO.out.2 ⟨hn, ht⟩
          subst ho
          refine (within_yes n 0 1073741824 _ hn.1 hn.2).mono ?_
          rintro e w9 ⟨rfl, rfl⟩
          go_wp2_with fail
          go_ret
          exact ⟨rfl, HF.out⟩
        · have ho : o = false := by cases o with | false => rfl | true => exact absurd (HO.out.1 rfl).2 ht
          subst ho
          have ht0 : (t == 0) = false := beq_eq_false_iff_ne.2 (by omega)
          refine (within_yes n 0 1073741824 _ hn.1 hn.2).mono ?_
          rintro e w9 ⟨rfl, rfl⟩
          go_wp2_with fail
          go_ret
          exact ⟨rfl, HF.out⟩
      · have ho : o = false := by cases o with | false => rfl | true => exact absurd (HO.out.1 rfl).1 hn
        subst ho
        refine (within_no n 0 1073741824 _ (by omega)).mono ?_
        rintro e w9 ⟨rfl, rfl⟩
        go_wp2_with fail
        go_ret
        exact ⟨rfl, HF.out⟩
    by_cases k4 : k = 4
    · subst k4
      have HO : Hid (o = true ↔ (0 ≤ n ∧ n ≤ 1073741824) ∧ (0 ≤ t ∧ t ≤ 1073741824) ) := by
        refine Lib.hid (HI1.out.trans ?_)
        rw [show limN 4 = 1073741824 by decide, show limT 4 = 1073741824 by decide, show limS 4 = 20000 by decide]
        exact ⟨fun ⟨h1, h2, h3, h4, _, _⟩ => ⟨⟨h1, h2⟩, ⟨h3, h4⟩⟩, fun ⟨⟨h1, h2⟩, ⟨h3, h4⟩⟩ => ⟨h1, h2, h3, h4, hl, .inl (by decide)⟩⟩
      clear HI1
      go_enter Tryz.func72, Tryz.ntmps72
      go_wp2_with fail
      by_cases hn : 0 ≤ n ∧ n ≤ 1073741824
      · by_cases ht : 0 ≤ t ∧ t ≤ 1073741824
        · have ho : o = true := HO.out.2 ⟨hn, ht⟩
          subst ho
          refine (within_yes n 0 1073741824 _ hn.1 hn.2).mono ?_
          rintro e w9 ⟨rfl, rfl⟩
          go_wp2_with fail
          refine (within_yes t 0 1073741824 _ ht.1 ht.2).mono ?_
          rintro e w9 ⟨rfl, rfl⟩
          go_wp2_with fail
          go_ret
          exact ⟨rfl, HF.out⟩
        · have ho : o = false := by cases o with | false => rfl | true => exact absurd (HO.out.1 rfl).2 ht
          subst ho
          refine (within_yes n 0 1073741824 _ hn.1 hn.2).mono ?_
          rintro e w9 ⟨rfl, rfl⟩
          go_wp2_with fail
          refine (within_no t 0 1073741824 _ (by omega)).mono ?_
          rintro e w9 ⟨rfl, rfl⟩
          go_wp2_with fail
          go_ret
          exact ⟨rfl, HF.out⟩
      · have ho : o = false := by cases o with | false => rfl | true => exact absurd (HO.out.1 rfl).1 hn
        subst ho
        refine (within_no n 0 1073741824 _ (by omega)).mono ?_
        rintro e w9 ⟨rfl, rfl⟩
        go_wp2_with fail
        go_ret
        exact ⟨rfl, HF.out⟩
    have b0 : (k == 0) = false := beq_eq_false_iff_ne.2 k0
    have b1 : (k == 1) = false := beq_eq_false_iff_ne.2 k1
    have b2 : (k == 2) = false := beq_eq_false_iff_ne.2 k2
    have b3 : (k == 3) = false := beq_eq_false_iff_ne.2 k3
    have b4 : (k == 4) = false := beq_eq_false_iff_ne.2 k4
    have ho : o = false := by
      cases o with
      | false => rfl
      | true =>
        have h := HI1.out.1 rfl
        have h2 := lim_kind (Int.le_trans h.1 h.2.1)
        omega
    subst ho
    clear HI1 k0 k1 k2 k3 k4
    go_enter Tryz.func72, Tryz.ntmps72
    go_wp2_with fail
    go_ret
    exact ⟨rfl, HF.out⟩
  · have ho : o = false := by
      cases o with
      | false => rfl
      | true =>
        have h := (HI1.out.1 rfl).2.2.2.2.1
        have := limS_le k
        omega
    subst ho
    obtain ⟨a0, a1, a2, a3⟩ := HA
    simp only at a0 a1 a2 a3
    clear HI1
    go_enter Tryz.func72, Tryz.ntmps72
    go_wp2_with fail
    go_ret
    exact ⟨rfl, HF.out⟩
end Go.Proofs.YtapdabebiinnnaaGreatDoor
