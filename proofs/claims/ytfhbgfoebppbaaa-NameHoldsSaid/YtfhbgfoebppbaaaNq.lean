/-
  NameHolds: the law's walk, for every argument.
-/
import Derived.Test.YtfhbgfoebppbaaaNr
namespace Go.Proofs.Ytfhbgfoebppbaaa
open Go.RowKit

theorem drE_iff (s : Txt) (u : Int) : (drE s u == 0) = (okN s && decide (0 ≤ u) && decide (u ≤ 1073741824)) := by
  unfold drE
  by_cases h1 : okN s = false
  · rw [if_pos h1, h1]; rfl
  · have h1' : okN s = true := by simpa using h1
    rw [if_neg h1, h1']
    by_cases h2 : u < 0 ∨ 1073741824 < u
    · rw [if_pos h2, Bool.eq_iff_iff]; simp; omega
    · rw [if_neg h2, Bool.eq_iff_iff]; simp; omega
theorem upd_mem {h : List Hd} {s : Txt} {u : Int} {x : Hd} (hx : x ∈ upd h s u) : x.1 = s ∨ ∃ y ∈ h, x.1 = y.1 := by
  induction h with
  | nil => simp [upd] at hx; exact .inl (by rw [hx])
  | cons y r ih =>
    unfold upd at hx
    split at hx
    · rcases List.mem_cons.1 hx with rfl | hx
      · exact .inr ⟨y, by simp, rfl⟩
      · exact .inr ⟨x, by simp [hx], rfl⟩
    · rcases List.mem_cons.1 hx with rfl | hx
      · exact .inr ⟨x, by simp, rfl⟩
      · rcases ih hx with h1 | ⟨z, hz, e⟩
        · exact .inl h1
        · exact .inr ⟨z, by simp [hz], e⟩
theorem drp_ok {h : List Hd} (hh : Few h) {s : Txt} (hs : s.length ≤ 60) (u : Int) : HOk (drp h s u) := by
  unfold drp
  split
  · refine ⟨by have := (upd_len h s u).2; have := hh.len; omega, fun t ht => ?_⟩
    rcases upd_mem ht with e | ⟨y, hy, e⟩
    · rw [e]; omega
    · rw [e]; have := hh.mem y hy; omega
  · exact hok0

set_option maxRecDepth 100000 in
set_option maxHeartbeats 40000000 in
theorem holds_main (v : Value) (h : List Hd) (a b : Txt) (now until_ : Int) (w : World) (hm : Mx w) (hl : Hl w v h) (hB : fwB h = true) (ha : a.length ≤ 60) (hb : b.length ≤ 60)
    (n1 : -9223372036854775808 ≤ now) (n2 : now ≤ 9223372036854775807) (u1 : -9223372036854775808 ≤ until_) (u2 : until_ ≤ 9223372036854775807) :
    Calls Try.prog 6 #[v, .string (S a), .string (S b), .int .i64 now, .int .i64 until_] w fun e w' => e = .returned (.bool true) ∧ Fr w w' := by
  have hfw := fwB_few hB
  have hbn := hfw.len
  have d1 : decide ((60 : Int) < (a.length : Int)) = false := decide_eq_false (by omega)
  have d2 : decide ((60 : Int) < (b.length : Int)) = false := decide_eq_false (by omega)
  have la : a.length ≤ 1099511627776 := by omega
  have lb : b.length ≤ 1099511627776 := by omega
  have HM := Lib.hid hm
  have HS := Lib.hid (small_any w hm)
  have HQ := Lib.hid (fun w1 (hf : Fr w w1) => few_any v h w1 (hl.fr hf) (by unfold maxLen; omega))
  have hH := fun w1 (hf : Fr w w1) => held_any v h b now w1 (hl.fr hf) hfw.ok lb
  have HH1 := Lib.hid (fun w1 (hf : Fr w w1) => held_any v h b (now - 1) w1 (hl.fr hf) hfw.ok lb)
  have HD := Lib.hid (fun w1 (hf : Fr w w1) => drop_any v h a until_ w1 (hl.fr hf) hfw.ok (hm.fr hf) la u1 u2)
  have hRa := fun w1 (hf : Fr w w1) => right_any a w1 (hm.fr hf) la
  have hRb := fun w1 (hf : Fr w w1) => right_any b w1 (hm.fr hf) lb
  have HFa := Lib.hid (fun w1 (hf : Fr w w1) => free_any (.slice none 0 0) (.slice none 0 0) [] [] a now w1 (Sl.nil _ _ _) okN0 (Hl.nil _ _ _) hok0 (hm.fr hf) la)
  have HOK := Lib.hid (drp_ok hfw ha until_)
  have hld1 := fun x : hld h b now = true => hld_earlier x
  have hE := drE_iff a until_
  have hC := fun w1 => conf_any a b w1 la lb
  rw [hB] at HQ
  obtain ⟨v0, c0, hv⟩ := hl.len
  clear hm hl hB
  subst hv
  go_enter Try.func6, Try.ntmps6
  go_upto_region 4 with (first | (go_at_call 8; refine HS.out.mono ?_; rintro e w1 ⟨rfl, hf1⟩; have HFX := Lib.hid hf1; clear hf1) | (go_at_call 10; refine (HQ.out _ HFX.out).mono ?_; rintro e w2 ⟨rfl, rfl⟩))
  go_cut [45] (fun s45 wx => s45 = .bool false ∧ Hid (Fr w wx))
  case first =>
    cases hx : hld h b now with
    | false =>
      rw [hx] at hH
      have HH := Lib.hid hH
      clear hH
      go_wp2_with (go_at_call 22; refine (HH.out _ HFX.out).mono ?_; rintro e w3 ⟨rfl, hf3⟩; have HFX := Lib.hid (HFX.out.trans hf3); clear hf3)
      go_meet
      exact ⟨rfl, HFX⟩
    | true =>
      rw [hx] at hH
      rw [hld1 hx] at HH1
      have HH := Lib.hid hH
      clear hH
      by_cases g : -4611686018427387904 < now
      · have g1 : decide (-4611686018427387904 < now) = true := decide_eq_true g
        go_wp2_with (first
          | (go_at_call 22; refine (HH1.out _ HTX.out).mono ?_; rintro e w4 ⟨rfl, hf4⟩; have HFY := Lib.hid (HTX.out.trans hf4); clear hf4)
          | (go_at_call 22; refine (HH.out _ HFX.out).mono ?_; rintro e w3 ⟨rfl, hf3⟩; have HTX := Lib.hid (HFX.out.trans hf3); clear hf3))
        go_meet
        exact ⟨rfl, HFY⟩
      · have g1 : decide (-4611686018427387904 < now) = false := decide_eq_false g
        go_wp2_with (go_at_call 22; refine (HH.out _ HFX.out).mono ?_; rintro e w3 ⟨rfl, hf3⟩; have HFX := Lib.hid (HFX.out.trans hf3); clear hf3)
        go_meet
        exact ⟨rfl, HFX⟩
  case rest =>
    obtain ⟨rfl, hf⟩ := hcut
    clear HFX HS HQ HH1 hld1
    unfold DropP at HD
    have hcases : (okN a = false ∧ drE a until_ = 12) ∨ (okN a = true ∧ drE a until_ = 1 ∧ decide (0 ≤ until_) = false) ∨ (okN a = true ∧ drE a until_ = 1 ∧ decide (0 ≤ until_) = true ∧ decide (until_ ≤ 1073741824) = false) ∨ (okN a = true ∧ drE a until_ = 0 ∧ decide (0 ≤ until_) = true ∧ decide (until_ ≤ 1073741824) = true) := by
      unfold drE
      by_cases h1 : okN a = false
      · exact .inl ⟨h1, by rw [if_pos h1]⟩
      · have h1' : okN a = true := by simpa using h1
        rw [if_neg h1]
        by_cases h2 : until_ < 0
        · exact .inr (.inl ⟨h1', by rw [if_pos (.inl h2)], decide_eq_false (by omega)⟩)
        · by_cases h3 : 1073741824 < until_
          · exact .inr (.inr (.inl ⟨h1', by rw [if_pos (.inr h3)], decide_eq_true (by omega), decide_eq_false (by omega)⟩))
          · exact .inr (.inr (.inr ⟨h1', by rw [if_neg (by omega)], decide_eq_true (by omega), decide_eq_true (by omega)⟩))
    have hno : drE a until_ ≠ 0 → drp h a until_ = [] := drp_no
    have hfa : okN a = false → fre [] [] a now = 12 := fun h => by unfold fre; rw [if_pos h]
    rcases hcases with ⟨k1, k2⟩ | ⟨k1, k2, k3⟩ | ⟨k1, k2, k3, k4⟩ | ⟨k1, k2, k3, k4⟩
    · rw [hno (by omega), k2] at HD
      rw [k1] at hRa
      rw [hfa k1] at HFa
      have HR := Lib.hid hRa
      clear hH hRa hRb hE hC HOK hno hfa k2
      go_wp2_with (first
        | (go_at_call 13; refine (HD.out _ hf.out).mono ?_; rintro e w3 ⟨v3, rfl, hl3, hf3⟩; obtain ⟨a3, c3, h3⟩ := hl3.len; simp only [List.length_nil] at h3; subst h3; have HFX := Lib.hid (hf.out.trans hf3); clear hf3 hl3)
        | (go_at_call 16; refine (HR.out _ HFX.out).mono ?_; rintro e w4 ⟨rfl, rfl⟩)
        | (go_at_call 24; refine (HFa.out _ HFX.out).mono ?_; rintro e w5 ⟨rfl, hf5⟩; have HFX := Lib.hid (HFX.out.trans hf5); clear hf5))
      go_ret
      exact ⟨rfl, HFX.out⟩
    · rw [hno (by omega), k2] at HD
      rw [k1] at hRa
      have HR := Lib.hid hRa
      clear hH hRa hRb hE hC HOK hno hfa k2
      go_wp2_with (first
        | (go_at_call 13; refine (HD.out _ hf.out).mono ?_; rintro e w3 ⟨v3, rfl, hl3, hf3⟩; obtain ⟨a3, c3, h3⟩ := hl3.len; simp only [List.length_nil] at h3; subst h3; have HFX := Lib.hid (hf.out.trans hf3); clear hf3 hl3)
        | (go_at_call 16; refine (HR.out _ HFX.out).mono ?_; rintro e w4 ⟨rfl, rfl⟩))
      go_ret
      exact ⟨rfl, HFX.out⟩
    · rw [hno (by omega), k2] at HD
      rw [k1] at hRa
      have HR := Lib.hid hRa
      clear hH hRa hRb hE hC HOK hno hfa k2
      go_wp2_with (first
        | (go_at_call 13; refine (HD.out _ hf.out).mono ?_; rintro e w3 ⟨v3, rfl, hl3, hf3⟩; obtain ⟨a3, c3, h3⟩ := hl3.len; simp only [List.length_nil] at h3; subst h3; have HFX := Lib.hid (hf.out.trans hf3); clear hf3 hl3)
        | (go_at_call 16; refine (HR.out _ HFX.out).mono ?_; rintro e w4 ⟨rfl, rfl⟩))
      go_ret
      exact ⟨rfl, HFX.out⟩
    · rw [k2] at HD
      rw [k1] at hRa
      have HR := Lib.hid hRa
      have hdrp : drp h a until_ = upd h a until_ := drp_yes k2
      have hlen := upd_len h a until_
      have hup1 : hld h b now = true → hld (upd h a until_) b now = true := fun hx => upd_held a until_ hx
      have hup2 : cf a b = true → now < until_ → hld (upd h a until_) b now = true := fun h1 h2 => upd_holds h h1 h2
      rw [← hdrp] at hlen hup1 hup2
      have hF : ∀ L : List Hd, (fre [] L b now == 0) = (okN b && !hld L b now) := fun L => by
        rw [Bool.eq_iff_iff, beq_iff_eq, fre_ok]
        simp
      have hFL := hF (drp h a until_)
      generalize drp h a until_ = L at *
      clear hRa hE hno hfa k2 hdrp hF HFa
      go_upto_region 11 with (first
        | (go_at_call 13; refine (HD.out _ hf.out).mono ?_; rintro e w3 ⟨v3, rfl, hl3, hf3⟩; have HL3 := Lib.hid hl3; obtain ⟨a3, c3, h3⟩ := hl3.len; subst h3; have HFX := Lib.hid (hf.out.trans hf3); clear hf3 hl3)
        | (go_at_call 16; refine (HR.out _ HFX.out).mono ?_; rintro e w4 ⟨rfl, rfl⟩))
      have hHL := fun w1 hf => held_any _ L b now w1 (HL3.out.fr hf) HOK.out lb
      go_cut [111] (fun s111 wx => s111 = .bool false ∧ Hid (Fr w4 wx))
      case first =>
        cases hx : hld h b now with
        | false =>
          rw [hx] at hH
          have HH := Lib.hid hH
          clear hH
          cases hcf : cf a b with
          | false =>
            rw [hcf] at hC
            have HC := Lib.hid hC
            go_wp2_with (first
              | (go_at_call 22; refine (HHL.out _ HFZ.out).mono ?_; rintro e w6 ⟨rfl, hf6⟩; have HFZ := Lib.hid (HFZ.out.trans hf6); clear hf6)
              | (go_at_call 22; refine (HH.out _ HFX.out).mono ?_; rintro e w5 ⟨rfl, hf5⟩; have HFZ := Lib.hid hf5; clear hf5)
              | (go_at_call 20; refine (HC.out _).mono ?_; rintro e w7 ⟨rfl, hf7⟩; have HFZ := Lib.hid (HFZ.out.trans hf7); clear hf7))
            go_meet
            exact ⟨rfl, HFZ⟩
          | true =>
            rw [hcf] at hC
            have HC := Lib.hid hC
            by_cases hn : now < until_
            · have g1 : decide (now < until_) = true := decide_eq_true hn
              rw [hup2 hcf hn] at hHL
              have HHL := Lib.hid hHL
              go_wp2_with (first
                | (go_at_call 22; refine (HHL.out _ HFZ.out).mono ?_; rintro e w6 ⟨rfl, hf6⟩; have HFZ := Lib.hid (HFZ.out.trans hf6); clear hf6)
                | (go_at_call 22; refine (HH.out _ HFX.out).mono ?_; rintro e w5 ⟨rfl, hf5⟩; have HFZ := Lib.hid hf5; clear hf5)
                | (go_at_call 20; refine (HC.out _).mono ?_; rintro e w7 ⟨rfl, hf7⟩; have HFZ := Lib.hid (HFZ.out.trans hf7); clear hf7))
              go_meet
              exact ⟨rfl, HFZ⟩
            · have g1 : decide (now < until_) = false := decide_eq_false hn
              go_wp2_with (first
                | (go_at_call 22; refine (HHL.out _ HFZ.out).mono ?_; rintro e w6 ⟨rfl, hf6⟩; have HFZ := Lib.hid (HFZ.out.trans hf6); clear hf6)
                | (go_at_call 22; refine (HH.out _ HFX.out).mono ?_; rintro e w5 ⟨rfl, hf5⟩; have HFZ := Lib.hid hf5; clear hf5)
                | (go_at_call 20; refine (HC.out _).mono ?_; rintro e w7 ⟨rfl, hf7⟩; have HFZ := Lib.hid (HFZ.out.trans hf7); clear hf7))
              go_meet
              exact ⟨rfl, HFZ⟩
        | true =>
          rw [hx] at hH
          rw [hup1 hx] at hHL
          have HH := Lib.hid hH
          have HHL := Lib.hid hHL
          clear hH
          cases hcf : cf a b with
          | false =>
            rw [hcf] at hC
            have HC := Lib.hid hC
            go_wp2_with (first
              | (go_at_call 22; refine (HHL.out _ HFZ.out).mono ?_; rintro e w6 ⟨rfl, hf6⟩; have HFZ := Lib.hid (HFZ.out.trans hf6); clear hf6)
              | (go_at_call 22; refine (HH.out _ HFX.out).mono ?_; rintro e w5 ⟨rfl, hf5⟩; have HFZ := Lib.hid hf5; clear hf5)
              | (go_at_call 20; refine (HC.out _).mono ?_; rintro e w7 ⟨rfl, hf7⟩; have HFZ := Lib.hid (HFZ.out.trans hf7); clear hf7))
            go_meet
            exact ⟨rfl, HFZ⟩
          | true =>
            rw [hcf] at hC
            have HC := Lib.hid hC
            by_cases hn : now < until_
            · have g1 : decide (now < until_) = true := decide_eq_true hn
              go_wp2_with (first
                | (go_at_call 22; refine (HHL.out _ HFZ.out).mono ?_; rintro e w6 ⟨rfl, hf6⟩; have HFZ := Lib.hid (HFZ.out.trans hf6); clear hf6)
                | (go_at_call 22; refine (HH.out _ HFX.out).mono ?_; rintro e w5 ⟨rfl, hf5⟩; have HFZ := Lib.hid hf5; clear hf5)
                | (go_at_call 20; refine (HC.out _).mono ?_; rintro e w7 ⟨rfl, hf7⟩; have HFZ := Lib.hid (HFZ.out.trans hf7); clear hf7))
              go_meet
              exact ⟨rfl, HFZ⟩
            · have g1 : decide (now < until_) = false := decide_eq_false hn
              go_wp2_with (first
                | (go_at_call 22; refine (HHL.out _ HFZ.out).mono ?_; rintro e w6 ⟨rfl, hf6⟩; have HFZ := Lib.hid (HFZ.out.trans hf6); clear hf6)
                | (go_at_call 22; refine (HH.out _ HFX.out).mono ?_; rintro e w5 ⟨rfl, hf5⟩; have HFZ := Lib.hid hf5; clear hf5)
                | (go_at_call 20; refine (HC.out _).mono ?_; rintro e w7 ⟨rfl, hf7⟩; have HFZ := Lib.hid (HFZ.out.trans hf7); clear hf7))
              go_meet
              exact ⟨rfl, HFZ⟩
      case rest =>
        obtain ⟨rfl, hf4⟩ := hcut
        have hFr := fun w1 hf => free_any (.slice none 0 0) _ [] L b now w1 (Sl.nil _ _ _) okN0 (HL3.out.fr hf) HOK.out (HM.out.fr (HFX.out.trans hf)) lb
        have HFr := Lib.hid hFr
        have g1 : (h.length : Int) ≤ (L.length : Int) := by omega
        have g2 : (L.length : Int) ≤ (h.length : Int) + 1 := by omega
        have g3 := hlen.1
        have g4 := hlen.2
        clear hFr hC hH hup1 hup2
        generalize fre [] L b now = E at *
        generalize hld L b now = x at *
        generalize okN b = y at *
        have HHL := Lib.hid hHL
        have HRb := Lib.hid hRb
        clear hHL hRb
        cases x <;> cases y <;> simp only [Bool.and_true, Bool.and_false, Bool.not_false, Bool.not_true] at hFL
        all_goals (go_wp2_with (first
          | (go_at_call 24; refine (HFr.out _ hf4.out).mono ?_; rintro e w8 ⟨rfl, hf8⟩; have HFZ := Lib.hid (hf4.out.trans hf8); clear hf8)
          | (go_at_call 16; refine (HRb.out _ (HFX.out.trans HFZ.out)).mono ?_; rintro e w9 ⟨rfl, rfl⟩)
          | (go_at_call 22; refine (HHL.out _ HFZ.out).mono ?_; rintro e w10 ⟨rfl, hf10⟩; have HFZ := Lib.hid (HFZ.out.trans hf10); clear hf10)))
        all_goals go_ret
        all_goals exact ⟨rfl, HFX.out.trans HFZ.out⟩
set_option maxRecDepth 100000 in
set_option maxHeartbeats 4000000 in
theorem holds_out (v : Value) (h : List Hd) (a b : Txt) (now until_ : Int) (w : World) (hm : Mx w) (hl : Hl w v h) (hn : h.length ≤ maxLen)
    (hq : fwB h = false ∨ (fwB h = true ∧ (60 < a.length ∨ (a.length ≤ 60 ∧ 60 < b.length)))) :
    Calls Try.prog 6 #[v, .string (S a), .string (S b), .int .i64 now, .int .i64 until_] w fun e w' => e = .returned (.bool true) ∧ Fr w w' := by
  have HS := Lib.hid (small_any w hm)
  have HQ := Lib.hid (fun w1 hf => few_any v h w1 (hl.fr hf) hn)
  obtain ⟨v0, c0, hv⟩ := hl.len
  clear hm hl hn
  subst hv
  rcases hq with hB | ⟨hB, hq | ⟨h1, h2⟩⟩
  · rw [hB] at HQ
    clear hB
    go_enter Try.func6, Try.ntmps6
    go_wp2_with (first | (go_at_call 8; refine HS.out.mono ?_; rintro e w1 ⟨rfl, hf1⟩; have HF := Lib.hid hf1; clear hf1) | (go_at_call 10; refine (HQ.out _ HF.out).mono ?_; rintro e w2 ⟨rfl, rfl⟩))
    go_ret
    exact ⟨rfl, HF.out⟩
  · rw [hB] at HQ
    have d1 : decide ((60 : Int) < (a.length : Int)) = true := decide_eq_true (by omega)
    clear hB hq
    go_enter Try.func6, Try.ntmps6
    go_wp2_with (first | (go_at_call 8; refine HS.out.mono ?_; rintro e w1 ⟨rfl, hf1⟩; have HF := Lib.hid hf1; clear hf1) | (go_at_call 10; refine (HQ.out _ HF.out).mono ?_; rintro e w2 ⟨rfl, rfl⟩))
    go_ret
    exact ⟨rfl, HF.out⟩
  · rw [hB] at HQ
    have d1 : decide ((60 : Int) < (a.length : Int)) = false := decide_eq_false (by omega)
    have d2 : decide ((60 : Int) < (b.length : Int)) = true := decide_eq_true (by omega)
    clear hB h1 h2
    go_enter Try.func6, Try.ntmps6
    go_wp2_with (first | (go_at_call 8; refine HS.out.mono ?_; rintro e w1 ⟨rfl, hf1⟩; have HF := Lib.hid hf1; clear hf1) | (go_at_call 10; refine (HQ.out _ HF.out).mono ?_; rintro e w2 ⟨rfl, rfl⟩))
    go_ret
    exact ⟨rfl, HF.out⟩
theorem holds_any (v : Value) (h : List Hd) (a b : Txt) (now until_ : Int) (w : World) (hm : Mx w) (hl : Hl w v h) (hn : h.length ≤ maxLen)
    (n1 : -9223372036854775808 ≤ now) (n2 : now ≤ 9223372036854775807) (u1 : -9223372036854775808 ≤ until_) (u2 : until_ ≤ 9223372036854775807) :
    Calls Try.prog 6 #[v, .string (S a), .string (S b), .int .i64 now, .int .i64 until_] w fun e w' => e = .returned (.bool true) ∧ Fr w w' := by
  by_cases hB : fwB h = true
  · by_cases h1 : a.length ≤ 60
    · by_cases h2 : b.length ≤ 60
      · exact holds_main v h a b now until_ w hm hl hB h1 h2 n1 n2 u1 u2
      · exact holds_out v h a b now until_ w hm hl hn (.inr ⟨hB, .inr ⟨h1, by omega⟩⟩)
    · exact holds_out v h a b now until_ w hm hl hn (.inr ⟨hB, .inl (by omega)⟩)
  · exact holds_out v h a b now until_ w hm hl hn (.inl (by simpa using hB))
end Go.Proofs.Ytfhbgfoebppbaaa
