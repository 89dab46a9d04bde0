/-
  The reference's May, where the fact is right.
-/
import Derived.Test.YtddeblcoglhdnaaRd
namespace Go.Proofs.Ytddeblcoglhdnaa
open Go.RowKit Mb Go.BigFrame

theorem fw_t (d : Bool) : fwE true d = 0 := rfl
theorem fw_ft : fwE false true = 0 := rfl
theorem fw_ff : fwE false false = 23 := rfl
set_option maxRecDepth 100000 in
set_option maxHeartbeats 8000000 in
theorem rmay_ok (v r u : Value) (l : List Ft) (reg : List Int) (f : Ft) (q : List Int) (w : World) (h : FSl w v l) (hl : LB l) (hr : Sl w r reg) (hro : Ok reg) (hf : FtOk w f) (hb : FB f) (hu : Sl w u q) (hq : Ok q) (hE : rgt f = true) :
    Calls Try.prog 22 #[v, r, f.v, u] w fun e w' => e = .returned (.int .i64 (may l reg f q)) ∧ Fr w w' := by
  have hA := FtAt.new hf 39
  have HF0 := Lib.hid (Fr.alloc w (.cells f.cs.toArray 39))
  have HA := Lib.hid hA
  have HAF := Lib.hid fun w' (hw' : Fr (w.alloc (.cells f.cs.toArray 39)) w') => hA.fr hw'
  have HRG := Lib.hid fun w' (hw' : Fr w w') => rright_any f w' (hf.fr hw') hb
  have HNM := Lib.hid fun w' (hw' : Fr w w') => rname_any f w' (hf.fr hw')
  have HO := Lib.hid fun w' (hw' : Fr w w') => rowner_any v l (nm f) w' (h.fr hw') hl
  have HD := Lib.hid fun w' (hw' : Fr w w') => rdelegates_any v l (nm f) w' (h.fr hw') hl
  have HCR := Lib.hid fun w' (hw' : Fr w w') => count_any u r q reg w' (hu.fr hw') hq.len (hr.fr hw') hro.len
  have HC := Lib.hid fun kv ks w' (hw' : Fr w w') (hk : Sl w' kv ks) (hl : ks.length ≤ 1000000) => count_any u kv q ks w' (hu.fr hw') hq.len hk hl
  have c0 := hA.kind
  have c25 := hA.need
  obtain ⟨kv0, c24, hk0⟩ := hA.keys
  simp only [Nat.zero_add] at c24 c25
  have HK0 := Lib.hid hk0
  have hfk := hb.keys.len
  have hln := hl.len
  have HOL : Hid (∀ g, own l (nm f) = some g → g.keys.length ≤ 1000000) := Lib.hid fun g hg => by
    rcases chN_last l (nm f) l.length (Nat.le_refl _) with ⟨_, h2⟩ | ⟨p, i, hi, _, h2⟩
    · rw [List.take_length, hg] at h2; cases h2
    · rw [List.take_length, hg] at h2; cases h2; exact (hl.get hi).keys.len
  have HDL : Hid (∀ g, dlg l (nm f) = some g → g.keys.length ≤ 1000000) := Lib.hid fun g hg => (dlg_mem hl hg).keys.len
  have hmq := cnt_len reg q
  have hq1 := hq.len
  obtain ⟨av, ac, rfl⟩ := h.len
  have d0 : decide (f.kind < 0) = false := decide_eq_false (by
    by_cases hk : f.kind = 4 ∨ f.kind = 5 ∨ f.kind = 6
    · omega
    · rw [rgt_out hk, Bool.and_eq_true, decide_eq_true_eq, decide_eq_true_eq] at hE; omega)
  have d8 : decide (8 ≤ f.kind) = false := decide_eq_false (by
    by_cases hk : f.kind = 4 ∨ f.kind = 5 ∨ f.kind = 6
    · omega
    · rw [rgt_out hk, Bool.and_eq_true, decide_eq_true_eq, decide_eq_true_eq] at hE; omega)
  have HE := Lib.hid hE
  have HM37 := Lib.hid fun (hk : f.kind = 3 ∨ f.kind = 7) => show may l reg f q = if anyR reg q = true then 0 else 22 from myE_reg hE hk
  have HM24 := Lib.hid fun (hk : ¬ (f.kind = 3 ∨ f.kind = 7)) (hx : own l (nm f) = none) (h5 : f.kind ≠ 5) => show may l reg f q = 24 from myE_own hE hk hx h5
  have HMF := Lib.hid fun (hk : ¬ (f.kind = 3 ∨ f.kind = 7)) (hx : ¬ ((own l (nm f)).isNone = true ∧ f.kind ≠ 5)) => show may l reg f q = fwE (sgn ((own l (nm f)).getD f) q) (dsg (dlg l (nm f)) l.length f q) from myE_few hE hk hx
  have HRR := Lib.hid fun (hk : f.kind = 4 ∨ f.kind = 5 ∨ f.kind = 6) => show rrB f = true by rw [← rgt_in hk]; exact hE
  unfold Ft.v
  unfold OwnP at HO
  unfold DlgP at HD
  generalize may l reg f q = er at *
  clear h hl hr hro hf hb hu hq hE hA hk0
  go_enter Try.func22, Try.ntmps22
  go_upto_region 3 with fail
  generalize (w.alloc (.cells f.cs.toArray 39)) = w0 at *
  go_cut [40] (fun s wx => s = .bool false ∧ Hid (Fr w0 wx))
  case first =>
    clear HO HD HCR HC HOL HDL HM37 HM24 HMF HNM HAF
    by_cases hk : f.kind = 4 ∨ f.kind = 5 ∨ f.kind = 6
    · have hR := HRR.out hk
      rw [hR] at HRG
      clear hR HRR HE
      rcases hk with hk | hk | hk
      all_goals
        rw [hk] at c0
        clear hk
        go_wp2_with (first
          | (refine wpList_load_fact (by rfl) (.tmp 6) rfl w.heap.size 0 f (by rfl) HA.out ?_)
          | (go_at_call 34; refine (HRG.out _ HF0.out).mono ?_; rintro e w1 ⟨rfl, hf1⟩))
        go_meet
        exact ⟨rfl, Lib.hid hf1⟩
    · have e4 : (f.kind == 4) = false := by simp; omega
      have e5 : (f.kind == 5) = false := by simp; omega
      have e6 : (f.kind == 6) = false := by simp; omega
      clear HRR HE hk
      generalize f.kind = kd at *
      go_wp2_with fail
      go_meet
      exact ⟨rfl, Lib.hid (Fr.refl _)⟩
  case rest =>
    obtain ⟨rfl, HF1⟩ := hcut
    have k0 := HF1.out.cell c0
    have k0_base := c0
    clear c0
    by_cases h37 : f.kind = 3 ∨ f.kind = 7
    · have hM := HM37.out h37
      rw [anyR_cnt] at hM
      clear HM37 HM24 HMF HRR HE HO HD HC HOL HDL HNM HAF HRG d0 d8 c24 c25
      generalize cnt reg q = cr at *
      by_cases hc : cr = 0
      · have b0 : ((cr : Int) == 0) = true := by simpa using hc
        have HR := Lib.hid (show er = 22 by rw [hM, decide_eq_true hc]; rfl)
        clear hM hc
        rcases h37 with hk | hk
        all_goals
          rw [hk] at k0
          clear hk
          go_wp2_with (go_at_call 23; refine (HCR.out _ (HF0.out.trans HF1.out)).mono ?_; rintro e w2 ⟨rfl, hf2⟩; have HF2 := Lib.hid (HF1.out.trans hf2); clear hf2)
          go_ret
          rw [HR.out]
          exact ⟨rfl, HF0.out.trans HF2.out⟩
      · have b0 : ((cr : Int) == 0) = false := by rw [beq_eq_false_iff_ne]; omega
        have HR := Lib.hid (show er = 0 by rw [hM, decide_eq_false hc]; rfl)
        clear hM hc
        rcases h37 with hk | hk
        all_goals
          rw [hk] at k0
          clear hk
          go_wp2_with (go_at_call 23; refine (HCR.out _ (HF0.out.trans HF1.out)).mono ?_; rintro e w2 ⟨rfl, hf2⟩; have HF2 := Lib.hid (HF1.out.trans hf2); clear hf2)
          go_ret
          rw [HR.out]
          exact ⟨rfl, HF0.out.trans HF2.out⟩
    · have e3 : (f.kind == 3) = false := by simp; omega
      have e7 : (f.kind == 7) = false := by simp; omega
      clear HCR HM37 HRR HE HRG d0 d8
      have HM24 := Lib.hid (HM24.out h37)
      have HMF := Lib.hid (HMF.out h37)
      clear h37 hmq
      generalize dlg l (nm f) = y at *
      generalize own l (nm f) = x at *
      rcases x with _ | g1
      · by_cases h5 : f.kind = 5
        case neg =>
          have HR := Lib.hid (HM24.out rfl h5)
          have e5 : (f.kind != 5) = true := by simpa using h5
          clear HM24 HMF h5 HOL HDL HD HC
          have k00 := k0_base
          go_wp2_with (first
            | (go_at_call 11; refine (HO.out _ (HF0.out.trans HF2.out)).mono ?_; rintro e w3 ⟨kv3, rfl, hk3, hf3⟩; have HF3 := Lib.hid (HF2.out.trans hf3); have HK3 := Lib.hid hk3; have k03 := HF3.out.cell k00; have k24 := HF3.out.cell c24; have k25 := HF3.out.cell c25; clear hf3 hk3)
            | (go_at_call 24; refine (HNM.out _ (HF0.out.trans HF1.out)).mono ?_; rintro e w2 ⟨rfl, hf2⟩; have HF2 := Lib.hid (HF1.out.trans hf2); clear hf2)
            | (refine wpList_load_fact (by rfl) (.tmp 6) rfl w.heap.size 0 f (by rfl) (HAF.out _ HF1.out) ?_))
          go_ret
          rw [HR.out]
          exact ⟨rfl, HF0.out.trans HF3.out⟩
        have HM := Lib.hid (show er = fwE (sgn f q) (dsg y l.length f q) from HMF.out (fun h => h.2 h5))
        have HC3 := Lib.hid fun kv w' (hw : Fr w w') (hk : Sl w' kv f.keys) => HC.out kv f.keys w' hw hk hfk
        have HF5k := Lib.hid h5
        have k00 := k0_base
        rw [h5] at k00 k0
        clear HM24 HMF HOL HDL HC e3 e7 h5
        have e3 : True := trivial
        have e7 : True := trivial
        generalize hcn : cnt f.keys q = cn at *
        have hcl : cn ≤ 1000000 := by have := cnt_len f.keys q; omega
        have HM := Lib.hid (show er = fwE (decide (f.need ≤ (cn : Int))) (dsg y l.length f q) by rw [HM.out]; unfold sgn; rw [hcn])
        clear hcn
        go_upto_region 15 with (first
          | (go_at_call 11; refine (HO.out _ (HF0.out.trans HF2.out)).mono ?_; rintro e w3 ⟨kv3, rfl, hk3, hf3⟩; have HF3 := Lib.hid (HF2.out.trans hf3); have HK3 := Lib.hid hk3; have k03 := HF3.out.cell k00; have k24 := HF3.out.cell c24; have k25 := HF3.out.cell c25; clear hf3 hk3)
          | (go_at_call 24; refine (HNM.out _ (HF0.out.trans HF1.out)).mono ?_; rintro e w2 ⟨rfl, hf2⟩; have HF2 := Lib.hid (HF1.out.trans hf2); clear hf2)
          | (refine wpList_load_fact (by rfl) (.tmp 6) rfl w.heap.size 0 f (by rfl) (HAF.out _ HF1.out) ?_))
        clear k0 e3 e7 HO
        by_cases hs : f.need ≤ (cn : Int)
        · have ds : decide (f.need ≤ (cn : Int)) = true := decide_eq_true hs
          have HR := Lib.hid (show er = 0 by rw [HM.out, ds]; rfl)
          clear HM hs HD HNM HAF
          go_wp2_with (go_at_call 23; refine (HC3.out _ _ (HF0.out.trans HF3.out) (HK0.out.fr HF3.out)).mono ?_; rintro e w4 ⟨rfl, hf4⟩; have HF4 := Lib.hid (HF3.out.trans hf4); have k04 := HF4.out.cell k00; clear hf4)
          go_ret
          rw [HR.out]
          exact ⟨rfl, HF0.out.trans HF4.out⟩
        have ds : decide (f.need ≤ (cn : Int)) = false := decide_eq_false hs
        have HM := Lib.hid (show er = fwE false (dsg y l.length f q) by rw [HM.out, ds])
        clear hs
        go_upto_region 18 with (first
          | (go_at_call 23; refine (HC3.out _ _ (HF0.out.trans HF3.out) (HK0.out.fr HF3.out)).mono ?_; rintro e w4 ⟨rfl, hf4⟩; have HF4 := Lib.hid (HF3.out.trans hf4); have k04 := HF4.out.cell k00; clear hf4)
          | (go_at_call 13; refine (HD.out _ (HF0.out.trans HF5.out)).mono ?_; rintro e w6 ⟨kv6, rfl, hk6, hf6⟩; have HF6 := Lib.hid (HF5.out.trans hf6); have HK6 := Lib.hid hk6; have k06 := HF6.out.cell k00; clear hf6 hk6)
          | (go_at_call 24; refine (HNM.out _ (HF0.out.trans HF4.out)).mono ?_; rintro e w5 ⟨rfl, hf5⟩; have HF5 := Lib.hid (HF4.out.trans hf5); clear hf5)
          | (refine wpList_load_fact (by rfl) (.tmp 6) rfl w.heap.size 0 f (by rfl) (HAF.out _ HF4.out) ?_))
        clear HC3 HNM HAF HD k24 k25 k03 k04 ds
        have HR := Lib.hid (show er = 23 by
          rw [HM.out]
          have : dsg y l.length f q = false := by
            unfold dsg
            cases y with
            | none => rfl
            | some g2 => simp [HF5k.out]
          rw [this]; rfl)
        clear HM
        go_wp2_with fail
        go_ret
        rw [HR.out]
        exact ⟨rfl, HF0.out.trans HF6.out⟩
      · have HM := Lib.hid (show er = fwE (sgn g1 q) (dsg y l.length f q) from HMF.out (fun h => by simp at h))
        dsimp only [ndO, kyO, Option.isSome_some] at HO
        have HL3 := Lib.hid (HOL.out g1 rfl)
        have HC3 := Lib.hid fun kv w' (hw : Fr w w') (hk : Sl w' kv g1.keys) => HC.out kv g1.keys w' hw hk HL3.out
        have k00 := k0_base
        clear HM24 HMF HOL
        generalize hcn : cnt g1.keys q = cn at *
        have hcl : cn ≤ 1000000 := by have := cnt_len g1.keys q; omega
        have HM := Lib.hid (show er = fwE (decide (g1.need ≤ (cn : Int))) (dsg y l.length f q) by rw [HM.out]; unfold sgn; rw [hcn])
        clear hcn
        go_upto_region 15 with (first
          | (go_at_call 11; refine (HO.out _ (HF0.out.trans HF2.out)).mono ?_; rintro e w3 ⟨kv3, rfl, hk3, hf3⟩; have HF3 := Lib.hid (HF2.out.trans hf3); have HK3 := Lib.hid hk3; have k03 := HF3.out.cell k00; have k24 := HF3.out.cell c24; have k25 := HF3.out.cell c25; clear hf3 hk3)
          | (go_at_call 24; refine (HNM.out _ (HF0.out.trans HF1.out)).mono ?_; rintro e w2 ⟨rfl, hf2⟩; have HF2 := Lib.hid (HF1.out.trans hf2); clear hf2)
          | (refine wpList_load_fact (by rfl) (.tmp 6) rfl w.heap.size 0 f (by rfl) (HAF.out _ HF1.out) ?_))
        clear k0 e3 e7 HO
        by_cases hs : g1.need ≤ (cn : Int)
        · have ds : decide (g1.need ≤ (cn : Int)) = true := decide_eq_true hs
          have HR := Lib.hid (show er = 0 by rw [HM.out, ds]; rfl)
          clear HM hs HD HNM HAF HDL
          go_wp2_with (go_at_call 23; refine (HC3.out _ _ (HF0.out.trans HF3.out) HK3.out).mono ?_; rintro e w4 ⟨rfl, hf4⟩; have HF4 := Lib.hid (HF3.out.trans hf4); have k04 := HF4.out.cell k00; clear hf4)
          go_ret
          rw [HR.out]
          exact ⟨rfl, HF0.out.trans HF4.out⟩
        have ds : decide (g1.need ≤ (cn : Int)) = false := decide_eq_false hs
        have HM := Lib.hid (show er = fwE false (dsg y l.length f q) by rw [HM.out, ds])
        clear hs
        go_upto_region 18 with (first
          | (go_at_call 23; refine (HC3.out _ _ (HF0.out.trans HF3.out) HK3.out).mono ?_; rintro e w4 ⟨rfl, hf4⟩; have HF4 := Lib.hid (HF3.out.trans hf4); have k04 := HF4.out.cell k00; clear hf4)
          | (go_at_call 13; refine (HD.out _ (HF0.out.trans HF5.out)).mono ?_; rintro e w6 ⟨kv6, rfl, hk6, hf6⟩; have HF6 := Lib.hid (HF5.out.trans hf6); have HK6 := Lib.hid hk6; have k06 := HF6.out.cell k00; clear hf6 hk6)
          | (go_at_call 24; refine (HNM.out _ (HF0.out.trans HF4.out)).mono ?_; rintro e w5 ⟨rfl, hf5⟩; have HF5 := Lib.hid (HF4.out.trans hf5); clear hf5)
          | (refine wpList_load_fact (by rfl) (.tmp 6) rfl w.heap.size 0 f (by rfl) (HAF.out _ HF4.out) ?_))
        clear HC3 HNM HAF HD k24 k25 k03 k04 ds
        rcases y with _ | g2
        · have HR := Lib.hid (show er = 23 from HM.out)
          clear HM HDL
          dsimp only [ndO, tlO]
          by_cases z0 : f.kind = 0
          · rw [z0] at k00 k06
            clear z0
            go_wp2_with fail
            go_ret
            rw [HR.out]
            exact ⟨rfl, HF0.out.trans HF6.out⟩
          · have y0 : (f.kind == 0) = false := by simpa using z0
            clear z0
            go_wp2_with fail
            go_ret
            rw [HR.out]
            exact ⟨rfl, HF0.out.trans HF6.out⟩
        have HL6 := Lib.hid (HDL.out g2 rfl)
        have hd : dsg (some g2) l.length f q = (decide (f.kind = 0) && decide ((l.length : Int) ≤ g2.til) && decide (1 ≤ g2.need) && decide (g2.need ≤ (cnt g2.keys q : Int))) := rfl
        have HC6 := Lib.hid fun kv w' (hw : Fr w w') (hk : Sl w' kv g2.keys) => HC.out kv g2.keys w' hw hk HL6.out
        rw [hd] at HM
        clear hd HDL HC
        have hcl2 : cnt g2.keys q ≤ 1000000 := by have := cnt_len g2.keys q; omega
        simp only [kyO] at HK6
        dsimp only [ndO, tlO]
        generalize cnt g2.keys q = cn2 at *
        by_cases z0 : f.kind = 0
        case neg =>
          have HR := Lib.hid (show er = 23 by rw [HM.out, decide_eq_false z0]; simp [fwE])
          have y0 : (f.kind == 0) = false := by simpa using z0
          clear HM z0
          go_wp2_with fail
          go_ret
          rw [HR.out]
          exact ⟨rfl, HF0.out.trans HF6.out⟩
        by_cases z1 : 1 ≤ g2.need
        case neg =>
          have HR := Lib.hid (show er = 23 by rw [HM.out, decide_eq_true z0, decide_eq_false z1]; simp [fwE])
          have y1 : decide (1 ≤ g2.need) = false := decide_eq_false z1
          rw [z0] at k00 k06
          clear HM z0 z1
          go_wp2_with fail
          go_ret
          rw [HR.out]
          exact ⟨rfl, HF0.out.trans HF6.out⟩
        by_cases z2 : (l.length : Int) ≤ g2.til
        case neg =>
          have HR := Lib.hid (show er = 23 by rw [HM.out, decide_eq_true z0, decide_eq_true z1, decide_eq_false z2]; simp [fwE])
          have y2 : decide ((l.length : Int) ≤ g2.til) = false := decide_eq_false z2
          rw [z0] at k00 k06
          have y1 : decide (1 ≤ g2.need) = true := decide_eq_true z1
          clear HM z0 z1 z2
          go_wp2_with fail
          go_ret
          rw [HR.out]
          exact ⟨rfl, HF0.out.trans HF6.out⟩
        by_cases z3 : g2.need ≤ (cn2 : Int)
        case neg =>
          have HR := Lib.hid (show er = 23 by rw [HM.out, decide_eq_true z0, decide_eq_true z1, decide_eq_true z2, decide_eq_false z3]; simp [fwE])
          have y3 : decide (g2.need ≤ (cn2 : Int)) = false := decide_eq_false z3
          rw [z0] at k00 k06
          have y1 : decide (1 ≤ g2.need) = true := decide_eq_true z1
          have y2 : decide ((l.length : Int) ≤ g2.til) = true := decide_eq_true z2
          clear HM z0 z1 z2 z3
          go_wp2_with (go_at_call 23; refine (HC6.out _ _ (HF0.out.trans HF6.out) HK6.out).mono ?_; rintro e w7 ⟨rfl, hf7⟩; have HF7 := Lib.hid (HF6.out.trans hf7); clear hf7)
          go_ret
          rw [HR.out]
          exact ⟨rfl, HF0.out.trans HF7.out⟩
        have HR := Lib.hid (show er = 0 by rw [HM.out, decide_eq_true z0, decide_eq_true z1, decide_eq_true z2, decide_eq_true z3]; simp [fwE])
        rw [z0] at k00 k06
        have y1 : decide (1 ≤ g2.need) = true := decide_eq_true z1
        have y2 : decide ((l.length : Int) ≤ g2.til) = true := decide_eq_true z2
        have y3 : decide (g2.need ≤ (cn2 : Int)) = true := decide_eq_true z3
        clear HM z0 z1 z2 z3
        go_wp2_with (go_at_call 23; refine (HC6.out _ _ (HF0.out.trans HF6.out) HK6.out).mono ?_; rintro e w7 ⟨rfl, hf7⟩; have HF7 := Lib.hid (HF6.out.trans hf7); clear hf7)
        go_ret
        rw [HR.out]
        exact ⟨rfl, HF0.out.trans HF7.out⟩
end Go.Proofs.Ytddeblcoglhdnaa
