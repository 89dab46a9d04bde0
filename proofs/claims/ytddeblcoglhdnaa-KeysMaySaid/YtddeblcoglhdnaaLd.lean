/-
  KeysMay: the walk.
-/
import Derived.Test.YtddeblcoglhdnaaLn
namespace Go.Proofs.Ytddeblcoglhdnaa
open Go.RowKit Mb Go.BigFrame

set_option maxRecDepth 100000 in
set_option maxHeartbeats 8000000 in
theorem mayLaw_any (v r u mo : Value) (l : List Ft) (reg : List Int) (f : Ft) (q m : List Int) (w : World) (h : FSl w v l) (hr : LR l) (hreg : Sl w r reg) (hrr : ∀ z ∈ reg, -9223372036854775808 ≤ z ∧ z ≤ 9223372036854775807)
    (hf : FtOk w f) (hfr : ∀ z ∈ f.keys, -9223372036854775808 ≤ z ∧ z ≤ 9223372036854775807) (hfn : (nm f).length ≤ 9223372036854775807)
    (hu : Sl w u q) (hqr : ∀ z ∈ q, -9223372036854775808 ≤ z ∧ z ≤ 9223372036854775807) (hmo : Sl w mo m) (hmr : ∀ z ∈ m, -9223372036854775808 ≤ z ∧ z ≤ 9223372036854775807) (hsz : l.length * 408 ≤ 140737488351232) :
    Calls Try.prog 5 #[v, r, f.v, u, mo] w fun e w' => e = .returned (.bool true) ∧ Fr w w' := by
  have HS := Lib.hid fun w' => small_any w'
  have HA := Lib.hid (FtAt.new hf 39)
  have HF0 := Lib.hid (Fr.alloc w (.cells f.cs.toArray 39))
  have HV := Lib.hid h
  have HR := Lib.hid hr
  have HG := Lib.hid hreg
  have HGR := Lib.hid hrr
  have HFR := Lib.hid (And.intro hfr hfn)
  have HU := Lib.hid hu
  have HUR := Lib.hid hqr
  have HMO := Lib.hid hmo
  have HMR := Lib.hid hmr
  have HSZ := Lib.hid (show (1 + l.length) * 408 ≤ 140737488355328 by omega)
  obtain ⟨av, ac, rfl⟩ := h.len
  obtain ⟨ra, rc, rfl⟩ := hreg.len
  obtain ⟨ua, uc, rfl⟩ := hu.len
  obtain ⟨ma, mc, rfl⟩ := hmo.len
  unfold Ft.v
  clear h hr hreg hrr hf hfr hfn hu hqr hmo hmr hsz
  go_enter Try.func5, Try.ntmps5
  go_upto_region 1 with fail
  generalize (w.alloc (.cells f.cs.toArray 39)) = w0 at *
  go_wp2_with fail
  refine (HS.out w0).mono ?_
  rintro e w1 ⟨rfl, hf⟩
  have HF1 := Lib.hid (HF0.out.trans hf)
  have HAT := Lib.hid (HA.out.fr hf)
  have HF01 := Lib.hid hf
  clear hf HS HA HF0
  have HV1 := Lib.hid (HV.out.fr HF1.out)
  have HO1 : Hid (∀ g ∈ [f], FtOk w1 g) := Lib.hid (by intro g hg; rw [List.mem_singleton] at hg; subst hg; exact HAT.out.ok)
  have HRF := Lib.hid (rowF w1 [f] HO1.out (by show 1 ≤ 1000; decide))
  go_wp2_with (first
    | (refine wpList_load_fact (by rfl) (.tmp 7) rfl w.heap.size 0 f (by rfl) HAT.out ?_; refine wpList_build_fact1 rfl (.tmp 22) rfl f (by rfl) HO1.out ?_)
    | (at_builtin; refine wpList_append_facts rfl (.tmp 23) (.tmp 24) rfl w1.heap.size _ 1 [f] rfl HRF.out _ l rfl (HV1.out.fr (Fr.alloc _ _)) HSZ.out (by simp) ?_; intro v3 w6 hown hgr; have HF6 := Lib.hid (Fr.growO (Fr.alloc w1 _) hgr (fun k hk => Nat.le_of_eq (Option.some.inj hk))); have HSF := Lib.hid (FSl.own (l := f :: l) hown (by simp; omega) (fun g hg => by
        rcases List.mem_cons.1 hg with rfl | hg
        · exact HAT.out.ok.fr HF6.out
        · exact HV1.out.oks g hg |>.fr HF6.out)); clear hown hgr))
  have HSS := Lib.hid (ss_lit3 (HG.out.fr (HF1.out.trans HF6.out)) (HU.out.fr (HF1.out.trans HF6.out)) (HMO.out.fr (HF1.out.trans HF6.out)))
  refine (few_any _ _ (f :: l) [reg, q, m] 16 (by decide) _ (HSF.out.fr (Fr.alloc _ _)) HSS.out).mono ?_
  rintro e w7 ⟨b, rfl, hb, hw7⟩
  have HF17 := Lib.hid (show Fr w1 w7 by rw [hw7]; exact HF6.out.trans (Fr.alloc _ _))
  have HF7 := Lib.hid (HF1.out.trans HF17.out)
  clear hw7 HSF HSS HF6 HRF HO1 HV1 HSZ
  cases b with
  | false =>
    clear hb
    go_wp2_with fail
    go_ret
    exact ⟨rfl, HF7.out⟩
  | true =>
    obtain ⟨hl16, _, hk20, hq20⟩ := hb rfl
    have hl15 : l.length ≤ 15 := by simp at hl16; omega
    have d15 : decide ((15 : Int) < (l.length : Int)) = false := decide_eq_false (by omega)
    have hreg20 : reg.length ≤ 20 := hq20 reg (by simp)
    have hqq20 : q.length ≤ 20 := hq20 q (by simp)
    have hm20 : m.length ≤ 20 := hq20 m (by simp)
    have hf20 : f.keys.length ≤ 20 := hk20 f (by simp)
    have HLB := Lib.hid (HR.out.lb (by omega) (fun g hg => hk20 g (by simp [hg])))
    have HFB : Hid (FB f) := Lib.hid ⟨⟨by omega, HFR.out.1⟩, HFR.out.2⟩
    have HM := Lib.hid fun uv qq w' (hw : Fr w7 w') (h3 : Sl w' uv qq) (h4 : Ok qq) => mayF_any (.slice av l.length ac) (.slice ra reg.length rc) uv l reg f qq w' (HV.out.fr (HF7.out.trans hw)) HLB.out (HG.out.fr (HF7.out.trans hw)) ⟨by omega, HGR.out⟩ (HAT.out.ok.fr (HF17.out.trans hw)) HFB.out h3 h4
    have HQO : Hid (Ok q) := Lib.hid ⟨by omega, HUR.out⟩
    have HQM : Hid (Ok (q ++ m)) := Lib.hid ⟨by rw [List.length_append]; omega, fun z hz => (List.mem_append.1 hz).elim (HUR.out z) (HMR.out z)⟩
    have HQR : Hid (Ok (q.reverse ++ q)) := Lib.hid ⟨by rw [List.length_append, List.length_reverse]; omega, fun z hz => (List.mem_append.1 hz).elim (fun h => HUR.out z (List.mem_reverse.1 h)) (HUR.out z)⟩
    have HAT7 := Lib.hid (HAT.out.fr HF17.out)
    have HU7 := Lib.hid (HU.out.fr HF7.out)
    have HM7 := Lib.hid (HMO.out.fr HF7.out)
    have HOW := Lib.hid fun n w' (hw : Fr w7 w') => owner_any (.slice av l.length ac) l n w' (HV.out.fr (HF7.out.trans hw)) HLB.out
    clear hb hl16 hk20 hq20 HV HR HG HGR HFR HU HUR HMO HMR HF1 HF01 HAT HF17 HLB HFB
    go_upto_region 5 with (first
      | (refine wpList_load_fact (by rfl) (.tmp 7) rfl w.heap.size 0 f (by rfl) HAT7.out ?_)
      | (go_at_call 21; refine (HM.out _ _ _ (Fr.refl _) HU7.out HQO.out).mono ?_; rintro e w8 ⟨rfl, hf⟩; have HF8 := Lib.hid hf; clear hf))
    have HAT8 := Lib.hid (HAT7.out.fr HF8.out)
    have HU8 := Lib.hid (HU7.out.fr HF8.out)
    have HM8 := Lib.hid (HM7.out.fr HF8.out)
    go_upto_region 5 with fail
    refine wp_region_held_drew (S := fun w' => Fr w8 w') (by kernel_rfl) (Fr.drew w8) (fun hH => ?_)
    refine any_move 0 (.tmp 0) (.slice av l.length ac) rfl rfl rfl (by kernel_rfl) (by kernel_rfl) (by kernel_rfl) (fun _ _ _ h => h) rfl hH ?_
    simp only [Act.put, List.setIfInBounds_toArray]
    refine any_move 1 (.tmp 1) (.slice ra reg.length rc) rfl rfl rfl (by kernel_rfl) (by kernel_rfl) (by kernel_rfl) (fun _ _ _ h => h) rfl hH ?_
    simp only [Act.put]
    refine any_load_fact 2 (.tmp 7) (w.heap.size) (0) (f) rfl rfl rfl (by kernel_rfl) (by kernel_rfl) (by kernel_rfl) (fun _ _ _ h => h) rfl (fun w' hw => HAT8.out.fr hw) hH ?_
    simp only [Act.put]
    refine any_move 4 (.tmp 3) (.slice ua q.length uc) rfl rfl rfl (by kernel_rfl) (by kernel_rfl) (by kernel_rfl) (fun _ _ _ h => h) rfl hH ?_
    simp only [Act.put]
    refine any_move 6 (.tmp 4) (.slice ma m.length mc) rfl rfl rfl (by kernel_rfl) (by kernel_rfl) (by kernel_rfl) (fun _ _ _ h => h) rfl hH ?_
    simp only [Act.put]
    refine wpAnyH_ready (rs := [3]) (by kernel_rfl) (by simp) ?_
    refine AllReadyH.cons rfl (fun K hK => ?_) AllReadyH.nil
    go_simp
    clear hH
    refine hK.out _ _ ((Fr.drew w8).trans (Fr.alloc _ _)) (fun hH => ?_)
    clear hK K
    refine wpAnyH_ready (rs := [5]) (by kernel_rfl) (by simp) ?_
    refine AllReadyH.cons rfl (fun K hK => ?_) AllReadyH.nil
    refine step_append_ints (op := ⟨some 48, _, _, _, _, _⟩) (by rfl) (.tmp 46) (.tmp 47) (by rfl) w8.heap.size _ 0 [] (by rfl) (row0i w8.drew) _ q (by rfl) (HU8.out.fr ((Fr.drew w8).trans (Fr.alloc _ _))) (by omega) (by simp) ?_
    intro v1 w9 hown1 hgr1
    have HO1 := Lib.hid hown1
    have HF9 := Lib.hid (Fr.growO ((Fr.drew w8).trans (Fr.alloc _ _)) hgr1 (fun k hk => Nat.le_of_eq (Option.some.inj hk)))
    clear hown1 hgr1
    clear hH
    refine hK.out _ _ (HF9.out) (fun hH => ?_)
    clear hK K
    refine wpAnyH_ready (rs := [7]) (by kernel_rfl) (by simp) ?_
    refine AllReadyH.cons rfl (fun K hK => ?_) AllReadyH.nil
    refine step_append_ints (op := ⟨some 50, _, _, _, _, _⟩) (by rfl) (.tmp 48) (.tmp 49) (by rfl) w8.heap.size v1 _ _ (by rfl) HO1.out _ m (by rfl) (HM8.out.fr HF9.out) (by omega) (by have := HF9.out.size; omega) ?_
    intro v2 w10 hown2 hgr2
    have HS2 := Lib.hid (Sl.own (l := q ++ m) hown2)
    have HF10 := Lib.hid (Fr.growO HF9.out hgr2 (fun k hk => (HO1.out.lt k hk).1))
    clear hown2 hgr2
    clear hH
    refine hK.out _ _ (HF10.out) (fun hH => ?_)
    clear hK K
    refine wpAnyH_ready (rs := [8]) (by kernel_rfl) (by simp) ?_
    refine AllReadyH.cons rfl (fun K hK => ?_) AllReadyH.nil
    go_simp
    go_wp2_with (go_at_call 21; refine (HM.out _ _ _ (HF8.out.trans HF10.out) HS2.out HQM.out).mono ?_; rintro e w11 ⟨rfl, hf⟩; have HF11 := Lib.hid (HF10.out.trans hf); clear hf)
    clear hH
    refine hK.out _ _ (HF11.out) (fun hH => ?_)
    clear hK K
    refine any_assign 9 (.tmp 51) (.int .i64 (may l reg f (q ++ m))) rfl rfl rfl (by kernel_rfl) (by kernel_rfl) (by kernel_rfl) (fun _ _ _ h => h) rfl hH ?_
    simp only [Act.put, List.setIfInBounds_toArray]
    refine wpAnyH_done (by kernel_rfl) ?_ _
    have HF11B := Lib.hid (HF8.out.trans HF11.out)
    have HAT11 := Lib.hid (HAT8.out.fr HF11.out)
    have HU11 := Lib.hid (HU8.out.fr HF11.out)
    have HMB := Lib.hid fun uv w' (hw : Fr w7 w') (h3 : Sl w' uv (q.reverse ++ q)) => (show Calls Try.prog 21 _ w' _ from by
      have h := HM.out uv _ w' hw h3 HQR.out
      rw [may_rev] at h
      exact h)
    have HLAW := Lib.hid (may_law l reg f q m)
    clear HF8 HF9 HF10 HF11 HO1 HS2 HAT8 HU8 HM8 HAT7 HU7 HM7 HQM HQO HQR hH
    go_wp2_with fail
    go_loopw [15, 14] (fun vi u14 wr => ∃ (k mm : Nat), k ≤ q.length ∧ vi = .int .i64 k ∧ mm = k ∧ Hid (wr.ownsRow w11.heap.size 3 1 u14 mm (ints (q.reverse.take k))) ∧ Hid (Fr w11 wr)) (fun vi _ _ => q.length - (intOf vi).toNat)
    case atStart => exact ⟨0, 0, Nat.zero_le _, rfl, rfl, Lib.hid (World.ownsRow_nil _ _ _ _), Lib.hid (Fr.refl _)⟩
    case round =>
      obtain ⟨k, mm, hk, rfl, hmk, hO, hF⟩ := hrel
      by_cases hlt : k < q.length
      · obtain ⟨g, o, rfl, cc'⟩ := HU11.out.at (q.length - 1 - k) (by omega)
        have ck := hF.out.cell cc'
        have hidx : ((q.length : Int) - 1 - (k : Int)).toNat = q.length - 1 - k := by omega
        have hir : q.reverse[k]'(by rw [List.length_reverse]; exact hlt) = q[q.length - 1 - k] := by rw [List.getElem_reverse]
        have HTK := Lib.hid (show q.reverse.take (k + 1) = q.reverse.take k ++ [q[q.length - 1 - k]] by rw [take_snoc (by rw [List.length_reverse]; exact hlt), hir])
        clear cc' hir HU11 HM HMB HOW HLAW HAT11
        generalize q[q.length - 1 - k] = x at *
        subst hmk
        go_wp2_with (at_builtin; refine wpList_append_ints rfl (.tmp 58) (.tmp 67) rfl w11.heap.size _ _ _ rfl (hO.out.alloc _) _ [x] rfl (sl_lit wr [x]) (by show _ + 1 ≤ _; omega) (by have := hF.out.size; simp; omega) ?_; intro v3 w13 hown hgr)
        have HO2 := Lib.hid (show w13.ownsRow w11.heap.size 3 1 v3 (mm + 1) (ints (q.reverse.take (mm + 1))) by rw [HTK.out]; exact hown)
        have HF2 := Lib.hid (Fr.growO (hF.out.trans (Fr.alloc wr _)) hgr (fun k hk => (hO.out.lt k hk).1))
        clear hown hgr
        go_roundw
        case rel => exact ⟨mm + 1, mm + 1, by omega, by go_num, rfl, HO2, HF2⟩
        case measure => simp [intOf]; omega
      · have hkl : k = q.length := by omega
        have hrow := hO.out
        rw [hkl, show q.reverse.take q.length = q.reverse by rw [← List.length_reverse, List.take_length]] at hrow
        have HOB := Lib.hid hrow
        have HF12 := Lib.hid hF.out
        clear hrow hO hF
        go_upto_region 11 with fail
        refine wp_region_held_drew (S := fun w' => Fr w11 w') (by kernel_rfl) (HF12.out.trans (Fr.drew wr)) (fun hH => ?_)
        refine any_move 0 (.tmp 0) (.slice av l.length ac) rfl rfl rfl (by kernel_rfl) (by kernel_rfl) (by kernel_rfl) (fun _ _ _ h => h) rfl hH ?_
        simp only [Act.put, List.setIfInBounds_toArray]
        refine any_move 1 (.tmp 1) (.slice ra reg.length rc) rfl rfl rfl (by kernel_rfl) (by kernel_rfl) (by kernel_rfl) (fun _ _ _ h => h) rfl hH ?_
        simp only [Act.put]
        refine any_load_fact 2 (.tmp 7) (w.heap.size) (0) (f) rfl rfl rfl (by kernel_rfl) (by kernel_rfl) (by kernel_rfl) (fun _ _ _ h => h) rfl (fun w' hw => HAT11.out.fr hw) hH ?_
        simp only [Act.put]
        refine any_move 3 (.tmp 14) (u14) rfl rfl rfl (by kernel_rfl) (by kernel_rfl) (by kernel_rfl) (fun _ _ _ h => h) rfl hH ?_
        simp only [Act.put]
        refine any_move 4 (.tmp 3) (.slice ua q.length uc) rfl rfl rfl (by kernel_rfl) (by kernel_rfl) (by kernel_rfl) (fun _ _ _ h => h) rfl hH ?_
        simp only [Act.put]
        refine wpAnyH_ready (rs := [5]) (by kernel_rfl) (by simp) ?_
        refine AllReadyH.cons rfl (fun K hK => ?_) AllReadyH.nil
        refine step_append_ints (op := ⟨some 74, _, _, _, _, _⟩) (by rfl) (.tmp 72) (.tmp 73) (by rfl) w11.heap.size u14 _ q.reverse (by rfl) (own_fr HOB.out (Fr.drew wr)) _ q (by rfl) (HU11.out.fr (HF12.out.trans (Fr.drew wr))) (by omega) HF12.out.size ?_
        intro v1 w13 hown1 hgr1
        have HS3 := Lib.hid (Sl.own (l := q.reverse ++ q) hown1)
        have HF13 := Lib.hid (Fr.growO (HF12.out.trans (Fr.drew wr)) hgr1 (fun k hk => (HOB.out.lt k hk).1))
        clear hown1 hgr1
        clear hH
        refine hK.out _ _ (HF13.out) (fun hH => ?_)
        clear hK K
        refine wpAnyH_ready (rs := [6]) (by kernel_rfl) (by simp) ?_
        refine AllReadyH.cons rfl (fun K hK => ?_) AllReadyH.nil
        go_simp
        go_wp2_with (go_at_call 21; refine (HMB.out _ _ (HF11B.out.trans HF13.out) HS3.out).mono ?_; rintro e w14 ⟨rfl, hf⟩; have HF14 := Lib.hid (HF13.out.trans hf); clear hf)
        clear hH
        refine hK.out _ _ (HF14.out) (fun hH => ?_)
        clear hK K
        refine any_assign 7 (.tmp 75) (.int .i64 (may l reg f q)) rfl rfl rfl (by kernel_rfl) (by kernel_rfl) (by kernel_rfl) (fun _ _ _ h => h) rfl hH ?_
        simp only [Act.put, List.setIfInBounds_toArray]
        refine wpAnyH_done (by kernel_rfl) ?_ _
        have HAT14 := Lib.hid (HAT11.out.fr HF14.out)
        have HF7E := Lib.hid (HF11B.out.trans HF14.out)
        clear HF13 HS3 HOB HF12 hmk hkl hlt HU11 HMB hH
        go_upto_region 13 with (first
          | (refine wpList_load_fact (by rfl) (.tmp 7) rfl w.heap.size 0 f (by rfl) HAT14.out ?_)
          | (go_at_call 21; refine (HM.out _ [] _ HF7E.out (Sl.nil _ _ _) Ok.nil).mono ?_; rintro e w15 ⟨rfl, hf⟩; have HF15 := Lib.hid (HF7E.out.trans hf); have HAT15 := Lib.hid (HAT14.out.fr hf); clear hf))
        have c0 := HAT15.out.kind
        have HNM := Lib.hid fun w' (hw : Fr w15 w') => rname_any f w' (HAT15.out.ok.fr hw)
        have HOX := Lib.hid fun w' (hw : Fr w15 w') => HOW.out (nm f) w' (HF15.out.trans hw)
        clear HM HOW HF14 HAT11 HAT14 HF7E HF11B
        unfold OwnP at HOX
        rcases HLAW.out with ⟨e1, e2, e3⟩ | ⟨e1, e2, e3, hx, h5⟩ | ⟨e1, e2, e3, hk⟩ | ⟨e1, e2, e3⟩ | ⟨e1, e2, e3⟩
        · rw [e1, e2, e3]
          clear HLAW e1 e2 e3
          go_wp2_with (first
            | (refine wpList_load_fact (by rfl) (.tmp 7) rfl w.heap.size 0 f (by rfl) HAT15.out ?_)
            | (go_at_call 24; refine (HNM.out _ (Fr.refl _)).mono ?_; rintro e w16 ⟨rfl, hf⟩; have HF16 := Lib.hid hf; clear hf)
            | (go_at_call 10; refine (HOX.out _ HF16.out).mono ?_; rintro e w17 ⟨kv, rfl, _, hf⟩; have c17 := (HF16.out.trans hf).cell c0; have HF17 := Lib.hid (HF15.out.trans (HF16.out.trans hf)); clear hf))
          all_goals
            go_ret
            exact ⟨rfl, HF7.out.trans HF17.out⟩
        · have e5 : (f.kind == 5) = false := by simpa using h5
          rw [hx] at HOX
          dsimp only [Option.isSome_none] at HOX
          rw [e1, e2, e3]
          clear HLAW e1 e2 e3 hx
          go_wp2_with (first
            | (refine wpList_load_fact (by rfl) (.tmp 7) rfl w.heap.size 0 f (by rfl) HAT15.out ?_)
            | (go_at_call 24; refine (HNM.out _ (Fr.refl _)).mono ?_; rintro e w16 ⟨rfl, hf⟩; have HF16 := Lib.hid hf; clear hf)
            | (go_at_call 10; refine (HOX.out _ HF16.out).mono ?_; rintro e w17 ⟨kv, rfl, _, hf⟩; have c17 := (HF16.out.trans hf).cell c0; have HF17 := Lib.hid (HF15.out.trans (HF16.out.trans hf)); clear hf))
          all_goals
            go_ret
            exact ⟨rfl, HF7.out.trans HF17.out⟩
        · rw [e1, e3]
          clear HLAW e1 e3
          rcases hk with hk | hk
          all_goals
            rw [hk] at c0
            clear hk
            rcases e2 with e2 | e2
            all_goals
              rw [e2]
              clear e2
              go_wp2_with (first
                | (refine wpList_load_fact (by rfl) (.tmp 7) rfl w.heap.size 0 f (by rfl) HAT15.out ?_)
                | (go_at_call 24; refine (HNM.out _ (Fr.refl _)).mono ?_; rintro e w16 ⟨rfl, hf⟩; have HF16 := Lib.hid hf; clear hf)
                | (go_at_call 10; refine (HOX.out _ HF16.out).mono ?_; rintro e w17 ⟨kv, rfl, _, hf⟩; have c17 := (HF16.out.trans hf).cell c0; have HF17 := Lib.hid (HF15.out.trans (HF16.out.trans hf)); clear hf))
              all_goals
                go_ret
                exact ⟨rfl, HF7.out.trans HF17.out⟩
        · rw [e1, e3]
          clear HLAW e1 e3
          rcases e2 with e2 | e2
          all_goals
            rw [e2]
            clear e2
            go_wp2_with (first
              | (refine wpList_load_fact (by rfl) (.tmp 7) rfl w.heap.size 0 f (by rfl) HAT15.out ?_)
              | (go_at_call 24; refine (HNM.out _ (Fr.refl _)).mono ?_; rintro e w16 ⟨rfl, hf⟩; have HF16 := Lib.hid hf; clear hf)
              | (go_at_call 10; refine (HOX.out _ HF16.out).mono ?_; rintro e w17 ⟨kv, rfl, _, hf⟩; have c17 := (HF16.out.trans hf).cell c0; have HF17 := Lib.hid (HF15.out.trans (HF16.out.trans hf)); clear hf))
            all_goals
              go_ret
              exact ⟨rfl, HF7.out.trans HF17.out⟩
        · rw [e1, e2]
          clear HLAW e1 e2
          rcases e3 with e3 | e3 | e3
          all_goals
            rw [e3]
            clear e3
            go_wp2_with (first
              | (refine wpList_load_fact (by rfl) (.tmp 7) rfl w.heap.size 0 f (by rfl) HAT15.out ?_)
              | (go_at_call 24; refine (HNM.out _ (Fr.refl _)).mono ?_; rintro e w16 ⟨rfl, hf⟩; have HF16 := Lib.hid hf; clear hf)
              | (go_at_call 10; refine (HOX.out _ HF16.out).mono ?_; rintro e w17 ⟨kv, rfl, _, hf⟩; have c17 := (HF16.out.trans hf).cell c0; have HF17 := Lib.hid (HF15.out.trans (HF16.out.trans hf)); clear hf))
            all_goals
              go_ret
              exact ⟨rfl, HF7.out.trans HF17.out⟩
end Go.Proofs.Ytddeblcoglhdnaa
