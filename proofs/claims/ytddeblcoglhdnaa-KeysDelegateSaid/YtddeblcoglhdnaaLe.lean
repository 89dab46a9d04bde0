/-
  KeysDelegate: the walk.
-/
import Derived.Test.YtddeblcoglhdnaaLt
namespace Go.Proofs.Ytddeblcoglhdnaa
open Go.RowKit Mb Go.BigFrame

set_option maxRecDepth 100000 in
set_option maxHeartbeats 8000000 in
theorem delegateLaw_any (v : Value) (l : List Ft) (n : Txt) (wh : Nat) (til : Int) (w : World) (h : FSl w v l) (hr : LR l) (hn : n.length ≤ 9223372036854775807) (hwh : wh ≤ 255) (_ht : -9223372036854775808 ≤ til ∧ til ≤ 9223372036854775807) :
    Calls Try.prog 6 #[v, .string (S n), .int .u8 wh, .int .i64 til] w fun e w' => e = .returned (.bool true) ∧ Fr w w' := by
  have HS := Lib.hid (small_any w)
  have HV := Lib.hid h
  have HR := Lib.hid hr
  have HN := Lib.hid hn
  obtain ⟨av, ac, rfl⟩ := h.len
  clear h hr hn
  go_enter Try.func6, Try.ntmps6
  go_wp2_with fail
  refine HS.out.mono ?_
  rintro e w1 ⟨rfl, hf⟩
  have HF := Lib.hid hf
  clear hf HS
  go_wp2_with fail
  refine (few_any _ _ l [] 12 (by decide) w1 (HV.out.fr HF.out) (.inl ⟨rfl, _, _, rfl⟩)).mono ?_
  rintro e w2 ⟨b, rfl, hb, rfl⟩
  cases b with
  | false =>
    clear hb HV HR
    go_wp2_with fail
    go_ret
    exact ⟨rfl, HF.out⟩
  | true =>
    obtain ⟨hl12, _, hk20, _⟩ := hb rfl
    have HLB := Lib.hid (HR.out.lb (by omega) hk20)
    have HV1 := Lib.hid (HV.out.fr HF.out)
    have hrem : Int.tmod (wh : Int) 190 = ((wh % 190 : Nat) : Int) := by rw [Int.tmod_eq_emod_of_nonneg (by omega)]; rfl
    have hal : wh % 190 < 190 := Nat.mod_lt _ (by decide)
    generalize wh % 190 = a at *
    clear hb hk20 HR HV
    go_upto_region 5 with fail
    go_upto_region 5 with fail
    clear hrem
    go_cut [11] (fun s wx => ∃ B k1, s = .pointer (some ⟨B, 0, none⟩) ∧ Hid (FtAt wx B 0 (toF n a k1)) ∧ Hid (Fr w2 wx))
    case first =>
      have HOK : Hid (FtOk (w2.alloc (.cells #[.int .i64 (a : Int), .int .i64 ((a : Int) + 1)] 3)) (toF n a (.slice (some ⟨w2.heap.size, 0, none⟩) 2 2))) := Lib.hid (mkF_ok _ _ _ _ _ _ _ _ (sl_lit w2 [(a : Int), (a : Int) + 1]))
      go_wp2_with (first
        | (refine wpList_build_fx4 rfl (.const (.int .i64 5)) (.tmp 36) (.tmp 40) (.const (.int .i64 2)) rfl 5 2 n (some ⟨w2.heap.size, 0, none⟩) 2 2 [(a : Int), (a : Int) + 1] rfl rfl rfl rfl ?_)
        | (refine wpList_store_fact rfl (.tmp 11) (.tmp 41) rfl (w2.heap.size + 1) (toF n a (.slice (some ⟨w2.heap.size, 0, none⟩) 2 2)) _ (by simp) rfl rfl rfl HOK.out ?_; intro w3 hat hfr; have HTN := Lib.hid hat; have HFN := Lib.hid ((Fr.alloc w2 _).trans hfr); clear hat hfr))
      go_meet
      exact ⟨_, _, rfl, HTN, HFN⟩
    case rest =>
    obtain ⟨B, k1, rfl, HTO, HF5⟩ := hcut
    obtain ⟨w5, hw5⟩ : ∃ x, x = wc := ⟨_, rfl⟩
    subst hw5
    have HV5 := Lib.hid (HV1.out.fr HF5.out)
    have HF5 := Lib.hid (HF.out.trans HF5.out)
    have HSZ : Hid (l.length * 408 ≤ 140737488355328) := Lib.hid (by omega)
    have HSZ2 : Hid ((l.length + 2) * 408 ≤ 140737488355328) := Lib.hid (by omega)
    have HWR : Hid (IntKind.i64.wrap (((a : Nat) : Int) + 5) = (a : Int) + 5) := Lib.hid (IntWalk.i64_in _ (by omega))
    clear HV1 HF
    go_upto_region 6 with fail
    go_upto_region 6 with fail
    refine reg6_any (k1 := k1) (til := til) HV5.out HTO.out hl12 hal (fun c a d v w h => by cases d <;> exact h) ?_
    intro u12 w6 k2 y42 y43 y44 y45 y46 y47 y48 y49 y50 y51 y52 y53 hl6 hf6
    have HL6 := Lib.hid hl6
    have HF6 := Lib.hid hf6
    clear hl6 hf6
    obtain ⟨la, lc, hu12⟩ := HL6.out.len
    subst hu12
    have HLG := Lib.hid (lb_lg HLB.out (by omega) HN.out (a := (a : Int)) (til := til) (by omega) (by omega) k1 k2)
    have H1 := Lib.hid (lg1 l n a til k1 k2)
    have H2 := Lib.hid (lg2 l n a til k1 k2)
    have H3 := Lib.hid fun kd (hk : kd = 1 ∨ kd = 2 ∨ kd = 4 ∨ kd = 5 ∨ kd = 6) k q c (hc : cnt [(a : Int), (a : Int) + 1] q = c) => fx_may hk l n (a := (a : Int)) (by omega) (by omega) til k1 k2 k q hc
    have H4 := Lib.hid (mv4 l n a til k1 k2)
    have HOL := Lib.hid (own_lg l n a til k1 k2)
    have HDL := Lib.hid (dlg_lg l n a til k1 k2)
    have hll := lg_len l n a til k1 k2
    have HTO6 := Lib.hid (HTO.out.fr HF6.out)
    have HF6 := Lib.hid (HF5.out.trans HF6.out)
    generalize lgF l n a til k1 k2 = L at *
    have hl14 : L.length ≤ 14 := by omega
    have HLL := Lib.hid hll
    clear hll
    clear HLB HV5 HSZ HSZ2 HWR HTO HF5
    go_upto_region 7 with fail
    go_cut [13] (fun s wx => ∃ bb, s = .slice (some ⟨bb, 0, none⟩) 1 1 ∧ Hid (Sl wx s [(a : Int) + 5]) ∧ Hid (Fr w6 wx))
    case first =>
      go_wp2_with fail
      go_meet
      exact ⟨_, rfl, Lib.hid (sl_lit w6 [(a : Int) + 5]), Lib.hid (Fr.alloc _ _)⟩
    case rest =>
    obtain ⟨bb, rfl, HBY, HF7⟩ := hcut
    obtain ⟨w7, hw7⟩ : ∃ x, x = wc := ⟨_, rfl⟩
    subst hw7
    have HL7 := Lib.hid (HL6.out.fr HF7.out)
    have HTO7 := Lib.hid (HTO6.out.fr HF7.out)
    have HF7 := Lib.hid (HF6.out.trans HF7.out)
    have HMA := Lib.hid fun f q uv w' (hw : Fr w7 w') (hf : FtOk w' f) (hb : FB f) (h3 : Sl w' uv q) (h4 : Ok q) => mayF_any (.slice la L.length lc) (.slice none 0 0) uv L [] f q w' (HL7.out.fr hw) HLG.out (Sl.nil _ _ _) Ok.nil hf hb h3 h4
    have HR1 : ∃ (r : Int) (d : Bool), (r == 0) = d ∧ decide ((L.length : Int) ≤ til) = d ∧ Hid (may L [] (relF n) [(a : Int) + 5] = r) := by
      have h := H1.out
      by_cases hle : (L.length : Int) ≤ til
      · rw [if_pos hle] at h
        exact ⟨0, true, rfl, decide_eq_true hle, Lib.hid h⟩
      · rw [if_neg hle] at h
        exact ⟨23, false, rfl, decide_eq_false hle, Lib.hid h⟩
    obtain ⟨r1, d1, hr1, hd1, HR1⟩ := HR1
    have M1 : Hid (∀ w', Fr w7 w' → Calls Try.prog 21 #[.slice la L.length lc, .slice none 0 0, (relF n).v, .slice (some ⟨bb, 0, none⟩) 1 1] w' fun e w'' => e = .returned (.int .i64 r1) ∧ Fr w' w'') := Lib.hid fun w' hw => by
      have h := HMA.out (relF n) [(a : Int) + 5] _ w' hw (relF_ok _ _) (fb_rel HN.out) (HBY.out.fr hw) (ok1 (by omega) (by omega))
      rw [HR1.out] at h
      exact h
    have M2 : Hid (∀ w', Fr w7 w' → Calls Try.prog 21 #[.slice la L.length lc, .slice none 0 0, (relF n).v, .slice (some ⟨w'.heap.size, 0, none⟩) 2 2] (w'.alloc (.cells #[.int .i64 ((a : Int) + 1), .int .i64 (a : Int)] 3)) fun e w'' => e = .returned (.int .i64 0) ∧ Fr w' w'') := Lib.hid fun w' hw => by
      have h := HMA.out (relF n) [(a : Int) + 1, (a : Int)] _ _ (hw.trans (Fr.alloc _ _)) (relF_ok _ _) (fb_rel HN.out) (sl_lit w' [(a : Int) + 1, (a : Int)]) (ok2 (by omega) (by omega))
      rw [H2.out] at h
      exact h.mono fun e w'' ⟨h1, h2⟩ => ⟨h1, (Fr.alloc _ _).trans h2⟩
    have HC := Lib.hid (Fr.refl w7)
    clear H1 H2 HL6 HF6 HTO6
    go_wp2_with (go_at_call 26; refine (release_any n _).mono ?_; rintro e wz ⟨rfl, hf⟩; have HC := Lib.hid (HC.out.trans hf); clear hf)
    refine (M1.out _ HC.out).mono ?_
    rintro e wz ⟨rfl, hf⟩
    have HC := Lib.hid (HC.out.trans hf)
    clear hf
    go_wp2_with (go_at_call 26; refine (release_any n _).mono ?_; rintro e wz ⟨rfl, hf⟩; have HC := Lib.hid (HC.out.trans hf); clear hf)
    refine (M2.out _ HC.out).mono ?_
    rintro e wz ⟨rfl, hf⟩
    have HC := Lib.hid (HC.out.trans hf)
    clear hf
    go_upto_region 10 with fail
    clear M1 M2 hr1 hd1 HR1
    go_upto_region 10 with fail
    go_cut [14] (fun s wx => ∃ bk, s = .slice (some ⟨bk, 0, none⟩) 5 5 ∧ Hid (Sl wx s [1, 2, 4, 5, 6]) ∧ Hid (Fr w7 wx))
    case first =>
      go_wp2_with fail
      go_meet
      refine ⟨_, rfl, ?_, ?_⟩
      · exact Lib.hid (sl_lit wz [1, 2, 4, 5, 6])
      · exact Lib.hid (HC.out.trans (Fr.alloc wz _))
    case rest =>
    obtain ⟨bk, rfl, HKS, HF10⟩ := hcut
    obtain ⟨w10, hw10⟩ : ∃ x, x = wc := ⟨_, rfl⟩
    subst hw10
    clear HC
    have HTO10 := Lib.hid (HTO7.out.fr HF10.out)
    have HL10 := Lib.hid (HL7.out.fr HF10.out)
    have HBY10 := Lib.hid (HBY.out.fr HF10.out)
    have HWR2 : Hid (IntKind.i64.wrap (((a : Nat) : Int) + 2) = (a : Int) + 2) := Lib.hid (IntWalk.i64_in _ (by omega))
    clear HTO7
    go_wp2_with fail
    go_loopw [15] (fun vi wr => ∃ k : Nat, k ≤ 5 ∧ vi = .int .i64 k ∧ Hid (Fr w10 wr)) (fun vi _ => 5 - (intOf vi).toNat)
    case atStart => exact ⟨0, by decide, rfl, Lib.hid (Fr.refl _)⟩
    case round =>
      obtain ⟨k, hk, rfl, hF⟩ := hrel
      by_cases hlt : k < 5
      · have HX : ∃ x : Int, (x = 1 ∨ x = 2 ∨ x = 4 ∨ x = 5 ∨ x = 6) ∧ wr.cell? ⟨bk, k, none⟩ = some (.int .i64 x) := by
          obtain ⟨g9, o9, hgo, hc9⟩ := HKS.out.at k (by show k < 5; exact hlt)
          cases hgo
          rw [Nat.zero_add] at hc9
          refine ⟨_, ?_, hF.out.cell hc9⟩
          match k, hlt with
          | 0, _ => exact .inl rfl
          | 1, _ => exact .inr (.inl rfl)
          | 2, _ => exact .inr (.inr (.inl rfl))
          | 3, _ => exact .inr (.inr (.inr (.inl rfl)))
          | 4, _ => exact .inr (.inr (.inr (.inr rfl)))
        obtain ⟨x, hx, ck⟩ := HX
        have HXX := Lib.hid hx
        clear hx
        go_upto_region 14 with fail
        go_cut [16] (fun s wx => ∃ B2 k3, s = .pointer (some ⟨B2, 0, none⟩) ∧ Hid (FtAt wx B2 0 (fxF x n a k3)) ∧ Hid (Fr wr wx))
        case first =>
          have HOK : Hid (FtOk (wr.alloc (.cells #[.int .i64 ((a : Int) + 5)] 3)) (fxF x n a (.slice (some ⟨wr.heap.size, 0, none⟩) 1 1))) := Lib.hid (mkF_ok _ _ _ _ _ _ _ _ (sl_lit wr [(a : Int) + 5]))
          go_wp2_with (first
            | (refine wpList_build_fx4 rfl (.tmp 89) (.tmp 90) (.tmp 93) (.const (.int .i64 1)) rfl x 1 n (some ⟨wr.heap.size, 0, none⟩) 1 1 [(a : Int) + 5] rfl rfl rfl rfl ?_)
            | (refine wpList_store_fact rfl (.tmp 16) (.tmp 94) rfl (wr.heap.size + 1) (fxF x n a (.slice (some ⟨wr.heap.size, 0, none⟩) 1 1)) _ (by simp) rfl rfl rfl HOK.out ?_; intro w3 hat hfr; have HTN := Lib.hid hat; have HFN := Lib.hid ((Fr.alloc wr _).trans hfr); clear hat hfr))
          go_meet
          exact ⟨_, _, rfl, HTN, HFN⟩
        case rest =>
        obtain ⟨B2, k3, rfl, HAX, HFX⟩ := hcut
        obtain ⟨w14, hw14⟩ : ∃ x, x = wc := ⟨_, rfl⟩
        subst hw14
        have HW14 := Lib.hid (HF10.out.trans (hF.out.trans HFX.out))
        have M3 : Hid (∀ w', Fr w14 w' → Calls Try.prog 21 #[.slice la L.length lc, .slice none 0 0, (fxF x n a k3).v, .slice (some ⟨bb, 0, none⟩) 1 1] w' fun e w'' => e = .returned (.int .i64 23) ∧ Fr w' w'') := Lib.hid fun w' hw => by
          have h := HMA.out (fxF x n a k3) [(a : Int) + 5] _ w' (HW14.out.trans hw) (HAX.out.ok.fr hw) (fb_mk (ok1 (by omega) (by omega)) HN.out) (HBY.out.fr (HW14.out.trans hw)) (ok1 (by omega) (by omega))
          rw [H3.out x HXX.out k3 _ 0 (cnt_other (by omega) (by omega)), if_neg (by decide)] at h
          exact h
        have M4 : Hid (∀ w', Fr w14 w' → Calls Try.prog 21 #[.slice la L.length lc, .slice none 0 0, (fxF x n a k3).v, .slice (some ⟨w'.heap.size, 0, none⟩) 3 3] (w'.alloc (.cells #[.int .i64 (a : Int), .int .i64 999, .int .i64 ((a : Int) + 1)] 3)) fun e w'' => e = .returned (.int .i64 0) ∧ Fr w' w'') := Lib.hid fun w' hw => by
          have h := HMA.out (fxF x n a k3) [(a : Int), 999, (a : Int) + 1] _ _ ((HW14.out.trans hw).trans (Fr.alloc _ _)) (HAX.out.ok.fr (hw.trans (Fr.alloc _ _))) (fb_mk (ok1 (by omega) (by omega)) HN.out) (sl_lit w' [(a : Int), 999, (a : Int) + 1]) (ok3 (by omega) (by omega) (by omega))
          rw [H3.out x HXX.out k3 _ 2 (cnt_pair3 (by omega) (by omega) (by omega)), if_pos (by decide)] at h
          exact h.mono fun e w'' ⟨h1, h2⟩ => ⟨h1, (Fr.alloc _ _).trans h2⟩
        have M5 : Hid (∀ w', Fr w14 w' → Calls Try.prog 21 #[.slice la L.length lc, .slice none 0 0, (fxF x n a k3).v, .slice (some ⟨w'.heap.size, 0, none⟩) 2 2] (w'.alloc (.cells #[.int .i64 (a : Int), .int .i64 (a : Int)] 3)) fun e w'' => e = .returned (.int .i64 23) ∧ Fr w' w'') := Lib.hid fun w' hw => by
          have h := HMA.out (fxF x n a k3) [(a : Int), (a : Int)] _ _ ((HW14.out.trans hw).trans (Fr.alloc _ _)) (HAX.out.ok.fr (hw.trans (Fr.alloc _ _))) (fb_mk (ok1 (by omega) (by omega)) HN.out) (sl_lit w' [(a : Int), (a : Int)]) (ok2 (by omega) (by omega))
          rw [H3.out x HXX.out k3 _ 1 (cnt_twice _ _), if_neg (by decide)] at h
          exact h.mono fun e w'' ⟨h1, h2⟩ => ⟨h1, (Fr.alloc _ _).trans h2⟩
        have HC := Lib.hid (Fr.refl w14)
        go_wp2_with (refine wpList_load_fact (by rfl) (.tmp 16) rfl B2 0 (fxF x n a k3) (by rfl) (HAX.out.fr HC.out) ?_)
        refine (M3.out _ HC.out).mono ?_
        rintro e wz ⟨rfl, hf⟩
        have HC := Lib.hid (HC.out.trans hf)
        clear hf
        go_wp2_with (refine wpList_load_fact (by rfl) (.tmp 16) rfl B2 0 (fxF x n a k3) (by rfl) (HAX.out.fr HC.out) ?_)
        refine (M4.out _ HC.out).mono ?_
        rintro e wz ⟨rfl, hf⟩
        have HC := Lib.hid (HC.out.trans hf)
        clear hf
        go_wp2_with (refine wpList_load_fact (by rfl) (.tmp 16) rfl B2 0 (fxF x n a k3) (by rfl) (HAX.out.fr HC.out) ?_)
        refine (M5.out _ HC.out).mono ?_
        rintro e wz ⟨rfl, hf⟩
        have HC := Lib.hid (HC.out.trans hf)
        clear hf M3 M4 M5
        go_wp2_with fail
        go_roundw
        case rel => exact ⟨k + 1, by omega, by go_num, Lib.hid (hF.out.trans (HFX.out.trans HC.out))⟩
        case measure => simp [intOf]; omega
      · have HLR := Lib.hid (HL10.out.fr hF.out)
        have HTR := Lib.hid (HTO10.out.fr hF.out)
        have HBR := Lib.hid (HBY10.out.fr hF.out)
        have HFR := Lib.hid (HF7.out.trans (HF10.out.trans hF.out))
        have HSZ : Hid (L.length * 408 ≤ 140737488355328) := Lib.hid (by omega)
        have HSZM : Hid ((L.length + 1) * 408 ≤ 140737488355328) := Lib.hid (by omega)
        clear H3 HMA HKS HL7 HL10 HTO10 HBY HBY10 HF7 HF10 hF
        go_upto_region 17 with fail
        go_cut [17] (fun s wx => ∃ k4, Hid (FSl wx s (L ++ [rotF n a k4])) ∧ Hid (Fr wr wx))
        case first =>
          go_wp2_with (first
            | (at_builtin; refine wpList_append_facts rfl (.tmp 121) (.tmp 127) rfl wr.heap.size v121 _ L rfl H127.out v127 [rotF n a (.slice (some ⟨w17.heap.size, 0, none⟩) 1 1)] rfl HSF.out HSZM.out HFS.out ?_; intro v128 w18 hown hgr)
            | (at_builtin; refine wpList_append0_facts rfl (.tmp 119) (.tmp 120) rfl wr.heap.size wr.heap.size rfl (row0F wr) _ L rfl (HLR.out.fr (Fr.alloc _ _)) HSZ.out (by simp) ?_; intro v121 w17 h121 hfr; have H121 := Lib.hid h121; have HF17 := Lib.hid ((Fr.alloc wr _).trans hfr); have HBL := Lib.hid (MapKept.heap_alloc w17 (.cells #[.int .i64 ((a : Int) + 2)] 3)).1; have HOR := Lib.hid (mkF_ok 4 n [] [(a : Int) + 2] (.slice (some ⟨w17.heap.size, 0, none⟩) 1 1) 1 0 _ (sl_lit w17 [(a : Int) + 2])); clear h121 hfr)
            | (refine wpList_build_fx4 rfl (.const (.int .i64 4)) (.tmp 122) (.tmp 125) (.const (.int .i64 1)) rfl 4 1 n (some ⟨w17.heap.size, 0, none⟩) 1 1 [(a : Int) + 2] rfl rfl rfl rfl ?_)
            | (refine wpList_lit_fact1 rfl (.tmp 126) rfl (rotF n a (.slice (some ⟨w17.heap.size, 0, none⟩) 1 1)) rfl HOR.out ?_; intro v127 w127 hs hfr; have HSF := Lib.hid hs; have HBK := Lib.hid (hfr.heap HBL.out); have H127 := Lib.hid (own_fr (own_fr H121.out (Fr.alloc w17 (.cells #[.int .i64 ((a : Int) + 2)] 3))) hfr); have HF127 := Lib.hid (HF17.out.trans ((Fr.alloc w17 (.cells #[.int .i64 ((a : Int) + 2)] 3)).trans hfr)); have HFS := Lib.hid HF127.out.size; clear hs hfr))
          have hbk := blk_grown HBK.out H127.out hgr
          have HFW := Lib.hid (Fr.growO HF127.out hgr (fun k hk => (H127.out.lt k hk).1))
          have HT := Lib.hid (FSl.own (l := L ++ [rotF n a (.slice (some ⟨w17.heap.size, 0, none⟩) 1 1)]) hown (by rw [List.length_append]) (add_oks (HLR.out.fr HFW.out).oks (mkF_ok _ _ _ _ _ _ _ _ (sl_blk hbk))))
          clear hown hgr hbk
          go_meet
          exact ⟨_, HT, HFW⟩
        case rest =>
        obtain ⟨k4, HT, HFW⟩ := hcut
        obtain ⟨w17, hw17⟩ : ∃ x, x = wc := ⟨_, rfl⟩
        subst hw17
        have HL17 := Lib.hid (HLR.out.fr HFW.out)
        have HTO17 := Lib.hid (HTR.out.fr HFW.out)
        have HBY17 := Lib.hid (HBR.out.fr HFW.out)
        have HFR := Lib.hid (HFR.out.trans HFW.out)
        clear HLR HTR HBR HFW
        go_upto_region 18 with fail
        go_upto_region 18 with fail
        refine reg18_any (k1 := k1) HL17.out HTO17.out hl14 (fun c a d v w h => by cases d <;> exact h) ?_
        intro u18 w18 y129 y130 y131 y132 y133 y134 hm hfm
        have HM := Lib.hid hm
        have HFM := Lib.hid hfm
        clear hm hfm
        have HT := Lib.hid (HT.out.fr HFM.out)
        have HBY18 := Lib.hid (HBY17.out.fr HFM.out)
        have HFR := Lib.hid (HFR.out.trans HFM.out)
        have HLT : Hid (LB (L ++ [rotF n a k4])) := Lib.hid (HLG.out.add (by show L.length + 1 ≤ _; omega) fun f hf => by rw [List.mem_singleton] at hf; subst hf; exact fb_mk (ok1 (by omega) (by omega)) HN.out)
        have HLM : Hid (LB (L ++ [toF n a k1])) := Lib.hid (HLG.out.add (by show L.length + 1 ≤ _; omega) fun f hf => by rw [List.mem_singleton] at hf; subst hf; exact fb_mk (ok2 (by omega) (by omega)) HN.out)
        have HD1 := delegates_any _ _ n w18 HT.out HLT.out
        rw [dlg_pass _ (show (4 : Int) ≠ 5 by decide) (show (4 : Int) ≠ 6 by decide), HDL.out] at HD1
        have HD2 := Lib.hid fun w' (hw : Fr w18 w') => delegates_any _ _ n w' (HM.out.fr hw) HLM.out
        rw [dlg_drop (n := n) _ (f := toF n a k1) rfl rfl] at HD2
        have HO1 := Lib.hid fun w' (hw : Fr w18 w') => owner_any _ _ n w' (HT.out.fr hw) HLT.out
        rw [own_add (n := n) _ (f := rotF n a k4) (isO_k (.inr rfl) rfl)] at HO1
        have HM6 := Lib.hid fun w' (hw : Fr w18 w') => (show Calls Try.prog 21 _ w' _ from by
          have h := mayF_any _ (.slice none 0 0) (.slice (some ⟨bb, 0, none⟩) 1 1) (L ++ [toF n a k1]) [] (relF n) [(a : Int) + 5] w' (HM.out.fr hw) HLM.out (Sl.nil _ _ _) Ok.nil (relF_ok _ _) (fb_rel HN.out) (HBY18.out.fr hw) (ok1 (by omega) (by omega))
          rw [H4.out] at h
          exact h)
        unfold DlgP at HD1 HD2
        unfold OwnP at HO1
        dsimp only [ndO, tlO, kyO, dgF, rotF, mkF, Option.isSome_some] at HD1 HD2 HO1
        have HD1 := Lib.hid HD1
        clear HLG H4 HOL HDL HT HM HLT HLM HTO17 HL17 HBY17
        go_wp2_with fail
        refine HD1.out.mono ?_
        rintro e w19 ⟨kd, rfl, hkd, hf⟩
        have HKD := Lib.hid hkd
        have HC := Lib.hid hf
        clear hkd hf HD1
        go_wp2_with fail
        refine (HD2.out _ HC.out).mono ?_
        rintro e w20 ⟨kd2, rfl, _, hf⟩
        have HKD := Lib.hid (HKD.out.fr hf)
        have HC := Lib.hid (HC.out.trans hf)
        clear hf HD2
        go_wp2_with fail
        refine (HO1.out _ HC.out).mono ?_
        rintro e w21 ⟨ko, rfl, hko, hf⟩
        have HKD := Lib.hid (HKD.out.fr hf)
        have HKO := Lib.hid hko
        have HC := Lib.hid (HC.out.trans hf)
        clear hko hf HO1
        have HI1 := Lib.hid (ints_any kd (.slice (some ⟨bb, 0, none⟩) 1 1) [(a : Int) + 5] [(a : Int) + 5] w21 HKD.out (HBY18.out.fr HC.out) (by simp))
        have HI2 := Lib.hid fun w' (hw : Fr w21 w') => ints_any ko (.slice (some ⟨w'.heap.size, 0, none⟩) 1 1) [(a : Int) + 2] [(a : Int) + 2] (w'.alloc (.cells #[.int .i64 ((a : Int) + 2)] 3)) (HKO.out.fr (hw.trans (Fr.alloc _ _))) (sl_lit w' [(a : Int) + 2]) (by simp)
        rw [dec_self] at HI1 HI2
        go_wp2_with fail
        refine HI1.out.mono ?_
        rintro e w22 ⟨rfl, hf⟩
        have HC2 := Lib.hid hf
        clear hf HI1
        go_wp2_with fail
        refine (HI2.out _ HC2.out).mono ?_
        rintro e w23 ⟨rfl, hf⟩
        have HC3 := Lib.hid (HC.out.trans (HC2.out.trans ((Fr.alloc _ _).trans hf)))
        clear hf HI2
        go_wp2_with fail
        refine (release_any n _).mono ?_
        rintro e w24 ⟨rfl, hf⟩
        have HC4 := Lib.hid (HC3.out.trans hf)
        clear hf
        go_wp2_with fail
        refine (HM6.out _ HC4.out).mono ?_
        rintro e w25 ⟨rfl, hf⟩
        have HC5 := Lib.hid (HFR.out.trans (HC4.out.trans hf))
        clear hf HM6
        go_wp2_with fail
        go_ret
        exact ⟨rfl, HC5.out⟩
end Go.Proofs.Ytddeblcoglhdnaa
