/-
  The law JournalTells, walked for every argument.
-/
import Derived.Test.YtjcajgcfkidbkaaDoorGl
namespace Go.Proofs.YtjcajgcfkidbkaaDoor
open Go.RowKit Go.BigFrame

theorem opl_fr' {w w' : World} {v : Value} {l : List OP} (h : Opl w v l) (hf : Fr w w') : Opl w' v l := by
  rcases h with h | ⟨b, o, c, e, h⟩
  · exact .inl h
  · exact .inr ⟨b, o, c, e, fun k hk => (h k hk).fr hf⟩

set_option maxHeartbeats 40000000 in
set_option maxRecDepth 100000 in
theorem tells_law (v0 : Value) (o : List OP) (W : World) (ht : Tab W) (ho : Opl W v0 o) (hol : o.length ≤ 9223372036854775807) :
    Calls Tryd.prog 3 #[v0] W fun e w' => e = .returned (.bool true) ∧ Fr W w' := by
  obtain ⟨a0, c0, hv0⟩ := ho.form
  subst hv0
  have HO := Lib.hid ho
  have HT := Lib.hid ht
  clear ho
  go_enter Tryd.func3, Tryd.ntmps3
  go_wp2_with fail
  refine (jsmall_any W ht).mono ?_
  rintro e w1 ⟨rfl, hf1⟩
  have HF1 := Lib.hid hf1
  clear hf1 ht
  go_wp2_with fail
  refine (few_any _ o w1 (opl_fr' HO.out HF1.out) hol).mono ?_
  rintro e w2 ⟨rfl, hf2⟩
  have HF2 := Lib.hid (HF1.out.trans hf2)
  clear hf2 HF1
  cases hfew : fewB o with
  | false =>
    go_wp2_with fail
    go_ret
    exact ⟨rfl, HF2.out⟩
  | true =>
    have HFEW := Lib.hid (fewB_true hfew)
    clear hfew
    go_wp2_with fail
    refine (Has.pnew 3 ((Has.here W).fr HF2.out)).mono ?_
    rintro e w3 ⟨B, rfl, h3⟩
    have H3 := Lib.hid h3
    clear h3 HF2
    go_wp2_with fail
    refine (Has.qnew H3.out).mono ?_
    rintro e w4 ⟨R, rfl, h4⟩
    have H4 := Lib.hid (h4.rj0 3).turn
    clear h4 H3
    go_wp2_with fail
    refine (Has.popen3 H4.out good_new).mono ?_
    rintro e w5 ⟨jv, E, s, g, hog, rfl, h5⟩
    have H5 := Lib.hid h5
    have HOG := Lib.hid hog
    clear h5 hog H4
    go_wp2_with fail
    refine (ls_open H5.out HOG.out good_new (by decide)).mono ?_
    rintro e w6 ⟨kv, rfl, h6⟩
    have H6 := Lib.hid h6
    clear h6 H5 HOG
    go_wp2_with fail
    go_loopw [6, 7, 8, 9, 10] (fun jv ev kv fv i wr => ∃ (k n : Nat) (E : Int) (s : RS) (g : JG), k ≤ o.length ∧ i = .int .i64 k ∧ ev = .int .i64 E ∧ fv = .int .i64 E ∧ Hid (n = (k + 1) * 1400) ∧ Hid (LS .emp W wr jv kv B R n s g)) (fun _ _ _ _ i _ => o.length - (intOf i).toNat)
    case atStart => exact ⟨0, 1400, E, s, g, Nat.zero_le _, rfl, rfl, rfl, Lib.hid rfl, H6⟩
    case round =>
      obtain ⟨k, n, E, s, g, hk, rfl, rfl, rfl, HN, HX⟩ := hrel
      clear H6
      have hol25 := HFEW.out.1
      have hn48 : n ≤ 48000 := by have := HN.out; omega
      have HN48 := Lib.hid hn48
      clear hn48
      by_cases hlt : k < o.length
      · obtain ⟨b, oo, ha0, hat0⟩ := HO.out.get k hlt
        have hat := hat0.fr HX.out.has.toFr
        rw [ha0]
        have hm : o[k] ∈ o := List.getElem_mem hlt
        have hfewk := HFEW.out.2 _ hm
        have hi0 := hat0.ints
        have hn0 := hat0.n
        generalize o[k] = a at hat hfewk hi0 hn0
        have HI0 := Lib.hid hi0
        obtain ⟨kd, hkd⟩ : ∃ kd, kd = a.k := ⟨_, rfl⟩
        have q0 := hat.c0
        rw [← hkd] at q0
        have q1 := hat.c1
        rw [show a.str = S a.l from S_eta a.str] at q1
        have q2 := hat.c2
        have q3 := hat.c3
        obtain ⟨ka, kc, hks⟩ := hat.ints.form
        rw [hks] at q3 HI0
        have hll : a.l.length ≤ 200 := hfewk.1
        have hlk : a.ks.length ≤ 60 := Nat.le_trans hfewk.2 (by decide)
        clear hat0 hat hm hfewk ha0 hkd hks hi0
        generalize hal : a.l = al at *
        generalize han : a.n = an at *
        generalize hak : a.ks = ak at *
        have HLL := Lib.hid hll
        have HLK := Lib.hid hlk
        have HNN := Lib.hid hn0
        clear hal han hak a hll hlk hn0
        go_upto_region 14 with fail
        obtain ⟨T, hT⟩ : ∃ T, T = wr.heap.size := ⟨_, rfl⟩
        obtain ⟨wo, hwo⟩ : ∃ wo, wo = wr.alloc (.cells #[.int .i64 kd, .string (S al), .int .i64 an, .slice ka ak.length kc] 38) := ⟨_, rfl⟩
        have hfo : Fr wr wo := hwo ▸ Fr.alloc wr _
        have HX := Lib.hid (show LS ((BoxT 38 T #[.int .i64 kd, .string (S al), .int .i64 an, .slice ka ak.length kc]).sep .emp) W wo u6 u8 B R n s g by rw [hwo, hT]; exact HX.out.put 38 #[.int .i64 kd, .string (S al), .int .i64 an, .slice ka ak.length kc])
        rw [← hwo, ← hT]
        have hTh := HX.out.has.opbox
        have d1 : wo.drew.cell? ⟨T, 1, none⟩ = some (.string (S al)) := (Fr.drew wo).cell (cellOf hTh rfl)
        clear q0 q1 q2 q3 hT hwo hfo hTh
        generalize hOB : (BoxT 38 T #[.int .i64 kd, .string (S al), .int .i64 an, .slice ka ak.length kc]).sep .emp = OB at HX
        have HB0 : Hid (∀ (w : World) (A D : Thing), Has W w (A.sep (D.sep OB)) → w.heap[T]? = some (.cells #[.int .i64 kd, .string (S al), .int .i64 an, .slice ka ak.length kc] 38 (0, 0))) := Lib.hid (by subst hOB; intro w A D h; exact h.opbox)
        have HTK : Hid (∀ (w : World) (jv kv : Value) (n : Nat) (s : RS) (g : JG), LS OB W w jv kv B R n s g → LS .emp W w jv kv B R n s g) := Lib.hid (by subst hOB; intro w jv kv n s g h; exact h.take)
        clear hOB
        go_cut [51] (fun c wx => c = .bool false ∧ ∃ w7, w7 = wx ∧ Hid (Fr wo w7))
        case first =>
          go_wp2_with fail
          go_region_with (first
            | (go_at_call 14; refine (sum_any al _ (by have := HLL.out; omega)).mono ?_; rintro e w7 ⟨rfl, rfl⟩)
            | (go_at_call 15; refine (rsum_any al _ (by have := HLL.out; omega)).mono ?_; rintro e w7 ⟨rfl, rfl⟩))
          all_goals (go_wp2_with fail; go_meet; exact ⟨by first | rfl | simp, _, rfl, Lib.hid (Fr.drew wo)⟩)
        case rest =>
          obtain ⟨rfl, w7, rfl, HF7⟩ := hcut
          have HX := Lib.hid (HX.out.fr HF7.out)
          clear d1 HF7
          have HCL : Hid (∀ (w : World) (A D : Thing), Has W w (A.sep (D.sep OB)) → w.cell? ⟨T, 0, none⟩ = some (.int .i64 kd) ∧ w.cell? ⟨T, 1, none⟩ = some (.string (S al)) ∧ w.cell? ⟨T, 2, none⟩ = some (.int .i64 an) ∧ w.cell? ⟨T, 3, none⟩ = some (.slice ka ak.length kc)) := Lib.hid (fun w A D h => ⟨cellOf (HB0.out w A D h) rfl, cellOf (HB0.out w A D h) rfl, cellOf (HB0.out w A D h) rfl, cellOf (HB0.out w A D h) rfl⟩)
          obtain ⟨d0, d1, d2, d3⟩ := HCL.out _ _ _ HX.out.has
          by_cases z0 : kd = 0
          · subst z0
            rcases HX.out.cases with ⟨rfl, rfl, rfl⟩ | ⟨rs, br, J, K, rjv, rv, rfl, rfl, rfl, _, _, _⟩
            · as_aux_lemma =>
                have HX := Lib.hid (HX.out.mono (show n ≤ n + 1400 by omega))
                go_wp2_with fail
                go_roundw
                case rel => exact ⟨k + 1, n + 1400, _, _, _, by omega, by go_num, rfl, rfl, Lib.hid (by have := HN.out; omega), Lib.hid (HTK.out _ _ _ _ _ _ HX.out)⟩
                case measure => simp [intOf]; omega
            · as_aux_lemma =>
                have HG := Lib.hid HX.out.good
                have HJK := Lib.hid HX.out.jok
                have HPC := Lib.hid (HX.out.has.pappend3 HG.out HJK.out al HLL.out HT.out)
                have HRC : Hid (∀ wa, MS OB W wa (.pointer (some ⟨J, 0, none⟩)) (.pointer (some ⟨K, 0, none⟩)) B R n (apS s 3 rs br al) s (apG s 3 rs br al) (some (rs, br)) → Calls Tryd.prog 17 #[.pointer (some ⟨K, 0, none⟩), .string (S al)] wa fun e w' => e = .returned (.int .i64 (apE s 3 rs br al)) ∧ LS OB W w' (.pointer (some ⟨J, 0, none⟩)) (.pointer (some ⟨K, 0, none⟩)) B R (n + 1400) (apS s 3 rs br al) (apG s 3 rs br al)) := Lib.hid fun wa h => ls_append h HG.out HJK.out HN48.out HLL.out
                obtain ⟨qs, bq, hq⟩ := ap_some s 3 rs br al
                rw [hq] at HPC HRC
                clear hq
                generalize apE s 3 rs br al = E' at *
                generalize apS s 3 rs br al = s' at *
                go_wp2_with fail
                refine HPC.out.mono ?_
                rintro e wa ⟨rfl, ha⟩
                have HA := Lib.hid ha
                obtain ⟨d0, d1, d2, d3⟩ := HCL.out _ _ _ ha
                clear ha HX HPC
                go_wp2_with fail
                refine (HRC.out _ HA.out).mono ?_
                rintro e wb ⟨rfl, hb⟩
                have HX := Lib.hid hb
                clear hb HA HRC d0 d1 d2 d3
                rcases HX.out.cases with ⟨h0, _⟩ | ⟨rs, br, J', K', rjv, rv, h0, hj0, hk0, hjn, hkb, hrow⟩
                · cases h0
                obtain ⟨rfl, rfl⟩ := Prod.mk.inj (Option.some.inj h0)
                obtain rfl : J = J' := by simpa using hj0
                obtain rfl : K = K' := by simpa using hk0
                clear h0 hj0 hk0
                have HJN := Lib.hid hjn
                have k2 : ∀ w', Hid (Fr wb w') → w'.cell? ⟨K, 2, none⟩ = some rv := fun w' h => h.out.cell (cellOf hkb rfl)
                have HK2 := Lib.hid k2
                have HRW := Lib.hid hrow
                have HRL := Lib.hid (jok_len HX.out.jok rfl)
                clear hjn hkb hrow k2
                go_upto_region 44 with fail
                go_cut [160] (fun c wx => c = .bool false ∧ ∃ w9, w9 = wx ∧ Hid (Fr wb w9))
                case first =>
                  have k3 := HK2.out _ (Lib.hid (Fr.drew _))
                  go_region_held3 (fun w' => w'.cell? ⟨K, 2, none⟩ = some rv) (first | exact k5 | exact k4 | exact k3) (first
                    | (go_at_call 28; refine (sameTexts_any _ _ qs _ HSA.out HSB.out (by have := HRL.out; omega)).mono ?_; rintro e wB ⟨rfl, hfB⟩; have HFB := Lib.hid (HFA.out.trans hfB); have k5 := HK2.out _ HFB; clear hfB)
                    | (go_at_call 29; refine (all_any (HJN.out.fr' (Fr.drew _)) (by have := HRL.out; omega)).mono ?_; rintro e wA ⟨av, rfl, hrA, hfA⟩; have HSA := Lib.hid (Row.isSl (row_mono hrA (Nat.zero_le _))); have HSB := Lib.hid (Row.isSl (HRW.out.fr' ((Fr.drew _).trans hfA))); have HFA := Lib.hid ((Fr.drew _).trans hfA); have k4 := HK2.out _ HFA; clear hrA hfA))
                  all_goals (go_wp2_with fail; go_meet; exact ⟨rfl, _, rfl, HFB⟩)
                case rest =>
                  obtain ⟨rfl, w9, rfl, HF9⟩ := hcut
                  have HX := Lib.hid (HX.out.fr HF9.out)
                  clear HF9 HJN HK2 HRW
                  go_wp2_with fail
                  go_roundw
                  case rel => exact ⟨k + 1, n + 1400, _, _, _, by omega, by go_num, rfl, rfl, Lib.hid (by have := HN.out; omega), Lib.hid (HTK.out _ _ _ _ _ _ HX.out)⟩
                  case measure => simp [intOf]; omega
          by_cases z1 : kd = 1
          · subst z1
            rcases HX.out.cases with ⟨rfl, rfl, rfl⟩ | ⟨rs, br, J, K, rjv, rv, rfl, rfl, rfl, _, _, _⟩
            · as_aux_lemma =>
                have HX := Lib.hid (HX.out.mono (show n ≤ n + 1400 by omega))
                go_wp2_with fail
                go_roundw
                case rel => exact ⟨k + 1, n + 1400, _, _, _, by omega, by go_num, rfl, rfl, Lib.hid (by have := HN.out; omega), Lib.hid (HTK.out _ _ _ _ _ _ HX.out)⟩
                case measure => simp [intOf]; omega
            · as_aux_lemma =>
                have HG := Lib.hid HX.out.good
                have HJK := Lib.hid HX.out.jok
                have HPC := Lib.hid (HX.out.has.psync3 HG.out)
                have HRC : Hid (∀ wa, MS OB W wa (.pointer (some ⟨J, 0, none⟩)) (.pointer (some ⟨K, 0, none⟩)) B R n (syS s 3 br) s (syG s 3 rs br) (some (rs, br)) → Calls Tryd.prog 19 #[.pointer (some ⟨K, 0, none⟩)] wa fun e w' => e = .returned (.int .i64 (syE s 3 br)) ∧ LS OB W w' (.pointer (some ⟨J, 0, none⟩)) (.pointer (some ⟨K, 0, none⟩)) B R (n + 1400) (syS s 3 br) (syG s 3 rs br)) := Lib.hid fun wa h => ls_sync h HG.out HJK.out HN48.out
                obtain ⟨bq, hq⟩ := sy_some s 3 rs br
                rw [hq] at HPC HRC
                clear hq
                generalize syE s 3 br = E' at *
                generalize syS s 3 br = s' at *
                go_wp2_with fail
                refine HPC.out.mono ?_
                rintro e wa ⟨rfl, ha⟩
                have HA := Lib.hid ha
                clear ha HX HPC d0 d1 d2 d3
                go_wp2_with fail
                refine (HRC.out _ HA.out).mono ?_
                rintro e wb ⟨rfl, hb⟩
                have HX := Lib.hid hb
                clear hb HA HRC
                rcases HX.out.cases with ⟨h0, _⟩ | ⟨qs, br2, J', K', rjv, rv, h0, hj0, hk0, hjn, hkb, hrow⟩
                · cases h0
                obtain ⟨rfl, rfl⟩ := Prod.mk.inj (Option.some.inj h0)
                obtain rfl : J = J' := by simpa using hj0
                obtain rfl : K = K' := by simpa using hk0
                clear h0 hj0 hk0
                have HJN := Lib.hid hjn
                have k2 : ∀ w', Hid (Fr wb w') → w'.cell? ⟨K, 2, none⟩ = some rv := fun w' h => h.out.cell (cellOf hkb rfl)
                have HK2 := Lib.hid k2
                have HRW := Lib.hid hrow
                have HRL := Lib.hid (jok_len HX.out.jok rfl)
                clear hjn hkb hrow k2
                go_upto_region 44 with fail
                go_cut [160] (fun c wx => c = .bool false ∧ ∃ w9, w9 = wx ∧ Hid (Fr wb w9))
                case first =>
                  have k3 := HK2.out _ (Lib.hid (Fr.drew _))
                  go_region_held3 (fun w' => w'.cell? ⟨K, 2, none⟩ = some rv) (first | exact k5 | exact k4 | exact k3) (first
                    | (go_at_call 28; refine (sameTexts_any _ _ rs _ HSA.out HSB.out (by have := HRL.out; omega)).mono ?_; rintro e wB ⟨rfl, hfB⟩; have HFB := Lib.hid (HFA.out.trans hfB); have k5 := HK2.out _ HFB; clear hfB)
                    | (go_at_call 29; refine (all_any (HJN.out.fr' (Fr.drew _)) (by have := HRL.out; omega)).mono ?_; rintro e wA ⟨av, rfl, hrA, hfA⟩; have HSA := Lib.hid (Row.isSl (row_mono hrA (Nat.zero_le _))); have HSB := Lib.hid (Row.isSl (HRW.out.fr' ((Fr.drew _).trans hfA))); have HFA := Lib.hid ((Fr.drew _).trans hfA); have k4 := HK2.out _ HFA; clear hrA hfA))
                  all_goals (go_wp2_with fail; go_meet; exact ⟨rfl, _, rfl, HFB⟩)
                case rest =>
                  obtain ⟨rfl, w9, rfl, HF9⟩ := hcut
                  have HX := Lib.hid (HX.out.fr HF9.out)
                  clear HF9 HJN HK2 HRW
                  go_wp2_with fail
                  go_roundw
                  case rel => exact ⟨k + 1, n + 1400, _, _, _, by omega, by go_num, rfl, rfl, Lib.hid (by have := HN.out; omega), Lib.hid (HTK.out _ _ _ _ _ _ HX.out)⟩
                  case measure => simp [intOf]; omega
          by_cases z2 : kd = 2
          · subst z2
            have HG := Lib.hid HX.out.good
            have HJK := Lib.hid HX.out.jok
            go_wp2_with fail
            refine (HX.out.has.plose an).mono ?_
            rintro e wa ⟨rfl, ha⟩
            have HA := Lib.hid ha
            obtain ⟨d0, d1, d2, d3⟩ := HCL.out _ _ _ ha
            clear ha HX
            go_wp2_with fail
            refine (ls_lose HA.out HG.out HJK.out HNN.out).mono ?_
            rintro e wb ⟨rfl, hb⟩
            have HX := Lib.hid (hb.mono (show n ≤ n + 1400 by omega))
            clear hb HA d0 d1 d2 d3
            rcases HX.out.cases with ⟨rfl, rfl, rfl⟩ | ⟨rs, br, J, K, rjv, rv, rfl, rfl, rfl, hjn, hkb, hrow⟩
            · as_aux_lemma =>
                go_upto_region 44 with fail
                go_cut [160] (fun c wx => c = .bool false ∧ ∃ w9, w9 = wx ∧ Hid (Fr wb w9))
                case first =>
                  refine wp_region_cls (D := Fr wb) (by kernel_rfl) (by kernel_rfl) (Fr.drew wb) ?_
                  repeat (go_big_quiet_step (first | (intro hw'; with_reducible rfl) | (intro hw'; simp only [Result.andThen]; first | exact ⟨rfl, rfl⟩ | exact ⟨trivial, rfl⟩)))
                  refine wpQuiet_nil ?_
                  intro w9 hw9
                  go_wp2_with fail
                  go_meet
                  exact ⟨rfl, _, rfl, Lib.hid hw9⟩
                case rest =>
                  obtain ⟨rfl, w9, rfl, HF9⟩ := hcut
                  have HX := Lib.hid (HX.out.fr HF9.out)
                  clear HF9
                  go_wp2_with fail
                  go_roundw
                  case rel => exact ⟨k + 1, n + 1400, _, _, _, by omega, by go_num, rfl, rfl, Lib.hid (by have := HN.out; omega), Lib.hid (HTK.out _ _ _ _ _ _ HX.out)⟩
                  case measure => simp [intOf]; omega
            · as_aux_lemma =>
                have HJN := Lib.hid hjn
                have k2 : ∀ w', Hid (Fr wb w') → w'.cell? ⟨K, 2, none⟩ = some rv := fun w' h => h.out.cell (cellOf hkb rfl)
                have HK2 := Lib.hid k2
                have HRW := Lib.hid hrow
                have HRL := Lib.hid (jok_len HX.out.jok rfl)
                clear hjn hkb hrow k2
                go_upto_region 44 with fail
                go_cut [160] (fun c wx => c = .bool false ∧ ∃ w9, w9 = wx ∧ Hid (Fr wb w9))
                case first =>
                  have k3 := HK2.out _ (Lib.hid (Fr.drew _))
                  go_region_held3 (fun w' => w'.cell? ⟨K, 2, none⟩ = some rv) (first | exact k5 | exact k4 | exact k3) (first
                    | (go_at_call 28; refine (sameTexts_any _ _ rs _ HSA.out HSB.out (by have := HRL.out; omega)).mono ?_; rintro e wB ⟨rfl, hfB⟩; have HFB := Lib.hid (HFA.out.trans hfB); have k5 := HK2.out _ HFB; clear hfB)
                    | (go_at_call 29; refine (all_any (HJN.out.fr' (Fr.drew _)) (by have := HRL.out; omega)).mono ?_; rintro e wA ⟨av, rfl, hrA, hfA⟩; have HSA := Lib.hid (Row.isSl (row_mono hrA (Nat.zero_le _))); have HSB := Lib.hid (Row.isSl (HRW.out.fr' ((Fr.drew _).trans hfA))); have HFA := Lib.hid ((Fr.drew _).trans hfA); have k4 := HK2.out _ HFA; clear hrA hfA))
                  all_goals (go_wp2_with fail; go_meet; exact ⟨rfl, _, rfl, HFB⟩)
                case rest =>
                  obtain ⟨rfl, w9, rfl, HF9⟩ := hcut
                  have HX := Lib.hid (HX.out.fr HF9.out)
                  clear HF9 HJN HK2 HRW
                  go_wp2_with fail
                  go_roundw
                  case rel => exact ⟨k + 1, n + 1400, _, _, _, by omega, by go_num, rfl, rfl, Lib.hid (by have := HN.out; omega), Lib.hid (HTK.out _ _ _ _ _ _ HX.out)⟩
                  case measure => simp [intOf]; omega
          by_cases z3 : kd = 3
          · subst z3
            have HG := Lib.hid HX.out.good
            have HJK := Lib.hid HX.out.jok
            go_wp2_with fail
            refine (HX.out.has.parm an HI0.out HLK.out).mono ?_
            rintro e wa ⟨rfl, ha⟩
            have HA := Lib.hid ha
            obtain ⟨d0, d1, d2, d3⟩ := HCL.out _ _ _ ha
            clear ha HX
            go_wp2_with fail
            refine (ls_arm HA.out HG.out HJK.out HNN.out HI0.out HLK.out).mono ?_
            rintro e wb ⟨rfl, hb⟩
            have HX := Lib.hid (hb.mono (show n ≤ n + 1400 by omega))
            clear hb HA d0 d1 d2 d3
            rcases HX.out.cases with ⟨rfl, rfl, rfl⟩ | ⟨rs, br, J, K, rjv, rv, rfl, rfl, rfl, hjn, hkb, hrow⟩
            · as_aux_lemma =>
                go_upto_region 44 with fail
                go_cut [160] (fun c wx => c = .bool false ∧ ∃ w9, w9 = wx ∧ Hid (Fr wb w9))
                case first =>
                  refine wp_region_cls (D := Fr wb) (by kernel_rfl) (by kernel_rfl) (Fr.drew wb) ?_
                  repeat (go_big_quiet_step (first | (intro hw'; with_reducible rfl) | (intro hw'; simp only [Result.andThen]; first | exact ⟨rfl, rfl⟩ | exact ⟨trivial, rfl⟩)))
                  refine wpQuiet_nil ?_
                  intro w9 hw9
                  go_wp2_with fail
                  go_meet
                  exact ⟨rfl, _, rfl, Lib.hid hw9⟩
                case rest =>
                  obtain ⟨rfl, w9, rfl, HF9⟩ := hcut
                  have HX := Lib.hid (HX.out.fr HF9.out)
                  clear HF9
                  go_wp2_with fail
                  go_roundw
                  case rel => exact ⟨k + 1, n + 1400, _, _, _, by omega, by go_num, rfl, rfl, Lib.hid (by have := HN.out; omega), Lib.hid (HTK.out _ _ _ _ _ _ HX.out)⟩
                  case measure => simp [intOf]; omega
            · as_aux_lemma =>
                have HJN := Lib.hid hjn
                have k2 : ∀ w', Hid (Fr wb w') → w'.cell? ⟨K, 2, none⟩ = some rv := fun w' h => h.out.cell (cellOf hkb rfl)
                have HK2 := Lib.hid k2
                have HRW := Lib.hid hrow
                have HRL := Lib.hid (jok_len HX.out.jok rfl)
                clear hjn hkb hrow k2
                go_upto_region 44 with fail
                go_cut [160] (fun c wx => c = .bool false ∧ ∃ w9, w9 = wx ∧ Hid (Fr wb w9))
                case first =>
                  have k3 := HK2.out _ (Lib.hid (Fr.drew _))
                  go_region_held3 (fun w' => w'.cell? ⟨K, 2, none⟩ = some rv) (first | exact k5 | exact k4 | exact k3) (first
                    | (go_at_call 28; refine (sameTexts_any _ _ rs _ HSA.out HSB.out (by have := HRL.out; omega)).mono ?_; rintro e wB ⟨rfl, hfB⟩; have HFB := Lib.hid (HFA.out.trans hfB); have k5 := HK2.out _ HFB; clear hfB)
                    | (go_at_call 29; refine (all_any (HJN.out.fr' (Fr.drew _)) (by have := HRL.out; omega)).mono ?_; rintro e wA ⟨av, rfl, hrA, hfA⟩; have HSA := Lib.hid (Row.isSl (row_mono hrA (Nat.zero_le _))); have HSB := Lib.hid (Row.isSl (HRW.out.fr' ((Fr.drew _).trans hfA))); have HFA := Lib.hid ((Fr.drew _).trans hfA); have k4 := HK2.out _ HFA; clear hrA hfA))
                  all_goals (go_wp2_with fail; go_meet; exact ⟨rfl, _, rfl, HFB⟩)
                case rest =>
                  obtain ⟨rfl, w9, rfl, HF9⟩ := hcut
                  have HX := Lib.hid (HX.out.fr HF9.out)
                  clear HF9 HJN HK2 HRW
                  go_wp2_with fail
                  go_roundw
                  case rel => exact ⟨k + 1, n + 1400, _, _, _, by omega, by go_num, rfl, rfl, Lib.hid (by have := HN.out; omega), Lib.hid (HTK.out _ _ _ _ _ _ HX.out)⟩
                  case measure => simp [intOf]; omega
          by_cases z4 : kd = 4
          · subst z4
            have HG := Lib.hid HX.out.good
            have HJK := Lib.hid HX.out.jok
            go_wp2_with fail
            refine (HX.out.has.pcrash HG.out HI0.out).mono ?_
            rintro e wa ⟨rfl, ha⟩
            have HA := Lib.hid ha
            obtain ⟨d0, d1, d2, d3⟩ := HCL.out _ _ _ ha
            clear ha HX
            go_wp2_with fail
            refine (ls_crash HA.out HG.out HJK.out HN48.out HI0.out HLK.out).mono ?_
            rintro e wb ⟨rfl, hb⟩
            have HX := Lib.hid hb
            clear hb HA d0 d1 d2 d3 HG HJK
            have HG := Lib.hid HX.out.good
            have HJK := Lib.hid HX.out.jok
            go_wp2_with fail
            refine (HX.out.has.pstart).mono ?_
            rintro e wc ⟨rfl, hc⟩
            have HA := Lib.hid hc
            clear hc HX
            go_wp2_with fail
            refine (ls_start HA.out HG.out HJK.out).mono ?_
            rintro e wd ⟨rfl, hd⟩
            have HX := Lib.hid hd
            clear hd HA HG HJK
            have HG := Lib.hid HX.out.good
            go_wp2_with fail
            refine (HX.out.has.popen3 HG.out).mono ?_
            rintro e we ⟨jv2, E2, s2, g2, hog, rfl, he⟩
            have HA := Lib.hid he
            have HOG := Lib.hid hog
            clear he hog HX
            go_wp2_with fail
            refine (ls_open HA.out HOG.out HG.out HN48.out).mono ?_
            rintro e wb ⟨kv2, rfl, hf⟩
            have HX := Lib.hid hf
            clear hf HA HOG HG
            rcases HX.out.cases with ⟨rfl, rfl, rfl⟩ | ⟨rs, br, J, K, rjv, rv, rfl, rfl, rfl, hjn, hkb, hrow⟩
            · as_aux_lemma =>
                go_upto_region 44 with fail
                go_cut [160] (fun c wx => c = .bool false ∧ ∃ w9, w9 = wx ∧ Hid (Fr wb w9))
                case first =>
                  refine wp_region_cls (D := Fr wb) (by kernel_rfl) (by kernel_rfl) (Fr.drew wb) ?_
                  repeat (go_big_quiet_step (first | (intro hw'; with_reducible rfl) | (intro hw'; simp only [Result.andThen]; first | exact ⟨rfl, rfl⟩ | exact ⟨trivial, rfl⟩)))
                  refine wpQuiet_nil ?_
                  intro w9 hw9
                  go_wp2_with fail
                  go_meet
                  exact ⟨rfl, _, rfl, Lib.hid hw9⟩
                case rest =>
                  obtain ⟨rfl, w9, rfl, HF9⟩ := hcut
                  have HX := Lib.hid (HX.out.fr HF9.out)
                  clear HF9
                  go_wp2_with fail
                  go_roundw
                  case rel => exact ⟨k + 1, n + 1400, _, _, _, by omega, by go_num, rfl, rfl, Lib.hid (by have := HN.out; omega), Lib.hid (HTK.out _ _ _ _ _ _ HX.out)⟩
                  case measure => simp [intOf]; omega
            · as_aux_lemma =>
                have HJN := Lib.hid hjn
                have k2 : ∀ w', Hid (Fr wb w') → w'.cell? ⟨K, 2, none⟩ = some rv := fun w' h => h.out.cell (cellOf hkb rfl)
                have HK2 := Lib.hid k2
                have HRW := Lib.hid hrow
                have HRL := Lib.hid (jok_len HX.out.jok rfl)
                clear hjn hkb hrow k2
                go_upto_region 44 with fail
                go_cut [160] (fun c wx => c = .bool false ∧ ∃ w9, w9 = wx ∧ Hid (Fr wb w9))
                case first =>
                  have k3 := HK2.out _ (Lib.hid (Fr.drew _))
                  go_region_held3 (fun w' => w'.cell? ⟨K, 2, none⟩ = some rv) (first | exact k5 | exact k4 | exact k3) (first
                    | (go_at_call 28; refine (sameTexts_any _ _ rs _ HSA.out HSB.out (by have := HRL.out; omega)).mono ?_; rintro e wB ⟨rfl, hfB⟩; have HFB := Lib.hid (HFA.out.trans hfB); have k5 := HK2.out _ HFB; clear hfB)
                    | (go_at_call 29; refine (all_any (HJN.out.fr' (Fr.drew _)) (by have := HRL.out; omega)).mono ?_; rintro e wA ⟨av, rfl, hrA, hfA⟩; have HSA := Lib.hid (Row.isSl (row_mono hrA (Nat.zero_le _))); have HSB := Lib.hid (Row.isSl (HRW.out.fr' ((Fr.drew _).trans hfA))); have HFA := Lib.hid ((Fr.drew _).trans hfA); have k4 := HK2.out _ HFA; clear hrA hfA))
                  all_goals (go_wp2_with fail; go_meet; exact ⟨rfl, _, rfl, HFB⟩)
                case rest =>
                  obtain ⟨rfl, w9, rfl, HF9⟩ := hcut
                  have HX := Lib.hid (HX.out.fr HF9.out)
                  clear HF9 HJN HK2 HRW
                  go_wp2_with fail
                  go_roundw
                  case rel => exact ⟨k + 1, n + 1400, _, _, _, by omega, by go_num, rfl, rfl, Lib.hid (by have := HN.out; omega), Lib.hid (HTK.out _ _ _ _ _ _ HX.out)⟩
                  case measure => simp [intOf]; omega
          by_cases z5 : kd = 5
          · subst z5
            have HG := Lib.hid HX.out.good
            have HJK := Lib.hid HX.out.jok
            go_wp2_with fail
            refine (HX.out.has.pstart).mono ?_
            rintro e wc ⟨rfl, hc⟩
            have HA := Lib.hid hc
            clear hc HX
            go_wp2_with fail
            refine (ls_start HA.out HG.out HJK.out).mono ?_
            rintro e wd ⟨rfl, hd⟩
            have HX := Lib.hid hd
            clear hd HA HG HJK
            have HG := Lib.hid HX.out.good
            go_wp2_with fail
            refine (HX.out.has.popen3 HG.out).mono ?_
            rintro e we ⟨jv2, E2, s2, g2, hog, rfl, he⟩
            have HA := Lib.hid he
            have HOG := Lib.hid hog
            clear he hog HX
            go_wp2_with fail
            refine (ls_open HA.out HOG.out HG.out HN48.out).mono ?_
            rintro e wb ⟨kv2, rfl, hf⟩
            have HX := Lib.hid hf
            clear hf HA HOG HG
            rcases HX.out.cases with ⟨rfl, rfl, rfl⟩ | ⟨rs, br, J, K, rjv, rv, rfl, rfl, rfl, hjn, hkb, hrow⟩
            · as_aux_lemma =>
                go_upto_region 44 with fail
                go_cut [160] (fun c wx => c = .bool false ∧ ∃ w9, w9 = wx ∧ Hid (Fr wb w9))
                case first =>
                  refine wp_region_cls (D := Fr wb) (by kernel_rfl) (by kernel_rfl) (Fr.drew wb) ?_
                  repeat (go_big_quiet_step (first | (intro hw'; with_reducible rfl) | (intro hw'; simp only [Result.andThen]; first | exact ⟨rfl, rfl⟩ | exact ⟨trivial, rfl⟩)))
                  refine wpQuiet_nil ?_
                  intro w9 hw9
                  go_wp2_with fail
                  go_meet
                  exact ⟨rfl, _, rfl, Lib.hid hw9⟩
                case rest =>
                  obtain ⟨rfl, w9, rfl, HF9⟩ := hcut
                  have HX := Lib.hid (HX.out.fr HF9.out)
                  clear HF9
                  go_wp2_with fail
                  go_roundw
                  case rel => exact ⟨k + 1, n + 1400, _, _, _, by omega, by go_num, rfl, rfl, Lib.hid (by have := HN.out; omega), Lib.hid (HTK.out _ _ _ _ _ _ HX.out)⟩
                  case measure => simp [intOf]; omega
            · as_aux_lemma =>
                have HJN := Lib.hid hjn
                have k2 : ∀ w', Hid (Fr wb w') → w'.cell? ⟨K, 2, none⟩ = some rv := fun w' h => h.out.cell (cellOf hkb rfl)
                have HK2 := Lib.hid k2
                have HRW := Lib.hid hrow
                have HRL := Lib.hid (jok_len HX.out.jok rfl)
                clear hjn hkb hrow k2
                go_upto_region 44 with fail
                go_cut [160] (fun c wx => c = .bool false ∧ ∃ w9, w9 = wx ∧ Hid (Fr wb w9))
                case first =>
                  have k3 := HK2.out _ (Lib.hid (Fr.drew _))
                  go_region_held3 (fun w' => w'.cell? ⟨K, 2, none⟩ = some rv) (first | exact k5 | exact k4 | exact k3) (first
                    | (go_at_call 28; refine (sameTexts_any _ _ rs _ HSA.out HSB.out (by have := HRL.out; omega)).mono ?_; rintro e wB ⟨rfl, hfB⟩; have HFB := Lib.hid (HFA.out.trans hfB); have k5 := HK2.out _ HFB; clear hfB)
                    | (go_at_call 29; refine (all_any (HJN.out.fr' (Fr.drew _)) (by have := HRL.out; omega)).mono ?_; rintro e wA ⟨av, rfl, hrA, hfA⟩; have HSA := Lib.hid (Row.isSl (row_mono hrA (Nat.zero_le _))); have HSB := Lib.hid (Row.isSl (HRW.out.fr' ((Fr.drew _).trans hfA))); have HFA := Lib.hid ((Fr.drew _).trans hfA); have k4 := HK2.out _ HFA; clear hrA hfA))
                  all_goals (go_wp2_with fail; go_meet; exact ⟨rfl, _, rfl, HFB⟩)
                case rest =>
                  obtain ⟨rfl, w9, rfl, HF9⟩ := hcut
                  have HX := Lib.hid (HX.out.fr HF9.out)
                  clear HF9 HJN HK2 HRW
                  go_wp2_with fail
                  go_roundw
                  case rel => exact ⟨k + 1, n + 1400, _, _, _, by omega, by go_num, rfl, rfl, Lib.hid (by have := HN.out; omega), Lib.hid (HTK.out _ _ _ _ _ _ HX.out)⟩
                  case measure => simp [intOf]; omega
          have e0 : (kd == 0) = false := by simpa using z0
          have e1 : (kd == 1) = false := by simpa using z1
          have e2 : (kd == 2) = false := by simpa using z2
          have e3 : (kd == 3) = false := by simpa using z3
          have e4 : (kd == 4) = false := by simpa using z4
          have e5 : (kd == 5) = false := by simpa using z5
          obtain ⟨wb, hwb⟩ : ∃ wb, wb = w7 := ⟨_, rfl⟩
          subst hwb
          have HX := Lib.hid (HX.out.mono (show n ≤ n + 1400 by omega))
          clear d1 d2 d3

          rcases HX.out.cases with ⟨rfl, rfl, rfl⟩ | ⟨rs, br, J, K, rjv, rv, rfl, rfl, rfl, hjn, hkb, hrow⟩
          · as_aux_lemma =>
              go_upto_region 44 with fail
              go_cut [160] (fun c wx => c = .bool false ∧ ∃ w9, w9 = wx ∧ Hid (Fr wb w9))
              case first =>
                refine wp_region_cls (D := Fr wb) (by kernel_rfl) (by kernel_rfl) (Fr.drew wb) ?_
                repeat (go_big_quiet_step (first | (intro hw'; with_reducible rfl) | (intro hw'; simp only [Result.andThen]; first | exact ⟨rfl, rfl⟩ | exact ⟨trivial, rfl⟩)))
                refine wpQuiet_nil ?_
                intro w9 hw9
                go_wp2_with fail
                go_meet
                exact ⟨rfl, _, rfl, Lib.hid hw9⟩
              case rest =>
                obtain ⟨rfl, w9, rfl, HF9⟩ := hcut
                have HX := Lib.hid (HX.out.fr HF9.out)
                clear HF9
                go_wp2_with fail
                go_roundw
                case rel => exact ⟨k + 1, n + 1400, _, _, _, by omega, by go_num, rfl, rfl, Lib.hid (by have := HN.out; omega), Lib.hid (HTK.out _ _ _ _ _ _ HX.out)⟩
                case measure => simp [intOf]; omega
          · as_aux_lemma =>
              have HJN := Lib.hid hjn
              have k2 : ∀ w', Hid (Fr wb w') → w'.cell? ⟨K, 2, none⟩ = some rv := fun w' h => h.out.cell (cellOf hkb rfl)
              have HK2 := Lib.hid k2
              have HRW := Lib.hid hrow
              have HRL := Lib.hid (jok_len HX.out.jok rfl)
              clear hjn hkb hrow k2
              go_upto_region 44 with fail
              go_cut [160] (fun c wx => c = .bool false ∧ ∃ w9, w9 = wx ∧ Hid (Fr wb w9))
              case first =>
                have k3 := HK2.out _ (Lib.hid (Fr.drew _))
                go_region_held3 (fun w' => w'.cell? ⟨K, 2, none⟩ = some rv) (first | exact k5 | exact k4 | exact k3) (first
                  | (go_at_call 28; refine (sameTexts_any _ _ rs _ HSA.out HSB.out (by have := HRL.out; omega)).mono ?_; rintro e wB ⟨rfl, hfB⟩; have HFB := Lib.hid (HFA.out.trans hfB); have k5 := HK2.out _ HFB; clear hfB)
                  | (go_at_call 29; refine (all_any (HJN.out.fr' (Fr.drew _)) (by have := HRL.out; omega)).mono ?_; rintro e wA ⟨av, rfl, hrA, hfA⟩; have HSA := Lib.hid (Row.isSl (row_mono hrA (Nat.zero_le _))); have HSB := Lib.hid (Row.isSl (HRW.out.fr' ((Fr.drew _).trans hfA))); have HFA := Lib.hid ((Fr.drew _).trans hfA); have k4 := HK2.out _ HFA; clear hrA hfA))
                all_goals (go_wp2_with fail; go_meet; exact ⟨rfl, _, rfl, HFB⟩)
              case rest =>
                obtain ⟨rfl, w9, rfl, HF9⟩ := hcut
                have HX := Lib.hid (HX.out.fr HF9.out)
                clear HF9 HJN HK2 HRW
                go_wp2_with fail
                go_roundw
                case rel => exact ⟨k + 1, n + 1400, _, _, _, by omega, by go_num, rfl, rfl, Lib.hid (by have := HN.out; omega), Lib.hid (HTK.out _ _ _ _ _ _ HX.out)⟩
                case measure => simp [intOf]; omega
      · have HG := Lib.hid HX.out.good
        have HJK := Lib.hid HX.out.jok
        go_wp2_with fail
        refine (HX.out.has.pstart).mono ?_
        rintro e wc ⟨rfl, hc⟩
        have HA := Lib.hid hc
        clear hc HX
        go_wp2_with fail
        refine (ls_start HA.out HG.out HJK.out).mono ?_
        rintro e wd ⟨rfl, hd⟩
        have HX := Lib.hid hd
        clear hd HA HG HJK
        obtain ⟨O, hdk⟩ := HX.out.has.pdk
        have hgd := HX.out.good
        have hdn : ({ s with down := false } : RS).down = false := rfl
        generalize ({ s with down := false } : RS) = s9 at *
        have hzm := hgd.inv.max 3
        obtain ⟨hrl, hre⟩ := read_file hdn (show 3 < 16 by decide)
        have HP1 : Hid (Calls Tryd.prog 31 #[.pointer (some ⟨B, 0, none⟩), .int .i64 3] wd fun e w' => e = .returned (.int .i64 (s9.sz 3 : Nat)) ∧ w' = wd) := Lib.hid (size_yes O B 3 s9 wd hdk (by decide))
        have HP2 : Hid (Calls Tryd.prog 30 #[.pointer (some ⟨B, 0, none⟩), .int .i64 3, .int .i64 0, .int .i64 (s9.sz 3 : Nat)] wd fun e w' => e = .returned (.tuple #[.string (S (fileL s9 3)), .int .i64 0]) ∧ Fr wd w') := Lib.hid (by
          have h := read_yes O B 3 0 (s9.sz 3 : Nat) (s9.sz 3) s9 wd hdk hgd.inv hdn (by decide) (by decide) (by omega) (by omega) (by unfold readN; omega)
          exact h)
        have HR1 : Hid (∀ w', Fr wd w' → Calls Tryd.prog 33 #[.pointer (some ⟨R, 0, none⟩), .int .i64 3] w' fun e w'' => e = .returned (.int .i64 (s9.sz 3 : Nat)) ∧ Fr w' w'') := Lib.hid fun w' hF => (HX.out.has.fr hF).turn.rleave.qsize (f := 3) (by decide)
        have HR2 : Hid (∀ w', Fr wd w' → Calls Tryd.prog 32 #[.pointer (some ⟨R, 0, none⟩), .int .i64 3, .int .i64 0, .int .i64 (s9.sz 3 : Nat)] w' fun e w'' => e = .returned (.tuple #[.string (S (fileL s9 3)), .int .i64 0]) ∧ Fr w' w'') := Lib.hid fun w' hF => by
          have h := Has.qread 3 0 (s9.sz 3 : Nat) (HX.out.has.fr hF).turn.rleave hgd (by decide) (by omega)
          have e1 : readL s9 3 0 (s9.sz 3 : Nat) = fileL s9 3 := hrl
          have e2 : readE s9 3 0 (s9.sz 3 : Nat) = 0 := hre
          rw [e1, e2] at h
          exact h
        have HF := Lib.hid HX.out.has.toFr
        clear hrl hre hdn hdk hgd HX hzm
        generalize s9.sz 3 = z at *
        generalize fileL s9 3 = fl at *
        go_wp2_with fail
        refine HP1.out.mono ?_
        rintro e we ⟨rfl, rfl⟩
        go_wp2_with fail
        refine HP2.out.mono ?_
        rintro e wf ⟨rfl, hf⟩
        have HFf := Lib.hid hf
        clear hf
        go_wp2_with fail
        refine (HR1.out _ HFf.out).mono ?_
        rintro e wg ⟨rfl, hg⟩
        have HFg := Lib.hid (HFf.out.trans hg)
        clear hg
        go_wp2_with fail
        refine (HR2.out _ HFg.out).mono ?_
        rintro e wh ⟨rfl, hh⟩
        have HFh := Lib.hid (HFg.out.trans hh)
        clear hh
        go_wp2_with fail
        go_ret
        exact ⟨by first | rfl | simp, HF.out.trans HFh.out⟩
end Go.Proofs.YtjcajgcfkidbkaaDoor
