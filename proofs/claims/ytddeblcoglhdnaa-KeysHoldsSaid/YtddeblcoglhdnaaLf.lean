/-
  KeysHolds, the stage's theorem: the walk.
-/
import Derived.Test.YtddeblcoglhdnaaLs
namespace Go.Proofs.Ytddeblcoglhdnaa
open Go.RowKit Mb Go.BigFrame

theorem ndO_some (g : Ft) : ndO (some g) = g.need := rfl
theorem kyO_some (g : Ft) : kyO (some g) = g.keys := rfl
set_option maxRecDepth 100000 in
set_option maxHeartbeats 8000000 in
theorem holdsLaw_any (v r s bd : Value) (l : List Ft) (reg : List Int) (sg : List (List Int)) (n : Txt) (wh : Nat) (bad : List Int) (w : World) (h : FSl w v l) (hr : LR l) (hreg : Sl w r reg) (hrr : ∀ z ∈ reg, -9223372036854775808 ≤ z ∧ z ≤ 9223372036854775807)
    (hs : SsSl w s sg) (hsr : ∀ q ∈ sg, ∀ z ∈ q, -9223372036854775808 ≤ z ∧ z ≤ 9223372036854775807) (_hn : n.length ≤ 9223372036854775807) (hwh : wh ≤ 255) (hb : Sl w bd bad) (_hbr : ∀ z ∈ bad, -9223372036854775808 ≤ z ∧ z ≤ 9223372036854775807) (hsz : sg.length * 24 ≤ 140737488351232) :
    Calls Try.prog 4 #[v, r, s, .string (S n), .int .u8 wh, bd] w fun e w' => e = .returned (.bool true) ∧ Fr w w' := by
  have HS := Lib.hid (small_any w)
  have HV := Lib.hid h
  have HR := Lib.hid hr
  have HG := Lib.hid hreg
  have HGR := Lib.hid hrr
  have HSG := Lib.hid hs
  have HSR := Lib.hid hsr
  have HB := Lib.hid hb
  have HSZ : Hid ((2 + sg.length) * 24 ≤ 140737488355328) := Lib.hid (by omega)
  obtain ⟨av, ac, rfl⟩ := h.len
  obtain ⟨ra, rc, rfl⟩ := hreg.len
  obtain ⟨sa, sc, rfl⟩ := hs.len
  obtain ⟨ba, bc, rfl⟩ := hb.len
  clear h hr hreg hrr hs hsr hb hsz
  go_enter Try.func4, Try.ntmps4
  go_wp2_with fail
  refine HS.out.mono ?_
  rintro e w1 ⟨rfl, hf⟩
  have HF1 := Lib.hid hf
  clear hf HS
  go_wp2_with (at_builtin; refine wpList_append_slices2 (W0 := w1) rfl (.tmp 32) (.tmp 33) rfl [.slice ra reg.length rc, .slice ba bad.length bc] [reg, bad] rfl rfl rfl (two_sl (HG.out.fr HF1.out) (HB.out.fr HF1.out)) _ sg rfl (HSG.out.fr HF1.out) (by simp) HSZ.out ?_; intro v2 w2 hf hss; have HF2 := Lib.hid (HF1.out.trans hf); have HSS := Lib.hid hss; clear hf hss)
  refine (few_any _ _ l ([reg, bad] ++ sg) 17 (by decide) w2 (HV.out.fr HF2.out) HSS.out).mono ?_
  rintro e w3 ⟨b, rfl, hb, rfl⟩
  have HFC := HF2
  clear HF1 HSS HSZ
  cases b with
  | false =>
    clear hb HV HR
    go_wp2_with fail
    go_ret
    exact ⟨rfl, HFC.out⟩
  | true =>
    obtain ⟨hl17, hs17, hk20, hq20⟩ := hb rfl
    by_cases hl15 : 15 < l.length
    · have d15 : decide ((15 : Int) < (l.length : Int)) = true := decide_eq_true (by omega)
      clear hb HV HR hk20 hq20 hl15
      go_wp2_with fail
      go_ret
      exact ⟨rfl, HFC.out⟩
    · have d15 : decide ((15 : Int) < (l.length : Int)) = false := decide_eq_false (by omega)
      have hs15 : sg.length ≤ 15 := by simp at hs17; omega
      have hreg20 : reg.length ≤ 20 := hq20 reg (by simp)
      have hbad20 : bad.length ≤ 20 := hq20 bad (by simp)
      have HS20 : Hid (∀ q ∈ sg, q.length ≤ 20) := Lib.hid fun q hq => hq20 q (by simp [hq])
      have HLB := Lib.hid (HR.out.lb (by omega) hk20)
      have HSB : Hid (SsB sg) := Lib.hid ⟨by omega, fun q hq => ⟨by have := HS20.out q hq; omega, HSR.out q hq⟩⟩
      have HK20 := Lib.hid hk20
      have HAD := Lib.hid (admit_any (.slice av l.length ac) (.slice ra reg.length rc) (.slice sa sg.length sc) l reg sg w3 (HV.out.fr HF2.out) HLB.out (HG.out.fr HF2.out) ⟨by omega, HGR.out⟩ (HSG.out.fr HF2.out) HSB.out)
      have hNl := ad_le l reg sg
      have HADM : Hid (∀ (j : Nat) (h : j < l.length), j < (ad l reg sg).1 → may (l.take j) reg l[j] (sg.getD j []) = 0) := Lib.hid fun j h h2 => ad_ok l reg sg j h h2
      generalize (ad l reg sg).2 = ae at *
      generalize (ad l reg sg).1 = N at *
      have dN : decide (l.length < N) = false := decide_eq_false (by omega)
      have hz1 : ((N : Int) + 1 == 0) = false := by rw [beq_eq_false_iff_ne]; omega
      have hrem : Int.tmod (wh : Int) ((N : Int) + 1) = ((wh % (N + 1) : Nat) : Int) := by rw [Int.tmod_eq_emod_of_nonneg (by omega)]; rfl
      have hil : wh % (N + 1) < N + 1 := Nat.mod_lt _ (by omega)
      have hiN : wh % (N + 1) ≤ N := by omega
      have hic : wh % (N + 1) ≤ ac := by
        rcases Nat.eq_zero_or_pos l.length with h0 | h0
        · omega
        · have := HV.out.cap h0; omega
      generalize wh % (N + 1) = i at *
      clear hb hk20 hq20 HR HGR HSR HSB hl15
      go_upto_region 8 with (go_at_call 15; refine HAD.out.mono ?_; rintro e w4 ⟨rfl, hf⟩; have HF4 := Lib.hid (HF2.out.trans hf); clear hf)
      have HTK := Lib.hid (HV.out.take i (by omega))
      have HOW := Lib.hid (owner_any (.slice av i ac) (l.take i) n w4 (HTK.out.fr HF4.out) (HLB.out.take _))
      have HDG := Lib.hid fun w' (hw : Fr w4 w') => delegates_any (.slice av i ac) (l.take i) n w' (HTK.out.fr (HF4.out.trans hw)) (HLB.out.take _)
      unfold OwnP at HOW
      unfold DlgP at HDG
      clear hrem hz1 HAD dN HTK HF2 HFC
      go_upto_region 10 with (first
        | (go_at_call 10; refine HOW.out.mono ?_; rintro e w5 ⟨kvo, rfl, hk, hf⟩; have HKV := Lib.hid hk; have HF5 := Lib.hid hf; clear hf hk)
        | (go_at_call 12; refine (HDG.out _ HF5.out).mono ?_; rintro e w6 ⟨kvd, rfl, hk, hf⟩; have HKD := Lib.hid hk; have HKV := Lib.hid (HKV.out.fr hf); have HF6 := Lib.hid (HF4.out.trans (HF5.out.trans hf)); clear hf hk))
      clear HOW HDG HF5
      cases hx : own (l.take i) n with
      | none =>
        dsimp only [Option.isSome_none]
        have HFC := HF6
        clear HV HKV HKD hx HADM
        go_wp2_with fail
        go_ret
        exact ⟨rfl, HFC.out⟩
      | some g =>
        rw [hx] at HKV
        simp only [ndO_some, kyO_some, Option.isSome_some] at HKV ⊢
        have HX := Lib.hid hx
        have hgm : g.keys.length ≤ 1000000 := (ownMem (HLB.out.take _) hx).keys.len
        have HCO := Lib.hid (count_any (.slice ba bad.length bc) kvo bad g.keys w6 (HB.out.fr HF6.out) (by omega) HKV.out hgm)
        clear hx
        by_cases hct : g.need ≤ (cnt g.keys bad : Int)
        · have dct : decide (g.need ≤ (cnt g.keys bad : Int)) = true := decide_eq_true hct
          clear HV HKV HKD HADM HX hct
          generalize cnt g.keys bad = cg at *
          go_wp2_with (go_at_call 23; refine HCO.out.mono ?_; rintro e w7 ⟨rfl, hf⟩; have HFC := Lib.hid (HF6.out.trans hf); clear hf)
          go_ret
          exact ⟨rfl, HFC.out⟩
        · have dct : decide (g.need ≤ (cnt g.keys bad : Int)) = false := decide_eq_false hct
          have HCT : Hid ((cnt g.keys bad : Int) < g.need) := Lib.hid (by omega)
          have hdk : (kyO (dlg (l.take i) n)).length ≤ 1000000 := by
            cases hd : dlg (l.take i) n with
            | none => show 0 ≤ 1000000; decide
            | some d => exact (dlg_mem (HLB.out.take _) hd).keys.len
          have HCN := Lib.hid fun w' (hw : Fr w6 w') => count_any (.slice ba bad.length bc) kvd bad (kyO (dlg (l.take i) n)) w' (HB.out.fr (HF6.out.trans hw)) (by omega) (HKD.out.fr hw) hdk
          have HCASE : Hid (ndO (dlg (l.take i) n) < 1 ∨ (1 ≤ ndO (dlg (l.take i) n) ∧ (cnt (kyO (dlg (l.take i) n)) bad : Int) < ndO (dlg (l.take i) n)) ∨ (1 ≤ ndO (dlg (l.take i) n) ∧ ndO (dlg (l.take i) n) ≤ (cnt (kyO (dlg (l.take i) n)) bad : Int))) := Lib.hid (by omega)
          have HCDX : Hid ((ndO (dlg (l.take i) n) < 1 ∨ (cnt (kyO (dlg (l.take i) n)) bad : Int) < ndO (dlg (l.take i) n)) → ∀ d, dlg (l.take i) n = some d → d.need < 1 ∨ (cnt d.keys bad : Int) < d.need) := Lib.hid fun h d hd => by rw [hd] at h; exact h
          clear hct hdk
          rcases HCASE.out with h1 | ⟨h1, h2⟩ | ⟨h1, h2⟩
          · have HCD := Lib.hid (HCDX.out (.inl h1))
            have dn1 : decide ((1 : Int) ≤ ndO (dlg (l.take i) n)) = false := decide_eq_false (by omega)
            clear HCASE HCDX HCN h1
            generalize hnd : ndO (dlg (l.take i) n) = nd at *
            clear hnd
            go_upto_region 12 with (go_at_call 23; refine HCO.out.mono ?_; rintro e w7 ⟨rfl, hf⟩; have HFE := Lib.hid hf; clear hf)
            clear HCO
            go_wp2_with fail
            go_loopw [23] (fun vi wr => ∃ j : Nat, i ≤ j ∧ j ≤ N ∧ vi = .int .i64 j ∧ Hid (std (l.take j) n = std (l.take i) n) ∧ Hid (Fr w6 wr)) (fun vi _ => N - (intOf vi).toNat)
            case atStart => exact ⟨i, Nat.le_refl _, by omega, rfl, Lib.hid rfl, HFE⟩
            case round =>
              obtain ⟨j, hij, hjN, rfl, hE, hF⟩ := hrel
              by_cases hlt : j < N
              · have hjl : j < l.length := by omega
                obtain ⟨g1, o1, rfl, hat0⟩ := HV.out.at j hjl
                have HAT := Lib.hid (hat0.fr (HF6.out.trans hF.out))
                have hd0 : decide ((j : Int) < (N : Int)) = true := decide_eq_true (by omega)
                have HMAY := Lib.hid (HADM.out j hjl hlt)
                have hjc : j + 1 ≤ ac := by have := HV.out.cap (by omega); omega
                have HOJ := Lib.hid (show own (l.take j) n = some g by have h1 := congrArg Prod.fst hE.out; exact h1.trans HX.out)
                have HDJ := Lib.hid (show dlg (l.take j) n = dlg (l.take i) n from congrArg Prod.snd hE.out)
                go_upto_region 16 with (first
                  | (refine wpList_load_fact (by rfl) (.tmp 110) rfl g1 (o1 + j * 29) l[j] (by rfl) HAT.out ?_)
                  | (refine wpList_store_fact rfl (.tmp 24) (.tmp 111) rfl wr.heap.size l[j] _ rfl rfl rfl rfl HAT.out.ok ?_; intro w7 hat hfr; have HAX := Lib.hid hat; have HF7 := Lib.hid hfr; clear hat hfr))
                have c0 := HAX.out.kind
                have HAY := HAX
                have HNM := Lib.hid fun w' (hw : Fr w7 w') => rname_any l[j] w' (HAX.out.ok.fr hw)
                by_cases hX : nm l[j] = n ∧ l[j].kind ≠ 3 ∧ l[j].kind ≠ 7
                · obtain ⟨hn1, h3, h7⟩ := hX
                  have hnb : (nm l[j] == n) = true := by simpa using hn1
                  have h37 : ¬ (l[j].kind = 3 ∨ l[j].kind = 7) := by omega
                  have hjs : j < sg.length := by
                    rcases Nat.lt_or_ge j sg.length with h | h
                    · exact h
                    · exfalso
                      have hg0 : sg.getD j [] = [] := by simp [List.getD, h]
                      have hm := HMAY.out
                      rw [hg0] at hm
                      exact few_sign hm h37 (by rw [hn1]; exact HOJ.out) HCT.out (fun d hd => HCD.out d (by rw [← HDJ.out, ← hn1]; exact hd)) (q := []) (by simp)
                  have hgd : sg.getD j [] = sg[j] := by simp [List.getD, hjs]
                  have honly : (sg[j].all fun x => decide (x ∈ bad)) = false := by
                    cases hb : (sg[j].all fun x => decide (x ∈ bad)) with
                    | false => rfl
                    | true =>
                      exfalso
                      have hm := HMAY.out
                      rw [hgd] at hm
                      exact few_sign hm h37 (by rw [hn1]; exact HOJ.out) HCT.out (fun d hd => HCD.out d (by rw [← HDJ.out, ← hn1]; exact hd)) (q := sg[j]) (fun y hy => by
                        have := List.all_eq_true.1 hb y hy
                        exact of_decide_eq_true this)
                  obtain ⟨g2, o2, kv2, rfl, ck', hkv⟩ := HSG.out.at j hjs
                  have ck := (HF6.out.trans (hF.out.trans HF7.out)).cell ck'
                  have HON := Lib.hid fun w' (hw : Fr w7 w') => only_any kv2 (.slice ba bad.length bc) sg[j] bad w' (hkv.fr ((HF6.out.trans (hF.out.trans HF7.out)).trans hw)) (HB.out.fr ((HF6.out.trans (hF.out.trans HF7.out)).trans hw)) (by have := HS20.out _ (List.getElem_mem hjs); omega) (by omega)
                  rw [honly] at HON
                  clear honly hgd HMAY h37 HV HSG HX HOJ HDJ HADM HCT HCD HAT hkv ck' HAX
                  have hkk3 : ¬ l[j].kind = 3 := h3
                  have hkk7 : ¬ l[j].kind = 7 := h7
                  have e3 : (l[j].kind == 3) = false := by simpa using h3
                  have e7 : (l[j].kind == 7) = false := by simpa using h7
                  clear hn1 h3 h7
                  generalize nm l[j] = z at *
                  generalize l[j].kind = kd at *
                  obtain ⟨m, hm⟩ : ∃ m, sg.length = m + 1 := ⟨sg.length - 1, by omega⟩
                  have hm15 : m ≤ 17 := by omega
                  have hjm : j ≤ m := by omega
                  have hmj : (m < j) = False := by simp; omega
                  have dJ : decide ((j : Int) < (m : Int) + 1) = true := decide_eq_true (by omega)
                  have hJ1 : (j : Int) < (m : Int) + 1 := by omega
                  have hmin : min (j : Int) (m : Int) = (j : Int) := Int.min_eq_left (by omega)
                  generalize sg.length = gl at *
                  subst hm
                  go_wp2_with (first
                    | (refine wpList_load_fact (by rfl) (.tmp 24) rfl wr.heap.size 0 l[j] (by rfl) HAY.out ?_)
                    | (go_at_call 24; refine (HNM.out _ (Fr.refl _)).mono ?_; rintro e w8 ⟨rfl, hf⟩; have HF8 := Lib.hid hf; have c8 := hf.cell c0; have ck8 := hf.cell ck; clear hf)
                    | (go_at_call 25; refine (HON.out _ HF8.out).mono ?_; rintro e w9 ⟨rfl, rfl⟩))
                  go_ret
                  exact ⟨rfl, HF6.out.trans (hF.out.trans (HF7.out.trans HF8.out))⟩
                · have hkeep : nm l[j] ≠ n ∨ l[j].kind = 3 ∨ l[j].kind = 7 := by
                    by_cases h1 : nm l[j] = n
                    · by_cases h3 : l[j].kind = 3
                      · exact .inr (.inl h3)
                      · by_cases h7 : l[j].kind = 7
                        · exact .inr (.inr h7)
                        · exact absurd ⟨h1, h3, h7⟩ hX
                    · exact .inl h1
                  have hst := std_same hjl n hkeep
                  have hwr : IntKind.i64.wrap ((j : Int) + 1) = (j : Int) + 1 := IntWalk.i64_in _ (by omega)
                  have hI0 : 0 ≤ (j : Int) + 1 := by omega
                  have hI1 : (j : Int) + 1 ≤ (ac : Int) := by omega
                  have hIT : ((j : Int) + 1).toNat = j + 1 := by omega
                  have HE2 := Lib.hid (hst.trans hE.out)
                  have HOW := Lib.hid fun w' (hw : Fr w7 w') => owner_any (.slice (some ⟨g1, o1, none⟩) (j + 1) ac) (l.take (j + 1)) n w' ((HV.out.take (j + 1) (by omega)).fr ((HF6.out.trans (hF.out.trans HF7.out)).trans hw)) (HLB.out.take _)
                  have hoj : own (l.take (j + 1)) n = some g := (congrArg Prod.fst hst).trans HOJ.out
                  rw [hoj] at HOW
                  unfold OwnP at HOW
                  simp only [ndO_some, kyO_some, Option.isSome_some] at HOW
                  have HIN := Lib.hid fun u w' (hw : Fr w7 w') (hu : Sl w' u g.keys) => ints_any u kvo g.keys g.keys w' hu (HKV.out.fr (hF.out.trans (HF7.out.trans hw))) (by omega)
                  rw [dec_self] at HIN
                  clear hst hoj HMAY HV HSG HX HOJ HDJ HADM HCT HCD HAT hX
                  have HK3 : Hid ((nm l[j] == n) = false ∨ ((nm l[j] == n) = true ∧ l[j].kind = 3) ∨ ((nm l[j] == n) = true ∧ l[j].kind = 7)) := Lib.hid (by
                    by_cases h1 : nm l[j] = n
                    · rcases hkeep with h | h | h
                      · exact absurd h1 h
                      · exact .inr (.inl ⟨by simpa using h1, h⟩)
                      · exact .inr (.inr ⟨by simpa using h1, h⟩)
                    · exact .inl (by simpa using h1))
                  clear hkeep
                  rcases HK3.out with hnb | ⟨hnb, hk⟩ | ⟨hnb, hk⟩
                  all_goals
                    first | rw [hk] at c0 | skip
                    first | clear hk | skip
                    clear HK3
                    generalize hnm : nm l[j] = z at *
                    go_wp2_with (first
                      | (refine wpList_load_fact (by rfl) (.tmp 24) rfl wr.heap.size 0 l[j] (by rfl) HAY.out ?_)
                      | (go_at_call 24; refine (HNM.out _ (Fr.refl _)).mono ?_; rintro e w8 ⟨rfl, hf⟩; have HF8 := Lib.hid hf; have c8 := hf.cell c0; clear hf)
                      | (go_at_call 10; refine (HOW.out _ HF8.out).mono ?_; rintro e w9 ⟨kv9, rfl, hk9, hf⟩; have HK9 := Lib.hid hk9; have HF9 := Lib.hid (HF8.out.trans hf); clear hf hk9)
                      | (go_at_call 14; refine (HIN.out _ _ HF9.out HK9.out).mono ?_; rintro e w10 ⟨rfl, hf⟩; have HF10 := Lib.hid (HF9.out.trans hf); clear hf))
                    go_roundw
                    case rel => exact ⟨j + 1, by omega, by omega, by go_num, HE2, Lib.hid (hF.out.trans (HF7.out.trans HF10.out))⟩
                    case measure => simp [intOf]; omega
              · have hd0 : decide ((j : Int) < (N : Int)) = false := decide_eq_false (by omega)
                clear HV HSG HX HADM HCT HCD
                go_wp2_with fail
                go_ret
                exact ⟨rfl, HF6.out.trans hF.out⟩
          · have HCD := Lib.hid (HCDX.out (.inr h2))
            have dn1 : decide ((1 : Int) ≤ ndO (dlg (l.take i) n)) = true := decide_eq_true (by omega)
            have dn2 : decide (ndO (dlg (l.take i) n) ≤ (cnt (kyO (dlg (l.take i) n)) bad : Int)) = false := decide_eq_false (by omega)
            clear HCASE HCDX h1 h2
            generalize hnd : ndO (dlg (l.take i) n) = nd at *
            clear hnd
            go_wp2_with fail
            refine HCO.out.mono ?_
            rintro e w7 ⟨rfl, hf⟩
            have HF7A := Lib.hid hf
            clear hf
            go_wp2_with fail
            refine (HCN.out _ HF7A.out).mono ?_
            rintro e w7b ⟨rfl, hf⟩
            have HFE := Lib.hid (HF7A.out.trans hf)
            clear hf
            go_upto_region 12 with fail
            clear HCO HCN
            go_wp2_with fail
            go_loopw [23] (fun vi wr => ∃ j : Nat, i ≤ j ∧ j ≤ N ∧ vi = .int .i64 j ∧ Hid (std (l.take j) n = std (l.take i) n) ∧ Hid (Fr w6 wr)) (fun vi _ => N - (intOf vi).toNat)
            case atStart => exact ⟨i, Nat.le_refl _, by omega, rfl, Lib.hid rfl, HFE⟩
            case round =>
              obtain ⟨j, hij, hjN, rfl, hE, hF⟩ := hrel
              by_cases hlt : j < N
              · have hjl : j < l.length := by omega
                obtain ⟨g1, o1, rfl, hat0⟩ := HV.out.at j hjl
                have HAT := Lib.hid (hat0.fr (HF6.out.trans hF.out))
                have hd0 : decide ((j : Int) < (N : Int)) = true := decide_eq_true (by omega)
                have HMAY := Lib.hid (HADM.out j hjl hlt)
                have hjc : j + 1 ≤ ac := by have := HV.out.cap (by omega); omega
                have HOJ := Lib.hid (show own (l.take j) n = some g by have h1 := congrArg Prod.fst hE.out; exact h1.trans HX.out)
                have HDJ := Lib.hid (show dlg (l.take j) n = dlg (l.take i) n from congrArg Prod.snd hE.out)
                go_upto_region 16 with (first
                  | (refine wpList_load_fact (by rfl) (.tmp 110) rfl g1 (o1 + j * 29) l[j] (by rfl) HAT.out ?_)
                  | (refine wpList_store_fact rfl (.tmp 24) (.tmp 111) rfl wr.heap.size l[j] _ rfl rfl rfl rfl HAT.out.ok ?_; intro w7 hat hfr; have HAX := Lib.hid hat; have HF7 := Lib.hid hfr; clear hat hfr))
                have c0 := HAX.out.kind
                have HAY := HAX
                have HNM := Lib.hid fun w' (hw : Fr w7 w') => rname_any l[j] w' (HAX.out.ok.fr hw)
                by_cases hX : nm l[j] = n ∧ l[j].kind ≠ 3 ∧ l[j].kind ≠ 7
                · obtain ⟨hn1, h3, h7⟩ := hX
                  have hnb : (nm l[j] == n) = true := by simpa using hn1
                  have h37 : ¬ (l[j].kind = 3 ∨ l[j].kind = 7) := by omega
                  have hjs : j < sg.length := by
                    rcases Nat.lt_or_ge j sg.length with h | h
                    · exact h
                    · exfalso
                      have hg0 : sg.getD j [] = [] := by simp [List.getD, h]
                      have hm := HMAY.out
                      rw [hg0] at hm
                      exact few_sign hm h37 (by rw [hn1]; exact HOJ.out) HCT.out (fun d hd => HCD.out d (by rw [← HDJ.out, ← hn1]; exact hd)) (q := []) (by simp)
                  have hgd : sg.getD j [] = sg[j] := by simp [List.getD, hjs]
                  have honly : (sg[j].all fun x => decide (x ∈ bad)) = false := by
                    cases hb : (sg[j].all fun x => decide (x ∈ bad)) with
                    | false => rfl
                    | true =>
                      exfalso
                      have hm := HMAY.out
                      rw [hgd] at hm
                      exact few_sign hm h37 (by rw [hn1]; exact HOJ.out) HCT.out (fun d hd => HCD.out d (by rw [← HDJ.out, ← hn1]; exact hd)) (q := sg[j]) (fun y hy => by
                        have := List.all_eq_true.1 hb y hy
                        exact of_decide_eq_true this)
                  obtain ⟨g2, o2, kv2, rfl, ck', hkv⟩ := HSG.out.at j hjs
                  have ck := (HF6.out.trans (hF.out.trans HF7.out)).cell ck'
                  have HON := Lib.hid fun w' (hw : Fr w7 w') => only_any kv2 (.slice ba bad.length bc) sg[j] bad w' (hkv.fr ((HF6.out.trans (hF.out.trans HF7.out)).trans hw)) (HB.out.fr ((HF6.out.trans (hF.out.trans HF7.out)).trans hw)) (by have := HS20.out _ (List.getElem_mem hjs); omega) (by omega)
                  rw [honly] at HON
                  clear honly hgd HMAY h37 HV HSG HX HOJ HDJ HADM HCT HCD HAT hkv ck' HAX
                  have hkk3 : ¬ l[j].kind = 3 := h3
                  have hkk7 : ¬ l[j].kind = 7 := h7
                  have e3 : (l[j].kind == 3) = false := by simpa using h3
                  have e7 : (l[j].kind == 7) = false := by simpa using h7
                  clear hn1 h3 h7
                  generalize nm l[j] = z at *
                  generalize l[j].kind = kd at *
                  obtain ⟨m, hm⟩ : ∃ m, sg.length = m + 1 := ⟨sg.length - 1, by omega⟩
                  have hm15 : m ≤ 17 := by omega
                  have hjm : j ≤ m := by omega
                  have hmj : (m < j) = False := by simp; omega
                  have dJ : decide ((j : Int) < (m : Int) + 1) = true := decide_eq_true (by omega)
                  have hJ1 : (j : Int) < (m : Int) + 1 := by omega
                  have hmin : min (j : Int) (m : Int) = (j : Int) := Int.min_eq_left (by omega)
                  generalize sg.length = gl at *
                  subst hm
                  go_wp2_with (first
                    | (refine wpList_load_fact (by rfl) (.tmp 24) rfl wr.heap.size 0 l[j] (by rfl) HAY.out ?_)
                    | (go_at_call 24; refine (HNM.out _ (Fr.refl _)).mono ?_; rintro e w8 ⟨rfl, hf⟩; have HF8 := Lib.hid hf; have c8 := hf.cell c0; have ck8 := hf.cell ck; clear hf)
                    | (go_at_call 25; refine (HON.out _ HF8.out).mono ?_; rintro e w9 ⟨rfl, rfl⟩))
                  go_ret
                  exact ⟨rfl, HF6.out.trans (hF.out.trans (HF7.out.trans HF8.out))⟩
                · have hkeep : nm l[j] ≠ n ∨ l[j].kind = 3 ∨ l[j].kind = 7 := by
                    by_cases h1 : nm l[j] = n
                    · by_cases h3 : l[j].kind = 3
                      · exact .inr (.inl h3)
                      · by_cases h7 : l[j].kind = 7
                        · exact .inr (.inr h7)
                        · exact absurd ⟨h1, h3, h7⟩ hX
                    · exact .inl h1
                  have hst := std_same hjl n hkeep
                  have hwr : IntKind.i64.wrap ((j : Int) + 1) = (j : Int) + 1 := IntWalk.i64_in _ (by omega)
                  have hI0 : 0 ≤ (j : Int) + 1 := by omega
                  have hI1 : (j : Int) + 1 ≤ (ac : Int) := by omega
                  have hIT : ((j : Int) + 1).toNat = j + 1 := by omega
                  have HE2 := Lib.hid (hst.trans hE.out)
                  have HOW := Lib.hid fun w' (hw : Fr w7 w') => owner_any (.slice (some ⟨g1, o1, none⟩) (j + 1) ac) (l.take (j + 1)) n w' ((HV.out.take (j + 1) (by omega)).fr ((HF6.out.trans (hF.out.trans HF7.out)).trans hw)) (HLB.out.take _)
                  have hoj : own (l.take (j + 1)) n = some g := (congrArg Prod.fst hst).trans HOJ.out
                  rw [hoj] at HOW
                  unfold OwnP at HOW
                  simp only [ndO_some, kyO_some, Option.isSome_some] at HOW
                  have HIN := Lib.hid fun u w' (hw : Fr w7 w') (hu : Sl w' u g.keys) => ints_any u kvo g.keys g.keys w' hu (HKV.out.fr (hF.out.trans (HF7.out.trans hw))) (by omega)
                  rw [dec_self] at HIN
                  clear hst hoj HMAY HV HSG HX HOJ HDJ HADM HCT HCD HAT hX
                  have HK3 : Hid ((nm l[j] == n) = false ∨ ((nm l[j] == n) = true ∧ l[j].kind = 3) ∨ ((nm l[j] == n) = true ∧ l[j].kind = 7)) := Lib.hid (by
                    by_cases h1 : nm l[j] = n
                    · rcases hkeep with h | h | h
                      · exact absurd h1 h
                      · exact .inr (.inl ⟨by simpa using h1, h⟩)
                      · exact .inr (.inr ⟨by simpa using h1, h⟩)
                    · exact .inl (by simpa using h1))
                  clear hkeep
                  rcases HK3.out with hnb | ⟨hnb, hk⟩ | ⟨hnb, hk⟩
                  all_goals
                    first | rw [hk] at c0 | skip
                    first | clear hk | skip
                    clear HK3
                    generalize hnm : nm l[j] = z at *
                    go_wp2_with (first
                      | (refine wpList_load_fact (by rfl) (.tmp 24) rfl wr.heap.size 0 l[j] (by rfl) HAY.out ?_)
                      | (go_at_call 24; refine (HNM.out _ (Fr.refl _)).mono ?_; rintro e w8 ⟨rfl, hf⟩; have HF8 := Lib.hid hf; have c8 := hf.cell c0; clear hf)
                      | (go_at_call 10; refine (HOW.out _ HF8.out).mono ?_; rintro e w9 ⟨kv9, rfl, hk9, hf⟩; have HK9 := Lib.hid hk9; have HF9 := Lib.hid (HF8.out.trans hf); clear hf hk9)
                      | (go_at_call 14; refine (HIN.out _ _ HF9.out HK9.out).mono ?_; rintro e w10 ⟨rfl, hf⟩; have HF10 := Lib.hid (HF9.out.trans hf); clear hf))
                    go_roundw
                    case rel => exact ⟨j + 1, by omega, by omega, by go_num, HE2, Lib.hid (hF.out.trans (HF7.out.trans HF10.out))⟩
                    case measure => simp [intOf]; omega
              · have hd0 : decide ((j : Int) < (N : Int)) = false := decide_eq_false (by omega)
                clear HV HSG HX HADM HCT HCD
                go_wp2_with fail
                go_ret
                exact ⟨rfl, HF6.out.trans hF.out⟩
          · have dn1 : decide ((1 : Int) ≤ ndO (dlg (l.take i) n)) = true := decide_eq_true (by omega)
            have dn2 : decide (ndO (dlg (l.take i) n) ≤ (cnt (kyO (dlg (l.take i) n)) bad : Int)) = true := decide_eq_true (by omega)
            clear HCASE HCDX h1 h2 HV HADM
            generalize hnd : ndO (dlg (l.take i) n) = nd at *
            clear hnd
            go_wp2_with fail
            refine HCO.out.mono ?_
            rintro e w7 ⟨rfl, hf⟩
            have HF7A := Lib.hid hf
            clear hf
            go_wp2_with fail
            refine (HCN.out _ HF7A.out).mono ?_
            rintro e w7b ⟨rfl, hf⟩
            have HFE := Lib.hid (HF7A.out.trans hf)
            clear hf
            go_wp2_with fail
            go_ret
            exact ⟨rfl, HF6.out.trans HFE.out⟩
end Go.Proofs.Ytddeblcoglhdnaa
