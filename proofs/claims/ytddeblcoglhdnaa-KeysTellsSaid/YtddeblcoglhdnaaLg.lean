/-
  KeysTells: the walk.
-/
import Derived.Test.YtddeblcoglhdnaaLs
namespace Go.Proofs.Ytddeblcoglhdnaa
open Go.RowKit Mb Go.BigFrame

section
variable {C : World → Prop} {a : Act} {o : Oper}
theorem quiet_load_fact {K : Act → Prop} (x : Operand) (ho : o.op = .load 39 x) (b off : Nat) (f : Ft) (hx : a.eval x = .pointer (some ⟨b, off, none⟩)) (hat : ∀ w, C w → FtAt w b off f) (hk : K (a.put o.dst f.v)) : o.quiet Try.prog a C K :=
  ⟨_, fun w hw => by
    have hl := load_fact (hat w hw)
    unfold Oper.quietAt execOp
    simp only [ho, hx, Instr.loadAt, Instr.sureAddr, Sem.run_bind, Sem.run_pure, Result.andThen_ok, hl]
    exact ⟨rfl, rfl⟩, hk⟩
end
theorem kyO_len {x : Option Ft} (h : ∀ g, x = some g → FB g) : (kyO x).length ≤ 1000000 := by
  cases x with
  | none => show 0 ≤ 1000000; decide
  | some g => exact (h g rfl).keys.len
theorem wkX_mem {l : List Ft} {n : Txt} {c : List Int} {g : Ft} (hl : LB l) (h : wkX l n c = some g) : FB g := by
  unfold wkX at h
  split at h
  · exact ownMem hl h
  · cases h
set_option maxRecDepth 100000 in
set_option maxHeartbeats 8000000 in
theorem tellsLaw_any (v r s u cv : Value) (l : List Ft) (reg : List Int) (sg : List (List Int)) (f : Ft) (q : List Int) (n : Txt) (c : List Int) (w : World) (h : FSl w v l) (hr : LR l) (hreg : Sl w r reg) (hrr : ∀ z ∈ reg, -9223372036854775808 ≤ z ∧ z ≤ 9223372036854775807)
    (hs : SsSl w s sg) (hsr : ∀ q ∈ sg, ∀ z ∈ q, -9223372036854775808 ≤ z ∧ z ≤ 9223372036854775807)
    (hf : FtOk w f) (hfr : ∀ z ∈ f.keys, -9223372036854775808 ≤ z ∧ z ≤ 9223372036854775807) (hfn : (nm f).length ≤ 9223372036854775807)
    (hu : Sl w u q) (hqr : ∀ z ∈ q, -9223372036854775808 ≤ z ∧ z ≤ 9223372036854775807) (_hn : n.length ≤ 9223372036854775807) (hc : Sl w cv c) (_hcr : ∀ z ∈ c, -9223372036854775808 ≤ z ∧ z ≤ 9223372036854775807) (hsz : l.length * 408 ≤ 140737488351232) (hsz2 : sg.length * 24 ≤ 140737488351232) :
    Calls Try.prog 3 #[v, r, s, f.v, u, .string (S n), cv] w fun e w' => e = .returned (.bool true) ∧ Fr w w' := by
  have HS := Lib.hid fun w' => small_any w'
  have HA := Lib.hid (FtAt.new hf 39)
  have HF0 := Lib.hid (Fr.alloc w (.cells f.cs.toArray 39))
  have HV := Lib.hid h
  have HR := Lib.hid hr
  have HG := Lib.hid hreg
  have HGR := Lib.hid hrr
  have HSG := Lib.hid hs
  have HSR := Lib.hid hsr
  have HFR := Lib.hid (And.intro hfr hfn)
  have HU := Lib.hid hu
  have HUR := Lib.hid hqr
  have HCV := Lib.hid hc
  have HSZ := Lib.hid (show (1 + l.length) * 408 ≤ 140737488355328 by omega)
  have HSZ2 : Hid ((3 + sg.length) * 24 ≤ 140737488355328) := Lib.hid (by omega)
  obtain ⟨av, ac, rfl⟩ := h.len
  obtain ⟨ra, rc, rfl⟩ := hreg.len
  obtain ⟨sa, sc, rfl⟩ := hs.len
  obtain ⟨ua, uc, rfl⟩ := hu.len
  obtain ⟨ca, cc, rfl⟩ := hc.len
  unfold Ft.v
  clear h hr hreg hrr hs hsr hf hfr hfn hu hqr hc hsz hsz2
  go_enter Try.func3, Try.ntmps3
  go_upto_region 1 with fail
  generalize (w.alloc (.cells f.cs.toArray 39)) = w0 at *
  go_wp2_with fail
  refine (HS.out w0).mono ?_
  rintro e w1 ⟨rfl, hf⟩
  have HF1 := Lib.hid (HF0.out.trans hf)
  have HAT := Lib.hid (HA.out.fr hf)
  clear hf HS HA HF0
  have HV1 := Lib.hid (HV.out.fr HF1.out)
  have HO1 : Hid (∀ g ∈ [f], FtOk w1 g) := Lib.hid (by intro g hg; rw [List.mem_singleton] at hg; subst hg; exact HAT.out.ok)
  have HRF := Lib.hid (rowF w1 [f] HO1.out (by show 1 ≤ 1000; decide))
  go_wp2_with (first
    | (at_builtin; refine wpList_append_slices2 (W0 := w6) rfl (.tmp 50) (.tmp 51) rfl [.slice ua q.length uc, .slice ra reg.length rc, .slice ca c.length cc] [q, reg, c] rfl rfl rfl (three_sl (HU.out.fr (HF1.out.trans HF6.out)) (HG.out.fr (HF1.out.trans HF6.out)) (HCV.out.fr (HF1.out.trans HF6.out))) _ sg rfl (HSG.out.fr (HF1.out.trans HF6.out)) (by simp) HSZ2.out ?_; intro v2 w7 hf hss; have HF67 := Lib.hid hf; have HSS := Lib.hid hss; clear hf hss)
    | (refine wpList_load_fact (by rfl) (.tmp 10) rfl w.heap.size 0 f (by rfl) HAT.out ?_; refine wpList_build_fact1 rfl (.tmp 43) rfl f (by rfl) HO1.out ?_)
    | (at_builtin; refine wpList_append_facts rfl (.tmp 44) (.tmp 45) rfl w1.heap.size _ 1 [f] rfl HRF.out _ l rfl (HV1.out.fr (Fr.alloc _ _)) HSZ.out (by simp) ?_; intro v3 w6 hown hgr; have HF6 := Lib.hid (Fr.growO (Fr.alloc w1 _) hgr (fun k hk => Nat.le_of_eq (Option.some.inj hk))); have HSF := Lib.hid (FSl.own (l := f :: l) hown (by simp; omega) (fun g hg => by
        rcases List.mem_cons.1 hg with rfl | hg
        · exact HAT.out.ok.fr HF6.out
        · exact HV1.out.oks g hg |>.fr HF6.out)); clear hown hgr))
  refine (few_any _ _ (f :: l) ([q, reg, c] ++ sg) 18 (by decide) w7 (HSF.out.fr HF67.out) HSS.out).mono ?_
  rintro e w8 ⟨b, rfl, hb, hw7⟩
  subst hw7
  have HF17 := Lib.hid (HF6.out.trans HF67.out)
  have HF7 := Lib.hid (HF1.out.trans HF17.out)
  clear HSF HSS HF6 HF67 HRF HO1 HV1 HSZ HSZ2
  cases b with
  | false =>
    clear hb
    go_wp2_with fail
    go_ret
    exact ⟨rfl, HF7.out⟩
  | true =>
    obtain ⟨hl18, hs18, hk20, hq20⟩ := hb rfl
    by_cases hl15 : 15 < l.length
    · have d15 : decide ((15 : Int) < (l.length : Int)) = true := decide_eq_true (by omega)
      clear hb hk20 hq20 hl15
      go_wp2_with fail
      go_ret
      exact ⟨rfl, HF7.out⟩
    · have d15 : decide ((15 : Int) < (l.length : Int)) = false := decide_eq_false (by omega)
      have hs15 : sg.length ≤ 15 := by simp at hs18; omega
      have hreg20 : reg.length ≤ 20 := hq20 reg (by simp)
      have hqq20 : q.length ≤ 20 := hq20 q (by simp)
      have hc20 : c.length ≤ 20 := hq20 c (by simp)
      have hf20 : f.keys.length ≤ 20 := hk20 f (by simp)
      have HLB := Lib.hid (HR.out.lb (by omega) (fun g hg => hk20 g (by simp [hg])))
      have HFB : Hid (FB f) := Lib.hid ⟨⟨by omega, HFR.out.1⟩, HFR.out.2⟩
      have HSB : Hid (SsB sg) := Lib.hid ⟨by omega, fun p hp => ⟨by have := hq20 p (by simp [hp]); omega, HSR.out p hp⟩⟩
      have HVX := Lib.hid fun w' (hw : Fr w8 w') => HV.out.fr (HF7.out.trans hw)
      have HGX := Lib.hid fun w' (hw : Fr w8 w') => HG.out.fr (HF7.out.trans hw)
      have HUX := Lib.hid fun w' (hw : Fr w8 w') => HU.out.fr (HF7.out.trans hw)
      have HSX := Lib.hid fun w' (hw : Fr w8 w') => HSG.out.fr (HF7.out.trans hw)
      have HCX := Lib.hid fun w' (hw : Fr w8 w') => HCV.out.fr (HF7.out.trans hw)
      have HAT8 := Lib.hid (HAT.out.fr HF17.out)
      have HGO : Hid (Ok reg) := Lib.hid ⟨by omega, HGR.out⟩
      have HQO : Hid (Ok q) := Lib.hid ⟨by omega, HUR.out⟩
      have HO := Lib.hid fun w' (hw : Fr w8 w') => owner_any _ l n w' (HVX.out w' hw) HLB.out
      have HRO := Lib.hid fun w' (hw : Fr w8 w') => rowner_any _ l n w' (HVX.out w' hw) HLB.out
      have HD := Lib.hid fun w' (hw : Fr w8 w') => delegates_any _ l n w' (HVX.out w' hw) HLB.out
      have HRD := Lib.hid fun w' (hw : Fr w8 w') => rdelegates_any _ l n w' (HVX.out w' hw) HLB.out
      have HA := Lib.hid fun w' (hw : Fr w8 w') => admit_any _ _ _ l reg sg w' (HVX.out w' hw) HLB.out (HGX.out w' hw) HGO.out (HSX.out w' hw) HSB.out
      have HRA := Lib.hid fun w' (hw : Fr w8 w') => radmit_any _ _ _ l reg sg w' (HVX.out w' hw) HLB.out (HGX.out w' hw) HGO.out (HSX.out w' hw) HSB.out
      have HW := Lib.hid fun w' (hw : Fr w8 w') => walk_any _ _ l n c w' (HVX.out w' hw) HLB.out (HCX.out w' hw) (by omega)
      have HRW := Lib.hid fun w' (hw : Fr w8 w') => rwalk_any _ _ l n c w' (HVX.out w' hw) HLB.out (HCX.out w' hw) (by omega)
      have HCH := Lib.hid fun w' (hw : Fr w8 w') => chain_any _ l n w' (HVX.out w' hw) HLB.out.len
      have HRC := Lib.hid fun w' (hw : Fr w8 w') => rchain_any _ l n w' (HVX.out w' hw) HLB.out.len
      have hkc : (chn l n).length ≤ 1000000 := by have := chn_len l n; omega
      have HW3 := Lib.hid fun t w' (hw : Fr w8 w') (ht : Sl w' t (chn l n)) => (show Calls Try.prog 17 _ w' _ from by
        have h := walk_any _ t l n (chn l n) w' (HVX.out w' hw) HLB.out ht hkc
        rw [WkP_self] at h
        exact h)
      have HI := Lib.hid fun (a b : Value) (xs : List Int) w' (h1 : Sl w' a xs) (h2 : Sl w' b xs) (hl : xs.length ≤ 1000000) => (show Calls Try.prog 14 _ w' _ from by
        have h := ints_any a b xs xs w' h1 h2 hl
        rw [dec_self] at h
        exact h)
      have HM := Lib.hid fun w' (hw : Fr w8 w') => mayF_any _ _ _ l reg f q w' (HVX.out w' hw) HLB.out (HGX.out w' hw) HGO.out (HAT8.out.ok.fr hw) HFB.out (HUX.out w' hw) HQO.out
      have HRM := Lib.hid fun w' (hw : Fr w8 w') => rmayF_any _ _ _ l reg f q w' (HVX.out w' hw) HLB.out (HGX.out w' hw) HGO.out (HAT8.out.ok.fr hw) HFB.out (HUX.out w' hw) HQO.out
      have hko : (kyO (own l n)).length ≤ 1000000 := kyO_len fun g hg => ownMem HLB.out hg
      have hkd : (kyO (dlg l n)).length ≤ 1000000 := kyO_len fun g hg => dlg_mem HLB.out hg
      have hkw : (kyO (wkX l n c)).length ≤ 1000000 := kyO_len fun g hg => wkX_mem HLB.out hg
      have HZ : Hid ((own l n).isSome = false ∨ ((own l n).isSome = true ∧ wkS l n = 0)) := Lib.hid (by
        by_cases h0 : chn l n = []
        · left; rw [own_empty h0]; rfl
        · obtain ⟨p, i, hi, h1, h2⟩ := own_last h0
          right
          rw [h2]
          exact ⟨rfl, by unfold wkS; rw [if_neg h0]⟩)
      unfold OwnP at HO HRO
      unfold DlgP at HD HRD
      unfold WkP at HW HRW
      unfold ChP at HCH HRC
      generalize (own l n).isSome = z at *
      generalize ndO (own l n) = nd at *
      generalize kyO (own l n) = ko at *
      generalize ndO (dlg l n) = ndd at *
      generalize tlO (dlg l n) = tld at *
      generalize kyO (dlg l n) = kd at *
      generalize ndO (wkX l n c) = ndw at *
      generalize kyO (wkX l n c) = kw at *
      generalize wkE l n c = ew at *
      generalize wkS l n = ws at *
      generalize chn l n = ch at *
      generalize ad l reg sg = adm at *
      generalize may l reg f q = er at *
      have HC := Lib.hid (Fr.refl w8)
      clear hb hk20 hq20 HR HG HGR HSG HSR HFR HU HUR HCV HF1 HAT HF17 HLB HFB HSB HVX HGX HUX HSX HCX HGO HQO hl15 HV
      go_wp2_with fail
      refine (HO.out _ HC.out).mono ?_
      rintro e wz ⟨k1, rfl, hk, hf⟩
      have HC := Lib.hid (HC.out.trans hf)
      have HK1 := Lib.hid hk
      clear hf hk
      go_wp2_with fail
      refine (HRO.out _ HC.out).mono ?_
      rintro e wz ⟨k2, rfl, hk, hf⟩
      have HK1 := Lib.hid (HK1.out.fr hf)
      have HC := Lib.hid (HC.out.trans hf)
      have HK2 := Lib.hid hk
      clear hf hk
      go_wp2_with fail
      refine (HD.out _ HC.out).mono ?_
      rintro e wz ⟨k3, rfl, hk, hf⟩
      have HK1 := Lib.hid (HK1.out.fr hf)
      have HK2 := Lib.hid (HK2.out.fr hf)
      have HC := Lib.hid (HC.out.trans hf)
      have HK3 := Lib.hid hk
      clear hf hk
      go_wp2_with fail
      refine (HRD.out _ HC.out).mono ?_
      rintro e wz ⟨k4, rfl, hk, hf⟩
      have HK1 := Lib.hid (HK1.out.fr hf)
      have HK2 := Lib.hid (HK2.out.fr hf)
      have HK3 := Lib.hid (HK3.out.fr hf)
      have HC := Lib.hid (HC.out.trans hf)
      have HK4 := Lib.hid hk
      clear hf hk
      go_wp2_with fail
      refine (HI.out _ _ _ _ HK1.out HK2.out hko).mono ?_
      rintro e wz ⟨rfl, hf⟩
      have HK2 := Lib.hid (HK2.out.fr hf)
      have HK3 := Lib.hid (HK3.out.fr hf)
      have HK4 := Lib.hid (HK4.out.fr hf)
      have HC := Lib.hid (HC.out.trans hf)
      clear hf HK1
      go_wp2_with fail
      refine (HI.out _ _ _ _ HK3.out HK4.out hkd).mono ?_
      rintro e wz ⟨rfl, hf⟩
      have HK2 := Lib.hid (HK2.out.fr hf)
      have HC := Lib.hid (HC.out.trans hf)
      clear hf HK3 HK4
      go_wp2_with fail
      refine (HA.out _ HC.out).mono ?_
      rintro e wz ⟨rfl, hf⟩
      have HK2 := Lib.hid (HK2.out.fr hf)
      have HC := Lib.hid (HC.out.trans hf)
      clear hf
      go_wp2_with fail
      refine (HRA.out _ HC.out).mono ?_
      rintro e wz ⟨rfl, hf⟩
      have HK2 := Lib.hid (HK2.out.fr hf)
      have HC := Lib.hid (HC.out.trans hf)
      clear hf
      go_wp2_with fail
      refine (HW.out _ HC.out).mono ?_
      rintro e wz ⟨k5, rfl, hk, hf⟩
      have HK2 := Lib.hid (HK2.out.fr hf)
      have HC := Lib.hid (HC.out.trans hf)
      have HK5 := Lib.hid hk
      clear hf hk
      go_wp2_with fail
      refine (HRW.out _ HC.out).mono ?_
      rintro e wz ⟨k6, rfl, hk, hf⟩
      have HK2 := Lib.hid (HK2.out.fr hf)
      have HK5 := Lib.hid (HK5.out.fr hf)
      have HC := Lib.hid (HC.out.trans hf)
      have HK6 := Lib.hid hk
      clear hf hk
      go_wp2_with fail
      refine (HCH.out _ HC.out).mono ?_
      rintro e wz ⟨k7, rfl, hk, hf⟩
      have HK2 := Lib.hid (HK2.out.fr hf)
      have HK5 := Lib.hid (HK5.out.fr hf)
      have HK6 := Lib.hid (HK6.out.fr hf)
      have HC := Lib.hid (HC.out.trans hf)
      have HK7 := Lib.hid hk
      clear hf hk
      go_wp2_with fail
      refine (HRC.out _ HC.out).mono ?_
      rintro e wz ⟨k8, rfl, hk, hf⟩
      have HK2 := Lib.hid (HK2.out.fr hf)
      have HK5 := Lib.hid (HK5.out.fr hf)
      have HK6 := Lib.hid (HK6.out.fr hf)
      have HK7 := Lib.hid (HK7.out.fr hf)
      have HC := Lib.hid (HC.out.trans hf)
      have HK8 := Lib.hid hk
      clear hf hk
      go_wp2_with fail
      refine (HW3.out _ _ HC.out HK8.out).mono ?_
      rintro e wz ⟨k9, rfl, hk, hf⟩
      have HK2 := Lib.hid (HK2.out.fr hf)
      have HK5 := Lib.hid (HK5.out.fr hf)
      have HK6 := Lib.hid (HK6.out.fr hf)
      have HK7 := Lib.hid (HK7.out.fr hf)
      have HC := Lib.hid (HC.out.trans hf)
      have HK9 := Lib.hid hk
      clear hf hk HK8
      go_wp2_with fail
      refine (HI.out _ _ _ _ HK5.out HK6.out hkw).mono ?_
      rintro e wz ⟨rfl, hf⟩
      have HK2 := Lib.hid (HK2.out.fr hf)
      have HK7 := Lib.hid (HK7.out.fr hf)
      have HK9 := Lib.hid (HK9.out.fr hf)
      have HC := Lib.hid (HC.out.trans hf)
      clear hf HK5 HK6
      go_wp2_with fail
      refine (HRC.out _ HC.out).mono ?_
      rintro e wz ⟨k10, rfl, hk, hf⟩
      have HK2 := Lib.hid (HK2.out.fr hf)
      have HK7 := Lib.hid (HK7.out.fr hf)
      have HK9 := Lib.hid (HK9.out.fr hf)
      have HC := Lib.hid (HC.out.trans hf)
      have HK10 := Lib.hid hk
      clear hf hk
      go_wp2_with fail
      refine (HI.out _ _ _ _ HK7.out HK10.out hkc).mono ?_
      rintro e wz ⟨rfl, hf⟩
      have HK2 := Lib.hid (HK2.out.fr hf)
      have HK9 := Lib.hid (HK9.out.fr hf)
      have HC := Lib.hid (HC.out.trans hf)
      clear hf HK7 HK10
      have HATZ := Lib.hid (HAT8.out.fr HC.out)
      clear HO HRO HD HRD HA HRA HW HRW HCH HRC HW3
      go_upto_region 18 with fail
      go_upto_region 18 with fail
      rcases HZ.out with hz | ⟨hz, hws⟩
      · subst hz
        clear HZ
        refine wp_region_cls (D := Fr wz) (by kernel_rfl) (by kernel_rfl) (Fr.drew wz) ?_
        repeat (first
          | (go_big_quiet_want; refine quiet_load_fact (.tmp 10) rfl w.heap.size 0 f rfl (fun w' hw => HATZ.out.fr hw) ?_; go_big_quiet_on; simp only [Act.put, List.setIfInBounds_toArray, List.set_cons_zero, List.set_cons_succ])
          | go_big_quiet_step (first
            | (intro hw'; with_reducible rfl)
            | (intro hw'; go_at_call 21; exact (HM.out _ (HC.out.trans hw')).mono fun e w'' ⟨he, hf⟩ => ⟨he, Fr.trans hw' hf⟩)
            | (intro hw'; go_at_call 22; exact (HRM.out _ (HC.out.trans hw')).mono fun e w'' ⟨he, hf⟩ => ⟨he, Fr.trans hw' hf⟩)
            | (intro hw'; go_at_call 14; exact (HI.out _ _ _ _ (HK9.out.fr hw') (HK2.out.fr hw') hko).mono fun e w'' ⟨he, hf⟩ => ⟨he, Fr.trans hw' hf⟩)))
        refine wpQuiet_nil ?_
        intro wq hwq
        go_wp2_with fail
        go_ret
        exact ⟨rfl, HF7.out.trans (HC.out.trans hwq)⟩
      · subst hz hws
        clear HZ
        refine wp_region_cls (D := Fr wz) (by kernel_rfl) (by kernel_rfl) (Fr.drew wz) ?_
        repeat (first
          | (go_big_quiet_want; refine quiet_load_fact (.tmp 10) rfl w.heap.size 0 f rfl (fun w' hw => HATZ.out.fr hw) ?_; go_big_quiet_on; simp only [Act.put, List.setIfInBounds_toArray, List.set_cons_zero, List.set_cons_succ])
          | go_big_quiet_step (first
            | (intro hw'; with_reducible rfl)
            | (intro hw'; go_at_call 21; exact (HM.out _ (HC.out.trans hw')).mono fun e w'' ⟨he, hf⟩ => ⟨he, Fr.trans hw' hf⟩)
            | (intro hw'; go_at_call 22; exact (HRM.out _ (HC.out.trans hw')).mono fun e w'' ⟨he, hf⟩ => ⟨he, Fr.trans hw' hf⟩)
            | (intro hw'; go_at_call 14; exact (HI.out _ _ _ _ (HK9.out.fr hw') (HK2.out.fr hw') hko).mono fun e w'' ⟨he, hf⟩ => ⟨he, Fr.trans hw' hf⟩)))
        refine wpQuiet_nil ?_
        intro wq hwq
        go_wp2_with fail
        go_ret
        exact ⟨rfl, HF7.out.trans (HC.out.trans hwq)⟩
end Go.Proofs.Ytddeblcoglhdnaa
