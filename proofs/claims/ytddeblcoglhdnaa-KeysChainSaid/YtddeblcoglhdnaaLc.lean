/-
  KeysChain: the walk.
-/
import Derived.Test.YtddeblcoglhdnaaLn
namespace Go.Proofs.Ytddeblcoglhdnaa
open Go.RowKit Mb Go.BigFrame

set_option maxRecDepth 100000 in
set_option maxHeartbeats 8000000 in
theorem chainLaw_any (v : Value) (l : List Ft) (n : Txt) (wh : Nat) (w : World) (h : FSl w v l) (hr : LR l) (hwh : wh ≤ 255) :
    Calls Try.prog 7 #[v, .string (S n), .int .u8 wh] w fun e w' => e = .returned (.bool true) ∧ Fr w w' := by
  have HS := Lib.hid (small_any w)
  have HV := Lib.hid h
  have HR := Lib.hid hr
  obtain ⟨av, ac, rfl⟩ := h.len
  clear h hr
  go_enter Try.func7, Try.ntmps7
  go_wp2_with fail
  refine HS.out.mono ?_
  rintro e w1 ⟨rfl, hf⟩
  have HF := Lib.hid hf
  clear hf HS
  go_wp2_with fail
  refine (few_any _ _ l [] 15 (by decide) w1 (HV.out.fr HF.out) (.inl ⟨rfl, _, _, rfl⟩)).mono ?_
  rintro e w2 ⟨b, rfl, hb, rfl⟩
  cases b with
  | false =>
    clear hb HV HR
    go_wp2_with fail
    go_ret
    exact ⟨rfl, HF.out⟩
  | true =>
    obtain ⟨hl15, _, hk20, _⟩ := hb rfl
    have HLB := Lib.hid (HR.out.lb (by omega) hk20)
    have hcl := chn_len l n
    clear hb hk20 HR
    go_wp2_with fail
    refine (chain_any _ l n w2 (HV.out.fr HF.out) HLB.out.len).mono ?_
    rintro e w3 ⟨cv, rfl, hcv, hf⟩
    have HC := Lib.hid hcv
    have HF := Lib.hid (HF.out.trans hf)
    clear hcv hf
    go_wp2_with fail
    refine (owner_any _ l n w3 (HV.out.fr HF.out) HLB.out).mono ?_
    rintro e w4 ⟨kv, rfl, hkv, hf⟩
    have HK := Lib.hid hkv
    have HC := Lib.hid (HC.out.fr hf)
    have HF := Lib.hid (HF.out.trans hf)
    clear hkv hf
    go_wp2_with fail
    refine (walk_any _ cv l n (chn l n) w4 (HV.out.fr HF.out) HLB.out HC.out (by omega)).mono ?_
    rw [WkP_self]
    rintro e w5 ⟨wv, rfl, hwv, hf⟩
    have HW := Lib.hid hwv
    have HK := Lib.hid (HK.out.fr hf)
    have HC := Lib.hid (HC.out.fr hf)
    have HF := Lib.hid (HF.out.trans hf)
    clear hwv hf
    obtain ⟨ca, cc, hcv⟩ := HC.out.len
    subst hcv
    go_wp2_with fail
    have hcn0 : (chn l n).length ≤ 15 := by omega
    go_loopw [16, 15] (fun vi u15 wr => ∃ (k m : Nat), k ≤ (chn l n).length ∧ vi = .int .i64 k ∧ m = k ∧ Hid (wr.ownsRow w5.heap.size 39 29 u15 m (fcs ((chF l n).take k))) ∧ Hid (Fr w5 wr)) (fun vi _ _ => (chn l n).length - (intOf vi).toNat)
    case atStart => exact ⟨0, 0, Nat.zero_le _, rfl, rfl, Lib.hid (World.ownsRow_nil _ _ _ _), Lib.hid (Fr.refl _)⟩
    case round =>
      obtain ⟨k, m, hk, rfl, hmk, hO, hF⟩ := hrel
      by_cases hlt : k < (chn l n).length
      · obtain ⟨g, o, rfl, cc'⟩ := HC.out.at k hlt
        have ck := hF.out.cell cc'
        obtain ⟨i, hi, h2, he, hg⟩ := chn_get l n k hlt
        rw [he] at ck
        obtain ⟨g2, o2, rfl, hat0⟩ := HV.out.at i hi
        have HAT := Lib.hid (hat0.fr (HF.out.trans hF.out))
        have d1 : decide ((i : Int) < 0) = false := decide_eq_false (by omega)
        have d2 : decide (l.length ≤ i) = false := decide_eq_false (by omega)
        have htk : (chF l n).take (k + 1) = (chF l n).take k ++ [l[i]] := by rw [take_snoc h2, hg]
        have HTK := Lib.hid htk
        have hn29 : ((k : Nat) + 1) * 408 ≤ 140737488355328 := by omega
        have HO1 : Hid (∀ f ∈ [l[i]], FtOk wr f) := Lib.hid (by intro f hf; rw [List.mem_singleton] at hf; subst hf; exact HAT.out.ok)
        have HRF := Lib.hid (rowF wr [l[i]] HO1.out (by show 1 ≤ 1000; decide))
        have HSF := Lib.hid (FSl.own HRF.out rfl (fun f hf => (HO1.out f hf).fr (Fr.alloc _ _)))
        have hbs := hF.out.size
        clear cc' htk hat0 he HV HC HK HW HRF hg h2
        generalize l[i] = f at *
        subst hmk
        go_upto_region 13 with fail
        go_wp2_with (first
          | (refine wpList_load_fact (by rfl) (.tmp 76) rfl g2 (o2 + i * 29) f (by rfl) HAT.out ?_; refine wpList_build_fact1 rfl (.tmp 77) rfl f (by rfl) HO1.out ?_)
          | (at_builtin; refine wpList_append_facts rfl (.tmp 70) (.tmp 78) rfl w5.heap.size _ _ _ rfl (hO.out.alloc _) _ [f] rfl HSF.out hn29 (by simp; omega) ?_; intro v3 w6 hown hgr))
        have HO2 := Lib.hid (show w6.ownsRow w5.heap.size 39 29 v3 (m + 1) (fcs ((chF l n).take (m + 1))) by rw [HTK.out]; exact hown)
        have HF2 := Lib.hid (Fr.growO (hF.out.trans (Fr.alloc wr _)) hgr (fun k hk => (hO.out.lt k hk).1))
        clear hown hgr
        go_roundw
        case rel => exact ⟨m + 1, m + 1, by omega, by go_num, rfl, HO2, HF2⟩
        case measure => simp [intOf]; omega
      · have hkl : k = (chn l n).length := by omega
        have htk : (chF l n).take k = chF l n := by rw [hkl, ← chF_len, List.take_length]
        have hrow := hO.out
        rw [htk] at hrow
        have HSF := Lib.hid (FSl.own hrow (by rw [hmk, hkl, chF_len]) (fun f hf => ((HV.out.oks f (chF_mem hf)).fr (HF.out.trans hF.out))))
        have HLB2 := Lib.hid (HLB.out.ofChain n)
        have hxo := own_filter l n
        have HK := Lib.hid (HK.out.fr hF.out)
        have HW := Lib.hid (HW.out.fr hF.out)
        have HC := Lib.hid (HC.out.fr hF.out)
        have HF := Lib.hid (HF.out.trans hF.out)
        clear hrow htk hO hF hmk hlt
        go_wp2_with fail
        have hown2 := owner_any u15 (chF l n) n wr HSF.out HLB2.out
        rw [hxo] at hown2
        refine hown2.mono ?_
        rintro e w6 ⟨ov, rfl, hov, hf⟩
        have HO := Lib.hid hov
        have HK := Lib.hid (HK.out.fr hf)
        have HW := Lib.hid (HW.out.fr hf)
        have HC := Lib.hid (HC.out.fr hf)
        have HF := Lib.hid (HF.out.trans hf)
        have HWK := Lib.hid fun u w' (hu : Sl w' u (chn l n ++ [(l.length : Int)])) (hw : Fr w w') => (show Calls Try.prog 17 _ w' _ from by
          have h := walk_any (.slice av l.length ac) u l n (chn l n ++ [(l.length : Int)]) w' (HV.out.fr hw) HLB.out hu (by rw [List.length_append]; simp; omega)
          rw [WkP_ne (more1 _ _)] at h
          exact h)
        have hky : (kyO (own l n)).length ≤ 1000000 := by
          cases ho : own l n with
          | none => show 0 ≤ 1000000; decide
          | some g => exact (ownMem HLB.out ho).keys.len
        have HX := Lib.hid (show (own l n = none ∧ chn l n = []) ∨ ∃ g, own l n = some g ∧ 0 < (chn l n).length by
          by_cases h0 : chn l n = []
          · exact .inl ⟨own_empty h0, h0⟩
          · obtain ⟨p, i, hi, h1, h2⟩ := own_last h0
            exact .inr ⟨_, h2, List.length_pos_iff.2 h0⟩)
        clear hov hf hown2 HSF HLB2 hxo
        have HI1 := Lib.hid (ints_any kv ov _ _ w6 HK.out HO.out hky)
        have HI2 := Lib.hid fun w' (hw : Fr w6 w') => ints_any wv kv _ _ w' (HW.out.fr hw) (HK.out.fr hw) hky
        rw [dec_self] at HI1 HI2
        rcases HX.out with ⟨hx, hc⟩ | ⟨g, hx, hm⟩
        · have hw : wkS l n = 24 := by unfold wkS; rw [if_pos hc]
          have HLC : Hid (0 + ([] : List Int).length ≤ 100000000) := Lib.hid (by simp)
          rw [hc] at HC HWK
          rw [hw, hc, hx]
          dsimp only [ndO, Option.isSome_none, List.length_nil]
          clear hx hc hw HX HK HW HO HI2 hky hcn0 hcl
          go_upto_region 17 with (go_at_call 14; refine HI1.out.mono ?_; rintro e w8 ⟨rfl, hf⟩; have HF8 := Lib.hid (HF.out.trans hf); have HC8 := Lib.hid (HC.out.fr hf); clear hf)
          go_upto_region 18 with (first
            | (at_builtin; refine wpList_append_ints rfl (.tmp 141) (.tmp 144) rfl w8.heap.size _ _ [] rfl (HOA.out.alloc _) _ [(l.length : Int)] rfl (sl_lit wa [(l.length : Int)]) (by show _ + 1 ≤ _; omega) (by have := HFA.out.size; simp; omega) ?_; intro vb wb hownb hgrb; have HSB := Lib.hid (Sl.own hownb); have HFB := Lib.hid (Fr.growO (HFA.out.trans (Fr.alloc wa _)) hgrb (fun k hk => (HOA.out.lt k hk).1)); clear hownb hgrb)
            | (at_builtin; refine wpList_append_ints rfl (.tmp 139) (.tmp 140) rfl w8.heap.size _ 0 [] rfl (row0i w8) _ [] rfl (HC8.out.fr (Fr.alloc w8 _)) HLC.out (by simp) ?_; intro va wa howna hgra; have HOA := Lib.hid howna; have HFA := Lib.hid (Fr.growO (Fr.alloc w8 _) hgra (fun k hk => Nat.le_of_eq (Option.some.inj hk))); clear howna hgra)
            | (go_at_call 17; refine (HWK.out _ _ HSB.out (HF8.out.trans HFB.out)).mono ?_; rintro e w9 ⟨xv, rfl, _, hf⟩; have HF9 := Lib.hid ((HF8.out.trans HFB.out).trans hf); clear hf))
          go_wp2_with fail
          go_ret
          exact ⟨rfl, HF9.out⟩
        · have hw : wkS l n = 0 := by unfold wkS; rw [if_neg (by intro h; rw [h] at hm; simp at hm)]
          have HLC : Hid (0 + (chn l n).length ≤ 100000000) := Lib.hid (by omega)
          rw [hw, hx]
          dsimp only [ndO, Option.isSome_some]
          generalize hml : (chn l n).length = m at *
          have HML := Lib.hid hml
          clear hx hw HX HK HW HO hml
          go_upto_region 17 with (first
            | (go_at_call 14; refine (HI2.out _ HF7.out).mono ?_; rintro e w8 ⟨rfl, hf8⟩; have HF8 := Lib.hid ((HF.out.trans HF7.out).trans hf8); have HC8 := Lib.hid ((HC.out.fr HF7.out).fr hf8); clear hf8)
            | (go_at_call 14; refine HI1.out.mono ?_; rintro e w7 ⟨rfl, hf⟩; have HF7 := Lib.hid hf; clear hf))
          go_upto_region 18 with (first
            | (at_builtin; refine wpList_append_ints rfl (.tmp 141) (.tmp 144) rfl w8.heap.size _ _ (chn l n) rfl (HOA.out.alloc _) _ [(l.length : Int)] rfl (sl_lit wa [(l.length : Int)]) (by have := HML.out; have := HLC.out; show 0 + (chn l n).length + 1 ≤ _; omega) (by have := HFA.out.size; simp; omega) ?_; intro vb wb hownb hgrb; have HSB := Lib.hid (Sl.own hownb); have HFB := Lib.hid (Fr.growO (HFA.out.trans (Fr.alloc wa _)) hgrb (fun k hk => (HOA.out.lt k hk).1)); clear hownb hgrb)
            | (at_builtin; refine wpList_append_ints rfl (.tmp 139) (.tmp 140) rfl w8.heap.size _ 0 [] rfl (row0i w8) _ (chn l n) rfl (HC8.out.fr (Fr.alloc w8 _)) (by have := HML.out; have := HLC.out; omega) (by simp) ?_; intro va wa howna hgra; have HOA := Lib.hid howna; have HFA := Lib.hid (Fr.growO (Fr.alloc w8 _) hgra (fun k hk => Nat.le_of_eq (Option.some.inj hk))); clear howna hgra)
            | (go_at_call 17; refine (HWK.out _ _ HSB.out (HF8.out.trans HFB.out)).mono ?_; rintro e w9 ⟨xv, rfl, _, hf⟩; have HF9 := Lib.hid ((HF8.out.trans HFB.out).trans hf); have HF9B := Lib.hid hf; have HFB0 := Lib.hid HFB.out; clear hf))
          have hmz : ((m : Int) == 0) = false := by rw [beq_eq_false_iff_ne]; omega
          have hrem : Int.tmod (wh : Int) (m : Int) = ((wh % m : Nat) : Int) := by rw [Int.tmod_eq_emod_of_nonneg (by omega)]; rfl
          have hil := Nat.mod_lt wh hm
          generalize wh % m = i at *
          have HC9 := Lib.hid (HC8.out.fr (HFB0.out.trans HF9B.out))
          obtain ⟨g9, o9, rfl, _⟩ := HC9.out.at 0 (by have := HML.out; omega)
          have hcap := HC9.out.cap (by have := HML.out; omega)
          have hml2 := HML.out
          rw [hml2] at hcap
          have HTK := Lib.hid (HC9.out.take i (by omega))
          have HDR := Lib.hid (HC9.out.drop (i + 1) (by omega))
          rw [hml2] at HDR
          have HW2 := Lib.hid fun u w' (hu : Sl w' u ((chn l n).take i ++ (chn l n).drop (i + 1))) (hw : Fr w w') => (show Calls Try.prog 17 _ w' _ from by
            have h := walk_any (.slice av l.length ac) u l n ((chn l n).take i ++ (chn l n).drop (i + 1)) w' (HV.out.fr hw) HLB.out hu (by rw [List.length_append, List.length_take, List.length_drop]; omega)
            rw [WkP_ne (drop1 _ _ (by omega))] at h
            exact h)
          have hic : i ≤ cc := by omega
          have him : i + 1 ≤ m := by omega
          have hb1 : Hid (0 + ((chn l n).take i).length ≤ 100000000) := Lib.hid (by rw [List.length_take]; omega)
          have hb2 : Hid (0 + ((chn l n).take i).length + ((chn l n).drop (i + 1)).length ≤ 100000000) := Lib.hid (by rw [List.length_take, List.length_drop]; omega)
          clear HWK HC8 HC9
          have hI1 : (i : Int) + 1 ≤ (m : Int) := by omega
          have hwr : IntKind.i64.wrap ((i : Int) + 1) = (i : Int) + 1 := IntWalk.i64_in _ (by omega)
          have hI0 : 0 ≤ (i : Int) + 1 := by omega
          have hIT : ((i : Int) + 1).toNat = i + 1 := by omega
          clear him
          by_cases hce : cc = i + 1
          · rw [if_pos hce] at HDR
            have hce' : (cc = i + 1) = True := eq_true hce
            clear hce
            go_upto_region 21 with fail
            go_region_held_law (fun _ => True) (trivial)
              (first
                | (refine step_append_ints (op := ⟨some 178, _, _, _, _, _⟩) (by rfl) (.tmp 173) (.tmp 177) (by rfl) w9.heap.size v1 _ _ (by rfl) HO1.out _ ((chn l n).drop (i + 1)) (by rfl) (HDR.out.fr HF1.out) hb2.out (by have := HF1.out.size; omega) ?_; intro v2 w11 hown2 hgr2; have HS2 := Lib.hid (Sl.own hown2); have HF2 := Lib.hid (Fr.growO HF1.out hgr2 (fun k hk => (HO1.out.lt k hk).1)); clear hown2 hgr2)
                | (refine step_append_ints (op := ⟨some 173, _, _, _, _, _⟩) (by rfl) (.tmp 169) (.tmp 172) (by rfl) w9.heap.size _ 0 [] (by rfl) (row0i w9.drew) _ ((chn l n).take i) (by rfl) (HTK.out.fr ((Fr.drew w9).trans (Fr.alloc _ _))) hb1.out (by simp) ?_; intro v1 w10 hown1 hgr1; have HO1 := Lib.hid hown1; have HF1 := Lib.hid (Fr.growO ((Fr.drew w9).trans (Fr.alloc _ _)) hgr1 (fun k hk => Nat.le_of_eq (Option.some.inj hk))); clear hown1 hgr1)
                | (go_at_call 17; refine (HW2.out _ _ HS2.out (HF9.out.trans HF2.out)).mono ?_; rintro e w12 ⟨yv, rfl, _, hf⟩; have HF12 := Lib.hid ((HF9.out.trans HF2.out).trans hf); clear hf))
            all_goals
              go_wp2_with fail
              go_ret
              exact ⟨rfl, HF12.out⟩
          · rw [if_neg hce] at HDR
            have hce' : (cc = i + 1) = False := eq_false hce
            clear hce
            go_upto_region 21 with fail
            go_region_held_law (fun _ => True) (trivial)
              (first
                | (refine step_append_ints (op := ⟨some 178, _, _, _, _, _⟩) (by rfl) (.tmp 173) (.tmp 177) (by rfl) w9.heap.size v1 _ _ (by rfl) HO1.out _ ((chn l n).drop (i + 1)) (by rfl) (HDR.out.fr HF1.out) hb2.out (by have := HF1.out.size; omega) ?_; intro v2 w11 hown2 hgr2; have HS2 := Lib.hid (Sl.own hown2); have HF2 := Lib.hid (Fr.growO HF1.out hgr2 (fun k hk => (HO1.out.lt k hk).1)); clear hown2 hgr2)
                | (refine step_append_ints (op := ⟨some 173, _, _, _, _, _⟩) (by rfl) (.tmp 169) (.tmp 172) (by rfl) w9.heap.size _ 0 [] (by rfl) (row0i w9.drew) _ ((chn l n).take i) (by rfl) (HTK.out.fr ((Fr.drew w9).trans (Fr.alloc _ _))) hb1.out (by simp) ?_; intro v1 w10 hown1 hgr1; have HO1 := Lib.hid hown1; have HF1 := Lib.hid (Fr.growO ((Fr.drew w9).trans (Fr.alloc _ _)) hgr1 (fun k hk => Nat.le_of_eq (Option.some.inj hk))); clear hown1 hgr1)
                | (go_at_call 17; refine (HW2.out _ _ HS2.out (HF9.out.trans HF2.out)).mono ?_; rintro e w12 ⟨yv, rfl, _, hf⟩; have HF12 := Lib.hid ((HF9.out.trans HF2.out).trans hf); clear hf))
            all_goals
              go_wp2_with fail
              go_ret
              exact ⟨rfl, HF12.out⟩
end Go.Proofs.Ytddeblcoglhdnaa
