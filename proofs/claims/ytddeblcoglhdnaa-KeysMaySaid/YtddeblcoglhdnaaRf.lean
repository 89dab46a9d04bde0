/-
  The reference's Admit.
-/
import Derived.Test.YtddeblcoglhdnaaRe
namespace Go.Proofs.Ytddeblcoglhdnaa
open Go.RowKit Mb Go.BigFrame

/-- In a region whose order is open, a whole fact is loaded. -/
theorem wpStill_load_fact {ops : Array Oper} {rest : List Oper} {op : Oper} {a : Act} {w : World} {Q : Act → Prop} (hgd : op.guard = none) (x : Operand) (ho : op.op = .load 39 x)
    (b o : Nat) (f : Ft) (hx : a.eval x = .pointer (some ⟨b, o, none⟩)) (hat : FtAt w b o f)
    (h : wpStill Try.prog ops w Q rest (a.put op.dst f.v)) : wpStill Try.prog ops w Q (op :: rest) a := by
  refine wpStill_step fun K hK => ?_
  have hw : Region.wanted op (yielded ops a.tmps) = true := by simp [Region.wanted, hgd]
  rw [if_pos hw]
  have hr := load_fact hat
  unfold Oper.still execOp
  simp only [ho, hx, Instr.loadAt, Instr.sureAddr, Sem.run_bind, Sem.run_pure, Result.andThen_ok, hr]
  exact ⟨rfl, hK _ h⟩
theorem rmayF_any (v r u : Value) (l : List Ft) (reg : List Int) (f : Ft) (q : List Int) (w : World) (h : FSl w v l) (hl : LB l) (hr : Sl w r reg) (hro : Ok reg) (hf : FtOk w f) (hb : FB f) (hu : Sl w u q) (hq : Ok q) :
    Calls Try.prog 22 #[v, r, f.v, u] w fun e w' => e = .returned (.int .i64 (may l reg f q)) ∧ Fr w w' := by
  cases hE : rgt f with
  | false => exact rmay_err v r u l reg f q w hf hb hE
  | true => exact rmay_ok v r u l reg f q w h hl hr hro hf hb hu hq hE
set_option maxRecDepth 100000 in
set_option maxHeartbeats 4000000 in
theorem radmit_any (v r s : Value) (l : List Ft) (reg : List Int) (sg : List (List Int)) (w : World) (h : FSl w v l) (hl : LB l) (hr : Sl w r reg) (hro : Ok reg) (hs : SsSl w s sg) (hsg : SsB sg) :
    Calls Try.prog 16 #[v, r, s] w fun e w' => e = .returned (.tuple #[.int .i64 ((ad l reg sg).1 : Nat), .int .i64 (ad l reg sg).2]) ∧ Fr w w' := by
  have HL := Lib.hid hl
  have HG := Lib.hid hsg
  have hn := hl.len
  have hm := hsg.len
  obtain ⟨av, ac, rfl⟩ := h.len
  have HV := Lib.hid h
  obtain ⟨sv, sc, rfl⟩ := hs.len
  have HSG := Lib.hid hs
  have HRo := Lib.hid hro
  have HRr := Lib.hid hr
  clear h hl hr hro hs hsg
  go_enter Try.func16, Try.ntmps16
  go_wp2_with fail
  go_loopw [8] (fun vi wr => ∃ k : Nat, k ≤ l.length ∧ vi = .int .i64 k ∧ Hid (ad l reg sg = adR l reg sg k (l.length - k)) ∧ Hid (Fr w wr)) (fun vi _ => l.length - (intOf vi).toNat)
  case atStart => exact ⟨0, Nat.zero_le _, rfl, Lib.hid rfl, Lib.hid (Fr.refl _)⟩
  case round =>
    obtain ⟨k, hk, rfl, hE, hF⟩ := hrel
    by_cases hlt : k < l.length
    · have hcp := HV.out.cap (by omega)
      have hka : k ≤ ac := by omega
      have HTK := Lib.hid ((HV.out.take k hk).fr hF.out)
      obtain ⟨g, o, rfl, hat0⟩ := HV.out.at k hlt
      have hat := hat0.fr hF.out
      have hE2 := hE.out
      rw [adR_succ hlt] at hE2
      have HMY := Lib.hid fun qv (hq : Sl wr qv (sg.getD k [])) w' (hw : Fr wr w') => rmayF_any (.slice (some ⟨g, o, none⟩) k ac) r qv (l.take k) reg l[k] (sg.getD k []) w' (HTK.out.fr hw) (HL.out.take k) (HRr.out.fr (hF.out.trans hw)) HRo.out (hat.fr hw).ok (HL.out.get hlt) (hq.fr hw) (HG.out.getD k)
      have HAT := Lib.hid (hat.fr (Fr.drew wr))
      clear hat hat0 HTK
      by_cases hls : k < sg.length
      · obtain ⟨g2, o2, kv, rfl, ck', hkv⟩ := HSG.out.at k hls
        have ck := hF.out.cell ck'
        have HQ := Lib.hid (show Sl wr kv (sg.getD k []) by
          have : sg.getD k [] = sg[k] := by simp [List.getD, hls]
          rw [this]; exact hkv.fr hF.out)
        clear ck' hkv
        generalize sg.getD k [] = q at *
        go_upto_region 7 with fail
        go_cut [10] (fun s wx => s = .int .i64 (may (l.take k) reg l[k] q) ∧ Hid (Fr wr wx))
        case first =>
          refine wp_region_still_tail 9 (by kernel_rfl) (by kernel_rfl) ?_
          simp only [List.take_succ_cons, List.take_zero, List.drop_succ_cons, List.drop_zero]
          iterate 7 still_step
          refine wpStill_load_fact rfl (.tmp 31) rfl g (o + k * 29) l[k] (by rfl) HAT.out ?_
          still_step
          refine wpStill_nil ?_
          go_wp2_with (go_at_call 22; refine (HMY.out _ HQ.out _ (Fr.drew _)).mono ?_; rintro e w2 ⟨rfl, hf2⟩; have HF2 := Lib.hid ((Fr.drew _).trans hf2); clear hf2)
          go_meet
          exact ⟨rfl, HF2⟩
        case rest =>
          obtain ⟨rfl, HF2⟩ := hcut
          clear HMY HAT
          by_cases h0 : may (l.take k) reg l[k] q = 0
          · rw [if_pos h0] at hE2
            rw [h0]
            have HR := Lib.hid hE2
            clear hE2 hE h0
            go_wp2_with fail
            go_roundw
            case rel => exact ⟨k + 1, by omega, by go_num, HR, Lib.hid (hF.out.trans HF2.out)⟩
            case measure => simp [intOf]; omega
          · rw [if_neg h0] at hE2
            have h1 : (may (l.take k) reg l[k] q != 0) = true := by simpa using h0
            have HR := Lib.hid hE2
            clear hE2 hE h0
            generalize may (l.take k) reg l[k] q = er at *
            go_wp2_with fail
            go_ret2
            rw [HR.out]
            exact ⟨rfl, hF.out.trans HF2.out⟩
      · have HQ := Lib.hid (show Sl wr (.slice none 0 0) (sg.getD k []) by
          have : sg.getD k [] = [] := by simp [List.getD, Nat.le_of_not_lt hls]
          rw [this]; exact Sl.nil _ _ _)
        generalize sg.getD k [] = q at *
        go_upto_region 7 with fail
        go_cut [10] (fun s wx => s = .int .i64 (may (l.take k) reg l[k] q) ∧ Hid (Fr wr wx))
        case first =>
          refine wp_region_still_tail 9 (by kernel_rfl) (by kernel_rfl) ?_
          simp only [List.take_succ_cons, List.take_zero, List.drop_succ_cons, List.drop_zero]
          iterate 7 still_step
          refine wpStill_load_fact rfl (.tmp 31) rfl g (o + k * 29) l[k] (by rfl) HAT.out ?_
          still_step
          refine wpStill_nil ?_
          go_wp2_with (go_at_call 22; refine (HMY.out _ HQ.out _ (Fr.drew _)).mono ?_; rintro e w2 ⟨rfl, hf2⟩; have HF2 := Lib.hid ((Fr.drew _).trans hf2); clear hf2)
          go_meet
          exact ⟨rfl, HF2⟩
        case rest =>
          obtain ⟨rfl, HF2⟩ := hcut
          clear HMY HAT
          by_cases h0 : may (l.take k) reg l[k] q = 0
          · rw [if_pos h0] at hE2
            rw [h0]
            have HR := Lib.hid hE2
            clear hE2 hE h0
            go_wp2_with fail
            go_roundw
            case rel => exact ⟨k + 1, by omega, by go_num, HR, Lib.hid (hF.out.trans HF2.out)⟩
            case measure => simp [intOf]; omega
          · rw [if_neg h0] at hE2
            have h1 : (may (l.take k) reg l[k] q != 0) = true := by simpa using h0
            have HR := Lib.hid hE2
            clear hE2 hE h0
            generalize may (l.take k) reg l[k] q = er at *
            go_wp2_with fail
            go_ret2
            rw [HR.out]
            exact ⟨rfl, hF.out.trans HF2.out⟩
    · have hkl : k = l.length := by omega
      have HR := Lib.hid (show ad l reg sg = (l.length, 0) by rw [hE.out, hkl]; exact adR_end)
      clear hE
      go_wp2_with fail
      go_ret2
      rw [HR.out]
      exact ⟨rfl, hF.out⟩
end Go.Proofs.Ytddeblcoglhdnaa
