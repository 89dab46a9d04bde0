/-
  NameTells: the law's walk, for every argument.
-/
import Derived.Test.YtfhbgfoebppbaaaNy
namespace Go.Proofs.Ytfhbgfoebppbaaa
open Go.RowKit Go.BigFrame

set_option maxRecDepth 100000 in
set_option maxHeartbeats 40000000 in
theorem tells_main (v hv : Value) (l : List Txt) (h : List Hd) (s : Txt) (now until_ : Int) (w : World) (hm : Mx w) (hS : Sl w v l) (hH : Hl w hv h) (hzh : ∀ k c, hv = .slice none k c → k = 0 ∧ c = 0) (hB : shB l = true) (hF : fwB h = true) (hs : s.length ≤ 60)
    (u1 : -9223372036854775808 ≤ until_) (u2 : until_ ≤ 9223372036854775807) :
    Calls Try.prog 3 #[v, hv, .string (S s), .int .i64 now, .int .i64 until_] w fun e w' => e = .returned (.bool true) ∧ Fr w w' := by
  have hsh := shB_sh hB
  have hfw := fwB_few hF
  have hl40 := hsh.len
  have hh40 := hfw.len
  have d1 : decide ((60 : Int) < (s.length : Int)) = false := decide_eq_false (by omega)
  have ls : s.length ≤ 1099511627776 := by omega
  have HM := Lib.hid hm
  have HSm := Lib.hid (small_any w hm)
  have HQ := Lib.hid (fun w1 (hf : Fr w w1) => short_any v l w1 (hS.fr hf) (by unfold maxLen; omega))
  have HW := Lib.hid (fun w1 (hf : Fr w w1) => few_any hv h w1 (hH.fr hf) (by unfold maxLen; omega))
  have hG := fun w1 (hf : Fr w w1) => guard_any v l s w1 (hS.fr hf) hsh.ok ls
  have hG2 := fun w1 (hf : Fr w w1) => rguard_any v l s w1 (hS.fr hf) hsh.ok ls
  have hD := fun w1 (hf : Fr w w1) => drop_any hv h s until_ w1 (hH.fr hf) hfw.ok (hm.fr hf) ls u1 u2
  have hD2 := fun w1 (hf : Fr w w1) => rdrop_any hv h s until_ w1 (hH.fr hf) hfw.ok hzh ls u1 u2
  have hR := fun w1 (hf : Fr w w1) => right_any s w1 (hm.fr hf) ls
  have hR2 := fun w1 => rright_any s w1 ls
  have hK := fun w1 => skel_any s w1 ls
  have hK2 := fun w1 => rskel_any s w1 ls
  have hE := fun w1 (hf : Fr w w1) => held_any hv h s now w1 (hH.fr hf) hfw.ok ls
  have hE2 := fun w1 (hf : Fr w w1) => rheld_any hv h s now w1 (hH.fr hf) hfw.ok ls
  have hFr := fun w1 (hf : Fr w w1) => free_any v hv l h s now w1 (hS.fr hf) hsh.ok (hH.fr hf) hfw.ok (hm.fr hf) ls
  have hFr2 := fun w1 (hf : Fr w w1) => rfree_any v hv l h s now w1 (hS.fr hf) hsh.ok (hH.fr hf) hfw.ok ls
  have HLl := Lib.hid hS
  have HOK := Lib.hid hsh.ok
  have hdl : (drp h s until_).length ≤ 1000000 := by
    unfold drp
    split
    · have := (upd_len h s until_).2; omega
    · simp
  rw [hB] at HQ
  rw [hF] at HW
  unfold gdV at hG hG2
  unfold DropP at hD hD2
  obtain ⟨va, vc, hvv⟩ := hS.len
  obtain ⟨ha, hc, hhv⟩ := hH.len
  clear hm hS hH hzh hB hF hsh hfw
  subst hvv hhv
  generalize (gd l s).getD [] = g1 at *
  generalize (gd l s).isSome = g2 at *
  generalize drE s until_ = D at *
  generalize drp h s until_ = L at *
  generalize okN s = ok at *
  generalize sk s = k at *
  generalize hld h s now = hb at *
  generalize fre l h s now = E at *
  have HG := Lib.hid hG
  have HG2 := Lib.hid hG2
  have HD := Lib.hid hD
  have HD2 := Lib.hid hD2
  have HR := Lib.hid hR
  have HR2 := Lib.hid hR2
  have HK := Lib.hid hK
  have HK2 := Lib.hid hK2
  have HE := Lib.hid hE
  have HE2 := Lib.hid hE2
  have HFr := Lib.hid hFr
  have HFr2 := Lib.hid hFr2
  clear hG hG2 hD hD2 hR hR2 hK hK2 hE hE2 hFr hFr2
  go_enter Try.func3, Try.ntmps3
  go_upto_region 4 with (first
    | (go_at_call 8; refine HSm.out.mono ?_; rintro e w1 ⟨rfl, hf1⟩; have HF := Lib.hid hf1; clear hf1)
    | (go_at_call 9; refine (HQ.out _ HF.out).mono ?_; rintro e w2 ⟨rfl, rfl⟩)
    | (go_at_call 10; refine (HW.out _ HF.out).mono ?_; rintro e w3 ⟨rfl, rfl⟩))
  go_upto_region 8 with (first
    | (go_at_call 11; refine (HG.out _ HF.out).mono ?_; rintro e w4 ⟨rfl, hf4⟩; have HF := Lib.hid (HF.out.trans hf4); clear hf4)
    | (go_at_call 12; refine (HG2.out _ HF.out).mono ?_; rintro e w5 ⟨rfl, rfl⟩)
    | (go_at_call 13; refine (HD.out _ HF.out).mono ?_; rintro e w6 ⟨v6, rfl, hl6, hf6⟩; have HL6 := Lib.hid hl6; have HF := Lib.hid (HF.out.trans hf6); clear hf6 hl6)
    | (go_at_call 14; refine (HD2.out _ HF.out).mono ?_; rintro e w7 ⟨v7, rfl, hl7, hf7⟩; have HL7 := Lib.hid hl7; have HL6 := Lib.hid (HL6.out.fr hf7); have HF := Lib.hid (HF.out.trans hf7); clear hf7 hl7))
  go_upto_region 10 with (first
    | (go_at_call 15; refine (rsame_any _ _ L _ HL6.out HL7.out hdl).mono ?_; rintro e w8 ⟨rfl, hf8⟩; have HF := Lib.hid (HF.out.trans hf8); clear hf8)
    | (go_at_call 16; refine (HR.out _ HF.out).mono ?_; rintro e w9 ⟨rfl, rfl⟩)
    | (go_at_call 17; refine (HR2.out _).mono ?_; rintro e w10 ⟨rfl, rfl⟩)
    | (go_at_call 18; refine (HK.out _).mono ?_; rintro e w11 ⟨rfl, hf11⟩; have HF := Lib.hid (HF.out.trans hf11); clear hf11)
    | (go_at_call 19; refine (HK2.out _).mono ?_; rintro e w12 ⟨rfl, rfl⟩))
  clear HL6 HL7
  go_wp2_with fail
  go_loopw [20] (fun n wr => ∃ q : Nat, q ≤ l.length ∧ n = .int .i64 q ∧ Hid (Fr w wr)) (fun n _ => l.length - (intOf n).toNat)
  case atStart => exact ⟨0, Nat.zero_le _, rfl, HF⟩
  case round =>
    obtain ⟨q, hq, rfl, hF3⟩ := hrel
    by_cases hlt : q < l.length
    · rcases HLl.out.cases with ⟨h0, _⟩ | ⟨b3, o3, c3, hv3, hA3⟩
      · rw [h0] at hlt; simp at hlt
      · cases hv3
        have cq := hF3.out.cell (hA3 q hlt)
        have ly := HOK.out.mem _ (List.getElem_mem hlt)
        have HC := Lib.hid (fun w => conf_any l[q] s w ly ls)
        have HC2 := Lib.hid (fun w => rconf_any l[q] s w ly ls)
        clear hA3
        generalize cf l[q] s = y at *
        generalize l[q] = z at *
        go_upto_region 13 with fail
        refine wp_region_cls (D := Fr wr) (by kernel_rfl) (by kernel_rfl) (Fr.drew wr) ?_
        repeat (go_big_quiet_step (first
          | (intro hw'; with_reducible rfl)
          | (intro hw'; go_at_call 20; exact (HC.out _).mono fun e w'' ⟨he, hf⟩ => ⟨he, Fr.trans hw' hf⟩)
          | (intro hw'; go_at_call 21; exact (HC2.out _).mono fun e w'' ⟨he, hf⟩ => ⟨he, hf ▸ hw'⟩)
          | (intro hw'; have g1 := Fr.cell hw' cq; simp only [g1]; exact ⟨rfl, rfl⟩)))
        refine wpQuiet_nil ?_
        intro wh hwh
        go_wp2_with fail
        go_roundw
        case rel => exact ⟨q + 1, by omega, by go_num, Lib.hid (hF3.out.trans hwh)⟩
        case measure => simp [intOf]; omega
    · obtain rfl : q = l.length := by omega
      go_wp2_with (first
        | (go_at_call 22; refine (HE.out _ hF3.out).mono ?_; rintro e w13 ⟨rfl, hf13⟩; have HFX := Lib.hid (hF3.out.trans hf13); clear hf13)
        | (go_at_call 23; refine (HE2.out _ HFX.out).mono ?_; rintro e w14 ⟨rfl, rfl⟩)
        | (go_at_call 24; refine (HFr.out _ HFX.out).mono ?_; rintro e w15 ⟨rfl, hf15⟩; have HFX := Lib.hid (HFX.out.trans hf15); clear hf15)
        | (go_at_call 25; refine (HFr2.out _ HFX.out).mono ?_; rintro e w16 ⟨rfl, rfl⟩))
      go_ret
      exact ⟨rfl, HFX.out⟩
set_option maxRecDepth 100000 in
set_option maxHeartbeats 4000000 in
theorem tells_out (v hv : Value) (l : List Txt) (h : List Hd) (s : Txt) (now until_ : Int) (w : World) (hm : Mx w) (hS : Sl w v l) (hH : Hl w hv h) (n1 : l.length ≤ maxLen) (n2 : h.length ≤ maxLen)
    (hq : shB l = false ∨ (shB l = true ∧ (fwB h = false ∨ (fwB h = true ∧ 60 < s.length)))) :
    Calls Try.prog 3 #[v, hv, .string (S s), .int .i64 now, .int .i64 until_] w fun e w' => e = .returned (.bool true) ∧ Fr w w' := by
  have HS := Lib.hid (small_any w hm)
  have HQ := Lib.hid (fun w1 (hf : Fr w w1) => short_any v l w1 (hS.fr hf) n1)
  have HW := Lib.hid (fun w1 (hf : Fr w w1) => few_any hv h w1 (hH.fr hf) n2)
  obtain ⟨va, vc, hvv⟩ := hS.len
  obtain ⟨ha, hc, hhv⟩ := hH.len
  clear hm hS hH n1 n2
  subst hvv hhv
  rcases hq with hB | ⟨hB, hF | ⟨hF, hq⟩⟩
  · rw [hB] at HQ
    clear hB
    go_enter Try.func3, Try.ntmps3
    go_wp2_with (first | (go_at_call 8; refine HS.out.mono ?_; rintro e w1 ⟨rfl, hf1⟩; have HF := Lib.hid hf1; clear hf1) | (go_at_call 9; refine (HQ.out _ HF.out).mono ?_; rintro e w2 ⟨rfl, rfl⟩) | (go_at_call 10; refine (HW.out _ HF.out).mono ?_; rintro e w3 ⟨rfl, rfl⟩))
    go_ret
    exact ⟨rfl, HF.out⟩
  · rw [hB] at HQ
    rw [hF] at HW
    clear hB hF
    go_enter Try.func3, Try.ntmps3
    go_wp2_with (first | (go_at_call 8; refine HS.out.mono ?_; rintro e w1 ⟨rfl, hf1⟩; have HF := Lib.hid hf1; clear hf1) | (go_at_call 9; refine (HQ.out _ HF.out).mono ?_; rintro e w2 ⟨rfl, rfl⟩) | (go_at_call 10; refine (HW.out _ HF.out).mono ?_; rintro e w3 ⟨rfl, rfl⟩))
    go_ret
    exact ⟨rfl, HF.out⟩
  · rw [hB] at HQ
    rw [hF] at HW
    have d1 : decide ((60 : Int) < (s.length : Int)) = true := decide_eq_true (by omega)
    clear hB hF hq
    go_enter Try.func3, Try.ntmps3
    go_wp2_with (first | (go_at_call 8; refine HS.out.mono ?_; rintro e w1 ⟨rfl, hf1⟩; have HF := Lib.hid hf1; clear hf1) | (go_at_call 9; refine (HQ.out _ HF.out).mono ?_; rintro e w2 ⟨rfl, rfl⟩) | (go_at_call 10; refine (HW.out _ HF.out).mono ?_; rintro e w3 ⟨rfl, rfl⟩))
    go_ret
    exact ⟨rfl, HF.out⟩
theorem tells_any (v hv : Value) (l : List Txt) (h : List Hd) (s : Txt) (now until_ : Int) (w : World) (hm : Mx w) (hS : Sl w v l) (n1 : l.length ≤ maxLen) (hH : Hl w hv h) (n2 : h.length ≤ maxLen) (hzh : ∀ k c, hv = .slice none k c → k = 0 ∧ c = 0)
    (u1 : -9223372036854775808 ≤ until_) (u2 : until_ ≤ 9223372036854775807) :
    Calls Try.prog 3 #[v, hv, .string (S s), .int .i64 now, .int .i64 until_] w fun e w' => e = .returned (.bool true) ∧ Fr w w' := by
  by_cases hB : shB l = true
  · by_cases hF : fwB h = true
    · by_cases hs : s.length ≤ 60
      · exact tells_main v hv l h s now until_ w hm hS hH hzh hB hF hs u1 u2
      · exact tells_out v hv l h s now until_ w hm hS hH n1 n2 (.inr ⟨hB, .inr ⟨hF, by omega⟩⟩)
    · exact tells_out v hv l h s now until_ w hm hS hH n1 n2 (.inr ⟨hB, .inl (by simpa using hF)⟩)
  · exact tells_out v hv l h s now until_ w hm hS hH n1 n2 (.inl (by simpa using hB))
end Go.Proofs.Ytfhbgfoebppbaaa
