/-
  The law JournalTorn, walked.
-/
import Derived.Test.YtgncliigmjeffaaDoorJTm
namespace Go.Proofs.YtgncliigmjeffaaDoor
open Go.RowKit

theorem infoI : (Tryd.prog.info? 3).map (fun i => (i.zero, i.size, i.bytes)) = some (some (.int .i64 0), 1, 8) := by kernel_rfl
set_option maxHeartbeats 1000000 in
set_option maxRecDepth 100000 in
theorem torn_not (v0 v2 : Value) (l : List Tx) (ks : List Int) (n : Int) (w : World) (ht : Tab w) (h0 : IsSl w v0 (l.map fun z => .string (S z))) (hk : Ints w v2 ks) (hl : l.length ≤ 9223372036854775807) (hkl : ks.length ≤ 9223372036854775807) (hf : ¬ (textsB l = true ∧ ks.length ≤ 50)) :
    Calls Tryd.prog 7 #[v0, .int .i64 n, v2] w fun e w' => e = .returned (.bool true) ∧ Fr w w' := by
  have H0 := Lib.hid h0
  clear h0
  obtain ⟨ka, kc, hv2⟩ : ∃ a c, v2 = .slice a ks.length c := by
    rcases hk with ⟨rfl, a, c, rfl⟩ | ⟨b, o, c, rfl, _⟩
    · exact ⟨a, c, rfl⟩
    · exact ⟨_, _, rfl⟩
  subst hv2
  by_cases hT : textsB l = true
  · have h50 : ¬ ks.length ≤ 50 := fun h => hf ⟨hT, h⟩
    have h50' : (50 : Int) < ks.length := by omega
    clear hf hk
    go_enter Tryd.func7, Tryd.ntmps7
    go_wp2_with (first
      | (go_at_call 36; refine (texts_any _ l _ (H0.out.fr hf1) hl).mono ?_; rw [hT]; rintro e w2 ⟨rfl, hf2⟩)
      | (go_at_call 8; refine (jsmall_any _ ht).mono ?_; rintro e w1 ⟨rfl, hf1⟩))
    go_ret
    exact ⟨rfl, hf1.trans hf2⟩
  · have hT : textsB l = false := by simpa using hT
    clear hf hk
    go_enter Tryd.func7, Tryd.ntmps7
    go_wp2_with (first
      | (go_at_call 36; refine (texts_any _ l _ (H0.out.fr hf1) hl).mono ?_; rw [hT]; rintro e w2 ⟨rfl, hf2⟩)
      | (go_at_call 8; refine (jsmall_any _ ht).mono ?_; rintro e w1 ⟨rfl, hf1⟩))
    go_ret
    exact ⟨rfl, hf1.trans hf2⟩

set_option maxHeartbeats 4000000 in
set_option maxRecDepth 100000 in
theorem torn_yes (ad : Option Addr) (c : Nat) (l : List Tx) (ka : Option Addr) (kc : Nat) (ks : List Int) (n : Int) (w : World) (ht : Tab w) (h0 : IsSl w (.slice ad l.length c) (l.map fun z => .string (S z))) (hk : Ints w (.slice ka ks.length kc) ks) (hT : textsB l = true) (h50 : ks.length ≤ 50)
    (hb : -9223372036854775808 ≤ n ∧ n ≤ 9223372036854775807) (hcap : l.length ≤ c) :
    Calls Tryd.prog 7 #[.slice ad l.length c, .int .i64 n, .slice ka ks.length kc] w fun e w' => e = .returned (.bool true) ∧ Fr w w' := by
  obtain ⟨i0, hi, hz0, hz1, hz2⟩ := info_parts infoI
  have HIN := Lib.hid hi
  have H0 := Lib.hid h0
  have HK := Lib.hid hk
  have HT := Lib.hid ht
  have HTB := Lib.hid hT
  have hl8 := (textsB_true hT).1
  have HL200 := Lib.hid (textsB_true hT).2
  have HEMP := Lib.hid (Jm.Recs.all (rs := []) (by intro r hr; simp at hr))
  clear h0 hk ht hT hi
  go_enter Tryd.func7, Tryd.ntmps7
  go_upto_region 8 with (first
    | (go_at_call 12; refine (Has.open' (f := 0) H3.out (by decide)).mono ?_; rintro e w4 ⟨J, rs, rest, hrs, rfl, h4⟩; obtain ⟨rfl, _⟩ := Jm.Recs.unique hrs HEMP.out; have H4 := Lib.hid h4; clear h4 hrs)
    | (go_at_call 10; refine (Has.disk ((Has.here w).fr (hf1.trans hf2))).mono ?_; rintro e w3 ⟨B, rfl, h3⟩; have H3 := Lib.hid h3; clear h3)
    | (go_at_call 36; refine (texts_any _ l _ (H0.out.fr hf1) (by omega)).mono ?_; rw [HTB.out]; rintro e w2 ⟨rfl, hf2⟩)
    | (go_at_call 8; refine (jsmall_any _ HT.out).mono ?_; rintro e w1 ⟨rfl, hf1⟩))
  have H5 := Lib.hid ((H4.out.nilRow 3 1).turn)
  clear H4 H3 hf1 hf2
  go_wp2_with fail
  go_loopw [11, 12] (fun ev i wr => ∃ (k : Nat) (a0 : Option Addr) (c0 : Nat), k ≤ l.length ∧ i = .int .i64 k ∧ ev = .slice a0 k c0 ∧ Hid (Has w wr ((JT B J (FF (Jm.forms (l.take k))) 0 (l.take k)).sep ((RowT 3 1 (.slice a0 k c0) k (endsC l k)).sep .emp)))) (fun _ i _ => l.length - (intOf i).toNat)
  case atStart => exact ⟨0, none, 0, Nat.zero_le _, rfl, rfl, H5⟩
  case round =>
    obtain ⟨k, a0, c0, hk, rfl, rfl, hR⟩ := hrel
    clear H5
    by_cases hlt : k < l.length
    ·
      -- slow
      rcases sl_get H0.out with ⟨hb0, _⟩ | ⟨Bl, o, c', hv, hc⟩
      · rw [hb0] at hlt; simp at hlt
      obtain ⟨rfl, rfl⟩ : ad = some ⟨Bl, o, none⟩ ∧ c = c' := by simpa using hv
      have c1 := hR.out.toFr.cell (hc k hlt)
      have HTK := Lib.hid (List.take_succ_eq_append_getElem hlt)
      have HR2 : Hid (l[k].length ≤ 20000) := Lib.hid (by have := HL200.out _ (List.getElem_mem hlt); omega)
      have HR3 : Hid ((Jm.forms (l.take k)).length + (Jm.formE.f l[k]).length ≤ 1048576) := Lib.hid (by
        have h1 := Jm.forms_le (rs := l.take k) (fun r hr => HL200.out r (List.mem_of_mem_take hr))
        have h2 := Jm.form_len l[k] (by have := HL200.out _ (List.getElem_mem hlt); omega)
        have h3 := HL200.out _ (List.getElem_mem hlt)
        rw [List.length_take] at h1
        omega)
      clear hc hv
      generalize l[k] = r at *
      go_upto_region 16 with (go_at_call 16; refine (Has.append hR.out (by decide) rfl r HR2.out HR3.out HT.out).mono ?_; rw [FF_put, ← HTK.out]; rintro e w5 ⟨rfl, h5⟩; have H5 := Lib.hid h5; clear h5)
      go_wp2_with (first
        | (go_at_call 31; refine (Has.jsize (g := 0) H5.out (by decide)).mono ?_; rw [show (FF (Jm.forms (l.take (k + 1))) 0).length = endAt l k from rfl]; rintro e w6 ⟨rfl, rfl⟩)
        | (at_builtin; refine wpList_app rfl _ _ 36 rfl 3 i0 (.int .i64 0) 1 8 Tryd.underlying36 HIN.out hz0 hz1 hz2 rfl (by decide) rfl H5.out.turn 1 1 [.int .i64 (endAt l k : Nat)] rfl rfl (by simp [Value.oneCell']) (by decide) (by omega) (by decide) ?_; intro a1g cc1 w7 h7; have H7 := Lib.hid h7; clear h7))
      go_roundw
      case rel => exact ⟨k + 1, _, _, by omega, by go_num, rfl, Lib.hid (by rw [endsC_succ]; exact H7.out.turn)⟩
      case measure => simp [intOf]; omega
      -- /slow
    · obtain rfl : k = l.length := by omega
      rw [List.take_length] at hR
      obtain ⟨L, hL⟩ : ∃ L, L = Jm.forms l := ⟨_, rfl⟩
      have hLl := Jm.forms_le HL200.out
      rw [← hL] at hR hLl
      have HLL := Lib.hid hL
      have HM : Hid (∀ W, (convert 9 65 (.string (S L))).run Tryd.prog W = .ok (.slice (some ⟨W.heap.size, 0, none⟩) (S L).size (grownCap W (S L).size 0 5)) (Lib.bytesWorld W 5 (S L))) := Lib.hid fun W => Lib.run_convert_string_bytes W 9 65 5 (S L) Tryd.underlying9 Tryd.underlying65 Tryd.underlying5
      clear hL hlt hk
      go_upto_region 18 with (first
        | (go_at_call 30; refine (Has.jread (g := 0) (n := L.length) hR.out (by decide) (by omega)).mono ?_; rw [show (FF L 0).take L.length = L from List.take_length]; rintro e w8 ⟨rfl, hf8⟩; have H8 := Lib.hid (hR.out.fr hf8); clear hf8)
        | (go_at_call 31; refine (Has.jsize (g := 0) hR.out (by decide)).mono ?_; rw [show (FF L 0).length = L.length from rfl]; rintro e w6 ⟨rfl, rfl⟩))
      clear hR
      have hcv := HM.out w8
      go_upto_region 19 with fail
      have H9 := Lib.hid (H8.out.bytes L)
      have hbc := grownCap_ge w8 L.length 0 5
      generalize grownCap w8 L.length 0 5 = bc at *
      obtain ⟨Bb, hBb⟩ : ∃ Bb, Bb = w8.heap.size := ⟨_, rfl⟩
      rw [← hBb] at H9 ⊢
      clear hcv HM H8 hBb
      generalize Lib.bytesWorld w8 5 (S L) = w9 at *
      obtain ⟨U, hU⟩ : ∃ U : Thing, U = (JT B J (FF L) 0 l).sep ((RowT 3 1 (.slice a0 l.length c0) l.length (endsC l l.length)).sep .emp) := ⟨_, rfl⟩
      rw [← hU] at H9
      have HU := Lib.hid hU
      clear hU
      go_wp2_with fail
      go_loopw [16] (fun i wr => ∃ k : Nat, k ≤ L.length ∧ i = .int .i64 k ∧ Hid (∃ Z, Zl L Z ∧ Has w wr ((BytesT Bb Z).sep U))) (fun i _ => L.length - (intOf i).toNat)
      case atStart => exact ⟨0, Nat.zero_le _, rfl, Lib.hid ⟨L, Zl.refl L, H9.out⟩⟩
      case round =>
        obtain ⟨k, hk, rfl, hR⟩ := hrel
        clear H9
        obtain ⟨bg, hbg⟩ : ∃ bg, bg = decide (k < L.length ∧ 0 < ks.length) := ⟨_, rfl⟩
        have HBG := Lib.hid hbg
        clear hbg
        go_upto_region 20 with fail
        go_cut [76] (fun s wx => s = .bool bg ∧ wx = wr)
        case first =>
          by_cases h1 : k < L.length
          · by_cases h2 : 0 < ks.length
            · have hbt : bg = true := by rw [HBG.out]; simp [h1, h2]
              subst hbt
              have h2' : (0 : Int) < (ks.length : Int) := by omega
              go_wp2_with fail
              go_meet
              exact ⟨rfl, rfl⟩
            · have hbt : bg = false := by rw [HBG.out]; simp [h2]
              subst hbt
              have h2' : ¬ (0 : Int) < (ks.length : Int) := by omega
              go_wp2_with fail
              go_meet
              exact ⟨rfl, rfl⟩
          · have hbt : bg = false := by rw [HBG.out]; simp [h1]
            subst hbt
            go_wp2_with fail
            go_meet
            exact ⟨rfl, rfl⟩
        case rest =>
        obtain ⟨rfl, rfl⟩ := hcut
        cases bg with
        | true =>
          -- slow
          obtain ⟨hlt, hks⟩ := of_decide_eq_true HBG.out.symm
          obtain ⟨Z, hZ, hW⟩ := hR.out
          have hmod : k / 64 % ks.length < ks.length := Nat.mod_lt _ hks
          obtain ⟨bk, ok, hka, hcx⟩ := (HK.out.fr hW.toFr).cell (k / 64 % ks.length) hmod
          subst hka
          obtain ⟨x, hx⟩ : ∃ x, x = ks[k / 64 % ks.length] := ⟨_, rfl⟩
          rw [← hx] at hcx
          have hby := hW.byte k (by rw [hZ.1]; exact hlt)
          obtain ⟨bz, b0⟩ : ∃ bz : Int, wc.cell? ⟨Bb, k, none⟩ = some (Value.int .u8 bz) := ⟨_, hby.1⟩
          have b1 := hby.2
          have hkz : k < Z.length := by rw [hZ.1]; exact hlt
          have HKZ := Lib.hid hkz
          have HZ := Lib.hid hZ
          have HW := Lib.hid hW
          have hmi : (k : Int) / 64 % (ks.length : Int) < (ks.length : Int) := Int.emod_lt_of_pos _ (by omega)
          have hmi0 : 0 ≤ (k : Int) / 64 % (ks.length : Int) := Int.emod_nonneg _ (by omega)
          have hks0 : (0 : Int) < (ks.length : Int) := by omega
          clear hx hZ hW hby hkz
          go_wp2_with fail
          all_goals go_roundw
          case rel => first
            | exact ⟨k + 1, by omega, by go_num, Lib.hid ⟨_, HZ.out.set k, HW.out.zero k HKZ.out⟩⟩
            | exact ⟨k + 1, by omega, by go_num, Lib.hid ⟨Z, HZ.out, HW.out⟩⟩
          case rel => first
            | exact ⟨k + 1, by omega, by go_num, Lib.hid ⟨_, HZ.out.set k, HW.out.zero k HKZ.out⟩⟩
            | exact ⟨k + 1, by omega, by go_num, Lib.hid ⟨Z, HZ.out, HW.out⟩⟩
          case measure => simp [intOf]; omega
          case measure => simp [intOf]; omega
          -- /slow
        | false =>
          obtain ⟨Z, hZ, hW⟩ := hR.out
          have HZ := Lib.hid hZ
          have HW := Lib.hid hW
          have hZl := hZ.1
          clear hR hZ hW HBG hk
          go_upto_region 24 with fail
          obtain ⟨m, hm⟩ : ∃ m, m = min n.toNat L.length := ⟨_, rfl⟩
          have HMM := Lib.hid hm
          go_cut [17] (fun s wx => s = .string (S (Z.take m)) ∧ wx = wc)
          case first =>
            by_cases hn0 : n ≤ 0
            · have hm0 : m = 0 := by omega
              have hcv := HW.out.conv 0 bc (by omega)
              have hmx : max 0 (min n (L.length : Int)) = 0 := by omega
              subst hm0
              have hn1 : ¬ (L.length : Int) < n := by omega
              clear hm HMM hZl
              go_wp2_with fail
              go_meet
              exact ⟨rfl, rfl⟩
            · by_cases hnl : n ≤ L.length
              · obtain ⟨n', rfl⟩ : ∃ n' : Nat, n = n' := ⟨n.toNat, by omega⟩
                have hm0 : m = n' := by omega
                subst hm0
                have hml : m ≤ L.length := by omega
                have hcv := HW.out.conv m bc (by omega)
                have hmx : max 0 (min (m : Int) (L.length : Int)) = (m : Int) := by omega
                have hmi : min (m : Int) (L.length : Int) = (m : Int) := by omega
                have hbm : (m : Int) ≤ (bc : Int) := by omega
                have hm00 : (0 : Int) ≤ (m : Int) := by omega
                clear hm HMM hZl
                go_wp2_with fail
                go_meet
                exact ⟨rfl, rfl⟩
              · have hm0 : m = L.length := by omega
                have hcv := HW.out.conv L.length bc (by omega)
                have hmi : min n (L.length : Int) = (L.length : Int) := by omega
                have hmx : max 0 (L.length : Int) = (L.length : Int) := by omega
                have hbm : (L.length : Int) ≤ (bc : Int) := by omega
                have hm00 : (0 : Int) ≤ (L.length : Int) := by omega
                subst hm0
                clear hm HMM hZl
                go_wp2_with fail
                go_meet
                exact ⟨rfl, rfl⟩
          case rest =>
          obtain ⟨rfl, rfl⟩ := hcut
          obtain ⟨torn, htorn⟩ : ∃ torn, torn = Z.take m := ⟨_, rfl⟩
          rw [← htorn]
          have HZD : Hid (Jm.Zd (Jm.forms l) torn) := Lib.hid (by rw [htorn, ← HLL.out]; exact HZ.out.zd m)
          have htl : torn.length ≤ L.length := by rw [htorn, List.length_take]; omega
          have H10 : Hid (Has w wc ((DT B (FF L)).sep ((RowT 3 1 (.slice a0 l.length c0) l.length (endsC l l.length)).sep .emp))) := Lib.hid (by
            have := HW.out.right
            rw [HU.out] at this
            exact this.leave)
          clear htorn HMM hm HW HZ hZl HU
          go_wp2_with fail
          go_loopw [18] (fun i wr => ∃ k : Nat, k ≤ l.length ∧ i = .int .i64 k ∧ Hid (Jm.forms (l.take k) <+: torn) ∧ Hid (Has w wr ((DT B (FF L)).sep ((RowT 3 1 (.slice a0 l.length c0) l.length (endsC l l.length)).sep .emp)))) (fun i _ => l.length - (intOf i).toNat)
          case atStart => exact ⟨0, Nat.zero_le _, rfl, Lib.hid ⟨torn, rfl⟩, H10⟩
          case round =>
            obtain ⟨k, hk, rfl, hP, hX⟩ := hrel
            clear H10
            obtain ⟨bq, hbq⟩ : ∃ bq, bq = decide (k < l.length ∧ Jm.forms (l.take (k + 1)) <+: torn) := ⟨_, rfl⟩
            have HBQ := Lib.hid hbq
            clear hbq
            go_upto_region 26 with fail
            go_cut [127] (fun s wx => s = .bool bq ∧ Hid (Has w wx ((DT B (FF L)).sep ((RowT 3 1 (.slice a0 l.length c0) l.length (endsC l l.length)).sep .emp))))
            case first =>
              by_cases hlt : k < l.length
              · obtain ⟨g, hg, hcell⟩ := hX.out.turn.ends k hlt
                subst hg
                obtain ⟨e, he⟩ : ∃ e, e = endAt l k := ⟨_, rfl⟩
                rw [← he] at hcell
                obtain ⟨fm, hfm⟩ : ∃ fm, fm = Jm.forms (l.take (k + 1)) := ⟨_, rfl⟩
                have hfl : fm.length = e := by rw [he, hfm]; rfl
                have hpl : fm <+: L := by rw [hfm, HLL.out]; exact Jm.forms_take (k + 1)
                have heL : e ≤ L.length := by rw [← hfl]; exact hpl.length_le
                have HL2 : Hid (L.take e = fm) := Lib.hid (by rw [← hfl]; exact (List.prefix_iff_eq_take.1 hpl).symm)
                have hex2 : ((S L).extract 0 e).toList = fm := by rw [S_extract, List.drop_zero, Nat.sub_zero, S_toList]; exact HL2.out
                rw [← hfm] at HBQ
                have HFL := Lib.hid hfl
                clear he hfm hpl hfl
                by_cases hle : e ≤ torn.length
                · obtain ⟨fm', hfm'⟩ : ∃ fm', fm' = torn.take e := ⟨_, rfl⟩
                  have hex1 : ((S torn).extract 0 e).toList = fm' := by rw [S_extract, List.drop_zero, Nat.sub_zero, S_toList]; exact hfm'.symm
                  by_cases heq : fm' = fm
                  · have hbt : bq = true := by
                      rw [HBQ.out]
                      refine decide_eq_true ⟨hlt, ?_⟩
                      rw [List.prefix_iff_eq_take, HFL.out, ← hfm']
                      exact heq.symm
                    subst hbt
                    subst heq
                    clear hfm'
                    go_quiet (fail)
                    go_wp2_with fail
                    go_meet
                    exact ⟨rfl, Lib.hid (hX.out.fr (Fr.drewN _ _))⟩
                  · have hbt : bq = false := by
                      rw [HBQ.out]
                      refine decide_eq_false fun h => heq ?_
                      have := List.prefix_iff_eq_take.1 h.2
                      rw [HFL.out] at this
                      rw [hfm']
                      exact this.symm
                    subst hbt
                    have hbf : (fm' == fm) = false := beq_eq_false_iff_ne.2 heq
                    clear hfm'
                    go_quiet (fail)
                    go_wp2_with fail
                    go_meet
                    exact ⟨rfl, Lib.hid (hX.out.fr (Fr.drewN _ _))⟩
                · have hbt : bq = false := by
                    rw [HBQ.out]
                    refine decide_eq_false fun h => hle ?_
                    rw [← HFL.out]
                    exact h.2.length_le
                  subst hbt
                  have hle' : decide ((e : Int) ≤ (torn.length : Int)) = false := decide_eq_false (by omega)
                  go_quiet (fail)
                  go_wp2_with fail
                  go_meet
                  exact ⟨rfl, Lib.hid (hX.out.fr (Fr.drewN _ _))⟩
              · have hbt : bq = false := by rw [HBQ.out]; exact decide_eq_false fun h => hlt h.1
                subst hbt
                have hlt' : decide ((k : Int) < (l.length : Int)) = false := decide_eq_false (by omega)
                go_quiet (fail)
                go_wp2_with fail
                go_meet
                exact ⟨rfl, Lib.hid (hX.out.fr (Fr.drewN _ _))⟩
            case rest =>
            obtain ⟨rfl, hX⟩ := hcut
            cases bq with
            | true =>
              obtain ⟨hlt, hpre⟩ := of_decide_eq_true HBQ.out.symm
              have HPRE := Lib.hid hpre
              clear hpre
              go_wp2_with fail
              go_roundw
              case rel => exact ⟨k + 1, by omega, by go_num, HPRE, hX⟩
              case measure => simp [intOf]; omega
            | false =>
              have HEND : Hid (k = l.length ∨ ¬ Jm.forms (l.take (k + 1)) <+: torn) := Lib.hid (by
                have := of_decide_eq_false HBQ.out.symm
                rcases Nat.lt_or_ge k l.length with h | h
                · exact .inr fun h' => this ⟨h, h'⟩
                · exact .inl (by omega))
              clear HBQ
              have HMD : Hid (torn.length ≤ 16777216) := Lib.hid (by omega)
              have H2000 : Hid (∀ r ∈ l, r.length ≤ 2000) := Lib.hid fun r hr => by have := HL200.out r hr; omega
              go_upto_region 29 with (go_at_call 37; refine (Has.write (f := 1) hX.out (by decide) (FF_1 L) torn HMD.out).mono ?_; rintro e w11 ⟨rfl, h11⟩; have H11 := Lib.hid h11; clear h11)
              go_upto_region 30 with (go_at_call 12; refine (Has.open' (f := 1) H11.out (by decide)).mono ?_; rintro e w12 ⟨J2, rs, rest2, hrs, rfl, h12⟩; obtain rfl := Jm.torn_recs HZD.out H2000.out (by rw [put_same] at hrs; exact hrs) hk hP.out HEND.out; have H12 := Lib.hid h12; clear h12 hrs)
              clear H11 hX
              have HF2 := Lib.hid (put_same (put (FF L) 1 torn) 1 (Jm.forms (l.take k)))
              generalize put (put (FF L) 1 torn) 1 (Jm.forms (l.take k)) = F2 at *
              have HTL : Hid ((l.take k).length = k) := Lib.hid (by rw [List.length_take]; omega)
              have HSZ : Hid ((l.take k).length * 16 ≤ 140737488355328) := Lib.hid (by rw [HTL.out]; omega)
              have HSN : Hid ((l.take k).length ≤ 4611686018427387904) := Lib.hid (by rw [HTL.out]; omega)
              have HSL := Lib.hid (isSl_take H0.out k hk)
              have hkc : (k : Int) ≤ (c : Int) := by omega
              have hk00 : (0 : Int) ≤ (k : Int) := by omega
              obtain ⟨V, hV⟩ : ∃ V : Thing, V = (JT B J2 F2 1 (l.take k)).sep ((RowT 3 1 (.slice a0 l.length c0) l.length (endsC l l.length)).sep .emp) := ⟨_, rfl⟩
              have HV := Lib.hid hV
              clear hV
              go_cut [152] (fun s wx => s = .bool false ∧ Hid (Has w wx V))
              case first =>
                go_region_held3 (fun _ => True) (trivial) (first
                  | (go_at_call 28; refine (sameTexts_any _ _ (l.take k) _ (Row.isSl HO13.out) (HSL.out.fr H13.out.toFr) HSN.out).mono ?_; rintro e w14 ⟨rfl, hf14⟩; have H14 := Lib.hid (H13.out.fr hf14); clear hf14)
                  | (go_at_call 29; refine (Has.jall (H12.out.fr (Fr.drew _)) HSZ.out).mono ?_; rintro e w13 ⟨v13, rfl, ho13, hf13⟩; have H13 := Lib.hid ((H12.out.fr (Fr.drew _)).fr hf13); have HO13 : Hid (Row w13 v13 (l.take k)) := Lib.hid (row_mono ho13 (Nat.zero_le _)); clear ho13 hf13))
                all_goals (go_wp2_with fail; go_meet; exact ⟨rfl, Lib.hid (by rw [HV.out]; exact H14.out)⟩)
              case rest =>
              obtain ⟨rfl, hV14⟩ := hcut
              have H14' := hV14.out
              rw [HV.out] at H14'
              have H14 := Lib.hid H14'
              clear H14' hV14 HV H12
              obtain ⟨U2, hU2⟩ : ∃ U2 : Thing, U2 = (RowT 3 1 (.slice a0 l.length c0) l.length (endsC l l.length)).sep .emp := ⟨_, rfl⟩
              rw [← hU2] at H14
              obtain ⟨rs2, hrs2⟩ : ∃ rs2 : List Tx, rs2 = l.take k ++ [[110, 101, 120, 116]] := ⟨_, rfl⟩
              obtain ⟨F3, hF3⟩ : ∃ F3, F3 = put F2 1 (Jm.forms rs2) := ⟨_, rfl⟩
              have HAPP : Hid (Calls Tryd.prog 16 #[.pointer (some ⟨J2, 0, none⟩), .string ⟨#[110, 101, 120, 116]⟩] wc fun e w' => e = .returned (.int .i64 0) ∧ Has w w' ((JT B J2 F3 1 rs2).sep U2)) := Lib.hid (by
                have h1 := Jm.forms_le (rs := l.take k) (fun r hr => HL200.out r (List.mem_of_mem_take hr))
                have h2 := Jm.form_len [110, 101, 120, 116] (by simp)
                have h3 := HTL.out
                have := Has.append H14.out (by decide) HF2.out [110, 101, 120, 116] (by simp) (by simp at h2; omega) HT.out
                rw [← hrs2, ← hF3] at this
                exact this)
              have HLEN : Hid (∀ w', Has w w' ((JT B J2 F3 1 rs2).sep U2) → Calls Tryd.prog 44 #[.pointer (some ⟨J2, 0, none⟩)] w' fun e w'' => e = .returned (.int .i64 ((k : Int) + 1)) ∧ w'' = w') := Lib.hid fun w' h => by
                have := h.jlen
                rw [hrs2, List.length_append, HTL.out] at this
                exact this
              have HGA : Hid (∀ w', Has w w' ((JT B J2 F3 1 rs2).sep U2) → Calls Tryd.prog 45 #[.pointer (some ⟨J2, 0, none⟩), .int .i64 k] w' fun e w'' => e = .returned (.string ⟨#[110, 101, 120, 116]⟩) ∧ w'' = w') := Lib.hid fun w' h => by
                have := h.jget k
                have hg := gat_last (l.take k) [110, 101, 120, 116] k HTL.out
                unfold gat at hg
                rw [hrs2, hg] at this
                exact this
              have HGB : Hid (∀ w', Has w w' ((JT B J2 F3 1 rs2).sep U2) → Calls Tryd.prog 45 #[.pointer (some ⟨J2, 0, none⟩), .int .i64 ((k : Int) + 1)] w' fun e w'' => e = .returned (.string ⟨#[]⟩) ∧ w'' = w') := Lib.hid fun w' h => by
                have := h.jget ((k : Int) + 1)
                have hg := gat_more (l.take k) [110, 101, 120, 116] k HTL.out
                unfold gat at hg
                rw [hrs2, hg] at this
                exact this
              have HGC : Hid (∀ w', Has w w' ((JT B J2 F3 1 rs2).sep U2) → Calls Tryd.prog 45 #[.pointer (some ⟨J2, 0, none⟩), .int .i64 (-1)] w' fun e w'' => e = .returned (.string ⟨#[]⟩) ∧ w'' = w') := Lib.hid fun w' h => by
                have := h.jget (-1)
                have hg := gat_neg rs2
                unfold gat at hg
                rw [hg] at this
                exact this
              obtain ⟨N, hN⟩ : ∃ N : Nat, N = 20001 := ⟨_, rfl⟩
              have HLONG : Hid (∀ w', Has w w' ((JT B J2 F3 1 rs2).sep U2) → Calls Tryd.prog 16 #[.pointer (some ⟨J2, 0, none⟩), .string (S (zeros N))] w' fun e w'' => e = .returned (.int .i64 3) ∧ w'' = w') := Lib.hid fun w' h => h.long (zeros N) (by rw [zeros_length]; omega)
              have hmk := fun W => make_bytes 20001 N (by omega) (by omega) W
              have hcv := conv_bytes N
              clear hN hF3 hrs2 hU2 H14 HF2
              go_wp2_with (first
                | (go_at_call 16; have := M4.out; refine (HLONG.out _ (H15.out.fr (Fr.alloc _ _))).mono ?_; rintro e w16 ⟨rfl, rfl⟩)
                | (go_at_call 45; have := M3.out; refine (HGC.out _ H15.out).mono ?_; rintro e w16 ⟨rfl, rfl⟩; have M4 := Lib.hid True.intro)
                | (go_at_call 45; have := M2.out; refine (HGB.out _ H15.out).mono ?_; rintro e w16 ⟨rfl, rfl⟩; have M3 := Lib.hid True.intro)
                | (go_at_call 45; refine (HGA.out _ H15.out).mono ?_; rintro e w16 ⟨rfl, rfl⟩; have M2 := Lib.hid True.intro)
                | (go_at_call 44; refine (HLEN.out _ H15.out).mono ?_; rintro e w16 ⟨rfl, rfl⟩)
                | (go_at_call 16; refine HAPP.out.mono ?_; rintro e w15 ⟨rfl, h15⟩; have H15 := Lib.hid h15; clear h15))
              go_ret
              exact ⟨rfl, H15.out.toFr.trans (Fr.alloc _ _)⟩

theorem torn_law (v0 v2 : Value) (l : List Tx) (ks : List Int) (n : Int) (w : World) (ht : Tab w) (h0 : IsSl w v0 (l.map fun z => .string (S z))) (hk : Ints w v2 ks) (hl : l.length ≤ 9223372036854775807) (hkl : ks.length ≤ 9223372036854775807)
    (hb : -9223372036854775808 ≤ n ∧ n ≤ 9223372036854775807) (hcap : ∀ a m c, v0 = .slice a m c → m ≤ c) :
    Calls Tryd.prog 7 #[v0, .int .i64 n, v2] w fun e w' => e = .returned (.bool true) ∧ Fr w w' := by
  by_cases hf : textsB l = true ∧ ks.length ≤ 50
  · obtain ⟨ad, c, hv⟩ := h0.len
    rw [List.length_map] at hv
    subst hv
    obtain ⟨ka, kc, hv2⟩ : ∃ a c, v2 = .slice a ks.length c := by
      rcases hk with ⟨rfl, a, c, rfl⟩ | ⟨b, o, c, rfl, _⟩
      · exact ⟨a, c, rfl⟩
      · exact ⟨_, _, rfl⟩
    subst hv2
    exact torn_yes ad c l ka kc ks n w ht h0 hk hf.1 hf.2 hb (hcap _ _ _ rfl)
  · exact torn_not v0 v2 l ks n w ht h0 hk hl hkl hf
end Go.Proofs.YtgncliigmjeffaaDoor
