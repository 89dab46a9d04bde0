/-
  The law DiskArms, proved for every argument.
-/
import Derived.Test.YtpjoekjakjajcaaSa
namespace Go.Proofs.Ytpjoekjakjajcaa
open Go.RowKit

/-- Before the crash, or behind it. -/
def Ph (nn : Nat) (ks : List Int) (cnt : Nat) (s t : RS) : Prop := (cnt < nn ∧ s = arm t (nn - cnt) ks ∧ t.calls = 0 ∧ t.down = false) ∨ (nn ≤ cnt ∧ s.down = true ∧ Alike s t)
theorem Ph.alike {nn : Nat} {ks : List Int} {cnt : Nat} {s t : RS} (h : Ph nn ks cnt s t) : Alike s t := by
  rcases h with ⟨_, rfl, _, _⟩ | ⟨_, _, h⟩
  · exact .arm t _ ks
  · exact h

set_option maxHeartbeats 8000000 in
set_option maxRecDepth 100000 in
theorem arms_law (v v2 : Value) (l : List AC) (ks : List Int) (n : Int) (W : World) (h : Acts W v l) (hk : Ints W v2 ks) (hm : l.length ≤ 9223372036854775807) (hkl : ks.length ≤ 9223372036854775807) (hf : n ≤ 9223372036854775807) :
    Calls Try.prog 6 #[v, .int .i64 n, v2] W fun e w' => e = .returned (.bool true) ∧ Fr W w' := by
  have HA := Lib.hid h
  have HK := Lib.hid hk
  have HM := Lib.hid hm
  obtain ⟨ka, kc, rfl⟩ := hk.form
  obtain ⟨ao, ac, rfl⟩ := h.form
  clear h hk
  obtain ⟨nk, hnk⟩ : ∃ nk, nk = ks.length := ⟨_, rfl⟩
  rw [← hnk] at HK ⊢
  have HNK := Lib.hid hnk
  rw [← hnk] at hkl
  clear hnk
  go_enter Try.func6, Try.ntmps6
  go_wp2_with fail
  refine (small_any _).mono ?_
  rintro e w1 ⟨rfl, h1⟩
  have H1 : Hid (Fr W w1) := Lib.hid h1
  clear h1
  rcases hfb : fewB l with _ | _
  · have HFB := Lib.hid hfb
    clear hfb
    go_wp2_with fail
    refine (few_any _ l _ (HA.out.fr H1.out) HM.out).mono ?_
    rw [HFB.out]
    rintro e w2 ⟨rfl, h2⟩
    have H2 : Hid (Fr W w2) := Lib.hid (H1.out.trans h2)
    clear h2 H1
    go_wp2_with fail
    go_ret
    exact ⟨rfl, H2.out⟩
  have HFB := Lib.hid hfb
  clear hfb
  by_cases hk60 : (nk : Int) > 60
  · go_wp2_with fail
    refine (few_any _ l _ (HA.out.fr H1.out) HM.out).mono ?_
    rw [HFB.out]
    rintro e w2 ⟨rfl, h2⟩
    have H2 : Hid (Fr W w2) := Lib.hid (H1.out.trans h2)
    clear h2 H1
    go_wp2_with fail
    go_ret
    exact ⟨rfl, H2.out⟩
  by_cases hn1 : n < 1
  · go_wp2_with fail
    refine (few_any _ l _ (HA.out.fr H1.out) HM.out).mono ?_
    rw [HFB.out]
    rintro e w2 ⟨rfl, h2⟩
    have H2 : Hid (Fr W w2) := Lib.hid (H1.out.trans h2)
    clear h2 H1
    go_wp2_with fail
    go_ret
    exact ⟨rfl, H2.out⟩
  by_cases hn60 : n > 60
  · go_wp2_with fail
    refine (few_any _ l _ (HA.out.fr H1.out) HM.out).mono ?_
    rw [HFB.out]
    rintro e w2 ⟨rfl, h2⟩
    have H2 : Hid (Fr W w2) := Lib.hid (H1.out.trans h2)
    clear h2 H1
    go_wp2_with fail
    go_ret
    exact ⟨rfl, H2.out⟩
  obtain ⟨nn, rfl⟩ : ∃ nn : Nat, n = nn := ⟨n.toNat, by omega⟩
  go_wp2_with fail
  refine (few_any _ l _ (HA.out.fr H1.out) HM.out).mono ?_
  rw [HFB.out]
  rintro e w2 ⟨rfl, h2⟩
  have H2 : Hid (Fr W w2) := Lib.hid (H1.out.trans h2)
  clear h2 H1
  have hfew := fewB_true HFB.out
  have HIN := Lib.hid (HA.out.ins hfew.2)
  have hl40 := hfew.1
  clear hfew
  go_wp2_with fail
  refine (new_any _).mono ?_
  rintro e w3 ⟨B, rfl, hd⟩
  have H3 : Hid (DN W w3 B newS) := Lib.hid (.step H2.out (fun _ h => h.elim) hd)
  clear hd H2
  go_wp2_with fail
  refine (new_any _).mono ?_
  rintro e w4 ⟨B', rfl, hd⟩
  have H4 : Hid (D2 W w4 B newS B' newS) := Lib.hid (D2.add H3.out hd)
  clear hd H3
  go_wp2_with fail
  refine (H4.out.one (fun O hd hO hb => arm_any O B nn _ ks newS _ hd (HK.out.fr H4.out.1) (by have := HNK.out; omega))).mono ?_
  rintro e w5 ⟨rfl, h5⟩
  have H5 : Hid (D2 W w5 B (arm newS nn ks) B' newS) := Lib.hid h5
  clear h5 H4
  have HGA : Hid (Good (arm newS nn ks)) := Lib.hid ⟨inv_arm good_new.inv nn ks, by show nn ≤ _; omega, good_new.lost, by show ks.length ≤ 60; have := HNK.out; omega⟩
  go_wp2_with fail
  go_loopw [11, 10] (fun i cn wr => ∃ (k cnt : Nat), k ≤ l.length ∧ cnt ≤ k ∧ i = .int .i64 k ∧ cn = .int .i64 cnt ∧ ∃ s t, D2 W wr B s B' t ∧ Good s ∧ Good t ∧ Ph nn ks cnt s t) (fun i _ _ => l.length - (intOf i).toNat)
  case atStart => exact ⟨0, 0, Nat.zero_le _, Nat.le_refl _, rfl, rfl, _, _, H5.out, HGA.out, good_new, .inl ⟨by omega, rfl, rfl, rfl⟩⟩
  case round =>
    obtain ⟨k, cnt, hk, hck, rfl, rfl, s, t, h2, hg, hgt, hph⟩ := hrel
    have H6 := Lib.hid h2
    have HG := Lib.hid hg
    have HGT := Lib.hid hgt
    clear h2 hg hgt H5 HGA
    by_cases hlt : k < l.length
    · obtain ⟨b, ob, rfl, hat⟩ := HA.out.get k hlt
      have HAI := Lib.hid (HIN.out l[k] (List.getElem_mem hlt))
      generalize l[k] = a at *
      have HAT := Lib.hid hat
      clear hat
      by_cases h5 : bits .and .i64 a.k 7 > 4
      · have c0 := (HAT.out.fr H6.out.1).c0
        go_wp2_with fail
        go_ret
        exact ⟨rfl, H6.out.1⟩
      by_cases h4 : bits .and .i64 a.k 7 = 4
      · have HQ : Hid (kd a.k = 4) := Lib.hid h4
        rcases hph with ⟨hcn, rfl, hc0, hd0⟩ | ⟨hcn, hsd, hal⟩
        · have HL := Lib.hid (arm_lose (t := t) ks a (nn - cnt) HQ.out)
          have c0 := (HAT.out.fr H6.out.1).c0
          have c1 := (HAT.out.fr H6.out.1).c1
          have c2 := (HAT.out.fr H6.out.1).c2
          have c3 := (HAT.out.fr H6.out.1).c3
          have c4 := (HAT.out.fr H6.out.1).c4
          go_wp2_with fail
          refine (do_d2 a HAI.out H6.out HG.out).mono ?_
          rw [HL.out.1, HL.out.2.1]
          rintro e w7 ⟨rfl, h7⟩
          have H7 := Lib.hid h7
          clear h7 H6 c0 c1 c2 c3 c4
          have c0 := (HAT.out.fr H7.out.1).c0
          have c1 := (HAT.out.fr H7.out.1).c1
          have c2 := (HAT.out.fr H7.out.1).c2
          have c3 := (HAT.out.fr H7.out.1).c3
          have c4 := (HAT.out.fr H7.out.1).c4
          go_wp2_with fail
          refine (do_d2 a HAI.out H7.out.swap HGT.out).mono ?_
          rw [HL.out.2.2.1]
          rintro e w8 ⟨rfl, h8⟩
          have H8 := Lib.hid h8.swap
          clear h8 H7 c0 c1 c2 c3 c4
          have HG8 : Hid (Good (arm (doS t a) (nn - cnt) ks)) := Lib.hid (by rw [← HL.out.1]; exact HAI.out.good HG.out)
          go_wp2_with fail
          go_roundw
          case rel => exact ⟨k + 1, cnt, by omega, by omega, by go_num, rfl, _, _, H8.out, HG8.out, HAI.out.good HGT.out, .inl ⟨hcn, rfl, HL.out.2.2.2.1.trans hc0, HL.out.2.2.2.2.trans hd0⟩⟩
          case measure => simp [intOf]; omega
        · have HL := Lib.hid (lose_do (s := s) a HQ.out)
          have hal2 : Alike { s with lost := (nd a.n).toNat } t := ⟨hal.now, hal.sz, hal.down⟩
          have HAL2 := Lib.hid hal2
          have HSD := Lib.hid hsd
          have HG2 : Hid (Good { s with lost := (nd a.n).toNat }) := Lib.hid (by rw [← HL.out.1]; exact HAI.out.good HG.out)
          clear hal hal2 hsd
          have c0 := (HAT.out.fr H6.out.1).c0
          have c1 := (HAT.out.fr H6.out.1).c1
          have c2 := (HAT.out.fr H6.out.1).c2
          have c3 := (HAT.out.fr H6.out.1).c3
          have c4 := (HAT.out.fr H6.out.1).c4
          by_cases hce : (cnt : Int) = nn
          · go_wp2_with fail
            refine (do_d2 a HAI.out H6.out HG.out).mono ?_
            rw [HL.out.1, HL.out.2]
            have HD2 : Hid (({ s with lost := (nd a.n).toNat } : RS).down = true) := Lib.hid HSD.out
            generalize ({ s with lost := (nd a.n).toNat } : RS) = s2 at *
            rintro e w7 ⟨rfl, h7⟩
            have H7 := Lib.hid h7
            clear h7 H6 c0 c1 c2 c3 c4
            go_wp2_with fail
            refine (down_d2 H7.out).mono ?_
            rw [HD2.out]
            rintro e w8 ⟨rfl, h8⟩
            have H8 := Lib.hid h8
            clear h8 H7
            go_wp2_with fail
            refine (down_d2 H8.out).mono ?_
            rw [HD2.out]
            rintro e w9 ⟨rfl, h8⟩
            have H9 := Lib.hid h8
            clear h8 H8
            go_wp2_with fail
            go_roundw
            case rel => exact ⟨k + 1, cnt, by omega, by omega, by go_num, by rw [hce], _, _, H9.out, HG2.out, HGT.out, .inr ⟨hcn, HD2.out, HAL2.out⟩⟩
            case measure => simp [intOf]; omega
          · go_wp2_with fail
            refine (do_d2 a HAI.out H6.out HG.out).mono ?_
            rw [HL.out.1, HL.out.2]
            have HD2 : Hid (({ s with lost := (nd a.n).toNat } : RS).down = true) := Lib.hid HSD.out
            generalize ({ s with lost := (nd a.n).toNat } : RS) = s2 at *
            rintro e w7 ⟨rfl, h7⟩
            have H7 := Lib.hid h7
            clear h7 H6 c0 c1 c2 c3 c4
            go_wp2_with fail
            refine (down_d2 H7.out).mono ?_
            rw [HD2.out]
            rintro e w8 ⟨rfl, h8⟩
            have H8 := Lib.hid h8
            clear h8 H7
            go_wp2_with fail
            go_roundw
            case rel => exact ⟨k + 1, cnt, by omega, by omega, by go_num, rfl, _, _, H8.out, HG2.out, HGT.out, .inr ⟨hcn, HD2.out, HAL2.out⟩⟩
            case measure => simp [intOf]; omega
      have h6 : bits .and .i64 a.k 7 < 4 := by omega
      have HQ : Hid (kd a.k < 4) := Lib.hid h6
      rcases hph with ⟨hcn, rfl, hc0, hd0⟩ | ⟨hcn, hsd, hal⟩
      · have HC0 := Lib.hid hc0
        have HD0 := Lib.hid hd0
        clear hc0 hd0
        by_cases hc1 : (cnt : Int) + 1 < nn
        · have HL := Lib.hid (arm_before HC0.out HD0.out ks a (nn - cnt) (by omega) HQ.out)
          obtain ⟨ee, hee⟩ : ∃ ee, ee = doE t a := ⟨_, rfl⟩
          have HEE := Lib.hid hee
          clear hee
          have c0 := (HAT.out.fr H6.out.1).c0
          have c1 := (HAT.out.fr H6.out.1).c1
          have c2 := (HAT.out.fr H6.out.1).c2
          have c3 := (HAT.out.fr H6.out.1).c3
          have c4 := (HAT.out.fr H6.out.1).c4
          go_wp2_with fail
          refine (do_d2 a HAI.out H6.out HG.out).mono ?_
          rw [HL.out.1, HL.out.2.1, ← HEE.out]
          rintro e w7 ⟨rfl, h7⟩
          have H7 := Lib.hid h7
          clear h7 H6 c0 c1 c2 c3 c4
          have c0 := (HAT.out.fr H7.out.1).c0
          have c1 := (HAT.out.fr H7.out.1).c1
          have c2 := (HAT.out.fr H7.out.1).c2
          have c3 := (HAT.out.fr H7.out.1).c3
          have c4 := (HAT.out.fr H7.out.1).c4
          go_wp2_with fail
          refine (do_d2 a HAI.out H7.out.swap HGT.out).mono ?_
          rw [← HEE.out]
          rintro e w8 ⟨rfl, h8⟩
          have H8 := Lib.hid h8.swap
          clear h8 H7 c0 c1 c2 c3 c4
          have HG8 : Hid (Good (arm (doS t a) (nn - cnt - 1) ks)) := Lib.hid (by rw [← HL.out.1]; exact HAI.out.good HG.out)
          go_wp2_with fail
          go_roundw
          case rel => exact ⟨k + 1, cnt + 1, by omega, by omega, by go_num, by go_num, _, _, H8.out, HG8.out, HAI.out.good HGT.out, .inl ⟨by omega, by rw [Nat.sub_sub], HL.out.2.2.1, HL.out.2.2.2⟩⟩
          case measure => simp [intOf]; omega
        have hc2 : (cnt : Int) + 1 = nn := by omega
        have e1 : nn - cnt = 1 := by omega
        rw [e1] at HG H6
        by_cases h0 : bits .and .i64 a.k 7 < 2
        · have HL := Lib.hid (arm_write HC0.out HD0.out ks a h0)
          have c0 := (HAT.out.fr H6.out.1).c0
          have c1 := (HAT.out.fr H6.out.1).c1
          have c2 := (HAT.out.fr H6.out.1).c2
          have c3 := (HAT.out.fr H6.out.1).c3
          have c4 := (HAT.out.fr H6.out.1).c4
          go_wp2_with fail
          refine (do_d2 a HAI.out H6.out HG.out).mono ?_
          rw [HL.out.1, HL.out.2.1]
          rintro e w7 ⟨rfl, h7⟩
          have H7 := Lib.hid h7
          have HG7 : Hid (Good (crashS (doS t a) ks)) := Lib.hid (good_crash (HAI.out.good HGT.out) ks)
          have HCD : Hid ((crashS (doS t a) ks).down = true) := Lib.hid (crash_down' HL.out.2.2 ks)
          clear h7 H6 c0 c1 c2 c3 c4
          have c0 := (HAT.out.fr H7.out.1).c0
          have c1 := (HAT.out.fr H7.out.1).c1
          have c2 := (HAT.out.fr H7.out.1).c2
          have c3 := (HAT.out.fr H7.out.1).c3
          have c4 := (HAT.out.fr H7.out.1).c4
          go_wp2_with fail
          refine (do_d2 a HAI.out H7.out.swap HGT.out).mono ?_
          rintro e w8 ⟨rfl, h8⟩
          have H8 := Lib.hid h8
          clear h8 H7 c0 c1 c2 c3 c4
          go_wp2_with fail
          refine (crash_d2 HK.out H8.out (HAI.out.good HGT.out)).mono ?_
          rintro e w9 ⟨rfl, h9⟩
          have H9 := Lib.hid h9.swap
          clear h9 H8
          generalize crashS (doS t a) ks = s2 at *
          go_wp2_with fail
          refine (down_d2 H9.out).mono ?_
          rw [HCD.out]
          rintro e w10 ⟨rfl, h10⟩
          have H10 := Lib.hid h10
          clear h10 H9
          go_wp2_with fail
          go_roundw
          case rel => exact ⟨k + 1, cnt + 1, by omega, by omega, by go_num, by go_num, _, _, H10.out, HG7.out, HG7.out, .inr ⟨by omega, HCD.out, rfl, rfl, rfl⟩⟩
          case measure => simp [intOf]; omega
        · have HL := Lib.hid (arm_other HD0.out ks a (by show 2 ≤ bits .and .i64 a.k 7; omega) HQ.out)
          have c0 := (HAT.out.fr H6.out.1).c0
          have c1 := (HAT.out.fr H6.out.1).c1
          have c2 := (HAT.out.fr H6.out.1).c2
          have c3 := (HAT.out.fr H6.out.1).c3
          have c4 := (HAT.out.fr H6.out.1).c4
          go_wp2_with fail
          refine (do_d2 a HAI.out H6.out HG.out).mono ?_
          rw [HL.out.1, HL.out.2]
          rintro e w7 ⟨rfl, h7⟩
          have H7 := Lib.hid h7.swap
          have HG7 : Hid (Good (crashS t ks)) := Lib.hid (good_crash HGT.out ks)
          have HCD : Hid ((crashS t ks).down = true) := Lib.hid (crash_down' HD0.out ks)
          clear h7 H6 c0 c1 c2 c3 c4
          go_wp2_with fail
          refine (crash_d2 HK.out H7.out HGT.out).mono ?_
          rintro e w9 ⟨rfl, h9⟩
          have H9 := Lib.hid h9.swap
          clear h9 H7
          generalize crashS t ks = s2 at *
          go_wp2_with fail
          refine (down_d2 H9.out).mono ?_
          rw [HCD.out]
          rintro e w10 ⟨rfl, h10⟩
          have H10 := Lib.hid h10
          clear h10 H9
          go_wp2_with fail
          go_roundw
          case rel => exact ⟨k + 1, cnt + 1, by omega, by omega, by go_num, by go_num, _, _, H10.out, HG7.out, HG7.out, .inr ⟨by omega, HCD.out, rfl, rfl, rfl⟩⟩
          case measure => simp [intOf]; omega
      · have HL := Lib.hid (down_do hsd a HQ.out)
        have HAL := Lib.hid hal
        have HSD := Lib.hid hsd
        clear hal hsd
        have c0 := (HAT.out.fr H6.out.1).c0
        have c1 := (HAT.out.fr H6.out.1).c1
        have c2 := (HAT.out.fr H6.out.1).c2
        have c3 := (HAT.out.fr H6.out.1).c3
        have c4 := (HAT.out.fr H6.out.1).c4
        go_wp2_with fail
        refine (do_d2 a HAI.out H6.out HG.out).mono ?_
        rw [HL.out.1, HL.out.2]
        rintro e w7 ⟨rfl, h7⟩
        have H7 := Lib.hid h7
        clear h7 H6 c0 c1 c2 c3 c4
        go_wp2_with fail
        refine (down_d2 H7.out).mono ?_
        rw [HSD.out]
        rintro e w8 ⟨rfl, h8⟩
        have H8 := Lib.hid h8
        clear h8 H7
        go_wp2_with fail
        go_roundw
        case rel => exact ⟨k + 1, cnt + 1, by omega, by omega, by go_num, by go_num, _, _, H8.out, HG.out, HGT.out, .inr ⟨by omega, HSD.out, HAL.out⟩⟩
        case measure => simp [intOf]; omega
    · have HAL := Lib.hid hph.alike
      clear hph
      go_wp2_with fail
      refine (same_any _ l W _ B B' s t HAL.out HG.out HGT.out H6.out hl40 HA.out).mono ?_
      rintro e w7 ⟨rfl, h7⟩
      have H7 := Lib.hid h7
      clear h7 H6
      go_wp2_with fail
      refine (start_d2 H7.out).mono ?_
      rintro e w8 ⟨rfl, h8⟩
      have H8 := Lib.hid h8.swap
      clear h8 H7
      go_wp2_with fail
      refine (start_d2 H8.out).mono ?_
      rintro e w9 ⟨rfl, h9⟩
      have H9 := Lib.hid h9.swap
      clear h9 H8
      go_wp2_with fail
      refine (same_any _ l W _ B B' (upS s) (upS t) HAL.out.up (good_down HG.out _) (good_down HGT.out _) H9.out hl40 HA.out).mono ?_
      rintro e w10 ⟨rfl, h10⟩
      have H10 := Lib.hid h10
      clear h10 H9
      go_wp2_with fail
      go_ret
      exact ⟨rfl, H10.out.1⟩
end Go.Proofs.Ytpjoekjakjajcaa
