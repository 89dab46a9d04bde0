/-
  The law DiskReads, proved for every argument.
-/
import Derived.Test.YtpjoekjakjajcaaRm
namespace Go.Proofs.Ytpjoekjakjajcaa
open Go.RowKit

set_option maxHeartbeats 4000000 in
set_option maxRecDepth 100000 in
theorem reads_law (v : Value) (l : List AC) (f at_ size : Int) (str : ByteArray) (W : World) (h : Acts W v l) (hm : l.length ≤ 9223372036854775807) (hf : f ≤ 9223372036854775807) (ha : at_ ≤ 9223372036854775807) (hs : size ≤ 9223372036854775807) (hstr : str.size ≤ 9223372036854775807) :
    Calls Try.prog 7 #[v, .int .i64 f, .int .i64 at_, .string str, .int .i64 size] W fun e w' => e = .returned (.bool true) ∧ Fr W w' := by
  have HA := Lib.hid h
  have HM := Lib.hid hm
  clear h
  go_enter Try.func7, Try.ntmps7
  go_wp2_with fail
  refine (small_any _).mono ?_
  rintro e w1 ⟨rfl, h1⟩
  have H1 : Hid (Fr W w1) := Lib.hid h1
  clear h1
  rcases hfb : fewB l with _ | _
  · have HFB := Lib.hid hfb
    clear hfb
    go_wp2_with fail
    refine (few_any v l _ (HA.out.fr H1.out) HM.out).mono ?_
    rw [HFB.out]
    rintro e w2 ⟨rfl, h2⟩
    have H2 : Hid (Fr W w2) := Lib.hid (H1.out.trans h2)
    clear h2 H1
    go_wp2_with fail
    go_ret
    exact ⟨rfl, H2.out⟩
  · have HFB := Lib.hid hfb
    clear hfb
    by_cases hs3 : (str.size : Int) > 300
    · go_wp2_with fail
      refine (few_any v l _ (HA.out.fr H1.out) HM.out).mono ?_
      rw [HFB.out]
      rintro e w2 ⟨rfl, h2⟩
      have H2 : Hid (Fr W w2) := Lib.hid (H1.out.trans h2)
      clear h2 H1
      go_wp2_with fail
      go_ret
      exact ⟨rfl, H2.out⟩
    by_cases h0 : at_ < 0
    · go_wp2_with fail
      refine (few_any v l _ (HA.out.fr H1.out) HM.out).mono ?_
      rw [HFB.out]
      rintro e w2 ⟨rfl, h2⟩
      have H2 : Hid (Fr W w2) := Lib.hid (H1.out.trans h2)
      clear h2 H1
      go_wp2_with fail
      go_ret
      exact ⟨rfl, H2.out⟩
    by_cases h30 : at_ > 3000
    · go_wp2_with fail
      refine (few_any v l _ (HA.out.fr H1.out) HM.out).mono ?_
      rw [HFB.out]
      rintro e w2 ⟨rfl, h2⟩
      have H2 : Hid (Fr W w2) := Lib.hid (H1.out.trans h2)
      clear h2 H1
      go_wp2_with fail
      go_ret
      exact ⟨rfl, H2.out⟩
    by_cases hz : size < 0
    · go_wp2_with fail
      refine (few_any v l _ (HA.out.fr H1.out) HM.out).mono ?_
      rw [HFB.out]
      rintro e w2 ⟨rfl, h2⟩
      have H2 : Hid (Fr W w2) := Lib.hid (H1.out.trans h2)
      clear h2 H1
      go_wp2_with fail
      go_ret
      exact ⟨rfl, H2.out⟩
    go_wp2_with fail
    refine (few_any v l _ (HA.out.fr H1.out) HM.out).mono ?_
    rw [HFB.out]
    rintro e w2 ⟨rfl, h2⟩
    have H2 : Hid (Fr W w2) := Lib.hid (H1.out.trans h2)
    clear h2 H1
    go_wp2_with fail
    have hfew := fewB_true HFB.out
    have HIN := Lib.hid (HA.out.ins hfew.2)
    refine (played_any v l W _ HA.out H2.out hfew.1 HIN.out).mono ?_
    rintro e w3 ⟨B, rfl, h3⟩
    have HG0 : Hid (Good (playS newS l)) := Lib.hid (good_play good_new l HIN.out)
    generalize playS newS l = s0 at *
    have H3 : Hid (DN W w3 B s0) := Lib.hid h3
    clear h3 H2 hfew
    go_wp2_with fail
    refine (H3.out.one (fun O hd hO hb => arm_any O B 0 _ [] s0 _ hd (.inl ⟨rfl, _, _, rfl⟩) (by decide))).mono ?_
    rintro e w4 ⟨rfl, h4⟩
    have HG1 : Hid (Good (armS s0 0 [])) := Lib.hid ⟨inv_arm HG0.out.inv _ _, Nat.zero_le _, HG0.out.lost, Nat.zero_le _⟩
    have HC1 : Hid ((armS s0 0 []).calls = 0) := Lib.hid rfl
    generalize armS s0 0 [] = s1 at *
    have H4 : Hid (DN W w4 B s1) := Lib.hid h4
    clear h4 H3 HG0
    have HSL : Hid (str.data.toList.length = str.size) := Lib.hid (by rw [Array.length_toList]; rfl)
    rcases hdn : s1.down with _ | _
    · have HDN := Lib.hid hdn
      clear hdn
      by_cases hf0 : f < 0
      · go_wp2_with fail
        refine (H4.out.look (fun O hd => (down_any O B s1 _ hd).mono (fun e w' h => ⟨h.1, h.2 ▸ Fr.refl _⟩))).mono ?_
        rw [HDN.out]
        rintro e w5 ⟨rfl, h5⟩
        have H5 : Hid (DN W w5 B s1) := Lib.hid h5
        clear h5 H4
        have HE : Hid (writeE s1 f at_ str.data.toList = 1) := Lib.hid (by rw [(write_off HC1.out HDN.out _ f at_).2]; unfold chk; rw [if_pos (by omega)])
        go_wp2_with fail
        refine (H5.out.one (fun O hd hO hb => write_any O B f at_ str _ s1 _ rfl hd HG1.out.inv HG1.out.calls (by rw [HSL.out]; omega) ha)).mono ?_
        rw [HE.out]
        rintro e w6 ⟨rfl, h6⟩
        have H6 : Hid (DN W w6 B _) := Lib.hid h6
        clear h6 H5
        go_wp2_with fail
        go_ret
        exact ⟨rfl, H6.out.1⟩
      by_cases hf15 : f > 15
      · go_wp2_with fail
        refine (H4.out.look (fun O hd => (down_any O B s1 _ hd).mono (fun e w' h => ⟨h.1, h.2 ▸ Fr.refl _⟩))).mono ?_
        rw [HDN.out]
        rintro e w5 ⟨rfl, h5⟩
        have H5 : Hid (DN W w5 B s1) := Lib.hid h5
        clear h5 H4
        have HE : Hid (writeE s1 f at_ str.data.toList = 1) := Lib.hid (by rw [(write_off HC1.out HDN.out _ f at_).2]; unfold chk; rw [if_pos (by omega)])
        go_wp2_with fail
        refine (H5.out.one (fun O hd hO hb => write_any O B f at_ str _ s1 _ rfl hd HG1.out.inv HG1.out.calls (by rw [HSL.out]; omega) ha)).mono ?_
        rw [HE.out]
        rintro e w6 ⟨rfl, h6⟩
        have H6 : Hid (DN W w6 B _) := Lib.hid h6
        clear h6 H5
        go_wp2_with fail
        go_ret
        exact ⟨rfl, H6.out.1⟩
      obtain ⟨fn, rfl⟩ : ∃ fn : Nat, f = fn := ⟨f.toNat, by omega⟩
      obtain ⟨an, rfl⟩ : ∃ an : Nat, at_ = an := ⟨at_.toNat, by omega⟩
      go_wp2_with fail
      refine (H4.out.look (fun O hd => (down_any O B s1 _ hd).mono (fun e w' h => ⟨h.1, h.2 ▸ Fr.refl _⟩))).mono ?_
      rw [HDN.out]
      rintro e w5 ⟨rfl, h5⟩
      have H5 : Hid (DN W w5 B s1) := Lib.hid h5
      clear h5 H4
      have HE : Hid (writeE s1 fn an str.data.toList = 0) := Lib.hid (by rw [(write_off HC1.out HDN.out _ fn an).2]; exact chk_ok fn an _ (by omega) (by omega) (by rw [HSL.out]; omega))
      go_wp2_with fail
      refine (H5.out.one (fun O hd hO hb => write_any O B fn an str _ s1 _ rfl hd HG1.out.inv HG1.out.calls (by rw [HSL.out]; omega) ha)).mono ?_
      rw [HE.out]
      rintro e w6 ⟨rfl, h6⟩
      have HRB : Hid (readL (writeS s1 fn an str.data.toList) fn an str.size = str.data.toList) := Lib.hid (by rw [← HSL.out]; exact read_back HC1.out HDN.out fn an _ (by omega) (by omega) (by rw [HSL.out]; omega))
      have HG2 : Hid (Good (writeS s1 fn an str.data.toList)) := Lib.hid (good_write HG1.out _ _ _)
      have HC2 : Hid ((writeS s1 fn an str.data.toList).calls = 0) := Lib.hid (by rw [(write_off HC1.out HDN.out _ fn an).1, (wr_calls _ _ _ _).1]; exact HC1.out)
      have HD2 : Hid ((writeS s1 fn an str.data.toList).down = false) := Lib.hid (by rw [(write_off HC1.out HDN.out _ fn an).1, (wr_calls _ _ _ _).2]; exact HDN.out)
      generalize writeS s1 fn an str.data.toList = s2 at *
      have H6 : Hid (DN W w6 B s2) := Lib.hid h6
      clear h6 H5 HE HG1 HC1 HDN
      -- the first read
      have HR1 : Hid ((⟨(readL s2 fn an str.size).toArray⟩ : ByteArray) = str) := Lib.hid (by rw [HRB.out, Array.toArray_toList])
      have HE1 : Hid (readE s2 fn an str.size = 0) := Lib.hid (readE_ok HD2.out fn an _ (by omega) (by omega))
      go_wp2_with fail
      refine (H6.out.look (fun O hd => read_any O B fn an str.size s2 _ hd HG2.out.inv ha (by omega))).mono ?_
      rw [HR1.out, HE1.out]
      rintro e w7 ⟨rfl, h7⟩
      have H7 : Hid (DN W w7 B s2) := Lib.hid h7
      clear h7 H6 HR1 HE1 HRB
      -- the whole file
      obtain ⟨z, hz⟩ : ∃ z, z = s2.sz fn := ⟨_, rfl⟩
      have HZ := Lib.hid hz
      have hzm : z ≤ 16777216 := by rw [hz]; exact HG2.out.inv.max fn
      clear hz
      go_wp2_with fail
      refine (H7.out.look (fun O hd => (size_yes O B fn s2 _ hd (by omega)).mono (fun e w' h => ⟨h.1, h.2 ▸ Fr.refl _⟩))).mono ?_
      rw [← HZ.out]
      rintro e w8 ⟨rfl, h8⟩
      have H8 : Hid (DN W w8 B s2) := Lib.hid h8
      clear h8 H7
      have HR2 : Hid (readL s2 fn 0 z = bytesOf s2 fn 0 z) := Lib.hid ((readL_ok HD2.out fn 0 _ (by omega) (by omega)).trans (by unfold readN; rw [← HZ.out]; congr 1; omega))
      have HE2 : Hid (readE s2 fn 0 z = 0) := Lib.hid (readE_ok HD2.out fn 0 _ (by omega) (by omega))
      go_wp2_with fail
      refine (H8.out.look (fun O hd => read_any O B fn 0 z s2 _ hd HG2.out.inv (by decide) (by omega))).mono ?_
      rw [HR2.out, HE2.out]
      obtain ⟨all, hall⟩ : ∃ all : ByteArray, all = ⟨(bytesOf s2 fn 0 z).toArray⟩ := ⟨_, rfl⟩
      rw [← hall]
      have HALL := Lib.hid hall
      have halls : all.size = z := by rw [hall]; exact bytesOf_length _ _ _ _
      clear hall
      rintro e w9 ⟨rfl, h9⟩
      have H9 : Hid (DN W w9 B s2) := Lib.hid h9
      clear h9 H8 HR2 HE2
      -- the part
      have HE3 : Hid (readE s2 fn an size = 0) := Lib.hid (readE_ok HD2.out fn an _ (by omega) (by omega))
      obtain ⟨part, hpart⟩ : ∃ part : ByteArray, part = ⟨(readL s2 fn an size).toArray⟩ := ⟨_, rfl⟩
      go_wp2_with fail
      refine (H9.out.look (fun O hd => read_any O B fn an size s2 _ hd HG2.out.inv ha hs)).mono ?_
      rw [HE3.out, ← hpart]
      have HPART := Lib.hid hpart
      clear hpart
      rintro e w10 ⟨rfl, h10⟩
      have H10 : Hid (DN W w10 B s2) := Lib.hid h10
      clear h10 H9 HE3
      go_wp2_with fail
      refine (H10.out.look (fun O hd => (size_yes O B fn s2 _ hd (by omega)).mono (fun e w' h => ⟨h.1, h.2 ▸ Fr.refl _⟩))).mono ?_
      rw [← HZ.out]
      rintro e w11 ⟨rfl, h11⟩
      have H11 : Hid (DN W w11 B s2) := Lib.hid h11
      clear h11 H10
      obtain ⟨sn, rfl⟩ : ∃ sn : Nat, size = sn := ⟨size.toNat, by omega⟩
      obtain ⟨fr, hfr⟩ : ∃ fr, fr = min an z := ⟨_, rfl⟩
      have HFR := Lib.hid hfr
      have hfz : fr ≤ z := by omega
      have hif : (if z < an then (z : Int) else (an : Int)) = (fr : Int) := by split <;> omega
      have HIF := Lib.hid hif
      have HKEY : Hid (∀ a b : Nat, a = fr → b = fr + min sn (z - fr) → (part.toList == (all.extract a b).toList) = true) := Lib.hid (by
        rintro a b rfl rfl
        have e1 : (all.extract a (a + min sn (z - a))).toList = bytesOf s2 fn a (min sn (z - a)) := by
          rw [toList_data, ByteArray.data_extract, Array.toList_extract, List.extract_eq_take_drop, HALL.out]
          show ((bytesOf s2 fn 0 z).drop a).take (a + min sn (z - a) - a) = _
          rw [Nat.add_sub_cancel_left]
          exact bytesOf_slice s2 fn z a _ (by omega)
        have e2 : part.toList = bytesOf s2 fn a (min sn (z - a)) := by
          rw [toList_data, HPART.out]
          show readL s2 fn an sn = _
          rw [readL_ok HD2.out fn an _ (by omega) (by omega)]
          unfold readN
          rw [← HZ.out]
          have e3 : min ((sn : Nat) : Int).toNat (z - an) = min sn (z - a) := by
            have := HFR.out
            rcases Nat.le_total an z with c | c
            · rw [this, Nat.min_eq_left c]; rfl
            · rw [this, Nat.min_eq_right c]; omega
          rw [e3]
          rcases Nat.le_total an z with c | c
          · rw [HFR.out, Nat.min_eq_left c]
          · have : min sn (z - a) = 0 := by have := HFR.out; omega
            rw [this]; rfl
        rw [e1, e2]
        exact beq_self_eq_true _)
      clear hif hfr
      go_upto_region 17 with fail
      rw [HIF.out]
      clear HIF HFR HPART
      go_cut [145] (fun c wx => c = .bool false ∧ wx = w11)
      case first =>
        by_cases hm1 : (z : Int) - fr < sn
        · have HK1 : Hid ((part.toList == (all.extract fr z).toList) = true) := Lib.hid (HKEY.out fr _ rfl (by omega))
          clear HKEY
          go_wp2_with fail
          go_meet
          exact ⟨by rw [HK1.out]; rfl, rfl⟩
        · have HK1 : Hid ((part.toList == (all.extract fr (fr + sn)).toList) = true) := Lib.hid (HKEY.out fr _ rfl (by omega))
          clear HKEY
          go_wp2_with fail
          go_meet
          exact ⟨by rw [HK1.out]; rfl, rfl⟩
      case rest =>
        obtain ⟨rfl, rfl⟩ := hcut
        go_wp2_with fail
        have hrest := Lib.hid (rest_is HG2.out.inv HC2.out HD2.out fn fr (by omega) (by rw [← HZ.out]; exact hfz))
        have htE := Lib.hid (trunc_off HC2.out HD2.out fn fr (by omega) (by rw [← HZ.out]; exact hfz)).1
        refine (H11.out.one (fun O hd hO hb => trunc_any O B fn fr s2 _ hd HG2.out.inv HG2.out.calls)).mono ?_
        rw [htE.out]
        rintro e w12 ⟨rfl, h12⟩
        have HG3 : Hid (Good (truncS s2 fn fr)) := Lib.hid (good_trunc HG2.out _ _)
        generalize truncS s2 fn fr = s3 at *
        have H12 : Hid (DN W w12 B s3) := Lib.hid h12
        clear h12 H11 htE
        go_wp2_with fail
        refine (H12.out.one (fun O hd hO hb => crash_any [] _ O B s3 _ hd HG3.out.inv (.inl ⟨rfl, _, _, rfl⟩) (fun p hp => absurd rfl hp))).mono ?_
        rintro e w13 ⟨rfl, h13⟩
        have H13 : Hid (DN W w13 B (crashS s3 [])) := Lib.hid h13
        have HG4 : Hid (Good (crashS s3 [])) := Lib.hid (good_crash HG3.out _)
        clear h13 H12
        generalize crashS s3 [] = s4 at *
        go_wp2_with fail
        refine (H13.out.one (fun O hd hO hb => start_any O _ s4 _ hd)).mono ?_
        rintro e w14 ⟨rfl, h14⟩
        have H14 : Hid (DN W w14 B (upS s4)) := Lib.hid h14
        have HG5 : Hid (Good (upS s4)) := Lib.hid (good_down HG4.out _)
        have hrd : Hid (readE (upS s4) fn 0 16777216 = 0) := Lib.hid (readE_ok (s := upS s4) rfl fn 0 _ (by omega) (by omega))
        clear h14 H13
        generalize upS s4 = s5 at *
        obtain ⟨rest, hrest'⟩ : ∃ rest : ByteArray, rest = ⟨(readL s5 fn 0 16777216).toArray⟩ := ⟨_, rfl⟩
        go_wp2_with fail
        refine (H14.out.look (fun O hd => read_any O B fn 0 16777216 s5 _ hd HG5.out.inv (by decide) (by decide))).mono ?_
        rw [hrd.out, ← hrest']
        have HREST := Lib.hid hrest'
        clear hrest'
        rintro e w15 ⟨rfl, h15⟩
        have H15 : Hid (DN W w15 B s5) := Lib.hid h15
        clear h15 H14 hrd
        go_wp2_with fail
        go_ret
        refine ⟨?_, H15.out.1⟩
        have e1 : (all.extract 0 fr).toList = bytesOf s2 fn 0 fr := by
          rw [toList_data, ByteArray.data_extract, Array.toList_extract, List.extract_eq_take_drop, HALL.out]
          exact bytesOf_slice s2 fn z 0 _ (by omega)
        have e2 : rest.toList = bytesOf s2 fn 0 fr := by
          rw [toList_data, HREST.out, ← hrest.out]
        have e3 : (rest.toList == (all.extract 0 fr).toList) = true := by
          rw [e1, e2]; exact beq_self_eq_true _
        exact congrArg (fun b => Ending.returned (.bool b)) e3
    · have HDN := Lib.hid hdn
      clear hdn
      · go_wp2_with fail
        refine (H4.out.look (fun O hd => (down_any O B s1 _ hd).mono (fun e w' h => ⟨h.1, h.2 ▸ Fr.refl _⟩))).mono ?_
        rw [HDN.out]
        rintro e w5 ⟨rfl, h5⟩
        have H5 : Hid (DN W w5 B s1) := Lib.hid h5
        clear h5 H4
        have HE : Hid (writeE s1 f at_ str.data.toList = 8) := Lib.hid (writeE_down HDN.out _ _ _)
        go_wp2_with fail
        refine (H5.out.one (fun O hd hO hb => write_any O B f at_ str _ s1 _ rfl hd HG1.out.inv HG1.out.calls (by rw [HSL.out]; omega) ha)).mono ?_
        rw [HE.out]
        rintro e w6 ⟨rfl, h6⟩
        have H6 : Hid (DN W w6 B _) := Lib.hid h6
        clear h6 H5
        go_wp2_with fail
        go_ret
        exact ⟨rfl, H6.out.1⟩
end Go.Proofs.Ytpjoekjakjajcaa
