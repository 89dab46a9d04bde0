/-
  The law DiskSynced, proved for every argument.
-/
import Derived.Test.YtpjoekjakjajcaaHm
namespace Go.Proofs.Ytpjoekjakjajcaa
open Go.RowKit

set_option maxHeartbeats 4000000 in
set_option maxRecDepth 100000 in
theorem synced_law (v v2 v3 : Value) (l m : List AC) (ks : List Int) (f : Int) (W : World) (h : Acts W v l) (h2 : Acts W v2 m) (hk : Ints W v3 ks) (hm : l.length ≤ 9223372036854775807) (hm2 : m.length ≤ 9223372036854775807) (hkl : ks.length ≤ 9223372036854775807) (hf : f ≤ 9223372036854775807) :
    Calls Try.prog 5 #[v, .int .i64 f, v2, v3] W fun e w' => e = .returned (.bool true) ∧ Fr W w' := by
  have HA := Lib.hid h
  have HA2 := Lib.hid h2
  have HK := Lib.hid hk
  have HM := Lib.hid hm
  have HM2 := Lib.hid hm2
  obtain ⟨ka, kc, rfl⟩ := hk.form
  obtain ⟨ma, mc, rfl⟩ := h2.form
  clear h h2 hk
  obtain ⟨nk, hnk⟩ : ∃ nk, nk = ks.length := ⟨_, rfl⟩
  rw [← hnk] at HK ⊢
  have HNK := Lib.hid hnk
  rw [← hnk] at hkl
  clear hnk
  go_enter Try.func5, Try.ntmps5
  go_wp2_with fail
  refine (small_any _).mono ?_
  rintro e w1 ⟨rfl, h1⟩
  have H1 : Hid (Fr W w1) := Lib.hid h1
  clear h1
  rcases hfb : fewB l with _ | _
  · have HFB := Lib.hid hfb
    clear hfb
    go_wp2_with fail
    refine (few_any v l _ (HA.out.fr H1.out) HM.out).mono ?_
    rw [HFB.out]
    rintro e w2 ⟨rfl, h2⟩
    have H2 : Hid (Fr W w2) := Lib.hid (H1.out.trans h2)
    clear h2 H1
    go_wp2_with fail
    go_ret
    exact ⟨rfl, H2.out⟩
  have HFB := Lib.hid hfb
  clear hfb
  rcases hfb2 : fewB m with _ | _
  · have HFB2 := Lib.hid hfb2
    clear hfb2
    go_wp2_with fail
    refine (few_any v l _ (HA.out.fr H1.out) HM.out).mono ?_
    rw [HFB.out]
    rintro e w2 ⟨rfl, h2⟩
    have H2 : Hid (Fr W w2) := Lib.hid (H1.out.trans h2)
    clear h2 H1
    go_wp2_with fail
    refine (few_any _ m _ (HA2.out.fr H2.out) HM2.out).mono ?_
    rw [HFB2.out]
    rintro e w3 ⟨rfl, h3⟩
    have H3 : Hid (Fr W w3) := Lib.hid (H2.out.trans h3)
    clear h3 H2
    go_wp2_with fail
    go_ret
    exact ⟨rfl, H3.out⟩
  have HFB2 := Lib.hid hfb2
  clear hfb2
  by_cases hk60 : (nk : Int) > 60
  · go_wp2_with fail
    refine (few_any v l _ (HA.out.fr H1.out) HM.out).mono ?_
    rw [HFB.out]
    rintro e w2 ⟨rfl, h2⟩
    have H2 : Hid (Fr W w2) := Lib.hid (H1.out.trans h2)
    clear h2 H1
    go_wp2_with fail
    refine (few_any _ m _ (HA2.out.fr H2.out) HM2.out).mono ?_
    rw [HFB2.out]
    rintro e w3 ⟨rfl, h3⟩
    have H3 : Hid (Fr W w3) := Lib.hid (H2.out.trans h3)
    clear h3 H2
    go_wp2_with fail
    go_ret
    exact ⟨rfl, H3.out⟩
  go_wp2_with fail
  refine (few_any v l _ (HA.out.fr H1.out) HM.out).mono ?_
  rw [HFB.out]
  rintro e w2 ⟨rfl, h2⟩
  have H2 : Hid (Fr W w2) := Lib.hid (H1.out.trans h2)
  clear h2 H1
  go_wp2_with fail
  refine (few_any _ m _ (HA2.out.fr H2.out) HM2.out).mono ?_
  rw [HFB2.out]
  rintro e w3 ⟨rfl, h3⟩
  have H3 : Hid (Fr W w3) := Lib.hid (H2.out.trans h3)
  clear h3 H2
  have hfew := fewB_true HFB.out
  have hfew2 := fewB_true HFB2.out
  have HIN := Lib.hid (HA.out.ins hfew.2)
  have HIN2 := Lib.hid (HA2.out.ins hfew2.2)
  have hm40 := hfew2.1
  go_wp2_with fail
  refine (played_any v l W _ HA.out H3.out hfew.1 HIN.out).mono ?_
  rintro e w4 ⟨B, rfl, h4⟩
  have HG0 : Hid (Good (playS newS l)) := Lib.hid (good_play good_new l HIN.out)
  generalize playS newS l = s0 at *
  have H4 : Hid (DN W w4 B s0) := Lib.hid h4
  clear h4 H3 hfew hfew2
  obtain ⟨before, hbefore⟩ : ∃ b : ByteArray, b = ⟨(readL s0 f 0 16777216).toArray⟩ := ⟨_, rfl⟩
  go_wp2_with fail
  refine (H4.out.look (fun O hd => read_any O B f 0 16777216 s0 _ hd HG0.out.inv (by decide) (by decide))).mono ?_
  rw [← hbefore]
  have HBEFORE := Lib.hid hbefore
  clear hbefore
  rintro e w5 ⟨rfl, h5⟩
  have H5 : Hid (DN W w5 B s0) := Lib.hid h5
  clear h5 H4
  obtain ⟨se, hse⟩ : ∃ se, se = syncE s0 f := ⟨_, rfl⟩
  by_cases hse0 : se = 0
  · subst hse0
    obtain ⟨hd0, ⟨fn, rfl, hfn, hheld⟩, hd1⟩ := sync_ok hse.symm
    have HSE := Lib.hid hse
    have HHELD := Lib.hid hheld
    have HD0 := Lib.hid hd0
    have HD1 := Lib.hid hd1
    clear hse hheld hd0 hd1
    go_wp2_with fail
    refine (H5.out.one (fun O hd hO hb => sync_any O _ fn s0 _ hd HG0.out.inv HG0.out.calls (by rw [strike_lost]; exact HG0.out.lost))).mono ?_
    rw [← HSE.out]
    rintro e w6 ⟨rfl, h6⟩
    have HG1 : Hid (Good (syncS s0 fn)) := Lib.hid (good_sync HG0.out _)
    obtain ⟨F, hF⟩ : ∃ F, F = s0.now fn := ⟨_, rfl⟩
    obtain ⟨z, hz⟩ : ∃ z, z = s0.sz fn := ⟨_, rfl⟩
    rw [← hF, ← hz] at HHELD
    have HB : Hid (before = ⟨((List.range z).map F).toArray⟩) := Lib.hid (by
      rw [HBEFORE.out, readL_whole HG0.out.inv HD0.out fn hfn, hF, hz]
      congr 2
      unfold bytesOf
      exact List.map_congr_left (fun i _ => by rw [Nat.zero_add]))
    clear hF hz HBEFORE HSE HD0
    generalize syncS s0 fn = s1 at *
    have H6 : Hid (DN W w6 B s1) := Lib.hid h6
    clear h6 H5
    go_wp2_with fail
    refine (H6.out.look (fun O hd => read_any O B fn 0 16777216 s1 _ hd HG1.out.inv (by decide) (by decide))).mono ?_
    rw [readE_whole HD1.out fn hfn, held_read HG1.out.inv HD1.out hfn HHELD.out, ← HB.out]
    rintro e w7 ⟨rfl, h7⟩
    have H7 : Hid (DN W w7 B s1) := Lib.hid h7
    clear h7 H6
    go_wp2_with fail
    go_loopw [15] (fun i wr => ∃ (k : Nat), k ≤ m.length ∧ i = .int .i64 k ∧ ∃ s, DN W wr B s ∧ Good s ∧ Held s fn F z) (fun i _ => m.length - (intOf i).toNat)
    case atStart => exact ⟨0, Nat.zero_le _, rfl, s1, H7.out, HG1.out, HHELD.out⟩
    case round =>
      obtain ⟨k, hkm, rfl, s2, hdn2, hg2, hh2⟩ := hrel
      have H8 := Lib.hid hdn2
      have HG2 := Lib.hid hg2
      have HH2 := Lib.hid hh2
      clear hdn2 hg2 hh2 H7 HG1 HHELD HD1
      by_cases hlt : k < m.length
      · obtain ⟨b2, o2, hma, hat⟩ := HA2.out.get k hlt
        subst hma
        have hat := hat.fr H8.out.1
        have HAI := Lib.hid (HIN2.out m[k] (List.getElem_mem hlt))
        generalize hvv : m[k] = a at *
        clear hvv
        have c0 := hat.c0
        have c1 := hat.c1
        have c2 := hat.c2
        have c3 := hat.c3
        have c4 := hat.c4
        clear hat
        by_cases hcond : (kd a.k < 4 ∧ a.f ≠ fn) ∨ kd a.k = 4
        · have HC := Lib.hid hcond
          unfold kd at hcond
          by_cases hc1 : bits .and .i64 a.k 7 < 4
          · have hc2 : a.f ≠ fn := by omega
            clear hcond
            go_wp2_with (go_at_call 12; refine (do_dn a HAI.out H8.out HG2.out).mono ?_; rintro e w9 ⟨rfl, h9⟩)
            have H9 := Lib.hid h9
            clear h9 c0 c1 c2 c3 c4
            go_roundw
            case rel => exact ⟨k + 1, by omega, by go_num, _, H9.out, HAI.out.good HG2.out, held_do HG2.out.inv HH2.out a HC.out⟩
            case measure => simp [intOf]; omega
          · have hc2 : bits .and .i64 a.k 7 = 4 := by omega
            clear hcond
            go_wp2_with (go_at_call 12; refine (do_dn a HAI.out H8.out HG2.out).mono ?_; rintro e w9 ⟨rfl, h9⟩)
            have H9 := Lib.hid h9
            clear h9 c0 c1 c2 c3 c4
            go_roundw
            case rel => exact ⟨k + 1, by omega, by go_num, _, H9.out, HAI.out.good HG2.out, held_do HG2.out.inv HH2.out a HC.out⟩
            case measure => simp [intOf]; omega
        · unfold kd at hcond
          by_cases hc1 : bits .and .i64 a.k 7 < 4
          · have hc2 : a.f = fn := by omega
            have hc3 : ¬ bits .and .i64 a.k 7 = 4 := by omega
            clear hcond
            go_wp2_with fail
            clear c0 c1 c2 c3 c4
            go_roundw
            case rel => exact ⟨k + 1, by omega, by go_num, _, H8.out, HG2.out, HH2.out⟩
            case measure => simp [intOf]; omega
          · have hc2 : ¬ bits .and .i64 a.k 7 = 4 := by omega
            clear hcond
            go_wp2_with fail
            clear c0 c1 c2 c3 c4
            go_roundw
            case rel => exact ⟨k + 1, by omega, by go_num, _, H8.out, HG2.out, HH2.out⟩
            case measure => simp [intOf]; omega
      · go_wp2_with fail
        refine (H8.out.one (fun O hd hO hb => crash_any ks _ O B s2 _ hd HG2.out.inv (HK.out.fr H8.out.1) (fun p h0 hp hop => absurd (hO p hop) (by have := HK.out.lt p h0 hp; omega)))).mono ?_
        rintro e w9 ⟨rfl, h9⟩
        have HG3 : Hid (Good (crashS s2 ks)) := Lib.hid (good_crash HG2.out _)
        have HH3 := Lib.hid (held_crash HG2.out.inv HH2.out ks)
        generalize crashS s2 ks = s3 at *
        have H9 : Hid (DN W w9 B s3) := Lib.hid h9
        clear h9 H8 HG2 HH2
        go_wp2_with fail
        refine (H9.out.one (fun O hd hO hb => start_any O _ s3 _ hd)).mono ?_
        rintro e w10 ⟨rfl, h10⟩
        have H10 : Hid (DN W w10 B (upS s3)) := Lib.hid h10
        have HG4 : Hid (Good (upS s3)) := Lib.hid (good_down HG3.out _)
        have HH4 : Hid (Held (upS s3) fn F z) := Lib.hid ⟨HH3.out.now, HH3.out.sz, HH3.out.dz, HH3.out.pd⟩
        have HD4 : Hid ((upS s3).down = false) := Lib.hid rfl
        clear h10 H9 HG3 HH3
        generalize upS s3 = s4 at *
        go_wp2_with fail
        refine (H10.out.look (fun O hd => read_any O B fn 0 16777216 s4 _ hd HG4.out.inv (by decide) (by decide))).mono ?_
        rw [readE_whole HD4.out fn hfn, held_read HG4.out.inv HD4.out hfn HH4.out, ← HB.out]
        rintro e w11 ⟨rfl, h11⟩
        have H11 : Hid (DN W w11 B s4) := Lib.hid h11
        clear h11 H10
        go_wp2_with fail
        go_ret
        exact ⟨rfl, H11.out.1⟩
  · have hse' := Lib.hid hse
    clear hse
    go_wp2_with fail
    refine (H5.out.one (fun O hd hO hb => sync_any O _ f s0 _ hd HG0.out.inv HG0.out.calls (by rw [strike_lost]; exact HG0.out.lost))).mono ?_
    rw [← hse'.out]
    rintro e w6 ⟨rfl, h6⟩
    have H6 : Hid (DN W w6 B _) := Lib.hid h6
    clear h6 H5
    go_wp2_with fail
    go_ret
    exact ⟨rfl, H6.out.1⟩
end Go.Proofs.Ytpjoekjakjajcaa
