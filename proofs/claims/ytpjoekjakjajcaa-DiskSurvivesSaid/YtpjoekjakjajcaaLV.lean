/-
  The law DiskSurvives, proved for every argument.
-/
import Derived.Test.YtpjoekjakjajcaaAf
namespace Go.Proofs.Ytpjoekjakjajcaa
open Go.RowKit

/-- What the loops compare. -/
structure Cmp (now last some : ByteArray) : Prop where
  le : some.size ≤ now.size
  ge : last.size ≤ some.size
  sec : ∀ n : Nat, (∀ (i : Nat) (h : i < some.size), i / 64 = n → some[i] = now[i]) ∨
    (∀ (i : Nat) (h : i < some.size), i / 64 = n → (∀ h2 : i < last.size, some[i] = last[i]) ∧ (last.size ≤ i → some[i] = 0))
theorem cmp_of {s : RS} (hI : Inv s) (hd : s.down = false) (ks : List Int) (f : Nat) : Cmp (fb (s.now f) (s.sz f)) (fb (s.dur f) (s.dz f)) (fb ((crashS s ks).now f) ((crashS s ks).sz f)) := by
  have hz := crash_sz hI hd ks f
  refine ⟨by rw [fb_size, fb_size]; exact hz.2, by rw [fb_size, fb_size]; exact hz.1, fun n => ?_⟩
  rcases crash_sec hI hd ks f n with h | h
  · refine .inl fun i hi hn => ?_
    rw [fb_get, fb_get]
    have := h (i % 64) (by omega)
    rwa [show 64 * n + i % 64 = i by omega] at this
  · refine .inr fun i hi hn => ⟨fun h2 => ?_, fun h2 => ?_⟩
    · rw [fb_get, fb_get]
      have := h (i % 64) (by omega)
      rwa [show 64 * n + i % 64 = i by omega] at this
    · rw [fb_get]
      have := h (i % 64) (by omega)
      rw [show 64 * n + i % 64 = i by omega] at this
      rw [this]
      rw [fb_size] at h2
      exact hI.dz0 f i h2

set_option maxHeartbeats 4000000 in
set_option maxRecDepth 100000 in
theorem survives_law (v v2 : Value) (l : List AC) (ks : List Int) (f : Int) (W : World) (h : Acts W v l) (hk : Ints W v2 ks) (hm : l.length ≤ 9223372036854775807) (hkl : ks.length ≤ 9223372036854775807) (hf : f ≤ 9223372036854775807) :
    Calls Try.prog 4 #[v, .int .i64 f, v2] W fun e w' => e = .returned (.bool true) ∧ Fr W w' := by
  have HA := Lib.hid h
  have HK := Lib.hid hk
  have HM := Lib.hid hm
  obtain ⟨ka, kc, rfl⟩ := hk.form
  clear h hk
  obtain ⟨nk, hnk⟩ : ∃ nk, nk = ks.length := ⟨_, rfl⟩
  rw [← hnk] at HK ⊢
  have HNK := Lib.hid hnk
  rw [← hnk] at hkl
  clear hnk
  go_enter Try.func4, Try.ntmps4
  go_wp2_with fail
  refine (small_any _).mono ?_
  rintro e w1 ⟨rfl, h1⟩
  have H1 : Hid (Fr W w1) := Lib.hid h1
  clear h1
  rcases hfb : fewB l with _ | _
  · have HFB := Lib.hid hfb
    clear hfb
    go_wp2_with fail
    refine (few_any v l _ (HA.out.fr H1.out) HM.out).mono ?_
    rw [HFB.out]
    rintro e w2 ⟨rfl, h2⟩
    have H2 : Hid (Fr W w2) := Lib.hid (H1.out.trans h2)
    clear h2 H1
    go_wp2_with fail
    go_ret
    exact ⟨rfl, H2.out⟩
  have HFB := Lib.hid hfb
  clear hfb
  by_cases hk60 : (nk : Int) > 60
  · go_wp2_with fail
    refine (few_any v l _ (HA.out.fr H1.out) HM.out).mono ?_
    rw [HFB.out]
    rintro e w2 ⟨rfl, h2⟩
    have H2 : Hid (Fr W w2) := Lib.hid (H1.out.trans h2)
    clear h2 H1
    go_wp2_with fail
    go_ret
    exact ⟨rfl, H2.out⟩
  go_wp2_with fail
  refine (few_any v l _ (HA.out.fr H1.out) HM.out).mono ?_
  rw [HFB.out]
  rintro e w2 ⟨rfl, h2⟩
  have H2 : Hid (Fr W w2) := Lib.hid (H1.out.trans h2)
  clear h2 H1
  have hfew := fewB_true HFB.out
  have HIN := Lib.hid (HA.out.ins hfew.2)
  go_wp2_with fail
  refine (played_any v l W _ HA.out H2.out hfew.1 HIN.out).mono ?_
  rintro e w3 ⟨B, rfl, h3⟩
  have HG0 : Hid (Good (playS newS l)) := Lib.hid (good_play good_new l HIN.out)
  have HT0 : Hid (Top (playS newS l)) := Lib.hid (top_play top_new l)
  generalize playS newS l = s at *
  have H3 : Hid (DN W w3 B s) := Lib.hid h3
  clear h3 H2 hfew
  rcases hdn : s.down with _ | _
  · have HDN := Lib.hid hdn
    clear hdn
    by_cases hf0 : f < 0
    · go_wp2_with fail
      refine (H3.out.look (fun O hd => (down_any O B s _ hd).mono (fun e w' h => ⟨h.1, h.2 ▸ Fr.refl _⟩))).mono ?_
      rw [HDN.out]
      rintro e w4 ⟨rfl, h4⟩
      have H4 : Hid (DN W w4 B s) := Lib.hid h4
      clear h4 H3
      go_wp2_with fail
      go_ret
      exact ⟨rfl, H4.out.1⟩
    by_cases hf15 : f > 15
    · go_wp2_with fail
      refine (H3.out.look (fun O hd => (down_any O B s _ hd).mono (fun e w' h => ⟨h.1, h.2 ▸ Fr.refl _⟩))).mono ?_
      rw [HDN.out]
      rintro e w4 ⟨rfl, h4⟩
      have H4 : Hid (DN W w4 B s) := Lib.hid h4
      clear h4 H3
      go_wp2_with fail
      go_ret
      exact ⟨rfl, H4.out.1⟩
    obtain ⟨fn, rfl⟩ : ∃ fn : Nat, f = fn := ⟨f.toNat, by omega⟩
    have hfn : fn < 16 := by omega
    go_wp2_with fail
    refine (H3.out.look (fun O hd => (down_any O B s _ hd).mono (fun e w' h => ⟨h.1, h.2 ▸ Fr.refl _⟩))).mono ?_
    rw [HDN.out]
    rintro e w4 ⟨rfl, h4⟩
    have H4 : Hid (DN W w4 B s) := Lib.hid h4
    clear h4 H3
    obtain ⟨z, hz⟩ : ∃ z, z = s.sz fn := ⟨_, rfl⟩
    have HZ := Lib.hid hz
    clear hz
    by_cases hz1 : (z : Int) > 100000
    · go_wp2_with fail
      refine (H4.out.look (fun O hd => (size_yes O B fn s _ hd hfn).mono (fun e w' h => ⟨h.1, h.2 ▸ Fr.refl _⟩))).mono ?_
      rw [← HZ.out]
      rintro e w5 ⟨rfl, h5⟩
      have H5 : Hid (DN W w5 B s) := Lib.hid h5
      clear h5 H4
      go_wp2_with fail
      go_ret
      exact ⟨rfl, H5.out.1⟩
    go_wp2_with fail
    refine (H4.out.look (fun O hd => (size_yes O B fn s _ hd hfn).mono (fun e w' h => ⟨h.1, h.2 ▸ Fr.refl _⟩))).mono ?_
    rw [← HZ.out]
    rintro e w5 ⟨rfl, h5⟩
    have H5 : Hid (DN W w5 B s) := Lib.hid h5
    clear h5 H4
    obtain ⟨now, hnow⟩ : ∃ b, b = fb (s.now fn) (s.sz fn) := ⟨_, rfl⟩
    have hnz : now.size = z := by rw [hnow, fb_size]; exact HZ.out.symm
    go_wp2_with fail
    refine (H5.out.look (fun O hd => read_any O B fn 0 16777216 s _ hd HG0.out.inv (by decide) (by decide))).mono ?_
    rw [readE_whole HDN.out fn hfn, read_fb HG0.out.inv HDN.out fn hfn, ← hnow]
    have HNOW := Lib.hid hnow
    clear hnow
    rintro e w6 ⟨rfl, h6⟩
    have H6 : Hid (DN W w6 B s) := Lib.hid h6
    clear h6 H5
    -- nothing survives
    obtain ⟨last, hlast⟩ : ∃ b, b = fb (s.dur fn) (s.dz fn) := ⟨_, rfl⟩
    have HL : Hid (fb ((crashS s []).now fn) ((crashS s []).sz fn) = last) := Lib.hid (by
      rw [hlast]
      exact fb_congr (crash_none HG0.out.inv HDN.out [] kept_nil fn 0).2 (fun i _ => (crash_none HG0.out.inv HDN.out [] kept_nil fn i).1))
    have HLAST := Lib.hid hlast
    clear hlast
    go_wp2_with fail
    refine (H6.out.look (fun O hd => after_any O B fn s _ _ [] hfn hd HG0.out (.inl ⟨rfl, _, _, rfl⟩))).mono ?_
    rw [HL.out]
    rintro e w7 ⟨rfl, h7⟩
    have H7 : Hid (DN W w7 B s) := Lib.hid h7
    clear h7 H6 HL
    -- everything survives
    have HL : Hid (fb ((crashS s [1]).now fn) ((crashS s [1]).sz fn) = now) := Lib.hid (by
      rw [HNOW.out]
      exact fb_congr (crash_all HG0.out.inv HT0.out HDN.out fn 0).2 (fun i _ => (crash_all HG0.out.inv HT0.out HDN.out fn i).1))
    go_wp2_with fail
    have H8 : Hid (DN W (w7.alloc (.cells #[.int .i64 1] 3)) B s) := Lib.hid (H7.out.fr (Fr.alloc _ _))
    have HI1 : Hid (Ints (w7.alloc (.cells #[.int .i64 1] 3)) (.slice (some ⟨w7.heap.size, 0, none⟩) 1 1) [1]) := Lib.hid (.inr ⟨w7.heap.size, 0, 1, rfl, fun i hi => by
      rw [cell_of_row _ w7.heap.size (0 + i) #[.int .i64 1] 3 (0, 0) (heap_alloc_new w7 _), Nat.zero_add]
      obtain rfl : i = 0 := by simpa using hi
      rfl⟩)
    generalize w7.alloc (.cells #[.int .i64 1] 3) = w8 at *
    refine (H8.out.look (fun O hd => after_any O B fn s _ _ [1] hfn hd HG0.out HI1.out)).mono ?_
    rw [HL.out]
    rintro e w9 ⟨rfl, h9⟩
    have H9 : Hid (DN W w9 B s) := Lib.hid h9
    clear h9 H8 HI1 HL H7
    -- some survives
    have HCMP := Lib.hid (cmp_of HG0.out.inv HDN.out ks fn)
    rw [← HNOW.out, ← HLAST.out] at HCMP
    obtain ⟨sm, hsm⟩ : ∃ b, b = fb ((crashS s ks).now fn) ((crashS s ks).sz fn) := ⟨_, rfl⟩
    rw [← hsm] at HCMP
    go_wp2_with fail
    refine (H9.out.look (fun O hd => after_any O B fn s _ _ ks hfn hd HG0.out (HK.out.fr H9.out.1))).mono ?_
    rw [← hsm]
    clear hsm
    rintro e w10 ⟨rfl, h10⟩
    have H10 : Hid (Fr W w10) := Lib.hid h10.1
    clear h10 H9 HNOW HLAST HG0 HT0 HDN
    have hle : (sm.size : Int) ≤ z := by have := HCMP.out.le; omega
    have hge : (last.size : Int) ≤ sm.size := by have := HCMP.out.ge; omega
    go_wp2_with fail
    clear hnz
    go_loopw [17] (fun i wr => ∃ (n : Nat), n ≤ 2000 ∧ i = .int .i64 n ∧ Fr W wr) (fun i _ => 2000 - (intOf i).toNat)
    case atStart => exact ⟨0, by omega, rfl, H10.out⟩
    case round =>
      obtain ⟨n, hn, rfl, hwr⟩ := hrel
      have HWR := Lib.hid hwr
      clear hwr H10
      by_cases hlt : (64 : Int) * n < sm.size
      · rcases HCMP.out.sec n with hsec | hsec
        · have HSEC := Lib.hid hsec
          clear hsec
          go_wp2_with fail
          go_loopw [20, 18, 19] (fun i b1 b2 wr => ∃ (j : Nat) (b : Bool), 64 * n ≤ j ∧ j ≤ 64 * n + 64 ∧ i = .int .i64 j ∧ b1 = .bool true ∧ b2 = .bool b ∧ Fr W wr) (fun i _ _ _ => 64 * n + 64 - (intOf i).toNat)
          case atStart => exact ⟨64 * n, true, by omega, by omega, by go_num, rfl, rfl, HWR.out⟩
          case round =>
            obtain ⟨j, b, hj0, hj1, rfl, rfl, rfl, hwr⟩ := hrel
            have HWR2 := Lib.hid hwr
            clear hwr HWR
            by_cases hj2 : (j : Int) < 64 * n + 64
            · by_cases hj3 : (j : Int) < sm.size
              · have heq := HSEC.out j (by omega) (by omega)
                have hjn : (j : Int) < now.size := by have := HCMP.out.le; omega
                go_wp2_with fail
                go_quiet (fail)
                have hq := HWR2.out.trans (show Fr wr (wr.drewN nq) from ⟨rfl, rfl, rfl, Nat.le_refl _, fun _ _ _ => rfl⟩)
                generalize wr.drewN nq = w12 at *
                have HWR3 := Lib.hid hq
                clear hq HWR2
                clear heq
                rcases b with _ | _
                · go_wp2_with fail
                  go_quiet (fail)
                  have hq := HWR3.out.trans (show Fr w12 (w12.drewN nq) from ⟨rfl, rfl, rfl, Nat.le_refl _, fun _ _ _ => rfl⟩)
                  generalize w12.drewN nq = w13 at *
                  have HX := Lib.hid hq
                  clear hq HWR3
                  go_wp2_with fail
                  go_roundw
                  case rel => exact ⟨j + 1, _, by omega, by omega, by go_num, rfl, rfl, HX.out⟩
                  case measure => simp [intOf]; omega
                · go_wp2_with fail
                  go_quiet ((go_at_call 24; refine Calls.quiet_of_same (byteAt_any last j _ (by omega) (by omega))))
                  have hq := HWR3.out.trans (show Fr w12 (w12.drewN nq) from ⟨rfl, rfl, rfl, Nat.le_refl _, fun _ _ _ => rfl⟩)
                  generalize w12.drewN nq = w13 at *
                  have HX := Lib.hid hq
                  clear hq HWR3
                  go_wp2_with fail
                  go_roundw
                  case rel => exact ⟨j + 1, _, by omega, by omega, by go_num, rfl, rfl, HX.out⟩
                  case measure => simp [intOf]; omega
              · go_wp2_with fail
                go_roundw
                case rel => exact ⟨n + 1, by omega, by go_num, HWR2.out⟩
                case measure => simp [intOf]; omega
            · go_wp2_with fail
              go_roundw
              case rel => exact ⟨n + 1, by omega, by go_num, HWR2.out⟩
              case measure => simp [intOf]; omega
        · have HSEC := Lib.hid hsec
          clear hsec
          go_wp2_with fail
          go_loopw [20, 18, 19] (fun i b1 b2 wr => ∃ (j : Nat) (b : Bool), 64 * n ≤ j ∧ j ≤ 64 * n + 64 ∧ i = .int .i64 j ∧ b1 = .bool b ∧ b2 = .bool true ∧ Fr W wr) (fun i _ _ _ => 64 * n + 64 - (intOf i).toNat)
          case atStart => exact ⟨64 * n, true, by omega, by omega, by go_num, rfl, rfl, HWR.out⟩
          case round =>
            obtain ⟨j, b, hj0, hj1, rfl, rfl, rfl, hwr⟩ := hrel
            have HWR2 := Lib.hid hwr
            clear hwr HWR
            by_cases hj2 : (j : Int) < 64 * n + 64
            · by_cases hj3 : (j : Int) < sm.size
              · have heq := HSEC.out j (by omega) (by omega)
                have hjn : (j : Int) < now.size := by have := HCMP.out.le; omega
                have heq2 : byteZ last j = ((sm[j]'(by omega)).toNat : Int) := by
                  by_cases hjl : j < last.size
                  · rw [byteZ_in hjl, heq.1 hjl]
                  · rw [byteZ_out hjl, heq.2 (by omega)]; rfl
                clear heq
                rcases b with _ | _
                · go_wp2_with fail
                  go_quiet (fail)
                  have hq := HWR2.out.trans (show Fr wr (wr.drewN nq) from ⟨rfl, rfl, rfl, Nat.le_refl _, fun _ _ _ => rfl⟩)
                  generalize wr.drewN nq = w12 at *
                  have HWR3 := Lib.hid hq
                  clear hq HWR2
                  go_wp2_with fail
                  go_quiet ((go_at_call 24; refine Calls.quiet_of_same (byteAt_any last j _ (by omega) (by omega))))
                  have hq := HWR3.out.trans (show Fr w12 (w12.drewN nq) from ⟨rfl, rfl, rfl, Nat.le_refl _, fun _ _ _ => rfl⟩)
                  generalize w12.drewN nq = w13 at *
                  have HX := Lib.hid hq
                  clear hq HWR3
                  go_wp2_with fail
                  go_roundw
                  case rel => exact ⟨j + 1, _, by omega, by omega, by go_num, rfl, rfl, HX.out⟩
                  case measure => simp [intOf]; omega
                · go_wp2_with fail
                  go_quiet (fail)
                  have hq := HWR2.out.trans (show Fr wr (wr.drewN nq) from ⟨rfl, rfl, rfl, Nat.le_refl _, fun _ _ _ => rfl⟩)
                  generalize wr.drewN nq = w12 at *
                  have HWR3 := Lib.hid hq
                  clear hq HWR2
                  go_wp2_with fail
                  go_quiet ((go_at_call 24; refine Calls.quiet_of_same (byteAt_any last j _ (by omega) (by omega))))
                  have hq := HWR3.out.trans (show Fr w12 (w12.drewN nq) from ⟨rfl, rfl, rfl, Nat.le_refl _, fun _ _ _ => rfl⟩)
                  generalize w12.drewN nq = w13 at *
                  have HX := Lib.hid hq
                  clear hq HWR3
                  go_wp2_with fail
                  go_roundw
                  case rel => exact ⟨j + 1, _, by omega, by omega, by go_num, rfl, rfl, HX.out⟩
                  case measure => simp [intOf]; omega
              · rcases b with _ | _
                · go_wp2_with fail
                  go_roundw
                  case rel => exact ⟨n + 1, by omega, by go_num, HWR2.out⟩
                  case measure => simp [intOf]; omega
                · go_wp2_with fail
                  go_roundw
                  case rel => exact ⟨n + 1, by omega, by go_num, HWR2.out⟩
                  case measure => simp [intOf]; omega
            · rcases b with _ | _
              · go_wp2_with fail
                go_roundw
                case rel => exact ⟨n + 1, by omega, by go_num, HWR2.out⟩
                case measure => simp [intOf]; omega
              · go_wp2_with fail
                go_roundw
                case rel => exact ⟨n + 1, by omega, by go_num, HWR2.out⟩
                case measure => simp [intOf]; omega
      · go_wp2_with fail
        go_ret
        exact ⟨rfl, HWR.out⟩
  · have HDN := Lib.hid hdn
    clear hdn
    go_wp2_with fail
    refine (H3.out.look (fun O hd => (down_any O B s _ hd).mono (fun e w' h => ⟨h.1, h.2 ▸ Fr.refl _⟩))).mono ?_
    rw [HDN.out]
    rintro e w4 ⟨rfl, h4⟩
    have H4 : Hid (DN W w4 B s) := Lib.hid h4
    clear h4 H3
    go_wp2_with fail
    go_ret
    exact ⟨rfl, H4.out.1⟩
end Go.Proofs.Ytpjoekjakjajcaa
