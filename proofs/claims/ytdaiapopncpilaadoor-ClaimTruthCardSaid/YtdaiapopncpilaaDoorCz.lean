/-
  The walk of ClaimTruth.
-/
import Derived.Test.YtdaiapopncpilaaDoorCy
import Derived.Deep.CutBlock
import Derived.Deep.DeepCutAuto
namespace Go.Proofs.YtdaiapopncpilaaDoor
open Go.RowKit

theorem strs_len (l : List Txt) : (strs l).length = l.length := by simp [strs]
theorem bys_len (l : List UInt8) : (bys l).length = l.length := by simp [bys]
theorem sl_strs {w : World} {va : Option Addr} {vc n : Nat} {l : List Txt} (h : IsSl w (.slice va n vc) (strs l)) {k : Nat} (hk : k < l.length) : ∃ b o, va = some ⟨b, o, none⟩ ∧ w.cell? ⟨b, o + k, none⟩ = some (.string (S l[k])) := by
  rcases h with ⟨h0, _⟩ | ⟨b, o, c, hv, hc⟩
  · have : l = [] := by simpa [strs] using h0
    subst this; simp at hk
  · obtain ⟨rfl, _⟩ : va = some ⟨b, o, none⟩ ∧ _ := by simpa using hv
    exact ⟨b, o, rfl, strs_at hc hk⟩
theorem Has.c {W w : World} {n : Nat} {a : Option Addr} {cc : Nat} {A : List C} {U : Thing} (h : Has W w ((RowT 23 4 (.slice a n cc) n (cC A)).sep U)) (hn : n = A.length) {i : Nat} (hi : i < A.length) : ∃ g, a = some ⟨g, 0, none⟩ ∧ CIn w g (i * 4) A[i] := by
  obtain ⟨g, cap, hv, _, hc⟩ := row_at h.row hn (by omega)
  obtain ⟨rfl, _⟩ : a = some ⟨g, 0, none⟩ ∧ _ := by simpa using hv
  exact ⟨g, rfl, hc i hi⟩
theorem row_news {w : World} {base g n cap : Nat} {l : List C} (h : w.ownsRow base 23 4 (.slice (some ⟨g, 0, none⟩) n cap) n (cC l)) (hl : n = l.length) : ∀ j u, (cC l)[j]? = some u → w.cell? ((⟨g, 0, none⟩ : Addr).add j) = some u := by
  subst hl
  intro j u hu
  rcases h.2 with ⟨hv, _⟩ | ⟨g', cap', cur, hv, hB, hg, hc, _, hs, ht⟩
  · cases hv
  · obtain ⟨rfl, _⟩ : g = g' ∧ _ := by simpa using hv
    have hj := (List.getElem?_eq_some_iff.1 hu).1
    rw [cC_length] at hj
    have ha : (⟨g, 0, none⟩ : Addr).add j = ⟨g, j, none⟩ := by unfold Addr.add; split <;> simp_all
    rw [ha, Lib.cell_of_heap hg]
    rw [← ht, List.getElem?_take, if_pos hj] at hu
    simpa using hu
/-- The list of claims, in an own row. -/
def All (W w : World) (a : Option Addr) (n cc : Nat) (A : List C) : Prop := n = A.length ∧ Has W w ((RowT 23 4 (.slice a n cc) n (cC A)).sep .emp)
theorem row_null {w : World} {base n : Nat} {a : Option Addr} {c : Nat} {l : List C} (h : w.ownsRow base 23 4 (.slice a n c) n (cC l)) (hl : 0 < n) : ∃ g, a = some ⟨g, 0, none⟩ := by
  rcases h.2 with ⟨hv, h1⟩ | ⟨g', cap', cur, hv, _⟩
  · omega
  · exact ⟨g', by simpa using (show a = some ⟨g', 0, none⟩ ∧ _ by simpa using hv).1⟩

set_option maxHeartbeats 8000000 in
set_option maxRecDepth 100000 in
theorem truth_few (ua : Option Addr) (uc : Nat) (va : Option Addr) (vc : Nat) (xa : Option Addr) (xc : Nat) (l : List Txt) (g : List UInt8) (keys : List Txt) (c : C) (w : World)
    (hu : IsSl w (.slice ua l.length uc) (strs l)) (hv : IsSl w (.slice va g.length vc) (bys g)) (hx : IsSl w (.slice xa keys.length xc) (strs keys))
    (hl : l.length ≤ 8) (hg : g.length ≤ 6) (hk : keys.length ≤ 6) (hs : ∀ z ∈ l, z.length ≤ 9223372036854775807) (hks : ∀ z ∈ keys, z.length ≤ 9223372036854775807) (hc : c.fits) (ht : Tab w) :
    Calls Tryd.prog 7 #[.slice ua l.length uc, .slice va g.length vc, .slice xa keys.length xc, c.v] w fun e w' => e = .returned (.bool true) ∧ Fr w w' := by
  obtain ⟨i0, hi, hz0, hz1, hz2⟩ := info_parts infoC
  have HIN := Lib.hid hi
  have HU := Lib.hid (show ∀ w', Fr w w' → IsSl w' (.slice ua l.length uc) (strs l) from fun w' h => hu.fr h)
  have HV := Lib.hid (show ∀ w', Fr w w' → IsSl w' (.slice va g.length vc) (bys g) from fun w' h => hv.fr h)
  have HXX := Lib.hid (show ∀ w', Fr w w' → IsSl w' (.slice xa keys.length xc) (strs keys) from fun w' h => hx.fr h)
  have HS := Lib.hid hs
  have HKS := Lib.hid hks
  have HCF := Lib.hid hc
  have HCV := Lib.hid (show c.v = .agg #[.int .i64 c.k, .int .i64 c.n, .int .i64 c.t, .string (S c.s)] from rfl)
  have HF1 := Lib.hid (Fr.alloc w (.cells #[.int .i64 c.k, .int .i64 c.n, .int .i64 c.t, .string (S c.s)] 23))
  have HCA := Lib.hid (CAt.new w c)
  have HT1 := Lib.hid (ht.fr HF1.out)
  rw [HCV.out]
  clear hi hu hv hx hs hks hc ht
  go_enter Tryd.func7, Tryd.ntmps7
  go_wp2_with fail
  generalize w.alloc (.cells #[.int .i64 c.k, .int .i64 c.n, .int .i64 c.t, .string (S c.s)] 23) = w1 at *
  generalize w.heap.size = D at *
  refine (small_any _ HT1.out).mono ?_
  rintro e w2 ⟨rfl, hf2⟩
  have HF2 := Lib.hid (HF1.out.trans hf2)
  have HCA2 := Lib.hid (HCA.out.fr hf2)
  clear hf2 HCA HF1 HT1
  go_wp2_with fail
  go_loopw [10] (fun i wr => ∃ k : Nat, k ≤ l.length ∧ i = .int .i64 k ∧ wr = w2 ∧ Hid (∀ (j : Nat) (h : j < l.length), j < k → l[j].length ≤ 100)) (fun i _ => l.length - (intOf i).toNat)
  case atStart => exact ⟨0, Nat.zero_le _, rfl, rfl, Lib.hid (fun j _ h => by omega)⟩
  case round =>
    obtain ⟨k, hk1, rfl, rfl, hA⟩ := hrel
    by_cases hlt : k < l.length
    · as_aux_lemma => -- slow
        obtain ⟨b, o, rfl, c1⟩ := sl_strs (HU.out wr HF2.out) hlt
        have hz := HS.out _ (List.getElem_mem hlt)
        by_cases hb : l[k].length ≤ 100
        · have HA := Lib.hid (show ∀ (j : Nat) (h : j < l.length), j < k + 1 → l[j].length ≤ 100 from fun j hj hjk => by
            rcases Nat.lt_or_ge j k with h2 | h2
            · exact hA.out j hj h2
            · obtain rfl : j = k := by omega
              exact hb)
          clear hA
          generalize l[k] = z at *
          go_wp2_with fail
          go_roundw
          case rel => exact ⟨k + 1, by omega, by go_num, trivial, HA⟩
          case measure => simp [intOf]; omega
        · clear hA
          generalize l[k] = z at *
          go_wp2_with fail
          go_ret
          exact ⟨rfl, HF2.out⟩
      -- /slow
    · have HL : Hid (∀ z ∈ l, z.length ≤ 100) := Lib.hid fun z hz => by
        obtain ⟨j, hj, rfl⟩ := List.getElem_of_mem hz
        exact hA.out j hj (by omega)
      clear hA HS
      go_wp2_with fail
      refine (entries_any _ l _ (HU.out wr HF2.out) hl HL.out).mono ?_
      rintro e w3 hE
      rcases hE with ⟨hok, ea, ec, rfl, hR⟩ | ⟨hno, rfl, hf3⟩
      · have HOK := Lib.hid hok
        have HR := Lib.hid hR
        clear hok hR
        obtain ⟨W0, rfl⟩ : ∃ W0, W0 = wr := ⟨_, rfl⟩
        go_upto_region 12 with fail
        go_cut [11] (fun av wx => ∃ (a : Option Addr) (n cc : Nat), av = .slice a n cc ∧ n ≤ 14 ∧ Hid (All W0 wx a n cc (allB l g)))
        case first =>
          as_aux_lemma => -- slow
            have HBL := Lib.hid (allB_len l g)
            go_wp2_with fail
            refine (lsizes_any _ _ l g _ (HU.out w3 (HF2.out.trans HR.out.toFr)) (HV.out w3 (HF2.out.trans HR.out.toFr)) hl hg).mono ?_
            rintro e w4 ⟨a2, c2, rfl, hnil, hR2⟩
            have H4 := Lib.hid ((HR.out.add hR2).comm)
            clear hR2
            have HEL := Lib.hid (entL_len l l.length)
            have HSL := Lib.hid (szL_len l.length g g.length)
            have HAB := Lib.hid (show allB l g = entL l l.length ++ szL l.length g g.length from rfl)
            rcases Nat.eq_zero_or_pos g.length with h0 | h0
            · obtain ⟨rfl, rfl⟩ := hnil h0
              have HAB2 := Lib.hid (show allB l g = entL l l.length by rw [HAB.out, h0]; simp [szL])
              have H00 := Lib.hid h0
              clear hnil h0
              go_wp2_with (at_builtin; refine wpList_append_own_none rfl _ _ 38 rfl 0 23 i0 4 Tryd.underlying38 HIN.out _ l.length _ rfl H4.out.row (by show Value.slice none g.length 0 = _; rw [H00.out]) ?_)
              go_wp2_with fail
              go_meet
              exact ⟨_, _, _, rfl, by omega, Lib.hid ⟨by rw [HAB2.out, HEL.out], by rw [HAB2.out]; exact H4.out.left.emp⟩⟩
            · obtain ⟨g2, rfl⟩ := row_null H4.out.right.emp.row h0
              clear hnil
              go_wp2_with (at_builtin; refine wpList_app_from rfl _ _ 38 rfl 23 i0 (.agg #[.int .i64 0, .int .i64 0, .int .i64 0, .string (S [])]) 4 40 Tryd.underlying38 HIN.out hz0 hz1 hz2 rfl (by decide) rfl H4.out ⟨g2, 0, none⟩ g.length c2 (cC (szL l.length g g.length)) rfl (by rw [cC_length, HSL.out]) (row_news H4.out.right.emp.row HSL.out.symm) (cC_one _) h0 (by omega) (by decide) ?_; intro g3 cap w5 h5)
              go_wp2_with fail
              have H5 := Lib.hid h5.left.emp
              clear h5
              go_meet
              exact ⟨_, _, _, rfl, by omega, Lib.hid ⟨by rw [HAB.out, List.length_append, HEL.out, HSL.out], by rw [HAB.out, cC_append]; exact H5.out⟩⟩
          -- /slow
        case rest =>
          obtain ⟨a, n, cc, rfl, hn14, hA⟩ := hcut
          have HKL : Hid (∀ k, (allL l g keys k).length ≤ 68) := Lib.hid fun k => allL_len l g keys k hl hg hk
          have HA0 : Hid (All W0 wc a n cc (allL l g keys 0)) := Lib.hid (by rw [show allL l g keys 0 = allB l g by unfold allL; simp]; exact hA.out)
          clear hA HR
          go_wp2_with fail
          go_loopw [11, 13] (fun v i wr => ∃ (k : Nat) (a : Option Addr) (n cc : Nat), k ≤ keys.length ∧ i = .int .i64 k ∧ v = .slice a n cc ∧ n ≤ 68 ∧ Hid (All W0 wr a n cc (allL l g keys k))) (fun _ i _ => keys.length - (intOf i).toNat)
          case atStart => exact ⟨0, _, _, _, Nat.zero_le _, rfl, rfl, by omega, HA0⟩
          case round =>
            clear HA0 hn14
            obtain ⟨kk, a, n, cc, hkk, rfl, rfl, hn, hA⟩ := hrel
            by_cases hlt2 : kk < keys.length
            · as_aux_lemma => -- slow
                obtain ⟨b, o, rfl, c1⟩ := sl_strs (HXX.out W0 HF2.out) hlt2
                have hz := HKS.out _ (List.getElem_mem hlt2)
                have HQ := Lib.hid (allL_succ l g keys kk hlt2)
                have HC1 := Lib.hid c1
                obtain ⟨q, hq⟩ : ∃ q, q = keys[kk] := ⟨_, rfl⟩
                rw [← hq] at hz HQ HC1
                clear hq c1
                obtain ⟨P, hP⟩ : ∃ P, P = allL l g keys kk := ⟨_, rfl⟩
                rw [← hP] at hA HQ
                have HPL := Lib.hid (show P.length + l.length + 2 ≤ 1000 by rw [hP]; have := HKL.out kk; omega)
                clear hP
                go_wp2_with fail
                have HA0 : Hid (All W0 wr a n cc (P ++ absKn l q 0)) := Lib.hid (by rw [show absKn l q 0 = [] by unfold absKn; simp, List.append_nil]; exact hA.out)
                clear hA
                go_loopw [11, 14] (fun v i wr2 => ∃ (m : Nat) (a : Option Addr) (n cc : Nat), m ≤ l.length + 1 ∧ i = .int .i64 m ∧ v = .slice a n cc ∧ (100 < q.length → m = 0) ∧ Hid (All W0 wr2 a n cc (P ++ absKn l q m))) (fun _ i _ => l.length + 1 - (intOf i).toNat)
                case atStart => exact ⟨0, _, _, _, Nat.zero_le _, rfl, rfl, fun _ => rfl, HA0⟩
                case round =>
                  clear HA0 hn
                  obtain ⟨m, a, n, cc, hm, rfl, rfl, hq0, hA⟩ := hrel
                  have HQ0 := Lib.hid hq0
                  have c1 := hA.out.2.toFr.cell HC1.out
                  have hnl : n ≤ 1000 := by
                    have h1 := hA.out.1
                    have h2 := absKn_len l q m
                    have := HPL.out
                    rw [List.length_append] at h1
                    omega
                  clear hq0
                  by_cases hml : m ≤ l.length
                  · by_cases hq100 : q.length ≤ 100
                    · have HSU := Lib.hid (absKn_succ l q m)
                      have HAB := Lib.hid (fun w' h => absent_any (.slice ua l.length uc) l (m : Int) q w' (HU.out w' h) hl HL.out)
                      generalize absB l (m : Int) q = y at *
                      go_wp2_with fail
                      refine (HAB.out _ (HF2.out.trans hA.out.2.toFr)).mono ?_
                      rintro e w4 ⟨rfl, hf4⟩
                      have H4 := Lib.hid (show All W0 w4 a n cc (P ++ absKn l q m) from ⟨hA.out.1, hA.out.2.fr hf4⟩)
                      replace c1 := hf4.cell c1
                      clear hA hf4 HAB
                      cases y with
                      | false =>
                        have H5 : Hid (All W0 w4 a n cc (P ++ absKn l q (m + 1))) := Lib.hid (by rw [HSU.out, if_neg (by simp)]; exact H4.out)
                        clear H4
                        go_wp2_with fail
                        go_roundw
                        case rel => exact ⟨m + 1, _, _, _, by omega, by go_num, rfl, fun h => by omega, H5⟩
                        case measure => simp [intOf]; omega
                      | true =>
                        go_wp2_with (at_builtin; refine wpList_app rfl _ _ 38 rfl 23 i0 (.agg #[.int .i64 0, .int .i64 0, .int .i64 0, .string (S [])]) 4 40 Tryd.underlying38 HIN.out hz0 hz1 hz2 rfl (by decide) rfl H4.out.2 1 1 [.int .i64 2, .int .i64 (m : Int), .int .i64 0, .string (S q)] rfl rfl (by simp [Value.oneCell']) (by decide) (by omega) (by decide) ?_; intro g3 cap w5 h5)
                        go_wp2_with fail
                        have H5 : Hid (All W0 w5 (some ⟨g3, 0, none⟩) (n + 1) cap (P ++ absKn l q (m + 1))) := Lib.hid (by
                          rw [HSU.out, if_pos (by first | trivial | rfl), ← List.append_assoc]
                          exact ⟨by rw [List.length_append, ← H4.out.1]; rfl, by rw [cC_append]; exact h5⟩)
                        clear h5 H4
                        go_roundw
                        case rel => exact ⟨m + 1, _, _, _, by omega, by go_num, rfl, fun h => by omega, H5⟩
                        case measure => simp [intOf]; omega
                    · have H5 : Hid (All W0 wr a n cc (allL l g keys (kk + 1))) := Lib.hid (by
                        rw [HQ.out, show absK l q = absKn l q m by unfold absK; rw [if_neg hq100, HQ0.out (by omega)]; unfold absKn; simp]
                        exact hA.out)
                      have hn68 : n ≤ 68 := by rw [H5.out.1]; exact HKL.out _
                      clear hA
                      go_wp2_with fail
                      go_roundw
                      case rel => exact ⟨kk + 1, _, _, _, by omega, by go_num, rfl, hn68, H5⟩
                      case measure => simp [intOf]; omega
                  · have H5 : Hid (All W0 wr a n cc (allL l g keys (kk + 1))) := Lib.hid (by
                      have hq : q.length ≤ 100 := by
                        by_cases h : q.length ≤ 100
                        · exact h
                        · have := HQ0.out (by omega); omega
                      rw [HQ.out, show absK l q = absKn l q m by unfold absK; rw [if_pos hq, show m = l.length + 1 by omega]]
                      exact hA.out)
                    have hn68 : n ≤ 68 := by rw [H5.out.1]; exact HKL.out _
                    clear hA
                    go_wp2_with fail
                    go_roundw
                    case rel => exact ⟨kk + 1, _, _, _, by omega, by go_num, rfl, hn68, H5⟩
                    case measure => simp [intOf]; omega
              -- /slow
            · obtain rfl : kk = keys.length := by omega
              have HNO : Hid (∀ a b, a ∈ allL l g keys keys.length → b ∈ allL l g keys keys.length → contra a b = false) := Lib.hid fun a b ha hb => allL_no ha hb
              obtain ⟨A, hAA⟩ : ∃ A, A = allL l g keys keys.length := ⟨_, rfl⟩
              have HFIT : Hid (∀ a ∈ A, a.fits) := Lib.hid (by
                intro a ha
                rw [hAA] at ha
                exact tr_fits hl hg HL.out HKS.out ha)
              rw [← hAA] at hA HNO
              have HAA := Lib.hid hAA
              clear hAA hlt2
              obtain ⟨hnA, hA1⟩ := hA.out
              subst hnA
              have hA := Lib.hid hA1
              clear hA1
              obtain ⟨ra, hra⟩ : ∃ ra, ra = a := ⟨_, rfl⟩
              obtain ⟨rc, hrc⟩ : ∃ rc, rc = cc := ⟨_, rfl⟩
              rw [← hra, ← hrc] at hA ⊢
              clear hra hrc
              go_wp2_with fail
              go_loopw [15, 16] (fun b i wr => ∃ (k : Nat), k ≤ A.length ∧ i = .int .i64 k ∧ b = .bool (beat (A.take k) c) ∧ Hid (Has W0 wr ((RowT 23 4 (.slice ra A.length rc) A.length (cC A)).sep .emp))) (fun _ i _ => A.length - (intOf i).toNat)
              case atStart => exact ⟨0, Nat.zero_le _, rfl, rfl, hA⟩
              case round =>
                clear hA
                obtain ⟨kk, hkk, rfl, rfl, hA⟩ := hrel
                by_cases hlt : kk < A.length
                · obtain ⟨g2, rfl, hin⟩ := hA.out.c rfl hlt
                  have HBT := Lib.hid (beat_take A c kk hlt)
                  have HAK := Lib.hid (show A[kk] ∈ A from List.getElem_mem hlt)
                  have HCK := Lib.hid (show ∀ w', Has W0 w' ((RowT 23 4 (.slice (some ⟨g2, 0, none⟩) A.length rc) A.length (cC A)).sep .emp) → CIn w' g2 (kk * 4) A[kk] from fun w' h => by
                    obtain ⟨g', hg', h'⟩ := h.c rfl hlt
                    obtain rfl : g2 = g' := by simpa using hg'
                    exact h')
                  have HCJ := Lib.hid (show ∀ w' j (hj : j < A.length), Has W0 w' ((RowT 23 4 (.slice (some ⟨g2, 0, none⟩) A.length rc) A.length (cC A)).sep .emp) → CIn w' g2 (j * 4) A[j] from fun w' j hj h => by
                    obtain ⟨g', hg', h'⟩ := h.c rfl hj
                    obtain rfl : g2 = g' := by simpa using hg'
                    exact h')
                  clear hin
                  obtain ⟨a, ha⟩ : ∃ a, a = A[kk] := ⟨_, rfl⟩
                  rw [← ha] at HBT HAK HCK
                  clear ha
                  go_wp2_with fail
                  go_loopw [17] (fun i wr => ∃ (j : Nat), j ≤ kk ∧ i = .int .i64 j ∧ Hid (Has W0 wr ((RowT 23 4 (.slice (some ⟨g2, 0, none⟩) A.length rc) A.length (cC A)).sep .emp))) (fun i _ => kk - (intOf i).toNat)
                  case atStart => exact ⟨0, Nat.zero_le _, rfl, hA⟩
                  case round =>
                    clear hA
                    obtain ⟨j, hj, rfl, hA⟩ := hrel
                    by_cases hjk : j < kk
                    · as_aux_lemma => -- slow
                        have hjA : (j : Int) < (A.length : Int) := by omega
                        have hkA : (kk : Int) < (A.length : Int) := by omega
                        have HBJ := Lib.hid (show A[j] ∈ A from List.getElem_mem (by omega))
                        have HCB := Lib.hid (fun w' => HCJ.out w' j (by omega))
                        obtain ⟨b, hb⟩ : ∃ b, b = A[j] := ⟨_, rfl⟩
                        rw [← hb] at HBJ HCB
                        clear hb
                        have HCT := Lib.hid (fun w' => contra_any a b w' (HFIT.out a HAK.out) (HFIT.out b HBJ.out))
                        rw [HNO.out a b HAK.out HBJ.out] at HCT
                        unfold C.v at HCT
                        unfold CIn at HCK HCB
                        have HX := Lib.hid (show ∀ wx, Has W0 wx ((RowT 23 4 (.slice (some ⟨g2, 0, none⟩) A.length rc) A.length (cC A)).sep .emp) → wx.cell? ⟨g2, kk * 4, none⟩ = some (.int .i64 a.k) ∧ wx.cell? ⟨g2, kk * 4 + 1, none⟩ = some (.int .i64 a.n) ∧ wx.cell? ⟨g2, kk * 4 + 2, none⟩ = some (.int .i64 a.t) ∧ wx.cell? ⟨g2, kk * 4 + 3, none⟩ = some (.string (S a.s)) ∧ wx.cell? ⟨g2, j * 4, none⟩ = some (.int .i64 b.k) ∧ wx.cell? ⟨g2, j * 4 + 1, none⟩ = some (.int .i64 b.n) ∧ wx.cell? ⟨g2, j * 4 + 2, none⟩ = some (.int .i64 b.t) ∧ wx.cell? ⟨g2, j * 4 + 3, none⟩ = some (.string (S b.s)) from fun wx h =>
                          let ⟨p0, p1, p2, p3⟩ := HCK.out wx h
                          let ⟨q0, q1, q2, q3⟩ := HCB.out wx h
                          ⟨p0, p1, p2, p3, q0, q1, q2, q3⟩)
                        obtain ⟨p0, p1, p2, p3, q0, q1, q2, q3⟩ := HX.out wr hA.out
                        have HD0 := Lib.hid (hA.out.fr (Fr.drew wr))
                        have HCD := Lib.hid (HX.out _ HD0.out)
                        go_upto_region 28 with fail
                        go_cut [118] (fun b wx => b = .bool false ∧ Hid (Has W0 wx ((RowT 23 4 (.slice (some ⟨g2, 0, none⟩) A.length rc) A.length (cC A)).sep .emp)))
                        case first =>
                          go_region_held3 (fun wx => wx.cell? ⟨g2, kk * 4, none⟩ = some (.int .i64 a.k) ∧ wx.cell? ⟨g2, kk * 4 + 1, none⟩ = some (.int .i64 a.n) ∧ wx.cell? ⟨g2, kk * 4 + 2, none⟩ = some (.int .i64 a.t) ∧ wx.cell? ⟨g2, kk * 4 + 3, none⟩ = some (.string (S a.s)) ∧ wx.cell? ⟨g2, j * 4, none⟩ = some (.int .i64 b.k) ∧ wx.cell? ⟨g2, j * 4 + 1, none⟩ = some (.int .i64 b.n) ∧ wx.cell? ⟨g2, j * 4 + 2, none⟩ = some (.int .i64 b.t) ∧ wx.cell? ⟨g2, j * 4 + 3, none⟩ = some (.string (S b.s)))
                            (first | exact HCD.out | exact HC2.out)
                            (first | (go_at_call 17; refine (HCT.out _).mono ?_; rintro e w11 ⟨rfl, h11⟩; have H11 := Lib.hid (HD0.out.fr h11); have HC2 := Lib.hid (HX.out _ H11.out); clear h11))
                          all_goals (go_wp2_with fail; go_meet; exact ⟨rfl, H11⟩)
                        case rest =>
                          obtain ⟨rfl, hR5⟩ := hcut
                          clear p0 p1 p2 p3 q0 q1 q2 q3 HD0 HCD hA
                          go_wp2_with fail
                          go_roundw
                          case rel => exact ⟨j + 1, by omega, by go_num, hR5⟩
                          case measure => simp [intOf]; omega
                      -- /slow
                    · obtain rfl : j = kk := by omega
                      obtain ⟨kk, hkk0⟩ : ∃ kk, kk = j := ⟨_, rfl⟩
                      subst hkk0
                      as_aux_lemma => -- slow
                        have hkA : (kk : Int) < (A.length : Int) := by omega
                        obtain ⟨bt, hbt⟩ : ∃ bt, bt = beat (A.take kk) c := ⟨_, rfl⟩
                        rw [← hbt] at HBT ⊢
                        clear hbt
                        cases bt with
                        | true =>
                          have HB2 := Lib.hid (show beat (A.take (kk + 1)) c = true by rw [HBT.out]; rfl)
                          go_upto_region 30 with fail
                          go_quiet (fail)
                          have H2 := Lib.hid (hA.out.fr (Fr.drewN wr nq))
                          generalize wr.drewN nq = wd at *
                          go_wp2_with fail
                          go_roundw
                          case rel => exact ⟨kk + 1, by omega, by go_num, by rw [HB2.out], H2⟩
                          case measure => simp [intOf]; omega
                        | false =>
                          have HCT := Lib.hid (fun w' => contra_any c a w' HCF.out (HFIT.out a HAK.out))
                          rw [show contra c a = beat (A.take (kk + 1)) c by rw [HBT.out]; simp] at HCT
                          unfold C.v at HCT
                          unfold CIn at HCK
                          have HX := Lib.hid (show ∀ wx, Has W0 wx ((RowT 23 4 (.slice (some ⟨g2, 0, none⟩) A.length rc) A.length (cC A)).sep .emp) → wx.cell? ⟨D, 0, none⟩ = some (.int .i64 c.k) ∧ wx.cell? ⟨D, 1, none⟩ = some (.int .i64 c.n) ∧ wx.cell? ⟨D, 2, none⟩ = some (.int .i64 c.t) ∧ wx.cell? ⟨D, 3, none⟩ = some (.string (S c.s)) ∧ wx.cell? ⟨g2, kk * 4, none⟩ = some (.int .i64 a.k) ∧ wx.cell? ⟨g2, kk * 4 + 1, none⟩ = some (.int .i64 a.n) ∧ wx.cell? ⟨g2, kk * 4 + 2, none⟩ = some (.int .i64 a.t) ∧ wx.cell? ⟨g2, kk * 4 + 3, none⟩ = some (.string (S a.s)) from fun wx h =>
                            let ⟨p0, p1, p2, p3⟩ := HCA2.out.fr h.toFr
                            let ⟨q0, q1, q2, q3⟩ := HCK.out wx h
                            ⟨p0, p1, p2, p3, q0, q1, q2, q3⟩)
                          obtain ⟨y, hy⟩ : ∃ y, y = beat (A.take (kk + 1)) c := ⟨_, rfl⟩
                          rw [← hy] at HCT
                          have HY := Lib.hid hy
                          clear hy HBT
                          obtain ⟨p0, p1, p2, p3, q0, q1, q2, q3⟩ := HX.out wr hA.out
                          have HD0 := Lib.hid (hA.out.fr (Fr.drew wr))
                          have HCD := Lib.hid (HX.out _ HD0.out)
                          go_upto_region 30 with fail
                          go_region_held3 (fun wx => wx.cell? ⟨D, 0, none⟩ = some (.int .i64 c.k) ∧ wx.cell? ⟨D, 1, none⟩ = some (.int .i64 c.n) ∧ wx.cell? ⟨D, 2, none⟩ = some (.int .i64 c.t) ∧ wx.cell? ⟨D, 3, none⟩ = some (.string (S c.s)) ∧ wx.cell? ⟨g2, kk * 4, none⟩ = some (.int .i64 a.k) ∧ wx.cell? ⟨g2, kk * 4 + 1, none⟩ = some (.int .i64 a.n) ∧ wx.cell? ⟨g2, kk * 4 + 2, none⟩ = some (.int .i64 a.t) ∧ wx.cell? ⟨g2, kk * 4 + 3, none⟩ = some (.string (S a.s)))
                            (first | exact HCD.out | exact HC2.out)
                            (first | (go_at_call 17; refine (HCT.out _).mono ?_; rintro e w11 ⟨rfl, h11⟩; have H11 := Lib.hid (HD0.out.fr h11); have HC2 := Lib.hid (HX.out _ H11.out); clear h11))
                          all_goals
                            have hR5 := H11
                            clear p0 p1 p2 p3 q0 q1 q2 q3 HD0 HCD hA
                            go_wp2_with fail
                            go_roundw
                            case rel => exact ⟨kk + 1, by omega, by go_num, by rw [HY.out], hR5⟩
                            case measure => simp [intOf]; omega
                      -- /slow
                · obtain rfl : kk = A.length := by omega
                  rw [List.take_length]
                  have HR := Lib.hid (fun w' => right_any c w' HCF.out)
                  have HC0 := Lib.hid (show ∀ wx, Fr W0 wx → wx.cell? ⟨D, 0, none⟩ = some (.int .i64 c.k) ∧ wx.cell? ⟨D, 1, none⟩ = some (.int .i64 c.n) ∧ wx.cell? ⟨D, 2, none⟩ = some (.int .i64 c.t) ∧ wx.cell? ⟨D, 3, none⟩ = some (.string (S c.s)) from fun wx h => HCA2.out.fr h)
                  unfold C.v at HR
                  have HW1 : Hid (okB c = true → c.k = 2 → absB l c.n c.s = false → beat A c = true) := Lib.hid fun h1 h2 h3 => by rw [HAA.out]; exact wrong_abs h1 HOK.out h2 h3
                  have HW2 : Hid (∀ i (hi : i < l.length), okB c = true → c.k = 0 → c.n = i → (c.s != l[i]) = true → beat A c = true) := Lib.hid fun i hi h1 h2 h3 h4 => by rw [HAA.out]; exact wrong_ent h1 HOK.out h2 hi h3 (bne_iff_ne.1 h4)
                  have HW3 : Hid (∀ i, i < g.length → okB c = true → c.k = 1 → c.t = 10 * (i : Int) → (c.n != ((szN l.length g (i + 1) : Nat) : Int)) = true → beat A c = true) := Lib.hid fun i hi h1 h2 h3 h4 => by rw [HAA.out]; exact wrong_sz h1 hl hg h2 hi h3 (bne_iff_ne.1 h4)
                  have HBN := Lib.hid (show okB c = false → beat A c = false from fun h => beat_no h)
                  have HF0 := Lib.hid hA.out.toFr
                  have hcs := HCF.out.2.2.2
                  have HAB := Lib.hid (fun w' h => absent_any (.slice ua l.length uc) l c.n c.s w' (HU.out w' h) hl HL.out)
                  generalize beat A c = bt at *
                  generalize okB c = oc at *
                  obtain ⟨p0, p1, p2, p3⟩ := HC0.out wr HF0.out
                  clear hA hkk hlt HNO HFIT HAA
                  go_wp2_with fail
                  refine (HR.out _).mono ?_
                  rintro e w4 ⟨rfl, hf4⟩
                  have HF4 := Lib.hid (HF0.out.trans hf4)
                  clear HF0 hf4 p0 p1 p2 p3 HR
                  cases oc with
                  | false =>
                    have hbt := HBN.out (by first | trivial | rfl)
                    subst hbt
                    go_wp2_with fail
                    go_ret
                    exact ⟨rfl, HF2.out.trans HF4.out⟩
                  | true =>
                    obtain ⟨p0, p1, p2, p3⟩ := HC0.out w4 HF4.out
                    go_upto_region 33 with fail
                    go_cut [18] (fun b wx => ∃ x, b = .bool x ∧ (x = true → bt = true) ∧ Hid (Fr W0 wx))
                    case first =>
                      as_aux_lemma => -- slow
                        by_cases h2 : c.k = 2
                        · have hb2 : (c.k == 2) = true := by rw [h2]; rfl
                          have h22 := Lib.hid h2
                          clear h2
                          by_cases hn : c.n ≤ (l.length : Int)
                          · obtain ⟨y, hy⟩ : ∃ y, y = absB l c.n c.s := ⟨_, rfl⟩
                            have HYW := Lib.hid (show y = false → bt = true from fun h => HW1.out (by first | trivial | rfl) h22.out (by rw [← hy, h]))
                            rw [← hy] at HAB
                            clear hy
                            go_wp2_with fail
                            refine (HAB.out _ (HF2.out.trans HF4.out)).mono ?_
                            rintro e w5 ⟨rfl, hf5⟩
                            have HF5 := Lib.hid (HF4.out.trans hf5)
                            clear hf5
                            cases y with
                            | true =>
                              go_wp2_with fail
                              go_meet
                              exact ⟨false, rfl, by simp, HF5⟩
                            | false =>
                              have HBT2 := Lib.hid (HYW.out rfl)
                              go_wp2_with fail
                              go_meet
                              exact ⟨true, rfl, fun _ => HBT2.out, HF5⟩
                          · go_wp2_with fail
                            go_meet
                            exact ⟨false, rfl, by simp, HF4⟩
                        · have hb2 : (c.k == 2) = false := beq_eq_false_iff_ne.2 h2
                          clear h2
                          go_wp2_with fail
                          go_meet
                          exact ⟨false, rfl, by simp, HF4⟩
                      -- /slow
                    case rest =>
                      obtain ⟨x, rfl, hxb, hF5⟩ := hcut
                      have HXB := Lib.hid hxb
                      clear hxb p0 p1 p2 p3
                      go_wp2_with fail
                      go_loopw [18, 19] (fun b i wr => ∃ (k : Nat) (x : Bool), k ≤ l.length ∧ i = .int .i64 k ∧ b = .bool x ∧ Hid (x = true → bt = true) ∧ Hid (Fr W0 wr)) (fun _ i _ => l.length - (intOf i).toNat)
                      case atStart => exact ⟨0, x, Nat.zero_le _, rfl, rfl, HXB, hF5⟩
                      case round =>
                        clear HXB hF5
                        obtain ⟨kk, x, hkk, rfl, rfl, hXB, hF5⟩ := hrel
                        by_cases hlt : kk < l.length
                        · as_aux_lemma => -- slow
                            obtain ⟨b, o, rfl, c1⟩ := sl_strs (HU.out wr (HF2.out.trans hF5.out)) hlt
                            have HWK := Lib.hid (fun h2 h3 h4 => HW2.out kk hlt (by first | trivial | rfl) h2 h3 h4)
                            have hzl := HL.out _ (List.getElem_mem hlt)
                            have hkl : (kk : Int) < (l.length : Int) := by omega
                            generalize l[kk] = z at *
                            obtain ⟨p0, p1, p2, p3⟩ := HC0.out wr hF5.out
                            go_upto_region 37 with fail
                            cases x with
                            | true =>
                              have HBT2 := Lib.hid (hXB.out (by first | trivial | rfl))
                              go_quiet (fail)
                              have H2 := Lib.hid (hF5.out.trans (Fr.drewN wr nq))
                              generalize wr.drewN nq = wd at *
                              go_wp2_with fail
                              go_roundw
                              case rel => exact ⟨kk + 1, true, by omega, by go_num, rfl, Lib.hid fun _ => HBT2.out, H2⟩
                              case measure => simp [intOf]; omega
                            | false =>
                              by_cases h0 : c.k = 0
                              · have hb0 : (c.k == 0) = true := by rw [h0]; rfl
                                by_cases hn : c.n = (kk : Int)
                                · have hbn : (c.n == (kk : Int)) = true := by rw [hn]; exact beq_self_eq_true _
                                  have HV2 := Lib.hid (show (c.s != z) = true → bt = true from HWK.out h0 hn)
                                  clear h0 hn
                                  go_quiet (fail)
                                  have H2 := Lib.hid (hF5.out.trans (Fr.drewN wr nq))
                                  generalize wr.drewN nq = wd at *
                                  go_wp2_with fail
                                  go_roundw
                                  case rel => exact ⟨kk + 1, _, by omega, by go_num, rfl, HV2, H2⟩
                                  case measure => simp [intOf]; omega
                                · have hbn : (c.n == (kk : Int)) = false := beq_eq_false_iff_ne.2 hn
                                  clear h0 hn
                                  go_quiet (fail)
                                  have H2 := Lib.hid (hF5.out.trans (Fr.drewN wr nq))
                                  generalize wr.drewN nq = wd at *
                                  go_wp2_with fail
                                  go_roundw
                                  case rel => exact ⟨kk + 1, false, by omega, by go_num, rfl, hXB, H2⟩
                                  case measure => simp [intOf]; omega
                              · have hb0 : (c.k == 0) = false := beq_eq_false_iff_ne.2 h0
                                clear h0
                                go_quiet (fail)
                                have H2 := Lib.hid (hF5.out.trans (Fr.drewN wr nq))
                                generalize wr.drewN nq = wd at *
                                go_wp2_with fail
                                go_roundw
                                case rel => exact ⟨kk + 1, false, by omega, by go_num, rfl, hXB, H2⟩
                                case measure => simp [intOf]; omega
                          -- /slow
                        · clear hkk
                          go_wp2_with fail
                          refine (lsizes_any _ _ l g _ (HU.out wr (HF2.out.trans hF5.out)) (HV.out wr (HF2.out.trans hF5.out)) hl hg).mono ?_
                          rintro e w6 ⟨a2, c2, rfl, hnil, hR2⟩
                          have HR2 := Lib.hid hR2.emp
                          have HFW := Lib.hid hF5.out
                          clear hR2 hnil hF5
                          obtain ⟨W1, hW1⟩ : ∃ W1, W1 = wr := ⟨_, rfl⟩
                          rw [← hW1] at HR2 HFW
                          clear hW1
                          have HSL := Lib.hid (szL_len l.length g g.length)
                          go_wp2_with fail
                          go_loopw [18, 21] (fun b i wr => ∃ (k : Nat) (x : Bool), k ≤ g.length ∧ i = .int .i64 k ∧ b = .bool x ∧ Hid (x = true → bt = true) ∧ Hid (Has W1 wr ((RowT 23 4 (.slice a2 g.length c2) g.length (cC (szL l.length g g.length))).sep .emp))) (fun _ i _ => g.length - (intOf i).toNat)
                          case atStart => exact ⟨0, x, Nat.zero_le _, rfl, rfl, hXB, HR2⟩
                          case round =>
                            clear hXB HR2
                            obtain ⟨jj, x, hjj, rfl, rfl, hXB, hR5⟩ := hrel
                            by_cases hlt : jj < g.length
                            · as_aux_lemma => -- slow
                                obtain ⟨g2, rfl, hin⟩ := hR5.out.c HSL.out.symm (i := jj) (by rw [HSL.out]; exact hlt)
                                rw [show (szL l.length g g.length)[jj]'(by rw [HSL.out]; exact hlt) = szC l.length g jj by unfold szL; simp] at hin
                                have HWK := Lib.hid (fun h2 h3 h4 => HW3.out jj hlt (by first | trivial | rfl) h2 h3 h4)
                                have hkl : (jj : Int) < (g.length : Int) := by omega
                                unfold CIn szC at hin
                                obtain ⟨_, q1, q2, _⟩ := hin
                                simp only at q1 q2
                                obtain ⟨p0, p1, p2, p3⟩ := HC0.out wr (HFW.out.trans hR5.out.toFr)
                                generalize ((szN l.length g (jj + 1) : Nat) : Int) = z at *
                                go_upto_region 42 with fail
                                cases x with
                                | true =>
                                  have HBT2 := Lib.hid (hXB.out (by first | trivial | rfl))
                                  go_quiet (fail)
                                  have H2 := Lib.hid (hR5.out.fr (Fr.drewN wr nq))
                                  generalize wr.drewN nq = wd at *
                                  go_wp2_with fail
                                  go_roundw
                                  case rel => exact ⟨jj + 1, true, by omega, by go_num, rfl, Lib.hid fun _ => HBT2.out, H2⟩
                                  case measure => simp [intOf]; omega
                                | false =>
                                  by_cases h0 : c.k = 1
                                  · have hb0 : (c.k == 1) = true := by rw [h0]; rfl
                                    by_cases hn : c.t = 10 * (jj : Int)
                                    · have hbn : (c.t == 10 * (jj : Int)) = true := by rw [hn]; exact beq_self_eq_true _
                                      have HV2 := Lib.hid (show (c.n != z) = true → bt = true from HWK.out h0 hn)
                                      clear h0 hn
                                      go_quiet (fail)
                                      have H2 := Lib.hid (hR5.out.fr (Fr.drewN wr nq))
                                      generalize wr.drewN nq = wd at *
                                      go_wp2_with fail
                                      go_roundw
                                      case rel => exact ⟨jj + 1, _, by omega, by go_num, rfl, HV2, H2⟩
                                      case measure => simp [intOf]; omega
                                    · have hbn : (c.t == 10 * (jj : Int)) = false := beq_eq_false_iff_ne.2 hn
                                      clear h0 hn
                                      go_quiet (fail)
                                      have H2 := Lib.hid (hR5.out.fr (Fr.drewN wr nq))
                                      generalize wr.drewN nq = wd at *
                                      go_wp2_with fail
                                      go_roundw
                                      case rel => exact ⟨jj + 1, false, by omega, by go_num, rfl, hXB, H2⟩
                                      case measure => simp [intOf]; omega
                                  · have hb0 : (c.k == 1) = false := beq_eq_false_iff_ne.2 h0
                                    clear h0
                                    go_quiet (fail)
                                    have H2 := Lib.hid (hR5.out.fr (Fr.drewN wr nq))
                                    generalize wr.drewN nq = wd at *
                                    go_wp2_with fail
                                    go_roundw
                                    case rel => exact ⟨jj + 1, false, by omega, by go_num, rfl, hXB, H2⟩
                                    case measure => simp [intOf]; omega
                              -- /slow
                            · cases x with
                              | true =>
                                have hbt := hXB.out (by first | trivial | rfl)
                                subst hbt
                                go_wp2_with fail
                                go_ret
                                exact ⟨rfl, HF2.out.trans (HFW.out.trans hR5.out.toFr)⟩
                              | false =>
                                go_wp2_with fail
                                go_ret
                                exact ⟨rfl, HF2.out.trans (HFW.out.trans hR5.out.toFr)⟩
      · clear hno
        go_wp2_with fail
        go_ret
        exact ⟨rfl, HF2.out.trans hf3⟩
end Go.Proofs.YtdaiapopncpilaaDoor
