/-
  BookCopies: the walk.
-/
import Derived.Test.YtailbappdfbjoaaDoorBo
namespace Go.Proofs.YtailbappdfbjoaaDoor
open Go.RowKit Go.MapKept Go.Maps Go.WideMaps

set_option maxHeartbeats 1000000 in
set_option maxRecDepth 100000 in
theorem copies_not (v u : Value) (l more : List Op3) (w : World) (hT : Tab w) (h : OSl w v l) (hu : OSl w u more) (ha : OArg l) (hm : OArg more) (hf : ¬ (FewO l ∧ FewO more ∧ more.length ≤ 10)) :
    Calls Tryd.prog 6 #[v, u] w fun e w' => e = .returned (.bool true) ∧ Fr w w' := by
  have H := Lib.hid h
  have HA := Lib.hid ha
  have HT := Lib.hid hT
  have HU := Lib.hid hu
  have HM := Lib.hid hm
  obtain ⟨ua, uc, hue⟩ := hu.len
  by_cases hl : FewO l
  · have HF := Lib.hid hl
    by_cases hg : FewO more
    · have HG := Lib.hid hg
      have hlt : ¬ (more.length ≤ 10) := fun h => hf ⟨hl, hg, h⟩
      subst hue
      clear h ha hT hu hm hl hg hf
      go_enter Tryd.func6, Tryd.ntmps6
      go_wp2_with (first
        | (go_at_call 7; refine (small_any _ HT.out).mono ?_; rintro e w1 ⟨rfl, hf1⟩)
        | (go_at_call_of 8 (Value.slice ua more.length uc); refine (fewO_yes _ (HU.out.fr hf1) HM.out HG.out).mono ?_; rintro e w3 ⟨rfl, rfl⟩)
        | (go_at_call 8; refine (fewO_yes _ (H.out.fr hf1) HA.out HF.out).mono ?_; rintro e w2 ⟨rfl, rfl⟩))
      go_ret
      exact ⟨rfl, hf1⟩
    · have HG := Lib.hid hg
      subst hue
      clear h ha hT hu hm hl hg hf
      go_enter Tryd.func6, Tryd.ntmps6
      go_wp2_with (first
        | (go_at_call 7; refine (small_any _ HT.out).mono ?_; rintro e w1 ⟨rfl, hf1⟩)
        | (go_at_call_of 8 (Value.slice ua more.length uc); refine (fewO_no _ (HU.out.fr hf1) HM.out HG.out).mono ?_; rintro e w3 ⟨rfl, rfl⟩)
        | (go_at_call 8; refine (fewO_yes _ (H.out.fr hf1) HA.out HF.out).mono ?_; rintro e w2 ⟨rfl, rfl⟩))
      go_ret
      exact ⟨rfl, hf1⟩
  · have HF := Lib.hid hl
    clear h ha hT hu hm hl hf
    go_enter Tryd.func6, Tryd.ntmps6
    go_wp2_with (first
      | (go_at_call 7; refine (small_any _ HT.out).mono ?_; rintro e w1 ⟨rfl, hf1⟩)
      | (go_at_call 8; refine (fewO_no _ (H.out.fr hf1) HA.out HF.out).mono ?_; rintro e w2 ⟨rfl, rfl⟩))
    go_ret
    exact ⟨rfl, hf1⟩
set_option maxHeartbeats 4000000 in
set_option maxRecDepth 100000 in
theorem copies_yes (ad : Option Addr) (c : Nat) (ua : Option Addr) (uc : Nat) (l more : List Op3) (w : World) (hT : Tab w) (h : OSl w (.slice ad l.length c) l) (hu : OSl w (.slice ua more.length uc) more) (ha : OArg l) (hm : OArg more) (hf : FewO l) (hg : FewO more) (hm10 : more.length ≤ 10) :
    Calls Tryd.prog 6 #[.slice ad l.length c, .slice ua more.length uc] w fun e w' => e = .returned (.bool true) ∧ Fr w w' := by
  obtain ⟨i0, hi, hz0, hz1, hz2⟩ := info_parts infoSg
  have HIN := Lib.hid hi
  obtain ⟨j0, hj, hy0, hy1, hy2⟩ := info_parts infoErr
  have HJN := Lib.hid hj
  have H := Lib.hid h
  have HA := Lib.hid ha
  have HT := Lib.hid hT
  have HU := Lib.hid hu
  have HM := Lib.hid hm
  have HF := Lib.hid hf
  have HG := Lib.hid hg
  have hll := hf.1
  clear h ha hT hu hm hf hg hi hj
  go_enter Tryd.func6, Tryd.ntmps6
  go_upto_region 10 with (first
    | (go_at_call 7; refine (small_any _ HT.out).mono ?_; rintro e w1 ⟨rfl, hf1⟩; have H1 := Lib.hid ((Has.here w).fr hf1))
    | (go_at_call_of 8 (Value.slice ua more.length uc); refine (fewO_yes _ (HU.out.fr hf1) HM.out HG.out).mono ?_; rintro e w3 ⟨rfl, rfl⟩)
    | (go_at_call 8; refine (fewO_yes _ (H.out.fr hf1) HA.out HF.out).mono ?_; rintro e w2 ⟨rfl, rfl⟩)
    | (go_at_call 9; refine (Has.ring H1.out).mono ?_; rintro e w3 ⟨R, rfl, h3⟩; have H3 := Lib.hid h3; clear h3)
    | (go_at_call 11; refine (bnew_yes H3.out 7 (by decide)).mono ?_; rintro e w5 ⟨B, rfl, h5⟩; have H5 := Lib.hid h5; clear h5))
  clear H3 H1 hf1
  go_wp2_with fail
  go_loopw [9] (fun i wr => ∃ k : Nat, k ≤ l.length ∧ i = .int .i64 k ∧ Hid (Has w wr ((BookT B R (st 7 l k).1 (st 7 l k).2).sep .emp))) (fun i _ => l.length - (intOf i).toNat)
  case atStart => exact ⟨0, Nat.zero_le _, rfl, H5⟩
  case round =>
    obtain ⟨k, hk, rfl, hR⟩ := hrel
    clear H5
    by_cases hlt : k < l.length
    · obtain ⟨Bl, o, c', hv, hc⟩ := H.out.get (by omega)
      obtain ⟨rfl, rfl⟩ : ad = some ⟨Bl, o, none⟩ ∧ c = c' := by simpa using hv
      have hst := st_ok 7 l k
      have HSK := Lib.hid hst.key
      have HOK := Lib.hid (hst.ok (by omega))
      have HQ := Lib.hid (show (st 7 l k).2.length ≤ 1000000 by have := hst.ring; omega)
      have HNX := Lib.hid (st_succ 7 l k hlt)
      have HO := Lib.hid (HA.out.2 _ (List.getElem_mem hlt))
      have HC := Lib.hid (hc k hlt)
      clear hc hv hst
      generalize l[k] = x at *
      generalize st 7 l k = p at *
      obtain ⟨s, q⟩ := p
      simp only at HSK HOK HQ hR
      have c0 := hR.out.toFr.cell HC.out.1
      have c1 := hR.out.toFr.cell HC.out.2.1
      have c2 := hR.out.toFr.cell HC.out.2.2
      go_wp2_with (go_at_call 13; refine (do_key hR.out HT.out HOK.out HQ.out x HO.out 7 HSK.out).mono ?_; rintro e w7 ⟨rfl, h7⟩; have H7 := Lib.hid h7; clear h7)
      go_roundw
      case rel => exact ⟨k + 1, by omega, by go_num, by rw [HNX.out]; exact H7⟩
      case measure => simp [intOf]; omega
    · obtain rfl : k = l.length := by omega
      have hok := st_ok 7 l l.length
      obtain ⟨p0, hp0⟩ : ∃ p0, p0 = st 7 l l.length := ⟨_, rfl⟩
      rw [← hp0] at hR hok
      have HOK := Lib.hid hok
      have HP := Lib.hid (fun k => runS_ok hok more k)
      have HQ0 := Lib.hid (show p0.2.length ≤ 1000000 by have := hok.ring; omega)
      have HB0 := Lib.hid (hok.ok (by omega))
      clear hp0 hok hlt hk
      go_upto_region 20 with (first
        | (go_at_call 29; refine (hR.out.bring HQ0.out).mono ?_; rintro e w2 ⟨R', rfl, h2⟩; have H2 := Lib.hid h2; clear h2)
        | (go_at_call 30; refine (bcopy H2.out HB0.out).mono ?_; rintro e w3 ⟨B', rfl, h3⟩; have H3 := Lib.hid h3; clear h3)
        | (go_at_call_of 17 (Value.pointer (some ⟨B', 0, none⟩)); refine (blen H3.out).mono ?_; rintro e w4 ⟨rfl, rfl⟩)
        | (go_at_call_of 17 (Value.pointer (some ⟨B, 0, none⟩)); refine (blen H3.out.turn).mono ?_; rintro e w4 ⟨rfl, rfl⟩))
      clear H2 hR
      go_upto_region 22 with (first
        | (go_at_call 19; refine (Has.ball H3.out.turn HQ0.out).mono ?_; rintro e w6 ⟨vb, rfl, ho6, hf6⟩; have H6 := Lib.hid (H3.out.radd ho6 hf6); obtain ⟨va, vc, rfl⟩ := row_form ho6; clear ho6 hf6)
        | (go_at_call 17; refine (blen H6.out.right.turn).mono ?_; rintro e w7 ⟨rfl, rfl⟩))
      clear H3
      have H7 : Hid (Has w w7 ((BookT B' R' (runS p0 (more.take 0)).1 (runS p0 (more.take 0)).2).sep ((BookT B R p0.1 p0.2).sep ((RowT 37 3 (.slice none 0 0) 0 (sgC (gL p0 more 0))).sep ((RowT 30 1 (.slice none 0 0) 0 (ints (eL p0 more 0))).sep ((RowT 56 2 (.slice va p0.2.length vc) p0.2.length (sdC p0.2)).sep .emp)))))) := Lib.hid
        (((H6.out.nilRow 30 1).nilRow 37 3).pull4.map fun _ h => sep_under h fun _ h => sep_turn (sep_under h fun _ h => sep_turn (sep_under h fun _ h => sep_turn h)))
      clear H6
      have hml : more.length ≤ 10 := hm10
      go_wp2_with fail
      go_loopw [14, 15, 16] (fun a14 a15 i wr => ∃ k : Nat, k ≤ more.length ∧ i = .int .i64 k ∧ ∃ b1 d1 b2 d2, a14 = .slice b1 k d1 ∧ a15 = .slice b2 k d2 ∧ Hid (Has w wr ((BookT B' R' (runS p0 (more.take k)).1 (runS p0 (more.take k)).2).sep ((BookT B R p0.1 p0.2).sep ((RowT 37 3 (.slice b1 k d1) k (sgC (gL p0 more k))).sep ((RowT 30 1 (.slice b2 k d2) k (ints (eL p0 more k))).sep ((RowT 56 2 (.slice va p0.2.length vc) p0.2.length (sdC p0.2)).sep .emp))))))) (fun _ _ i _ => more.length - (intOf i).toNat)
      case atStart => exact ⟨0, Nat.zero_le _, rfl, none, 0, none, 0, rfl, rfl, H7⟩
      case round =>
      obtain ⟨k, hk, rfl, b1, d1, b2, d2, rfl, rfl, hR⟩ := hrel
      clear H7
      by_cases hlt : k < more.length
      ·
        -- slow
        obtain ⟨Bl, o, c', hv, hc⟩ := HU.out.get (by omega)
        obtain ⟨rfl, rfl⟩ : ua = some ⟨Bl, o, none⟩ ∧ uc = c' := by simpa using hv
        have HSK := Lib.hid (HP.out k).key
        have HOK := Lib.hid ((HP.out k).ok (by omega))
        have HQ := Lib.hid (show (runS p0 (more.take k)).2.length ≤ 1000000 by have := (HP.out k).ring; omega)
        have HNX := Lib.hid (runS_take p0 more k hlt)
        have HO := Lib.hid (HM.out.2 _ (List.getElem_mem hlt))
        have HC := Lib.hid (hc k hlt)
        have HRG := Lib.hid (rG_at p0 more k hlt)
        have HRE := Lib.hid (rE_at p0 more k hlt)
        clear hc hv
        generalize more[k] = x at *
        generalize runS p0 (more.take k) = p at *
        obtain ⟨s, q⟩ := p
        simp only at HSK HOK HQ hR HRG HRE
        have c0 := hR.out.toFr.cell HC.out.1
        have c1 := hR.out.toFr.cell HC.out.2.1
        have c2 := hR.out.toFr.cell HC.out.2.2
        go_upto_region 28 with (go_at_call 13; refine (do_key hR.out HT.out HOK.out HQ.out x HO.out 7 HSK.out).mono ?_
                                obtain ⟨g, hg⟩ : ∃ g, g = sgO q (opO s x) := ⟨_, rfl⟩
                                obtain ⟨n, hn⟩ : ∃ n, n = opN s x := ⟨_, rfl⟩
                                obtain ⟨e1, he⟩ : ∃ e1, e1 = opE s x := ⟨_, rfl⟩
                                rw [← hg, ← hn, ← he]
                                have HG1 := Lib.hid hg
                                have HE1 := Lib.hid he
                                unfold sgV
                                clear hg hn he
                                rintro e w8 ⟨rfl, h8⟩)
        have hbx := h8.box 37 #[.int .i64 g.1, .string (S g.2.1), .int .i64 g.2.2]
        have hX := hbx.boxed
        have H8 := Lib.hid hbx.right.pull3
        obtain ⟨X, hXX⟩ : ∃ X, X = w8.heap.size := ⟨_, rfl⟩
        rw [← hXX] at hX ⊢
        generalize w8.alloc (.cells #[.int .i64 g.1, .string (S g.2.1), .int .i64 g.2.2] 37) = w9 at *
        have x0 : w9.cell? ⟨X, 0, none⟩ = some (.int .i64 g.1) := cellOf hX rfl
        have x1 : w9.cell? ⟨X, 1, none⟩ = some (.string (S g.2.1)) := cellOf hX rfl
        have x2 : w9.cell? ⟨X, 2, none⟩ = some (.int .i64 g.2.2) := cellOf hX rfl
        clear hbx hX h8 hR c0 c1 c2 hXX
        go_upto_region 29 with (at_builtin; refine wpList_app rfl _ _ 71 rfl 37 i0 (.agg #[.int .i64 0, .string (S []), .int .i64 0]) 3 32 Tryd.underlying71 HIN.out hz0 hz1 hz2 rfl (by decide) rfl H8.out 1 1 [.int .i64 g.1, .string (S g.2.1), .int .i64 g.2.2] rfl rfl (by simp [Value.oneCell']) (by decide) (by omega) (by decide) ?_; intro g1 cap1 w10 h10; have H10 := Lib.hid h10.pull4; clear h10)
        go_wp2_with (at_builtin; refine wpList_app rfl _ _ 72 rfl 30 j0 (.int .i64 0) 1 8 Tryd.underlying72 HJN.out hy0 hy1 hy2 rfl (by decide) rfl H10.out 1 1 [.int .i64 e1] rfl rfl (by simp [Value.oneCell']) (by decide) (by omega) (by decide) ?_; intro g2 cap2 w11 h11; have H11 := Lib.hid h11; clear h11)
        have HR1 : Hid (Has w w11 ((BookT B' R' (runS p0 (more.take (k + 1))).1 (runS p0 (more.take (k + 1))).2).sep ((BookT B R p0.1 p0.2).sep ((RowT 37 3 (.slice (some ⟨g1, 0, none⟩) (k + 1) cap1) (k + 1) (sgC (gL p0 more (k + 1)))).sep ((RowT 30 1 (.slice (some ⟨g2, 0, none⟩) (k + 1) cap2) (k + 1) (ints (eL p0 more (k + 1)))).sep ((RowT 56 2 (.slice va p0.2.length vc) p0.2.length (sdC p0.2)).sep .emp)))))) := Lib.hid (by
          have h1 := H11.out.turn.pull3.map fun _ h => sep_under h fun _ h => sep_turn (sep_under h fun _ h => sep_turn h)
          rw [HNX.out, gL_succ, eL_succ, sgC_append, ints_app, HRG.out, HRE.out, ← HG1.out, ← HE1.out]
          exact h1)
        clear H8 H10 H11 x0 x1 x2
        go_roundw
        case rel => exact ⟨k + 1, by omega, by go_num, _, _, _, _, rfl, rfl, HR1⟩
        case measure => simp [intOf]; omega
        -- /slow
      · obtain rfl : k = more.length := by omega
        have HPE := Lib.hid (HP.out more.length)
        have hpe : Hid ((runS p0 (more.take more.length)).2.length ≤ 1000000) := Lib.hid (by have := HPE.out.ring; omega)
        obtain ⟨pe, hpp⟩ : ∃ pe, pe = runS p0 (more.take more.length) := ⟨_, rfl⟩
        rw [← hpp] at hR hpe HPE
        have HPP := Lib.hid hpp
        clear hpp hlt hk
        go_upto_region 32 with (first
          | (go_at_call 19; refine (Has.ball hR.out.turn HQ0.out).mono ?_; rintro e w8 ⟨v8, rfl, ho8, hf8⟩; have H8 := Lib.hid (hR.out.fr hf8); have HO8 := Lib.hid ho8; clear ho8 hf8)
          | (go_at_call 18; refine (same_any _ (Sl.own HO8.out rfl) (Sl.own H8.out.right.right.right.right.row rfl) HQ0.out).mono ?_; rintro e w9 ⟨rfl, hf9⟩; have H9 := Lib.hid (H8.out.fr hf9); clear hf9)
          | (go_at_call 17; refine (blen H9.out.turn).mono ?_; rintro e w10 ⟨rfl, rfl⟩))
        have H11 := Lib.hid H9.out.turn
        clear H9 H8 HO8 hR
        have H12 : Hid (Has w w10 ((BookT B R (runS p0 (more.take 0)).1 (runS p0 (more.take 0)).2).sep ((BookT B' R' pe.1 pe.2).sep ((RowT 37 3 (.slice b1 more.length d1) more.length (sgC (gL p0 more more.length))).sep ((RowT 30 1 (.slice b2 more.length d2) more.length (ints (eL p0 more more.length))).sep ((RowT 56 2 (.slice va p0.2.length vc) p0.2.length (sdC p0.2)).sep .emp)))))) := Lib.hid H11.out
        clear H11
        go_wp2_with fail
        go_loopw [20] (fun i wr => ∃ k : Nat, k ≤ more.length ∧ i = .int .i64 k ∧ Hid (Has w wr ((BookT B R (runS p0 (more.take k)).1 (runS p0 (more.take k)).2).sep ((BookT B' R' pe.1 pe.2).sep ((RowT 37 3 (.slice b1 more.length d1) more.length (sgC (gL p0 more more.length))).sep ((RowT 30 1 (.slice b2 more.length d2) more.length (ints (eL p0 more more.length))).sep ((RowT 56 2 (.slice va p0.2.length vc) p0.2.length (sdC p0.2)).sep .emp))))))) (fun i _ => more.length - (intOf i).toNat)
        case atStart => exact ⟨0, Nat.zero_le _, rfl, H12⟩
        case round =>
        obtain ⟨k, hk, rfl, hR⟩ := hrel
        clear H12
        by_cases hlt : k < more.length
        · obtain ⟨Bl, o, c', hv, hc⟩ := HU.out.get (by omega)
          obtain ⟨rfl, rfl⟩ : ua = some ⟨Bl, o, none⟩ ∧ uc = c' := by simpa using hv
          have HSK := Lib.hid (HP.out k).key
          have HOK := Lib.hid ((HP.out k).ok (by omega))
          have HQ := Lib.hid (show (runS p0 (more.take k)).2.length ≤ 1000000 by have := (HP.out k).ring; omega)
          have HNX := Lib.hid (runS_take p0 more k hlt)
          have HO := Lib.hid (HM.out.2 _ (List.getElem_mem hlt))
          have HC := Lib.hid (hc k hlt)
          have HRG := Lib.hid (rG_at p0 more k hlt)
          have HRE := Lib.hid (rE_at p0 more k hlt)
          obtain ⟨g1, cap1, hv1, _⟩ := sg_at hR.out.right.right.row (gL_len _ _ _).symm (by rw [gL_len]; omega)
          rw [gL_len] at hv1
          obtain ⟨rfl, rfl⟩ : b1 = some ⟨g1, 0, none⟩ ∧ d1 = cap1 := by simpa using hv1
          obtain ⟨g2, cap2, hv2, _⟩ := int_row hR.out.right.right.right.row (by omega)
          obtain ⟨rfl, rfl⟩ : b2 = some ⟨g2, 0, none⟩ ∧ d2 = cap2 := by simpa using hv2
          clear hc hv hv1 hv2
          generalize more[k] = x at *
          obtain ⟨p, hp⟩ : ∃ p, p = runS p0 (more.take k) := ⟨_, rfl⟩
          rw [← hp] at HSK HOK HQ HNX hR HRG HRE
          clear hp
          obtain ⟨s, q⟩ := p
          simp only at HSK HOK HQ hR HRG HRE
          have c0 := hR.out.toFr.cell HC.out.1
          have c1 := hR.out.toFr.cell HC.out.2.1
          have c2 := hR.out.toFr.cell HC.out.2.2
          go_upto_region 36 with (go_at_call 13; refine (do_key hR.out HT.out HOK.out HQ.out x HO.out 7 HSK.out).mono ?_
                                  obtain ⟨g, hg⟩ : ∃ g, g = sgO q (opO s x) := ⟨_, rfl⟩
                                  obtain ⟨n, hn⟩ : ∃ n, n = opN s x := ⟨_, rfl⟩
                                  obtain ⟨e1, he⟩ : ∃ e1, e1 = opE s x := ⟨_, rfl⟩
                                  rw [← hg, ← hn, ← he]
                                  have HG1 := Lib.hid hg
                                  have HE1 := Lib.hid he
                                  unfold sgV
                                  clear hg hn he
                                  rintro e w11 ⟨rfl, h11⟩)
          have hbx := h11.box 37 #[.int .i64 g.1, .string (S g.2.1), .int .i64 g.2.2]
          have hX := hbx.boxed
          have H12 := Lib.hid hbx.right
          obtain ⟨X, hXX⟩ : ∃ X, X = w11.heap.size := ⟨_, rfl⟩
          rw [← hXX] at hX ⊢
          generalize w11.alloc (.cells #[.int .i64 g.1, .string (S g.2.1), .int .i64 g.2.2] 37) = w12 at *
          have x0 : w12.cell? ⟨X, 0, none⟩ = some (.int .i64 g.1) := cellOf hX rfl
          have x1 : w12.cell? ⟨X, 1, none⟩ = some (.string (S g.2.1)) := cellOf hX rfl
          have x2 : w12.cell? ⟨X, 2, none⟩ = some (.int .i64 g.2.2) := cellOf hX rfl
          clear hbx hX h11 hR c0 c1 c2 hXX
          obtain ⟨y0, y1, y2⟩ := sg_get H12.out.right.right.row (gL_len _ _ _).symm (gL_get p0 more more.length k hlt)
          rw [HRG.out, ← HG1.out] at y0 y1 y2
          obtain ⟨g3, cap3, hv3, hce⟩ := int_row H12.out.right.right.right.row (by omega)
          obtain ⟨rfl, rfl⟩ : g2 = g3 ∧ d2 = cap3 := by simpa using hv3
          have z0 := hce k _ (eL_get p0 more more.length k hlt)
          rw [HRE.out, ← HE1.out] at z0
          clear hce hv3
          go_quiet (fail)
          have HR1 : Hid (Has w (w12.drewN nq) ((BookT B R (runS p0 (more.take (k + 1))).1 (runS p0 (more.take (k + 1))).2).sep ((BookT B' R' pe.1 pe.2).sep ((RowT 37 3 (.slice (some ⟨g1, 0, none⟩) more.length d1) more.length (sgC (gL p0 more more.length))).sep ((RowT 30 1 (.slice (some ⟨g2, 0, none⟩) more.length d2) more.length (ints (eL p0 more more.length))).sep ((RowT 56 2 (.slice va p0.2.length vc) p0.2.length (sdC p0.2)).sep .emp)))))) := Lib.hid (by
            rw [HNX.out]; exact H12.out.fr (Fr.drewN w12 nq))
          clear H12 x0 x1 x2 y0 y1 y2 z0
          generalize w12.drewN nq = w13 at *
          go_wp2_with fail
          go_roundw
          case rel => exact ⟨k + 1, by omega, by go_num, HR1⟩
          case measure => simp [intOf]; omega
        · obtain rfl : k = more.length := by omega
          rw [← HPP.out] at hR
          go_wp2_with (first
            | (go_at_call_of 19 (Value.pointer (some ⟨R, 0, none⟩)); refine (Has.ball hR.out hpe.out).mono ?_; rintro e w11 ⟨v11, rfl, ho11, hf11⟩; have H11 := Lib.hid (hR.out.fr hf11); have HO11 := Lib.hid ho11; clear ho11 hf11)
            | (go_at_call_of 19 (Value.pointer (some ⟨R', 0, none⟩)); refine (Has.ball H11.out.turn hpe.out).mono ?_; rintro e w12 ⟨v12, rfl, ho12, hf12⟩; have H12 := Lib.hid (H11.out.fr hf12); have HO12 := Lib.hid ho12; have HO11 := Lib.hid (own_fr HO11.out hf12); clear ho12 hf12)
            | (go_at_call 18; refine (same_any _ (Sl.own HO11.out rfl) (Sl.own HO12.out rfl) hpe.out).mono ?_; rintro e w13 ⟨rfl, hf13⟩; have H13 := Lib.hid (H12.out.fr hf13); clear hf13)
            | (go_at_call_of 17 (Value.pointer (some ⟨B, 0, none⟩)); refine (blen H13.out).mono ?_; rintro e w14 ⟨rfl, rfl⟩)
            | (go_at_call_of 17 (Value.pointer (some ⟨B', 0, none⟩)); refine (blen H13.out.turn).mono ?_; rintro e w15 ⟨rfl, rfl⟩))
          go_ret
          exact ⟨rfl, H13.out.toFr⟩
theorem copies_any (v u : Value) (l more : List Op3) (w : World) (hT : Tab w) (h : OSl w v l) (hu : OSl w u more) (ha : OArg l) (hm : OArg more) :
    Calls Tryd.prog 6 #[v, u] w fun e w' => e = .returned (.bool true) ∧ Fr w w' := by
  by_cases hf : FewO l ∧ FewO more ∧ more.length ≤ 10
  · obtain ⟨ad, c, rfl⟩ := h.len
    obtain ⟨ua, uc, rfl⟩ := hu.len
    exact copies_yes ad c ua uc l more w hT h hu ha hm hf.1 hf.2.1 hf.2.2
  · exact copies_not v u l more w hT h hu ha hm hf
end Go.Proofs.YtailbappdfbjoaaDoor
