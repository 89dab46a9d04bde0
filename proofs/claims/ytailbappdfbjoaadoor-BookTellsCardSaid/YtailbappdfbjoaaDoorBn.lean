/-
  BookTells: the walk.
-/
import Derived.Test.YtailbappdfbjoaaDoorBm
namespace Go.Proofs.YtailbappdfbjoaaDoor
open Go.RowKit Go.MapKept Go.Maps Go.WideMaps

set_option maxHeartbeats 1000000 in
set_option maxRecDepth 100000 in
theorem btells_not (v : Value) (l : List Op3) (key : Int) (w : World) (hT : Tab w) (h : OSl w v l) (ha : OArg l) (hf : ¬ FewO l) :
    Calls Tryd.prog 3 #[.int .i64 key, v] w fun e w' => e = .returned (.bool true) ∧ Fr w w' := by
  have H := Lib.hid h
  have HA := Lib.hid ha
  have HF := Lib.hid hf
  have HT := Lib.hid hT
  clear h ha hf hT
  go_enter Tryd.func3, Tryd.ntmps3
  go_wp2_with (first
    | (go_at_call 8; refine (fewO_no _ (H.out.fr hf1) HA.out HF.out).mono ?_; rintro e w3 ⟨rfl, rfl⟩)
    | (go_at_call 7; refine (small_any _ HT.out).mono ?_; rintro e w1 ⟨rfl, hf1⟩))
  go_ret
  exact ⟨rfl, hf1⟩
set_option maxHeartbeats 1000000 in
set_option maxRecDepth 100000 in
theorem btells_nokey (v : Value) (l : List Op3) (key : Int) (w : World) (hT : Tab w) (h : OSl w v l) (ha : OArg l) (hf : FewO l) (hk : ¬ IsKey key) :
    Calls Tryd.prog 3 #[.int .i64 key, v] w fun e w' => e = .returned (.bool true) ∧ Fr w w' := by
  have H := Lib.hid h
  have HA := Lib.hid ha
  have HF := Lib.hid hf
  have HT := Lib.hid hT
  have HK := Lib.hid hk
  clear h ha hf hT hk
  go_enter Tryd.func3, Tryd.ntmps3
  go_wp2_with (first
    | (go_at_call 8; refine (fewO_yes _ (H.out.fr hf1) HA.out HF.out).mono ?_; rintro e w2 ⟨rfl, rfl⟩)
    | (go_at_call 7; refine (small_any _ HT.out).mono ?_; rintro e w1 ⟨rfl, hf1⟩; have H1 := Lib.hid ((Has.here w).fr hf1))
    | (go_at_call 9; refine (Has.ring H1.out).mono ?_; rintro e w3 ⟨R, rfl, h3⟩; have H3 := Lib.hid h3; clear h3)
    | (go_at_call 10; refine (Has.rring H3.out).mono ?_; rintro e w4 ⟨Rq, rfl, h4⟩; have H4 := Lib.hid h4; clear h4)
    | (go_at_call 11; refine (bnew_no _ key _ HK.out).mono ?_; rintro e w5 ⟨rfl, hf5⟩; have H5 := Lib.hid (H4.out.fr hf5); clear hf5)
    | (go_at_call 12; refine (rbnew_no _ key _ HK.out).mono ?_; rintro e w6 ⟨rfl, hf6⟩; have H6 := Lib.hid (H5.out.fr hf6); clear hf6))
  go_ret
  exact ⟨rfl, H6.out.toFr⟩
set_option maxHeartbeats 4000000 in
set_option maxRecDepth 100000 in
theorem btells_yes (ad : Option Addr) (c : Nat) (l : List Op3) (key : Int) (w : World) (hT : Tab w) (h : OSl w (.slice ad l.length c) l) (ha : OArg l) (hf : FewO l) (hk : IsKey key) :
    Calls Tryd.prog 3 #[.int .i64 key, .slice ad l.length c] w fun e w' => e = .returned (.bool true) ∧ Fr w w' := by
  have H := Lib.hid h
  have HA := Lib.hid ha
  have HF := Lib.hid hf
  have HT := Lib.hid hT
  have HK := Lib.hid hk
  have hll := hf.1
  clear h ha hf hT hk
  go_enter Tryd.func3, Tryd.ntmps3
  go_upto_region 14 with (first
    | (go_at_call 8; refine (fewO_yes _ (H.out.fr hf1) HA.out HF.out).mono ?_; rintro e w2 ⟨rfl, rfl⟩)
    | (go_at_call 7; refine (small_any _ HT.out).mono ?_; rintro e w1 ⟨rfl, hf1⟩; have H1 := Lib.hid ((Has.here w).fr hf1))
    | (go_at_call 9; refine (Has.ring H1.out).mono ?_; rintro e w3 ⟨R, rfl, h3⟩; have H3 := Lib.hid h3; clear h3)
    | (go_at_call 10; refine (Has.rring H3.out).mono ?_; rintro e w4 ⟨Rq, rfl, h4⟩; have H4 := Lib.hid h4.turn; clear h4)
    | (go_at_call 11; refine (bnew_yes H4.out key HK.out).mono ?_; rintro e w5 ⟨B, rfl, h5⟩; have H5 := Lib.hid h5.turn; clear h5)
    | (go_at_call 12; refine (rbnew_yes H5.out key HK.out).mono ?_; rintro e w6 ⟨Bq, rfl, h6⟩; have H6 := Lib.hid h6.turn; clear h6))
  clear H5 H4 H3 H1 hf1 HK
  go_wp2_with fail
  go_loopw [12] (fun i wr => ∃ k : Nat, k ≤ l.length ∧ i = .int .i64 k ∧ Hid (Has w wr ((BookT B R (st key l k).1 (st key l k).2).sep ((RBookT Bq Rq (st key l k).1 (st key l k).2).sep .emp)))) (fun i _ => l.length - (intOf i).toNat)
  case atStart => exact ⟨0, Nat.zero_le _, rfl, H6⟩
  case round =>
    obtain ⟨k, hk, rfl, hR⟩ := hrel
    clear H6
    by_cases hlt : k < l.length
    · obtain ⟨Bl, o, c', hv, hc⟩ := H.out.get (by omega)
      obtain ⟨rfl, rfl⟩ : ad = some ⟨Bl, o, none⟩ ∧ c = c' := by simpa using hv
      have hst := st_ok key l k
      have HSK := Lib.hid hst.key
      have HOK := Lib.hid (hst.ok (by omega))
      have HQ := Lib.hid (show (st key l k).2.length ≤ 1000000 by have := hst.ring; omega)
      have hst1 := st_ok key l (k + 1)
      have HN1 := Lib.hid (show (st key l (k + 1)).1.es.length ≤ 1000000 by have := hst1.len; omega)
      have HNX := Lib.hid (st_succ key l k hlt)
      have HO := Lib.hid (HA.out.2 _ (List.getElem_mem hlt))
      have HC := Lib.hid (hc k hlt)
      clear hc hv hst hst1
      generalize l[k] = x at *
      obtain ⟨p1, hp1⟩ : ∃ p1, p1 = st key l (k + 1) := ⟨_, rfl⟩
      rw [← hp1] at HN1 HNX
      have HP1 := Lib.hid hp1
      clear hp1
      generalize st key l k = p at *
      obtain ⟨s, q⟩ := p
      obtain ⟨s1, q1⟩ := p1
      obtain ⟨hs1, hq1⟩ : s1 = opB s x ∧ q1 = qO q (opO s x) := by have := HNX.out; unfold stepS at this; exact ⟨congrArg Prod.fst this, congrArg Prod.snd this⟩
      have HS1 := Lib.hid hs1
      have HQ1 := Lib.hid hq1
      simp only at HSK HOK HQ HN1 hR
      clear hs1 hq1 HNX
      have c0 := hR.out.toFr.cell HC.out.1
      have c1 := hR.out.toFr.cell HC.out.2.1
      have c2 := hR.out.toFr.cell HC.out.2.2
      go_upto_region 18 with (go_at_call 13; refine (do_key hR.out HT.out HOK.out HQ.out x HO.out key HSK.out).mono ?_
                              obtain ⟨g, hg⟩ : ∃ g, g = sgO q (opO s x) := ⟨_, rfl⟩
                              obtain ⟨n, hn⟩ : ∃ n, n = opN s x := ⟨_, rfl⟩
                              obtain ⟨e1, he⟩ : ∃ e1, e1 = opE s x := ⟨_, rfl⟩
                              rw [← hg, ← hn, ← he, ← HS1.out, ← HQ1.out]
                              have HG := Lib.hid hg
                              have HN := Lib.hid hn
                              have HE := Lib.hid he
                              unfold sgV
                              clear hg hn he
                              rintro e w7 ⟨rfl, h7⟩)
      have H7 := Lib.hid (((h7.turn.box 37 #[.int .i64 g.1, .string (S g.2.1), .int .i64 g.2.2]).turn))
      obtain ⟨X, hX⟩ : ∃ X, X = w7.heap.size := ⟨_, rfl⟩
      rw [← hX] at H7 ⊢
      clear hX h7 hR c0 c1 c2
      generalize w7.alloc (.cells #[.int .i64 g.1, .string (S g.2.1), .int .i64 g.2.2] 37) = w8 at *
      have c0 := H7.out.toFr.cell HC.out.1
      have c1 := H7.out.toFr.cell HC.out.2.1
      have c2 := H7.out.toFr.cell HC.out.2.2
      go_upto_region 19 with (go_at_call 14; refine (did_any H7.out HOK.out HQ.out x HO.out).mono ?_
                              rw [← HG.out, ← HN.out, ← HE.out, ← HS1.out, ← HQ1.out]
                              unfold sgV
                              rintro e w9 ⟨rfl, h9⟩)
      have H9 := Lib.hid (((h9.pull3.box 37 #[.int .i64 g.1, .string (S g.2.1), .int .i64 g.2.2]).turn))
      obtain ⟨Y, hY⟩ : ∃ Y, Y = w9.heap.size := ⟨_, rfl⟩
      rw [← hY] at H9 ⊢
      clear hY h9 H7 c0 c1 c2 HOK HQ
      generalize w9.alloc (.cells #[.int .i64 g.1, .string (S g.2.1), .int .i64 g.2.2] 37) = w10 at *
      have c1 := H9.out.toFr.cell HC.out.2.1
      obtain ⟨z, b, hzb⟩ := txtV_form (txtO s1 x.2.1)
      have HZ := Lib.hid hzb
      clear hzb
      go_upto_region 21 with (first
        | (go_at_call 15; refine (btext H9.out x.2.1 HN1.out).mono ?_; rw [HZ.out]; rintro e w11 ⟨rfl, hf11⟩; have c1' := hf11.cell c1; clear c1)
        | (go_at_call 16; refine (rbtext (H9.out.fr hf11).pull3 x.2.1 HN1.out).mono ?_; rw [HZ.out]; rintro e w12 ⟨rfl, hf12⟩))
      have H12 := Lib.hid ((H9.out.fr hf11).fr hf12)
      clear H9 hf11 hf12 c1'
      have HLEN : Hid (∀ n, Calls Tryd.prog 17 #[.pointer (some ⟨B, 0, none⟩)] (w12.drewN n) fun e w' => e = .returned (.int .i64 s1.es.length) ∧ w' = w12.drewN n) := Lib.hid fun n => blen (H12.out.fr (Fr.drewN _ n))
      obtain ⟨ra, rc, r2⟩ := rb_len H12.out.pull3
      have hY := H12.out.right.boxed
      have hX := H12.out.right.right.right.boxed
      have x0 : w12.cell? ⟨X, 0, none⟩ = some (.int .i64 g.1) := cellOf hX rfl
      have x1 : w12.cell? ⟨X, 1, none⟩ = some (.string (S g.2.1)) := cellOf hX rfl
      have x2 : w12.cell? ⟨X, 2, none⟩ = some (.int .i64 g.2.2) := cellOf hX rfl
      have y0 : w12.cell? ⟨Y, 0, none⟩ = some (.int .i64 g.1) := cellOf hY rfl
      have y1 : w12.cell? ⟨Y, 1, none⟩ = some (.string (S g.2.1)) := cellOf hY rfl
      have y2 : w12.cell? ⟨Y, 2, none⟩ = some (.int .i64 g.2.2) := cellOf hY rfl
      clear hX hY
      go_quiet (first | (go_at_call 17; exact Calls.quiet_of_same (HLEN.out _)))
      have HR1 : Hid (Has w (w12.drewN nq) ((BookT B R s1 q1).sep ((RBookT Bq Rq s1 q1).sep .emp))) := Lib.hid (by
        have h1 := (H12.out.fr (Fr.drewN w12 nq)).turn.right
        exact h1.pull3.right)
      clear H12 HLEN x0 x1 x2 y0 y1 y2 r2
      generalize w12.drewN nq = w13 at *
      go_wp2_with fail
      go_roundw
      case rel => exact ⟨k + 1, by omega, by go_num, by rw [← HP1.out]; exact HR1⟩
      case measure => simp [intOf]; omega
    · obtain rfl : k = l.length := by omega
      have HQ := Lib.hid (show (st key l l.length).2.length ≤ 1000000 by have := (st_ok key l l.length).ring; omega)
      generalize st key l l.length = p at *
      obtain ⟨s, q⟩ := p
      simp only at hR HQ
      go_wp2_with (first
        | (go_at_call 18; refine (same_any _ (Sl.own (own_fr HO6.out hf7) rfl) (Sl.own ho7 rfl) HQ.out).mono ?_; rintro e w8 ⟨rfl, hf8⟩)
        | (go_at_call 20; refine (Has.rball HR6.out.turn HQ.out).mono ?_; rintro e w7 ⟨v7, rfl, ho7, hf7⟩)
        | (go_at_call 19; refine (Has.ball hR.out HQ.out).mono ?_; rintro e w6 ⟨v6, rfl, ho6, hf6⟩; have HR6 := Lib.hid (hR.out.fr hf6); have HO6 := Lib.hid ho6; clear ho6 hf6))
      go_ret
      exact ⟨rfl, (HR6.out.toFr.trans hf7).trans hf8⟩
theorem btells_any (v : Value) (l : List Op3) (key : Int) (w : World) (hT : Tab w) (h : OSl w v l) (ha : OArg l) :
    Calls Tryd.prog 3 #[.int .i64 key, v] w fun e w' => e = .returned (.bool true) ∧ Fr w w' := by
  by_cases hf : FewO l
  · by_cases hk : IsKey key
    · obtain ⟨ad, c, rfl⟩ := h.len
      exact btells_yes ad c l key w hT h ha hf hk
    · exact btells_nokey v l key w hT h ha hf hk
  · exact btells_not v l key w hT h ha hf
end Go.Proofs.YtailbappdfbjoaaDoor
