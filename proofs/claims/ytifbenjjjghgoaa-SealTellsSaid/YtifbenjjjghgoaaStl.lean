/-
  SealTells: the walk.
-/
import Derived.Test.YtifbenjjjghgoaaSi
namespace Go.Proofs.Ytifbenjjjghgoaa
open Go.RowKit Go.MapKept Go.Maps Go.WideMaps

set_option maxHeartbeats 1000000 in
set_option maxRecDepth 100000 in
theorem tells_not (v : Value) (l : List Sd) (s : Sg) (w : World) (h : Sl w v l) (ha : Arg l) (hf : ¬ Few l) :
    Calls Try.prog 3 #[v, sgV s] w fun e w' => e = .returned (.bool true) ∧ Fr w w' := by
  have H := Lib.hid h
  have HA := Lib.hid ha
  have HF := Lib.hid hf
  clear h ha hf
  unfold sgV
  have H0 := Lib.hid ((Has.here w).box 24 #[.int .i64 s.1, .string (S s.2.1), .int .i64 s.2.2])
  go_enter Try.func3, Try.ntmps3
  go_wp2_with (first
    | (go_at_call 8; refine (few_no _ (H.out.fr (H0.out.toFr.trans hf1)) HA.out HF.out).mono ?_; rintro e w3 ⟨rfl, rfl⟩)
    | (go_at_call 7; refine (small_any _).mono ?_; rintro e w1 ⟨rfl, hf1⟩))
  go_ret
  exact ⟨rfl, H0.out.toFr.trans hf1⟩

set_option maxHeartbeats 4000000 in
set_option maxRecDepth 100000 in
theorem tells_yes (ad : Option Addr) (c : Nat) (l : List Sd) (s : Sg) (w : World) (h : Sl w (.slice ad l.length c) l) (ha : Arg l) (hf : Few l) :
    Calls Try.prog 3 #[.slice ad l.length c, sgV s] w fun e w' => e = .returned (.bool true) ∧ Fr w w' := by
  have H := Lib.hid h
  have HA := Lib.hid ha
  have HF := Lib.hid hf
  have hll := hf.1
  clear h ha hf
  unfold sgV
  obtain ⟨R0, hR0⟩ : ∃ R0, R0 = w.heap.size := ⟨_, rfl⟩
  have H0 := Lib.hid ((Has.here w).box 24 #[.int .i64 s.1, .string (S s.2.1), .int .i64 s.2.2])
  rw [← hR0] at H0
  have HR0 := Lib.hid hR0
  clear hR0
  go_enter Try.func3, Try.ntmps3
  go_upto_region 6 with (first
    | (go_at_call 10; refine (Has.rring H2.out).mono ?_; rintro e w3 ⟨Bq, rfl, h3⟩; have H3 := Lib.hid h3; clear h3)
    | (go_at_call 9; refine (Has.ring (H0.out.fr hf1)).mono ?_; rintro e w2 ⟨B, rfl, h2⟩; have H2 := Lib.hid h2; clear h2)
    | (go_at_call 8; refine (few_yes _ (H.out.fr (H0.out.toFr.trans hf1)) HA.out HF.out).mono ?_; rintro e w1' ⟨rfl, rfl⟩)
    | (go_at_call 7; refine (small_any _).mono ?_; rintro e w1 ⟨rfl, hf1⟩))
  rw [← HR0.out]
  have HB := Lib.hid H3.out.turn
  clear H3 H2 H0 hf1
  go_wp2_with fail
  go_loopw [8] (fun i wr => ∃ k : Nat, k ≤ l.length ∧ i = .int .i64 k ∧ Hid (Has w wr ((RingT B (SL (l.take k))).sep ((RefT Bq (SL (l.take k))).sep ((BoxT 24 R0 #[.int .i64 s.1, .string (S s.2.1), .int .i64 s.2.2]).sep .emp))))) (fun i _ => l.length - (intOf i).toNat)
  case atStart => exact ⟨0, Nat.zero_le _, rfl, HB⟩
  case round =>
    obtain ⟨k, hk, rfl, hR⟩ := hrel
    clear HB
    by_cases hlt : k < l.length
    ·
      -- slow
      rcases H.out with ⟨hb0, _⟩ | ⟨Bl, o, c', hv, hc⟩
      · rw [hb0] at hlt; simp at hlt
      obtain ⟨rfl, rfl⟩ : ad = some ⟨Bl, o, none⟩ ∧ c = c' := by simpa using hv
      have HSL := Lib.hid (SL_take l k hlt)
      have HTX := Lib.hid (HF.out.txt (List.getElem_mem hlt))
      have HQL := Lib.hid (show (SL (l.take k)).length ≤ 1000000 by have := SL_len_take l k; omega)
      have HQ1 := Lib.hid (show (SL (l.take (k + 1))).length ≤ 1000000 by have := SL_len_take l (k + 1); omega)
      have HC1 := Lib.hid (hc k hlt)
      clear hc hv
      generalize l[k] = x at *
      obtain ⟨y, t⟩ := x
      have HC : Hid (∀ w' (T : Thing), Has w w' ((BoxT 24 R0 #[.int .i64 s.1, .string (S s.2.1), .int .i64 s.2.2]).sep T) → w'.cell? ⟨Bl, o + k * 2, none⟩ = some (.int .i64 y) ∧ w'.cell? ⟨Bl, o + k * 2 + 1, none⟩ = some (.string (S t)) ∧ w'.cell? ⟨R0, 0, none⟩ = some (.int .i64 s.1) ∧ w'.cell? ⟨R0, 1, none⟩ = some (.string (S s.2.1)) ∧ w'.cell? ⟨R0, 2, none⟩ = some (.int .i64 s.2.2)) := Lib.hid fun w' T h =>
        ⟨h.toFr.cell HC1.out.1, h.toFr.cell HC1.out.2, cellOf h.boxed rfl, cellOf h.boxed rfl, cellOf h.boxed rfl⟩
      obtain ⟨r, hr⟩ : ∃ r, r = signR (SL (l.take k)) (y, t) := ⟨_, rfl⟩
      have HRr := Lib.hid hr
      have HCD := Lib.hid (HC.out _ _ (hR.out.fr (Fr.drew wr)).right.right)
      obtain ⟨c1, c2, c3, c4, c5⟩ := HC.out _ _ hR.out.right.right
      clear hr HC1
      go_upto_region 11 with fail
      go_cut [61] (fun b wx => b = .bool false ∧ Hid (Has w wx ((RingT B (SL (l.take (k + 1)))).sep ((RefT Bq (SL (l.take (k + 1)))).sep ((BoxT 24 R0 #[.int .i64 s.1, .string (S s.2.1), .int .i64 s.2.2]).sep .emp)))))
      case first =>
        go_region_held3 (fun w' => w'.cell? ⟨Bl, o + k * 2, none⟩ = some (.int .i64 y) ∧ w'.cell? ⟨Bl, o + k * 2 + 1, none⟩ = some (.string (S t)) ∧ w'.cell? ⟨R0, 0, none⟩ = some (.int .i64 s.1) ∧ w'.cell? ⟨R0, 1, none⟩ = some (.string (S s.2.1)) ∧ w'.cell? ⟨R0, 2, none⟩ = some (.int .i64 s.2.2))
          (first | exact HCD.out | exact HC4.out | exact HC3.out | exact HC2.out | exact HC1.out)
          (first
            | (go_at_call 14; refine (Has.rvalid (H3.out.turn) s HQ1.out).mono ?_; rintro e w4 ⟨rfl, hf4⟩; have H4 := Lib.hid (H3.out.fr hf4); have HC4 := Lib.hid (HC.out _ _ H4.out.right.right); clear hf4)
            | (go_at_call 13; refine (Has.valid H2.out s HQ1.out).mono ?_; rintro e w3 ⟨rfl, hf3⟩; have H3 := Lib.hid (H2.out.fr hf3); have HC3 := Lib.hid (HC.out _ _ H3.out.right.right); clear hf3)
            | (go_at_call 12; refine (Has.rsign (H1.out.turn) y t HQL.out).mono ?_; rw [← HRr.out, ← HSL.out]; unfold sgV; rintro e w2 ⟨rfl, h2⟩; have H2 := Lib.hid h2.turn; have HC2 := Lib.hid (HC.out _ _ H2.out.right.right); clear h2)
            | (go_at_call 11; refine (Has.sign (hR.out.fr (Fr.drew wr)) y t HTX.out HQL.out).mono ?_; rw [← HRr.out, ← HSL.out]; unfold sgV; rintro e w1 ⟨rfl, h1⟩; have H1 := Lib.hid h1; have HC1 := Lib.hid (HC.out _ _ H1.out.right.right); clear h1))
        all_goals (go_wp2_with fail; go_meet; exact ⟨rfl, H4⟩)
      case rest =>
        obtain ⟨rfl, hR5⟩ := hcut
        clear c1 c2 c3 c4 c5
        go_wp2_with fail
        go_roundw
        case rel => exact ⟨k + 1, by omega, by go_num, hR5⟩
        case measure => simp [intOf]; omega
      -- /slow
    · obtain rfl : k = l.length := by omega
      rw [List.take_length] at hR
      have HQ : Hid ((SL l).length ≤ 1000000) := Lib.hid (by have := SL_len l; omega)
      have HT : Hid (∀ e ∈ l, e.2.length ≤ maxLen) := Lib.hid (fun e he => HF.out.txt he)
      have HN : Hid (l.length ≤ 1000000) := Lib.hid (by omega)
      obtain ⟨q, hq⟩ : ∃ q, q = SL l := ⟨_, rfl⟩
      rw [← hq] at hR HQ
      clear hq hlt hk
      by_cases hb : AllKeys l ∧ l.Nodup
      · have HG := Lib.hid hb
        clear hb
        go_upto_region 17 with (first
          | (go_at_call 16; refine (ropen_good H4.out (H.out.fr H4.out.toFr) HN.out HG.out.1 HG.out.2).mono ?_; rintro e w5 ⟨B5, rfl, h5⟩; have H5 := Lib.hid h5; clear h5)
          | (go_at_call 15; refine (topen_good hR.out (H.out.fr hR.out.toFr) HN.out HT.out HG.out.1 HG.out.2).mono ?_; rintro e w4 ⟨B4, rfl, h4⟩; have H4 := Lib.hid h4; clear h4))
        clear H4 hR
        have HC : Hid (∀ w', Has w w' ((RefT B5 l).sep ((RingT B4 l).sep ((RingT B q).sep ((RefT Bq q).sep ((BoxT 24 R0 #[.int .i64 s.1, .string (S s.2.1), .int .i64 s.2.2]).sep .emp))))) → w'.cell? ⟨R0, 0, none⟩ = some (.int .i64 s.1) ∧ w'.cell? ⟨R0, 1, none⟩ = some (.string (S s.2.1)) ∧ w'.cell? ⟨R0, 2, none⟩ = some (.int .i64 s.2.2)) := Lib.hid fun w' h =>
          have b := h.right.right.right.right.boxed
          ⟨cellOf b rfl, cellOf b rfl, cellOf b rfl⟩
        have HCD := Lib.hid (HC.out _ (H5.out.fr (Fr.drew w5)))
        go_cut [104] (fun b wx => b = .bool false ∧ Hid (Has w wx ((RefT B5 l).sep ((RingT B4 l).sep ((RingT B q).sep ((RefT Bq q).sep ((BoxT 24 R0 #[.int .i64 s.1, .string (S s.2.1), .int .i64 s.2.2]).sep .emp)))))))
        case first =>
          go_region_held3 (fun w' => w'.cell? ⟨R0, 0, none⟩ = some (.int .i64 s.1) ∧ w'.cell? ⟨R0, 1, none⟩ = some (.string (S s.2.1)) ∧ w'.cell? ⟨R0, 2, none⟩ = some (.int .i64 s.2.2))
            (first | exact HCD.out | exact HC10.out | exact HC9.out | exact HC8.out | exact HC7.out | exact HC6.out)
            (first
              | (go_at_call 14; refine (Has.rvalid H9.out s HN.out).mono ?_; rintro e w10 ⟨rfl, hf10⟩; have H10 := Lib.hid (H9.out.fr hf10); have HC10 := Lib.hid (HC.out _ H10.out); clear hf10)
              | (go_at_call 13; refine (Has.valid H8.out.turn s HN.out).mono ?_; rintro e w9 ⟨rfl, hf9⟩; have H9 := Lib.hid (H8.out.fr hf9); have HC9 := Lib.hid (HC.out _ H9.out); clear hf9)
              | (go_at_call 17; refine (same_any _ (Sl.own (own_fr HO6.out HF7.out) rfl) (Sl.own HO7.out rfl) HN.out).mono ?_; rintro e w8 ⟨rfl, hf8⟩; have H8 := Lib.hid (H7.out.fr hf8); have HC8 := Lib.hid (HC.out _ H8.out); clear hf8)
              | (go_at_call 19; refine (Has.rall H6.out HN.out).mono ?_; rintro e w7 ⟨v7, rfl, ho7, hf7⟩; have H7 := Lib.hid (H6.out.fr hf7); have HC7 := Lib.hid (HC.out _ H7.out); have HO7 := Lib.hid ho7; have HF7 := Lib.hid hf7; clear ho7 hf7)
              | (go_at_call 18; refine (Has.all (H5.out.fr (Fr.drew w5)).turn HN.out).mono ?_; rintro e w6 ⟨v6, rfl, ho6, hf6⟩; have H6 := Lib.hid ((H5.out.fr (Fr.drew w5)).fr hf6); have HC6 := Lib.hid (HC.out _ H6.out); have HO6 := Lib.hid ho6; clear ho6 hf6))
          all_goals (go_wp2_with fail; go_meet; exact ⟨rfl, H10⟩)
        case rest =>
          obtain ⟨rfl, hR5⟩ := hcut
          have H5 := Lib.hid hR5.out.right.right
          clear hR5 HC HCD
          go_wp2_with (first
            | (go_at_call 17; refine (same_any _ (Sl.own (own_fr HO6.out hf7) rfl) (Sl.own ho7 rfl) HQ.out).mono ?_; rintro e w8 ⟨rfl, hf8⟩)
            | (go_at_call 19; refine (Has.rall H6.out.turn HQ.out).mono ?_; rintro e w7 ⟨v7, rfl, ho7, hf7⟩)
            | (go_at_call 18; refine (Has.all H5.out HQ.out).mono ?_; rintro e w6 ⟨v6, rfl, ho6, hf6⟩; have H6 := Lib.hid (H5.out.fr hf6); have HO6 := Lib.hid ho6; clear ho6 hf6))
          go_ret
          exact ⟨rfl, (H6.out.toFr.trans hf7).trans hf8⟩
      · have HG := Lib.hid hb
        clear hb
        go_upto_region 17 with (first
          | (go_at_call 16; refine (ropen_bad (H.out.fr H4.out.toFr) HN.out HG.out).mono ?_; rintro e w5 ⟨rfl, hf5⟩; have H5 := Lib.hid (H4.out.fr hf5); clear hf5)
          | (go_at_call 15; refine (topen_bad (H.out.fr hR.out.toFr) HN.out HT.out HG.out).mono ?_; rintro e w4 ⟨rfl, hf4⟩; have H4 := Lib.hid (hR.out.fr hf4); clear hf4))
        clear H4 hR
        go_quiet (fail)
        have H5 := Lib.hid (H5.out.fr (Fr.drewN w5 nq))
        generalize w5.drewN nq = w5 at *
        go_wp2_with (first
          | (go_at_call 17; refine (same_any _ (Sl.own (own_fr HO6.out hf7) rfl) (Sl.own ho7 rfl) HQ.out).mono ?_; rintro e w8 ⟨rfl, hf8⟩)
          | (go_at_call 19; refine (Has.rall H6.out.turn HQ.out).mono ?_; rintro e w7 ⟨v7, rfl, ho7, hf7⟩)
          | (go_at_call 18; refine (Has.all H5.out HQ.out).mono ?_; rintro e w6 ⟨v6, rfl, ho6, hf6⟩; have H6 := Lib.hid (H5.out.fr hf6); have HO6 := Lib.hid ho6; clear ho6 hf6))
        go_ret
        exact ⟨rfl, (H6.out.toFr.trans hf7).trans hf8⟩
theorem tells_any (v : Value) (l : List Sd) (s : Sg) (w : World) (h : Sl w v l) (ha : Arg l) :
    Calls Try.prog 3 #[v, sgV s] w fun e w' => e = .returned (.bool true) ∧ Fr w w' := by
  by_cases hf : Few l
  · obtain ⟨ad, c, rfl⟩ := h.len
    exact tells_yes ad c l s w h ha hf
  · exact tells_not v l s w h ha hf
end Go.Proofs.Ytifbenjjjghgoaa
