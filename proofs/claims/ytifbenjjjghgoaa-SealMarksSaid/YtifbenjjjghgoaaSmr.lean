/-
  SealMarks: the walk.
-/
import Derived.Test.YtifbenjjjghgoaaSk
namespace Go.Proofs.Ytifbenjjjghgoaa
open Go.RowKit Go.MapKept Go.Maps Go.WideMaps

set_option maxHeartbeats 1000000 in
set_option maxRecDepth 100000 in
theorem marks_not (v : Value) (l : List Sd) (w : World) (h : Sl w v l) (ha : Arg l) (hf : ¬ Few l) :
    Calls Try.prog 5 #[v] w fun e w' => e = .returned (.bool true) ∧ Fr w w' := by
  have H := Lib.hid h
  have HA := Lib.hid ha
  have HF := Lib.hid hf
  clear h ha hf
  go_enter Try.func5, Try.ntmps5
  go_wp2_with (first
    | (go_at_call 8; refine (few_no _ (H.out.fr h2.toFr) HA.out HF.out).mono ?_; rintro e w3 ⟨rfl, rfl⟩)
    | (go_at_call 9; refine (((Has.here w).fr hf1).ring).mono ?_; rintro e w2 ⟨B, rfl, h2⟩)
    | (go_at_call 7; refine (small_any _).mono ?_; rintro e w1 ⟨rfl, hf1⟩))
  go_ret
  exact ⟨rfl, h2.toFr⟩

set_option maxHeartbeats 4000000 in
set_option maxRecDepth 100000 in
theorem marks_yes (ad : Option Addr) (c : Nat) (l : List Sd) (w : World) (h : Sl w (.slice ad l.length c) l) (ha : Arg l) (hf : Few l) :
    Calls Try.prog 5 #[.slice ad l.length c] w fun e w' => e = .returned (.bool true) ∧ Fr w w' := by
  obtain ⟨i0, hi, hz0, hz1, hz2⟩ := info_parts infoSg
  obtain ⟨i1, hi1, hyz0, hyz1, hyz2⟩ := info_parts infoSd
  have HIN := Lib.hid hi
  have HIN1 := Lib.hid hi1
  have H := Lib.hid h
  have HA := Lib.hid ha
  have HF := Lib.hid hf
  have hll := hf.1
  clear h ha hf hi hi1
  go_enter Try.func5, Try.ntmps5
  go_upto_region 5 with (first
    | (go_at_call 8; refine (few_yes _ (H.out.fr h2.toFr) HA.out HF.out).mono ?_; rintro e w3 ⟨rfl, rfl⟩)
    | (go_at_call 9; refine (((Has.here w).fr hf1).ring).mono ?_; rintro e w2 ⟨B, rfl, h2⟩)
    | (go_at_call 7; refine (small_any _).mono ?_; rintro e w1 ⟨rfl, hf1⟩))
  clear hf1
  have H2 : Hid (Has w w3 ((RingT B []).sep ((RowT 33 2 (.slice none 0 0) 0 []).sep ((RowT 24 3 (.slice none 0 0) 0 []).sep .emp)))) :=
    Lib.hid ((((h2.nilRow 24 3).turn.nilRow 33 2).turn))
  clear h2
  go_wp2_with fail
  go_loopw [5, 6, 7] (fun wv mv i wr => ∃ (k : Nat) (b0 : Option Addr) (d0 : Nat) (a0 : Option Addr) (c0 : Nat), k ≤ l.length ∧ i = .int .i64 k ∧ wv = .slice b0 (SL (l.take k)).length d0 ∧ mv = .slice a0 k c0 ∧ Hid (Has w wr ((RingT B (SL (l.take k))).sep ((RowT 33 2 (.slice b0 (SL (l.take k)).length d0) (SL (l.take k)).length (sdC (SL (l.take k)))).sep ((RowT 24 3 (.slice a0 k c0) k (sgC (mz l k))).sep .emp))))) (fun _ _ i _ => l.length - (intOf i).toNat)
  case atStart => exact ⟨0, none, 0, none, 0, Nat.zero_le _, rfl, rfl, rfl, H2⟩
  case round =>
    obtain ⟨k, b0, d0, a0, c0, hk, rfl, rfl, rfl, hR⟩ := hrel
    by_cases hlt : k < l.length
    · rcases H.out with ⟨hb0, _⟩ | ⟨Bl, o, c', hv, hc⟩
      · rw [hb0] at hlt; simp at hlt
      obtain ⟨rfl, rfl⟩ : ad = some ⟨Bl, o, none⟩ ∧ c = c' := by simpa using hv
      have C1 := Lib.hid (hc k hlt)
      have c1 := hR.out.toFr.cell (hc k hlt).1
      have c2 := hR.out.toFr.cell (hc k hlt).2
      have e1 := (Fr.drew wr).cell c1
      have e2 := (Fr.drew wr).cell c2
      have f1 := (Fr.alloc wr (.cells #[.int .i64 0, .string ⟨#[]⟩, .int .i64 0] 24)).cell c1
      have f2 := (Fr.alloc wr (.cells #[.int .i64 0, .string ⟨#[]⟩, .int .i64 0] 24)).cell c2
      have HSL := Lib.hid (SL_take l k hlt)
      have HMZ := Lib.hid (mz_succ (l := l) hlt)
      have HZN := Lib.hid (zz_now (l := l) hlt)
      have HTX := Lib.hid (HF.out.txt (List.getElem_mem hlt))
      have hql := SL_len_take l k
      have HQL := Lib.hid (show (SL (l.take k)).length ≤ 1000000 by omega)
      have HND := Lib.hid (SL_nodup (l.take k))
      clear hc hv
      generalize l[k] = x at *
      obtain ⟨y, t⟩ := x
      simp only at c1 c2 e1 e2 f1 f2
      obtain ⟨r, hr⟩ : ∃ r, r = signR (SL (l.take k)) (y, t) := ⟨_, rfl⟩
      obtain ⟨q, hq⟩ : ∃ q, q = SL (l.take k) := ⟨_, rfl⟩
      rw [← hq] at hr hR HSL HZN hql HQL HND ⊢
      have HRr := Lib.hid hr
      obtain ⟨U, hU⟩ : ∃ U : Thing, U = (RowT 33 2 (.slice b0 q.length d0) q.length (sdC q)).sep ((RowT 24 3 (.slice a0 k c0) k (sgC (mz l k))).sep .emp) := ⟨_, rfl⟩
      rw [← hU] at hR
      have HU := Lib.hid hU
      have HQ := Lib.hid hq
      clear hr hU hq
      go_upto_region 10 with fail
      go_cut [8] (fun p wx => ∃ (R : Nat) (w5 : World), p = .pointer (some ⟨R, 0, none⟩) ∧ w5 = wx ∧ Hid (Has w w5 ((RingT B (signL q (y, t))).sep ((BoxT 24 R #[.int .i64 r.1, .string (S r.2.1), .int .i64 r.2.2]).sep U))))
      case first =>
        -- slow
        go_region_with (go_at_call 11; refine (Has.sign (W := w) (B := B) (q := q) (by first | exact hR.out.fr (Fr.drew _) | exact ((hR.out.fr (Fr.drew _)).box _ _).turn) y t HTX.out HQL.out).mono ?_; rw [← HRr.out]; unfold sgV; rintro e w4 ⟨rfl, h4⟩; have H4 := Lib.hid h4; try (have bx : w4.heap[wr.heap.size]? = _ := (Has.right h4).boxed; have r0 : w4.cell? ⟨wr.heap.size, 0, none⟩ = some (.int .i64 0) := cellOf bx rfl; have r1 : w4.cell? ⟨wr.heap.size, 1, none⟩ = some (.string ⟨#[]⟩) := cellOf bx rfl; have r2 : w4.cell? ⟨wr.heap.size, 2, none⟩ = some (.int .i64 0) := cellOf bx rfl; have z0 : w4.frozen? ⟨wr.heap.size, 0, none⟩ = false := frozenOf bx 0; have z1 : w4.frozen? ⟨wr.heap.size, 1, none⟩ = false := frozenOf bx 1; have z2 : w4.frozen? ⟨wr.heap.size, 2, none⟩ = false := frozenOf bx 2; clear bx); clear h4)
        all_goals (go_wp2_with fail; go_meet; first
          | exact ⟨_, _, rfl, rfl, Lib.hid (H4.out.box 24 #[.int .i64 r.1, .string (S r.2.1), .int .i64 r.2.2]).turn⟩
          | exact ⟨_, _, rfl, rfl, Lib.hid (((H4.out.turn.set 0 (.int .i64 r.1)).set 1 (.string (S r.2.1))).set 2 (.int .i64 r.2.2)).turn⟩)
        -- /slow
      case rest =>
        obtain ⟨R, w5, rfl, rfl, hR5⟩ := hcut
        have hUU := HU.out
        rw [hUU] at hR5
        have b5 := hR5.out.right.boxed
        have x0 : w5.cell? ⟨R, 0, none⟩ = some (.int .i64 r.1) := cellOf b5 rfl
        have x1 : w5.cell? ⟨R, 1, none⟩ = some (.string (S r.2.1)) := cellOf b5 rfl
        have x2 : w5.cell? ⟨R, 2, none⟩ = some (.int .i64 r.2.2) := cellOf b5 rfl
        have H5 := Lib.hid (hR5.out.pull4)
        have hkk : k + 1 ≤ 1000000 := by omega
        clear b5 hR5 hR c1 c2 e1 e2 f1 f2 H2 HU hUU U
        go_upto_region 12 with (at_builtin; refine wpList_app rfl _ _ 43 rfl 24 i0 (.agg #[.int .i64 0, .string (S []), .int .i64 0]) 3 32 Try.underlying43 HIN.out hz0 hz1 hz2 rfl (by decide) rfl H5.out 1 1 [.int .i64 r.1, .string (S r.2.1), .int .i64 r.2.2] rfl rfl (by simp [Value.oneCell']) (by decide) hkk (by decide) ?_; intro a1 cc1 w6 h6)
        have H6 : Hid (Has w w6 ((RowT 33 2 (.slice b0 q.length d0) q.length (sdC q)).sep ((RowT 24 3 (.slice (some ⟨a1, 0, none⟩) (k + 1) cc1) (k + 1) (sgC (mz l (k + 1)))).sep ((RingT B (signL q (y, t))).sep ((BoxT 24 R #[.int .i64 r.1, .string (S r.2.1), .int .i64 r.2.2]).sep .emp))))) := Lib.hid (by
          have e : sgC (mz l (k + 1)) = sgC (mz l k) ++ [.int .i64 r.1, .string (S r.2.1), .int .i64 r.2.2] := by rw [HMZ.out, sgC_append, ← HZN.out, ← HRr.out]; rfl
          rw [e]
          exact h6.pull4)
        have bx := h6.right.right.boxed
        have x0' : w6.cell? ⟨R, 0, none⟩ = some (.int .i64 r.1) := cellOf bx rfl
        have x1' : w6.cell? ⟨R, 1, none⟩ = some (.string (S r.2.1)) := cellOf bx rfl
        have x2' : w6.cell? ⟨R, 2, none⟩ = some (.int .i64 r.2.2) := cellOf bx rfl
        have g1 := h6.toFr.cell C1.out.1
        have g2 := h6.toFr.cell C1.out.2
        simp only at g1 g2
        clear h6 H5 x0 x1 x2 bx HMZ HZN
        by_cases hy : IsKey y
        · have hy0 := hy.1
          have hy1 := hy.2
          have hrr : r = (y, t, (addN q (y, t) : Int)) := by rw [HRr.out]; unfold signR; rw [if_pos hy]
          have hss : signL q (y, t) = addL q (y, t) := by unfold signL; rw [if_pos hy]
          rw [hss] at HSL H6
          subst hrr
          simp only at x0' x1' x2'
          have HY := Lib.hid hy
          clear hy hss HRr
          obtain ⟨wA, rfl⟩ : ∃ wA, wA = w6 := ⟨_, rfl⟩
          go_wp2_with fail
          go_loopw [9, 10] (fun b i wx => ∃ j : Nat, j ≤ q.length ∧ i = .int .i64 j ∧ b = .bool (decide ((y, t) ∈ q.take j)) ∧ Hid (Fr wA wx)) (fun _ i _ => q.length - (intOf i).toNat)
          case atStart => exact ⟨0, Nat.zero_le _, rfl, by simp, Lib.hid (Fr.refl _)⟩
          case round =>
            obtain ⟨j, hj, rfl, rfl, hY⟩ := hrel
            have u1 := hY.out.cell g1
            have u2 := hY.out.cell g2
            by_cases hlj : j < q.length
            · obtain ⟨gw, cw, hvw, _, hcw⟩ := row_at H6.out.row rfl (by omega)
              obtain ⟨rfl, rfl⟩ : b0 = some ⟨gw, 0, none⟩ ∧ d0 = cw := by simpa using hvw
              have HMT := Lib.hid (mem_take_sd q (y, t) j hlj)
              have hcj := hcw j hlj
              generalize q[j] = z at *
              obtain ⟨z0, z1⟩ := z
              have v1 : wr.cell? _ = some (.int .i64 z0) := hY.out.cell hcj.1
              have v2 : wr.cell? _ = some (.string (S z1)) := hY.out.cell hcj.2
              clear hcj hcw hvw
              cases hb : decide ((y, t) ∈ q.take j) with
              | true =>
                try rw [hb] at HMT
                clear hb
                go_wp2_with fail
                go_quiet (fail)
                go_wp2_with fail
                go_roundw
                case rel => exact ⟨j + 1, by omega, by go_num, by rw [HMT.out]; rfl, Lib.hid (hY.out.trans (Fr.drewN _ _))⟩
                case measure => simp [intOf]; omega
              | false =>
                try rw [hb] at HMT
                clear hb
                rcases (show (z0 = y ∧ z1 = t) ∨ z0 ≠ y ∨ (z0 = y ∧ z1 ≠ t) by
                  by_cases h1 : z0 = y <;> by_cases h2 : z1 = t <;> simp [h1, h2]) with ⟨rfl, rfl⟩ | hne | ⟨rfl, hne⟩
                · go_wp2_with fail
                  go_quiet (fail)
                  go_wp2_with fail
                  go_roundw
                  case rel => exact ⟨j + 1, by omega, by go_num, by rw [HMT.out]; simp, Lib.hid (hY.out.trans (Fr.drewN _ _))⟩
                  case measure => simp [intOf]; omega
                · go_wp2_with fail
                  go_quiet (fail)
                  go_wp2_with fail
                  go_roundw
                  case rel => exact ⟨j + 1, by omega, by go_num, by rw [HMT.out]; simp [hne], Lib.hid (hY.out.trans (Fr.drewN _ _))⟩
                  case measure => simp [intOf]; omega
                · go_wp2_with fail
                  go_quiet (fail)
                  go_wp2_with fail
                  go_roundw
                  case rel => exact ⟨j + 1, by omega, by go_num, by rw [HMT.out]; simp [hne], Lib.hid (hY.out.trans (Fr.drewN _ _))⟩
                  case measure => simp [intOf]; omega
            · obtain rfl : j = q.length := by omega
              rw [List.take_length]
              have p0 := hY.out.cell x0'
              have p1 := hY.out.cell x1'
              have p2 := hY.out.cell x2'
              have H7 := Lib.hid (H6.out.fr hY.out)
              cases hm : pm 0 q (y, t) with
              | some n =>
                have hin : decide ((y, t) ∈ q) = true := decide_eq_true (mem_of_pm hm)
                have hn := pm_lt hm
                have HSL2 := Lib.hid (HSL.out.trans (addL_old (mem_of_pm hm)))
                rw [addL_old (mem_of_pm hm)] at H7
                rw [addN_old hm] at p2
                rw [hin]
                obtain ⟨gw, cw, hvw, _, hcw⟩ := row_at H7.out.row rfl (by omega)
                obtain ⟨rfl, rfl⟩ : b0 = some ⟨gw, 0, none⟩ ∧ d0 = cw := by simpa using hvw
                have hcn := hcw n hn
                have hqn : q[n] = (y, t) := by
                  have := pm_get hm
                  rw [List.getElem?_eq_getElem hn] at this
                  exact Option.some.inj this
                rw [hqn] at hcn
                have v1 : wr.cell? _ = some (.int .i64 y) := hcn.1
                have v2 : wr.cell? _ = some (.string (S t)) := hcn.2
                clear hcn hcw hvw hqn hm hin g1 g2 x0' x1' x2' H6 HSL
                go_wp2_with fail
                go_quiet (fail)
                go_wp2_with fail
                go_roundw
                case rel => exact ⟨k + 1, _, _, _, _, by omega, by go_num, by rw [HSL2.out], rfl, Lib.hid (by rw [HSL2.out]; exact (H7.out.fr (Fr.drewN _ _)).pull3.drop4)⟩
                case measure => simp [intOf]; omega
              | none =>
                have hnm := pm_none.1 hm
                have hin : decide ((y, t) ∈ q) = false := decide_eq_false hnm
                have HSL2 := Lib.hid (HSL.out.trans (addL_new hnm))
                rw [addL_new hnm] at H7
                rw [hin]
                have HAN := Lib.hid (addN_new hnm)
                have hq1 : q.length + 1 ≤ 1000000 := by omega
                clear hm hin g1 g2 x0' x1' x2' H6 HSL p0 p1 p2 hnm
                go_upto_region 20 with (at_builtin; refine wpList_app rfl _ _ 22 rfl 33 i1 (.agg #[.int .i64 0, .string (S [])]) 2 24 Try.underlying22 HIN1.out hyz0 hyz1 hyz2 rfl (by decide) rfl H7.out 1 1 [.int .i64 y, .string (S t)] rfl rfl (by simp [Value.oneCell']) (by decide) hq1 (by decide) ?_; intro gw cw w8 h8)
                have H8 : Hid (Has w w8 ((RowT 33 2 (.slice (some ⟨gw, 0, none⟩) (q.length + 1) cw) (q.length + 1) (sdC (q ++ [(y, t)]))).sep ((RowT 24 3 (.slice (some ⟨a1, 0, none⟩) (k + 1) cc1) (k + 1) (sgC (mz l (k + 1)))).sep ((RingT B (q ++ [(y, t)])).sep ((BoxT 24 R #[.int .i64 y, .string (S t), .int .i64 (addN q (y, t) : Int)]).sep .emp))))) := Lib.hid (by
                  rw [sdC_append]
                  exact h8)
                have bx := H8.out.right.right.right.boxed
                have p0 : w8.cell? ⟨R, 0, none⟩ = some (.int .i64 y) := cellOf bx rfl
                have p1 : w8.cell? ⟨R, 1, none⟩ = some (.string (S t)) := cellOf bx rfl
                have p2 : w8.cell? ⟨R, 2, none⟩ = some (.int .i64 (addN q (y, t) : Int)) := cellOf bx rfl
                rw [HAN.out] at p2
                have g1 := H8.out.toFr.cell C1.out.1
                have g2 := H8.out.toFr.cell C1.out.2
                have hcn := sd_cell H8.out.row (by simp) q.length (by simp)
                rw [List.getElem_concat_length (by rfl)] at hcn
                have v1 := hcn.1
                have v2 := hcn.2
                simp only at g1 g2 v1 v2
                clear h8 bx hcn H7 u1 u2
                go_wp2_with fail
                go_quiet (fail)
                go_wp2_with fail
                go_roundw
                case rel => exact ⟨k + 1, _, _, _, _, by omega, by go_num, by rw [HSL2.out, List.length_append]; rfl, rfl, Lib.hid (by rw [HSL2.out, List.length_append]; exact (H8.out.fr (Fr.drewN _ _)).pull3.drop4)⟩
                case measure => simp [intOf]; omega
        · have hno : y < 0 ∨ (¬ y < 0 ∧ 200 ≤ y) := by unfold IsKey at hy; omega
          have hss : signL q (y, t) = q := by unfold signL; rw [if_neg hy]
          rw [hss] at HSL H6
          clear hy hss
          rcases hno with hno | ⟨hno1, hno2⟩
          · go_wp2_with fail
            go_roundw
            case rel => exact ⟨k + 1, _, _, _, _, by omega, by go_num, by rw [HSL.out], rfl, Lib.hid (by rw [HSL.out]; exact H6.out.pull3.drop4)⟩
            case measure => simp [intOf]; omega
          · go_wp2_with fail
            go_roundw
            case rel => exact ⟨k + 1, _, _, _, _, by omega, by go_num, by rw [HSL.out], rfl, Lib.hid (by rw [HSL.out]; exact H6.out.pull3.drop4)⟩
            case measure => simp [intOf]; omega
    · obtain rfl : k = l.length := by omega
      rw [List.take_length] at hR ⊢
      have hql := SL_len l
      have HQ := Lib.hid (show (SL l).length ≤ 1000000 by omega)
      have HMZ : Hid (mz l l.length = l.map (zz l)) := Lib.hid (by unfold mz; rw [List.take_length])
      have HZA := Lib.hid (fun e => fun (h : e ∈ l) => zz_again h)
      rw [HMZ.out] at hR
      clear H2 hlt hk
      have H6 := Lib.hid hR.out
      clear hR
      go_upto_region 26 with (first
        | (go_at_call 17; refine (same_any _ (Sl.own ho rfl) (Sl.own (H6.out.right.fr hf4).row rfl) HQ.out).mono ?_; rintro e w5 ⟨rfl, hf5⟩)
        | (go_at_call 18; refine (Has.all H6.out HQ.out).mono ?_; rintro e w4 ⟨v4, rfl, ho, hf4⟩))
      have H7 := Lib.hid (H6.out.fr (hf4.trans hf5))
      clear ho hf4 hf5 H6
      go_wp2_with fail
      go_loopw [11] (fun i wx => ∃ (n : Nat), n ≤ l.length ∧ i = .int .i64 n ∧ Hid (Has w wx ((RingT B (SL l)).sep ((RowT 33 2 (.slice b0 (SL l).length d0) (SL l).length (sdC (SL l))).sep ((RowT 24 3 (.slice a0 l.length c0) l.length (sgC (l.map (zz l)))).sep .emp))))) (fun i _ => l.length - (intOf i).toNat)
      case atStart => exact ⟨0, Nat.zero_le _, rfl, H7⟩
      case round =>
        obtain ⟨n, hn, rfl, hX⟩ := hrel
        by_cases hln : n < l.length
        · rcases H.out with ⟨hb0, _⟩ | ⟨Bl, o, c', hv, hc⟩
          · rw [hb0] at hln; simp at hln
          obtain ⟨rfl, rfl⟩ : ad = some ⟨Bl, o, none⟩ ∧ c = c' := by simpa using hv
          obtain ⟨gm, cm, hvm, _, _⟩ := sg_at hX.out.right.right.row (by simp) (by simp; omega)
          rw [List.length_map] at hvm
          obtain ⟨rfl, rfl⟩ : a0 = some ⟨gm, 0, none⟩ ∧ c0 = cm := by simpa using hvm
          have HG : Hid ((l.map (zz l))[n]? = some (zz l l[n])) := Lib.hid (by simp [hln])
          have c1 := hX.out.toFr.cell (hc n hln).1
          have c2 := hX.out.toFr.cell (hc n hln).2
          have HC1 := Lib.hid (hc n hln).1
          have HC2 := Lib.hid (hc n hln).2
          have HTX := Lib.hid (HF.out.txt (List.getElem_mem hln))
          have HZ := Lib.hid (HZA.out _ (List.getElem_mem hln))
          clear hc hv hvm H7
          generalize l[n] = x at *
          obtain ⟨y, t⟩ := x
          obtain ⟨r, hr⟩ : ∃ r, r = zz l (y, t) := ⟨_, rfl⟩
          rw [← hr] at HG HZ
          clear hr
          have hd := sg_get hX.out.right.right.row (by simp) HG.out
          obtain ⟨dw, hdw⟩ : ∃ dw, dw = d0 := ⟨_, rfl⟩
          subst hdw
          have j0 := hd.c0
          have j1 := hd.c1
          have j2 := hd.c2
          have e0 := (Fr.drew wr).cell j0
          have e1 := (Fr.drew wr).cell j1
          have e2 := (Fr.drew wr).cell j2
          have k1 := (Fr.drew wr).cell c1
          have k2 := (Fr.drew wr).cell c2
          simp only at c1 c2 k1 k2
          clear hd
          go_upto_region 29 with fail
          go_cut [148] (fun b wx => ∃ (w5 : World), b = .bool false ∧ w5 = wx ∧ Hid (Has w w5 ((RingT B (SL l)).sep ((RowT 33 2 (.slice b0 (SL l).length dw) (SL l).length (sdC (SL l))).sep ((RowT 24 3 (.slice (some ⟨gm, 0, none⟩) l.length c0) l.length (sgC (l.map (zz l)))).sep .emp)))))
          case first =>
            -- slow
            go_region_with (go_at_call 11; refine (Has.sign (W := w) (B := B) (q := SL l) (hX.out.fr (Fr.drew _)) y t HTX.out HQ.out).mono ?_; rw [HZ.out.1, HZ.out.2]; unfold sgV; rintro e w4 ⟨rfl, h4⟩; have hd := sg_get h4.right.right.row (by simp) HG.out; have m0 := hd.c0; have m1 := hd.c1; have m2 := hd.c2; have q1 := h4.toFr.cell HC1.out; have q2 := h4.toFr.cell HC2.out; have H4 := Lib.hid h4; clear h4 hd)
            all_goals (go_wp2_with fail; go_meet; exact ⟨_, rfl, rfl, H4⟩)
            -- /slow
          case rest =>
            obtain ⟨w5, rfl, rfl, h5⟩ := hcut
            go_wp2_with fail
            go_roundw
            case rel => exact ⟨n + 1, by omega, by go_num, h5⟩
            case measure => simp [intOf]; omega
        · have H8 := Lib.hid hX.out
          clear hX
          go_wp2_with (first
            | (go_at_call 17; refine (same_any _ (Sl.own ho rfl) (Sl.own (H8.out.right.fr hf4).row rfl) HQ.out).mono ?_; rintro e w5 ⟨rfl, hf5⟩)
            | (go_at_call 18; refine (Has.all H8.out HQ.out).mono ?_; rintro e w4 ⟨v4, rfl, ho, hf4⟩))
          go_ret
          exact ⟨rfl, H8.out.toFr.trans (hf4.trans hf5)⟩
theorem marks_any (v : Value) (l : List Sd) (w : World) (h : Sl w v l) (ha : Arg l) :
    Calls Try.prog 5 #[v] w fun e w' => e = .returned (.bool true) ∧ Fr w w' := by
  by_cases hf : Few l
  · obtain ⟨ad, c, rfl⟩ := h.len
    exact marks_yes ad c l w h ha hf
  · exact marks_not v l w h ha hf
end Go.Proofs.Ytifbenjjjghgoaa
