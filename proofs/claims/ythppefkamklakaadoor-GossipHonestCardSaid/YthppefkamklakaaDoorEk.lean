/-
  GossipHonest: the walk.
-/
import Derived.Test.YthppefkamklakaaDoorEj
namespace Go.Proofs.YthppefkamklakaaDoor
open Go.RowKit Go.MapKept Go.Maps Go.WideMaps Go.BigFrame

theorem pt_at {w : World} {base : Nat} {v : Value} {V0 V1 V2 : Nat} (h : w.ownsRow base 43 1 v 3 (ptC [V0, V1, V2])) : ∃ g c, v = .slice (some ⟨g, 0, none⟩) 3 c ∧ ∀ i, i < 3 → w.cell? ⟨g, i, none⟩ = some (.pointer (some ⟨p3 V0 V1 V2 i, 0, none⟩)) := by
  rcases h.2 with ⟨h0, h1⟩ | ⟨g, cap, cur, rfl, hB, hg, hc, _, hs, ht⟩
  · exact absurd h1 (by simp)
  · refine ⟨g, cap, rfl, fun i hi => ?_⟩
    have hget : ∀ j u, j < 3 → (ptC [V0, V1, V2])[j]? = some u → w.cell? ⟨g, j, none⟩ = some u := fun j u hj hu => by
      rw [Lib.cell_of_heap hg]
      rw [← ht, List.getElem?_take, if_pos (by omega)] at hu
      simpa using hu
    match i, hi with
    | 0, _ => exact hget 0 _ (by omega) rfl
    | 1, _ => exact hget 1 _ (by omega) rfl
    | 2, _ => exact hget 2 _ (by omega) rfl
theorem pt_sl {w : World} {base : Nat} {v : Value} {V0 V1 V2 : Nat} (h : w.ownsRow base 43 1 v 3 (ptC [V0, V1, V2])) : PSl w v 3 (p3 V0 V1 V2) := by
  obtain ⟨g, c, rfl, hc⟩ := pt_at h
  exact ⟨g, 0, c, rfl, fun i hi => by rw [Nat.zero_add]; exact hc i hi⟩
set_option maxHeartbeats 8000000 in
set_option maxRecDepth 100000 in
theorem honest_yes (v vo vr : Value) (l : List Tu) (ti : List Int) (os : List (Int × Int)) (w : World) (ht : Tab w) (h : TuSl w v l) (ha : TArg l) (ho : ISl w vo ti) (hoa : IArg ti) (hr : OSl w vr os) (hra : OArg os) (hf : FewT l) (htl : ti.length ≤ 20) (hol : os.length ≤ 8) :
    Calls Tryd.prog 3 #[v, vo, vr] w fun e w' => e = .returned (.bool true) ∧ Fr w w' := by
  have H := Lib.hid h
  have HA := Lib.hid ha
  have HFW := Lib.hid hf
  have HF := Lib.hid (show decide (FewT l) = true from decide_eq_true hf)
  have HT := Lib.hid ht
  have HO := Lib.hid ho
  have HOA := Lib.hid hoa
  have HR := Lib.hid hr
  have HRA := Lib.hid hra
  have hll := hf.1
  obtain ⟨ao, co, rfl⟩ := ho.len
  obtain ⟨ar, cr, rfl⟩ := hr.len
  obtain ⟨av, cv, rfl⟩ := h.len
  clear h ha hf ho hoa hr hra ht
  go_enter Tryd.func3, Tryd.ntmps3
  go_upto_region 4 with (first
    | (go_at_call 5; refine (fewT_any _ (H.out.fr hf1) HA.out).mono ?_; rw [HF.out]; rintro e w3 ⟨rfl, rfl⟩)
    | (go_at_call 4; refine (small_any _).mono ?_; rintro e w1 ⟨rfl, hf1⟩))
  have H0 := Lib.hid ((Has.here w).fr hf1)
  clear hf1 HF
  go_upto_region 7 with (go_at_call 6; refine (H0.out.ring).mono ?_; rintro e w2 ⟨R, rfl, h2⟩; have H2 := Lib.hid h2; clear h2)
  clear H0
  go_upto_region 8 with (go_at_call 7; refine (bnew_yes H2.out 7 (by decide)).mono ?_; rintro e w4 ⟨B, rfl, h4⟩; have H4 := Lib.hid h4; clear h4)
  clear H2
  go_upto_region 11 with (go_at_call 8; refine (views_any (R := R) H4.out (k := 7) (by decide)).mono ?_; rintro e w5 ⟨V0, V1, V2, vp, rfl, h5⟩; obtain ⟨apt, cpt, rfl⟩ := row_form h5.right.right.right.row; have H5 := Lib.hid (h5.map fun _ h => sp5 h); clear h5)
  clear H4
  obtain ⟨X, hX⟩ : ∃ X : Thing, X = ((ViewT V0 R 7 [] vd0).sep ((ViewT V1 R 7 [] vd0).sep ((ViewT V2 R 7 [] vd0).sep ((RowT 43 1 (.slice apt 3 cpt) 3 (ptC [V0, V1, V2])).sep .emp)))) := ⟨_, rfl⟩
  rw [← hX] at H5
  have HXE := Lib.hid hX
  clear hX
  have H6 := Lib.hid ((H5.out.nilRow 37 3).turn)
  clear H5
  go_wp2_with fail
  go_loopw [12, 13] (fun mv i wr => ∃ (k : Nat) (a0 : Option Addr) (c0 : Nat), k ≤ l.length ∧ i = .int .i64 k ∧ mv = .slice a0 (tmd 7 l k).length c0 ∧ Hid (Has w wr ((BookT B R (tst 7 l k).1 (tst 7 l k).2).sep ((RowT 37 3 (.slice a0 (tmd 7 l k).length c0) (tmd 7 l k).length (sgC (tmd 7 l k))).sep X)))) (fun _ i _ => l.length - (intOf i).toNat)
  case atStart => exact ⟨0, none, 0, Nat.zero_le _, by go_num, rfl, H6⟩
  case round =>
    obtain ⟨k, a0, c0, hkl, rfl, rfl, HI⟩ := hrel
    clear H6
    by_cases hlt : k < l.length
    ·
      -- slow
      obtain ⟨b, o, c', hv, hc⟩ := H.out.get (by omega)
      obtain ⟨rfl, rfl⟩ : av = some ⟨b, o, none⟩ ∧ cv = c' := by simpa using hv
      obtain ⟨c0', c1, c2, c3⟩ := (hc k hlt).fr HI.out.toFr
      have hxu := HA.out.2 _ (List.getElem_mem hlt)
      have hfe := HFW.out.2 _ (List.getElem_mem hlt)
      have hst := tst_ok 7 l k
      have hok := hst.ok (by omega)
      have hql : (tst 7 l k).2.length ≤ 1000000 := by have := hst.ring; omega
      have hkey := hst.key
      have HAS := Lib.hid (asked_any HI.out HT.out l[k] hxu hfe hok hql)
      rw [hkey, show ((tst 7 l k).1, (tst 7 l k).2) = tst 7 l k from rfl, ← tst_succ 7 l k hlt] at HAS
      have HTM := Lib.hid (tmd_succ 7 l k hlt)
      rw [tuM_eq] at HTM
      obtain ⟨x, hx⟩ : ∃ x, x = tuX 7 (tst 7 l k) l[k] := ⟨_, rfl⟩
      obtain ⟨E, hE⟩ : ∃ E, E = tuF 7 (tst 7 l k) l[k] := ⟨_, rfl⟩
      rw [← hx, ← hE] at HAS HTM
      have hml := tmd_len 7 l k
      clear hx hE hv hc hxu hfe hst hok hql hkey
      generalize l[k] = u at *
      obtain ⟨uk, un, ut, ui⟩ := u
      obtain ⟨x0, x1, x2⟩ := x
      unfold askV at HAS
      simp only at c0' c1 c2 c3 HAS
      go_upto_region 16 with (go_at_call 9; refine HAS.out.mono ?_; rintro e w7 ⟨rfl, h7⟩; have H7 := Lib.hid h7; clear h7)
      have H8 := Lib.hid ((H7.out.box 37 #[.int .i64 x0, .string (S x1), .int .i64 x2]).turn)
      obtain ⟨D, hD⟩ : ∃ D, D = w7.heap.size := ⟨_, rfl⟩
      rw [← hD] at H8 ⊢
      clear hD H7 HAS HI c0' c1 c2 c3
      generalize w7.alloc (.cells #[.int .i64 x0, .string (S x1), .int .i64 x2] 37) = w8 at *
      by_cases he : E = 0
      · subst he
        rw [if_pos rfl] at HTM
        obtain ⟨i0, hi, hz0, hz1, hz2⟩ := info_parts infoSg
        have HIN := Lib.hid hi
        have bx := H8.out.right.boxed
        have r0 := cellOf bx (i := 0) (v := .int .i64 x0) rfl
        have r1 := cellOf bx (i := 1) (v := .string (S x1)) rfl
        have r2 := cellOf bx (i := 2) (v := .int .i64 x2) rfl
        have H9 := Lib.hid (H8.out.pull3)
        clear bx hi
        go_upto_region 14 with (at_builtin; refine wpList_app rfl _ _ 35 rfl 37 i0 (.agg #[.int .i64 0, .string (S []), .int .i64 0]) 3 32 Tryd.underlying35 HIN.out hz0 hz1 hz2 rfl (by decide) rfl H9.out 1 1 [.int .i64 x0, .string (S x1), .int .i64 x2] rfl rfl (by simp [Value.oneCell']) (by decide) (by omega) (by decide) ?_; intro a1g cc1 w10 h10)
        have hlen : (tmd 7 l k).length + 1 = (tmd 7 l (k + 1)).length := by rw [HTM.out]; simp
        have H10 := Lib.hid (show Has w w10 ((BookT B R (tst 7 l (k + 1)).1 (tst 7 l (k + 1)).2).sep ((RowT 37 3 (.slice (some ⟨a1g, 0, none⟩) (tmd 7 l (k + 1)).length cc1) (tmd 7 l (k + 1)).length (sgC (tmd 7 l (k + 1)))).sep X)) from by
          have e : sgC (tmd 7 l (k + 1)) = sgC (tmd 7 l k) ++ [.int .i64 x0, .string (S x1), .int .i64 x2] := by rw [HTM.out, Option.toList, sgC_append]; simp [sgC]
          rw [e, ← hlen]
          exact (h10.map fun _ h => sp3 h).right.turn)
        rw [hlen]
        clear h10 H8 H9 r0 r1 r2
        go_wp2_with fail
        go_roundw
        case rel => exact ⟨k + 1, some ⟨a1g, 0, none⟩, cc1, by omega, by go_num, rfl, H10⟩
        case measure => simp [intOf]; omega
      · have he' : (E == 0) = false := by simpa using he
        have he2 : decide (E = 0) = false := decide_eq_false he
        rw [if_neg he, Option.toList, List.append_nil] at HTM
        go_wp2_with fail
        go_roundw
        case rel => exact ⟨k + 1, a0, c0, by omega, by go_num, by rw [HTM.out], Lib.hid (by rw [HTM.out]; exact H8.out.turn.right)⟩
        case measure => simp [intOf]; omega
      -- /slow
    · obtain rfl : k = l.length := by omega
      have HHO := Lib.hid (tst_hon 7 l l.length (Nat.le_refl _) (by omega))
      have HST := Lib.hid (tst_ok 7 l l.length)
      have HQN := Lib.hid (tst_nd 7 l l.length (Nat.le_refl _))
      have HMH := Lib.hid (tmd_holds 7 (by decide) l l.length (Nat.le_refl _))
      have hml : (tmd 7 l l.length).length ≤ 20 := by have := tmd_len 7 l l.length; omega
      obtain ⟨P, hP⟩ : ∃ P, P = tst 7 l l.length := ⟨_, rfl⟩
      obtain ⟨M, hM⟩ : ∃ M, M = tmd 7 l l.length := ⟨_, rfl⟩
      rw [← hP] at HI HHO HST HQN HMH
      rw [← hM] at HI HMH hml ⊢
      clear hP hM
      have HQL := Lib.hid (show P.2.length ≤ 10000 from by have := HST.out.ring; omega)
      have HGO := Lib.hid (show ∀ g ∈ M, GOk g from fun g hg => by
        obtain ⟨h1, h2⟩ := HMH.out g hg
        obtain ⟨c, hc, he, _⟩ := hon_claim HHO.out HST.out.key h1 h2
        have h3 := textC_len hc
        obtain ⟨h4, h5⟩ := holds_get h1
        have h6 := (List.getElem?_eq_some_iff.1 h5).1
        have h7 := HQL.out
        refine ⟨by rw [h2]; exact ⟨by omega, by omega⟩, by rw [he]; omega, ⟨by omega, by omega⟩⟩)
      have HVS := Lib.hid (T3.vsb (W := w) (B := B) (R := R) (s := P.1) (V0 := V0) (V1 := V1) (V2 := V2) (show IsKey 7 by decide) HQN.out HQL.out)
      have HJ := Lib.hid (show Has w wr ((T3 R 7 V0 V1 V2 (BookT B R P.1 P.2) (fun _ => [])).sep ((RowT 43 1 (.slice apt 3 cpt) 3 (ptC [V0, V1, V2])).sep ((RowT 37 3 (.slice a0 M.length c0) M.length (sgC M)).sep .emp))) from by
        have h1 := HI.out
        rw [HXE.out] at h1
        exact h1.map fun _ h => s3_shut (sep_under (sp5 (sp5 (sp5 h))) fun _ h => sep_under h fun _ h => sep_under h fun _ h => sep_under h fun _ h => sep_turn h))
      clear HI HXE
      have HVB : Hid (∀ (f : Nat → List Sg) (w' : World) (U : Thing), Has w w' ((T3 R 7 V0 V1 V2 (BookT B R P.1 P.2) f).sep U) → ∀ x, Calls Tryd.prog 24 #[.pointer (some ⟨R, 0, none⟩), sgV x] w' fun e w2 => e = .returned (.bool (holds P.2 x)) ∧ Fr w' w2) := Lib.hid fun f w' U h x =>
        bvalid (h.map fun _ h => s3_open h).right.right.right (by have := HQL.out; omega) x
      obtain ⟨TT, hTT⟩ : ∃ TT, TT = T3 R 7 V0 V1 V2 (BookT B R P.1 P.2) := ⟨_, rfl⟩
      rw [← hTT] at HVS HJ HVB
      clear hTT H HA HFW
      go_wp2_with fail
      go_loopw [16] (fun iv wr => ∃ (i : Nat) (f : Nat → List Sg), i ≤ M.length ∧ iv = .int .i64 i ∧ Hid (∀ x, x < 3 → LOk P.2 7 (f x)) ∧ Hid (Has w wr ((TT f).sep ((RowT 43 1 (.slice apt 3 cpt) 3 (ptC [V0, V1, V2])).sep ((RowT 37 3 (.slice a0 M.length c0) M.length (sgC M)).sep .emp))))) (fun iv _ => M.length - (intOf iv).toNat)
      case atStart => exact ⟨0, fun _ => [], Nat.zero_le _, by go_num, Lib.hid (fun _ _ => LOk.nil _ _), HJ⟩
      case round =>
        obtain ⟨i, f, hi, rfl, HLF, HI⟩ := hrel
        clear HJ
        by_cases hlt2 : i < M.length
        · obtain ⟨g, cp, hv, _, hcell⟩ := sg_at HI.out.right.right.row rfl (by omega)
          obtain ⟨rfl, rfl⟩ : a0 = some ⟨g, 0, none⟩ ∧ c0 = cp := by simpa using hv
          have HCE := Lib.hid hcell
          clear hv hcell
          clear HCE
          go_wp2_with fail
          go_loopw [17] (fun kv wx => ∃ k : Nat, k ≤ i + 1 ∧ kv = .int .i64 k ∧ Hid (Has w wx ((TT f).sep ((RowT 43 1 (.slice apt 3 cpt) 3 (ptC [V0, V1, V2])).sep ((RowT 37 3 (.slice (some ⟨g, 0, none⟩) M.length c0) M.length (sgC M)).sep .emp))))) (fun kv _ => i + 1 - (intOf kv).toNat)
          case atStart => exact ⟨0, Nat.zero_le _, by go_num, HI⟩
          case round =>
            obtain ⟨k, hk, rfl, HK⟩ := hrel
            rename World => wx
            clear HI
            obtain ⟨g', cp, hv, _, hcell⟩ := sg_at HK.out.right.right.row rfl (by omega)
            obtain ⟨rfl, rfl⟩ : g = g' ∧ c0 = cp := by simpa using hv
            by_cases hki : k ≤ i
            ·
              -- slow
              have hkm : k < M.length := by omega
              have hca := hcell i hlt2
              have hcb := hcell k hkm
              have hma := HMH.out _ (List.getElem_mem hlt2)
              have hmb := HMH.out _ (List.getElem_mem hkm)
              have hga := HGO.out _ (List.getElem_mem hlt2)
              have hgb := HGO.out _ (List.getElem_mem hkm)
              obtain ⟨c, d, hc, hd, _, _⟩ := hon_pair HHO.out HST.out.key hma.1 hmb.1 hma.2 hmb.2
              have hce := hon_conv HHO.out HST.out.key hma.1 hmb.1 hma.2 hmb.2
              have HCV := Lib.hid (fun w' (hw : Fr wx w') => convict_any R P.2 M[i] M[k] w' hga.2.1 hgb.2.1 hc hd (fun w2 x hf => HVB.out f w2 _ (HK.out.fr (hw.trans hf)) x))
              rw [hce] at HCV
              clear hcell hv hma hmb hga hgb hc hd hce
              generalize M[i] = ga at *
              generalize M[k] = gb at *
              obtain ⟨ga0, ga1, ga2⟩ := ga
              obtain ⟨gb0, gb1, gb2⟩ := gb
              unfold sgV at HCV
              have a0 := hca.c0
              have a1 := hca.c1
              have a2 := hca.c2
              have b0 := hcb.c0
              have b1 := hcb.c1
              have b2 := hcb.c2
              simp only at a0 a1 a2 b0 b1 b2 HCV
              clear hca hcb
              go_upto_region 24 with fail
              refine wp_region_cls (D := Cls wx) (by kernel_rfl) (by kernel_rfl) (Fr.drew wx) ?_
              repeat (go_big_quiet_step (first
                | (intro hw'; with_reducible rfl)
                | (intro hw'; go_at_call 10; exact (HCV.out _ hw').mono fun e w'' ⟨he, hf⟩ => ⟨he, hw'.of hf⟩)
                | (intro hw'; have g0 := Fr.cell hw' a0; have g1 := Fr.cell hw' a1; have g2 := Fr.cell hw' a2; simp only [g0, g1, g2, Result.andThen]; exact ⟨trivial, rfl⟩)
                | (intro hw'; have g0 := Fr.cell hw' b0; have g1 := Fr.cell hw' b1; have g2 := Fr.cell hw' b2; simp only [g0, g1, g2, Result.andThen]; exact ⟨trivial, rfl⟩)))
              refine wpQuiet_nil ?_
              intro w26 hw26
              go_wp2_with fail
              go_roundw
              case rel => exact ⟨k + 1, by omega, by go_num, Lib.hid (HK.out.fr hw26)⟩
              case measure => simp [intOf]; omega
              -- /slow
            · obtain rfl : k = i + 1 := by omega
              have hca := hcell i hlt2
              go_upto_region 26 with fail
              by_cases hti : i < ti.length
              ·
                -- slow
                obtain ⟨bo, oo, co', hvo, hco⟩ := HO.out.get (by omega)
                obtain ⟨rfl, rfl⟩ : ao = some ⟨bo, oo, none⟩ ∧ co = co' := by simpa using hvo
                obtain ⟨gp, cq, hvp, hpt⟩ := pt_at HK.out.right.row
                obtain ⟨rfl, rfl⟩ : apt = some ⟨gp, 0, none⟩ ∧ cpt = cq := by simpa using hvp
                have hci := hco i hti
                obtain ⟨j, hj, hpl⟩ := place_any ti[i] (HOA.out.2 _ (List.getElem_mem hti))
                have HPL := Lib.hid hpl
                have hj3 : (j : Int) < 3 := by omega
                have hma := HMH.out _ (List.getElem_mem hlt2)
                have HSR : Hid (∀ (w' : World) (F : Thing), Has w w' (F.sep ((RowT 43 1 (.slice (some ⟨gp, 0, none⟩) 3 cpt) 3 (ptC [V0, V1, V2])).sep ((RowT 37 3 (.slice (some ⟨g, 0, none⟩) M.length c0) M.length (sgC M)).sep .emp))) → w'.cell? ⟨bo, oo + i, none⟩ = some (.int .i64 ti[i]) ∧ w'.cell? ⟨gp, j, none⟩ = some (.pointer (some ⟨p3 V0 V1 V2 j, 0, none⟩)) ∧ w'.cell? ⟨g, i * 3, none⟩ = some (.int .i64 M[i].1) ∧ w'.cell? ⟨g, i * 3 + 1, none⟩ = some (.string (S M[i].2.1)) ∧ w'.cell? ⟨g, i * 3 + 2, none⟩ = some (.int .i64 M[i].2.2)) := Lib.hid fun w' F h => by
                  obtain ⟨gp', cq', hvp', hpt'⟩ := pt_at h.right.row
                  obtain ⟨rfl, rfl⟩ : gp = gp' ∧ cpt = cq' := by simpa using hvp'
                  obtain ⟨g', cp', hv', _, hcell'⟩ := sg_at h.right.right.row rfl (by omega)
                  obtain ⟨rfl, rfl⟩ : g = g' ∧ c0 = cp' := by simpa using hv'
                  have hx := hcell' i hlt2
                  exact ⟨h.toFr.cell hci, hpt' j hj, hx.c0, hx.c1, hx.c2⟩
                have HAC := Lib.hid (fun (w' : World) (h : Has w w' ((TT f).sep ((RowT 43 1 (.slice (some ⟨gp, 0, none⟩) 3 cpt) 3 (ptC [V0, V1, V2])).sep ((RowT 37 3 (.slice (some ⟨g, 0, none⟩) M.length c0) M.length (sgC M)).sep .emp)))) => HVS.out.acc j hj f w' _ h (HLF.out j hj) M[i] (HGO.out _ (List.getElem_mem hlt2)))
                have hacc := hon_acc HHO.out HST.out.key (HLF.out j hj) HQN.out hma.1 hma.2
                rw [hacc] at HAC
                have HLA := Lib.hid (show ∀ x, x < 3 → LOk P.2 7 (up f j (acl P.2 7 (f j) M[i]) x) from fun x hx => by
                  by_cases hxj : x = j
                  · rw [hxj, up_at]; exact ((HLF.out j hj).acl HQN.out _).1
                  · rw [up_ne _ _ hxj]; exact HLF.out x hx)
                generalize up f j (acl P.2 7 (f j) M[i]) = f' at *
                generalize p3 V0 V1 V2 j = Q at *
                generalize M[i] = ga at *
                generalize ti[i] = z at *
                obtain ⟨ga0, ga1, ga2⟩ := ga
                unfold sgV at HAC
                simp only at HAC HSR
                have HD := Lib.hid (HK.out.fr (Fr.drew wx))
                have HSD := Lib.hid (HSR.out _ _ HD.out)
                clear hvo hco hvp hpt hci hpl hma hacc hca hcell
                go_region_held3 (fun w' => w'.cell? ⟨bo, oo + i, none⟩ = some (.int .i64 z) ∧ w'.cell? ⟨gp, j, none⟩ = some (.pointer (some ⟨Q, 0, none⟩)) ∧ w'.cell? ⟨g, i * 3, none⟩ = some (.int .i64 ga0) ∧ w'.cell? ⟨g, i * 3 + 1, none⟩ = some (.string (S ga1)) ∧ w'.cell? ⟨g, i * 3 + 2, none⟩ = some (.int .i64 ga2))
                  (first | with_reducible exact HS9.out | with_reducible exact HSD.out)
                  (first
                    | (go_at_call 12; refine (HAC.out _ HD.out).mono ?_; rintro e w9 ⟨rfl, h9⟩; have H9 := Lib.hid h9; have HS9 := Lib.hid (HSR.out _ _ h9); clear h9)
                    | (go_at_call 11; refine (HPL.out _).mono ?_; rintro e w8 ⟨rfl, rfl⟩))
                all_goals
                  go_wp2_with fail
                  go_roundw
                  case rel => exact ⟨i + 1, f', by omega, by go_num, HLA, H9⟩
                  case measure => simp [intOf]; omega
                -- /slow
              · have hti' : ¬ (i : Int) < (ti.length : Int) := by omega
                have hti2 : decide ((i : Int) < (ti.length : Int)) = false := decide_eq_false hti'
                clear hcell hca
                refine wp_region_cls (D := Cls wx) (by kernel_rfl) (by kernel_rfl) (Fr.drew wx) ?_
                repeat (go_big_quiet_step (first
                  | (intro hw'; with_reducible rfl)))
                refine wpQuiet_nil ?_
                intro w26 hw26
                go_wp2_with fail
                go_roundw
                case rel => exact ⟨i + 1, f, by omega, by go_num, HLF, Lib.hid (HK.out.fr hw26)⟩
                case measure => simp [intOf]; omega
        · have HNO := Lib.hid (fun m (hm : m < os.length) => hon_sc HHO.out HST.out.key HQN.out (n := 3) HLF.out os m hm)
          have HSP : Hid (Calls Tryd.prog 13 #[.slice apt 3 cpt, .slice ar os.length cr] wr fun e w' => e = .returned (.tuple #[.int .i64 os.length, .agg #[.int .i64 0, .string (S []), .int .i64 0], .agg #[.int .i64 0, .string (S []), .int .i64 0], .bool false]) ∧ Fr w w') := Lib.hid (by
            refine (spread_any HVS.out HI.out HLF.out (by decide) (v := .slice apt 3 cpt) (vo := .slice ar os.length cr) (os := os) (fun w' h => ⟨pt_sl h.row, HR.out.fr h.toFr⟩) (by omega) HRA.out.2).mono ?_
            rintro e w' (⟨j, hj, x, y, _, hs, _, _⟩ | ⟨_, rfl, h'⟩)
            · rw [HNO.out j hj] at hs; exact absurd hs (by simp)
            · exact ⟨rfl, h'.toFr⟩)
          clear HNO HVB HVS HGO HMH HQL HQN HST HHO
          go_upto_region 29 with (go_at_call 13; refine HSP.out.mono ?_; rintro e w30 ⟨rfl, hf30⟩)
          have hf31 := hf30.trans ((Fr.alloc w30 (.cells #[.int .i64 0, .string (S []), .int .i64 0] 37)).trans (Fr.alloc _ (.cells #[.int .i64 0, .string (S []), .int .i64 0] 37)))
          go_wp2_with fail
          go_ret
          exact ⟨by first | rfl | simp, hf31⟩
theorem honest_any (v vo vr : Value) (l : List Tu) (ti : List Int) (os : List (Int × Int)) (w : World) (ht : Tab w) (h : TuSl w v l) (ha : TArg l) (ho : ISl w vo ti) (hoa : IArg ti) (hr : OSl w vr os) (hra : OArg os) :
    Calls Tryd.prog 3 #[v, vo, vr] w fun e w' => e = .returned (.bool true) ∧ Fr w w' := by
  by_cases hf : FewT l ∧ ti.length ≤ 20 ∧ os.length ≤ 8
  · exact honest_yes v vo vr l ti os w ht h ha ho hoa hr hra hf.1 hf.2.1 hf.2.2
  · exact honest_not v vo vr l ti os w h ha ho hoa hr hra hf
end Go.Proofs.YthppefkamklakaaDoor
