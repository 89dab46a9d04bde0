/-
  View: the walk of Accept.
-/
import Derived.Test.YthppefkamklakaaDoorVj
namespace Go.Proofs.YthppefkamklakaaDoor
open Go.RowKit Go.MapKept Go.Maps Go.WideMaps Go.BigFrame

theorem ps8 {w : World} {O : Nat → Prop} {A B C D F G H X E : Thing} (h : (X.sep (A.sep (B.sep (C.sep (D.sep (F.sep (G.sep (H.sep E)))))))).at_ w O) : (A.sep (B.sep (C.sep (D.sep (F.sep (G.sep (H.sep (X.sep E)))))))).at_ w O := sep_under (sep_turn h) fun _ h => ps7 h
theorem VP.vbox {W w : World} {p : VQ} {B R : Nat} {k : Int} {l : List Sg} {d : VD} {U : Thing} (h : VP W w p B R k l d U) (c : C) : VP W (w.alloc (.cells #[.int .i64 c.k, .int .i64 c.n, .int .i64 c.t, .string (S c.s)] 68)) p B R k l d ((CB w.heap.size c).sep U) :=
  (Has.box h 68 #[.int .i64 c.k, .int .i64 c.n, .int .i64 c.t, .string (S c.s)]).map fun _ h => ps8 h
theorem lrn_mm (d : VD) (f : Int → Bool) (c : C) : lrn { d with mm := f } c = { lrn d c with mm := f } := by
  by_cases h0 : c.k = 0
  · rw [lrn_0 h0, lrn_0 h0]; rfl
  · by_cases h1 : c.k = 1
    · rw [lrn_1 h1, lrn_1 h1]
    · by_cases h2 : c.k = 2
      · rw [lrn_2 h2, lrn_2 h2]
      · unfold lrn; rw [if_neg h0, if_neg h1, if_neg h2, if_neg h0, if_neg h1, if_neg h2]
/-- What a signature can be, as a value. -/
def GOk (s : Sg) : Prop := Wm.inInt s.1 ∧ s.2.1.length ≤ 9223372036854775807 ∧ Wm.inInt s.2.2
set_option maxHeartbeats 4000000 in
set_option maxRecDepth 100000 in
theorem vaccept {W w : World} {B R : Nat} {k : Int} {l : List Sg} {d : VD} {q : List Sd} {U : Thing} (h : Has W w ((ViewT B R k l d).sep ((RingT R q).sep U))) (hd : HdOk d) (hq : q.length ≤ 1000000) (hll : l.length ≤ 100000) (s : Sg) (hs : GOk s) :
    Calls Tryd.prog 12 #[.pointer (some ⟨B, 0, none⟩), sgV s] w fun e w' => e = .returned (.int .i64 (accE q k d s)) ∧ Has W w' ((ViewT B R k (accL q k d l s) (accD q k d s)).sep ((RingT R q).sep U)) := by
  have H18 := Lib.hid (fun h => acc_seal (k := k) (d := d) (s := s) (q := q) l h)
  have H22 := Lib.hid (fun h hk => acc_key (k := k) (d := d) (s := s) (q := q) l h hk)
  have H2n := Lib.hid (fun h hk hr => acc_none (k := k) (d := d) (s := s) (q := q) l h hk hr)
  have H2k := Lib.hid (fun h hk c hr hc => acc_kind (k := k) (d := d) (s := s) (q := q) l h hk (c := c) hr hc)
  have H21 := Lib.hid (fun h hk c hr hc hd => acc_split (k := k) (d := d) (s := s) (q := q) l h hk (c := c) hr hc hd)
  have H0 := Lib.hid (fun h hk c hr hc hd => acc_ok (k := k) (d := d) (s := s) (q := q) h hk (c := c) hr hc hd)
  have H0a := Lib.hid (fun he hm => acc_again (k := k) (d := d) (s := s) (q := q) l he hm)
  have H0n := Lib.hid (fun he hm => acc_new (k := k) (d := d) (s := s) (q := q) l he hm)
  obtain ⟨E, hE⟩ : ∃ E, E = accE q k d s := ⟨_, rfl⟩
  obtain ⟨L', hL'⟩ : ∃ L', L' = accL q k d l s := ⟨_, rfl⟩
  obtain ⟨D', hD'⟩ : ∃ D', D' = accD q k d s := ⟨_, rfl⟩
  rw [← hE] at H18 H22 H2n H2k H21 H0 H0a H0n ⊢
  rw [← hL'] at H18 H22 H2n H2k H21 H0a H0n ⊢
  rw [← hD'] at H18 H22 H2n H2k H21 H0a H0n ⊢
  clear hE hL' hD'
  have h1 : Has W (w.alloc (.cells #[.int .i64 s.1, .string (S s.2.1), .int .i64 s.2.2] 37)) ((ViewT B R k l d).sep ((SB w.heap.size s).sep ((RingT R q).sep U))) := (h.box 37 #[.int .i64 s.1, .string (S s.2.1), .int .i64 s.2.2]).turn
  obtain ⟨p, hp⟩ := h1.vopen
  have HP := Lib.hid hp
  have c0 := hp.cell 0 (.pointer (some ⟨R, 0, none⟩)) rfl
  have c1 := hp.cell 1 (.int .i64 k) rfl
  have c3 := hp.cell 3 (.map (some p.mM)) rfl
  obtain ⟨s0, s1, s2⟩ := SB.at hp.rest
  rw [Nat.zero_add] at s1 s2
  have HVA := Lib.hid (fun w' (hf : Fr (w.alloc (.cells #[.int .i64 s.1, .string (S s.2.1), .int .i64 s.2.2] 37)) w') => Has.valid ((hp.rest.right).fr hf) s hq)
  unfold sgV at HVA ⊢
  have HRD := Lib.hid (fun w' => read_any s.2.1 w' hs.2.1)
  have HHD := Lib.hid hd
  have HLL := Lib.hid hll
  have HGS := Lib.hid hs
  have HRC := Lib.hid (show ∀ c, readC s.2.1 = some c → okB c = true ∧ clm s.2.1 = c from fun c hc => ⟨(readC_some.1 hc).1, by unfold clm; rw [hc]; rfl⟩)
  have HVS := Lib.hid (show vst d s = { lrn d (clm s.2.1) with mm := fun m => if m = s.2.2 then true else d.mm m } from rfl)
  obtain ⟨g, hg⟩ : ∃ g, g = s := ⟨_, rfl⟩
  obtain ⟨sk, st, sm⟩ := s
  simp only at *
  generalize readC st = o at *
  clear h h1 hp hd hq hll hs hg
  go_enter Tryd.func12, Tryd.ntmps12
  go_upto_region 1 with fail
  obtain ⟨T, hT⟩ : ∃ T, T = w.heap.size := ⟨_, rfl⟩
  rw [← hT] at s0 s1 s2 HP ⊢
  clear hT
  generalize w.alloc (.cells #[.int .i64 sk, .string (S st), .int .i64 sm] 37) = w1 at *
  refine wp_region_cls (D := Cls w1) (by kernel_rfl) (by kernel_rfl) (Fr.drew w1) ?_
  repeat (go_big_quiet_step (first
    | (intro hw'; with_reducible rfl)
    | (intro hw'; go_at_call 24; exact (HVA.out _ hw').mono fun e w'' ⟨he, hf⟩ => ⟨he, hw'.of hf⟩)
    | (intro hw'; have g1 := Fr.cell hw' c0; simp only [g1]; exact ⟨rfl, rfl⟩)
    | (intro hw'; have g0 := Fr.cell hw' s0; have g1 := Fr.cell hw' s1; have g2 := Fr.cell hw' s2; simp only [g0, g1, g2, Result.andThen]; exact ⟨trivial, rfl⟩)))
  refine wpQuiet_nil ?_
  intro w2 hw2
  have hg2 : Fr w1 w2 := hw2
  have HP2 := Lib.hid (VP.fr HP.out hg2)
  replace c1 := hg2.cell c1
  replace c3 := hg2.cell c3
  replace s0 := hg2.cell s0
  replace s1 := hg2.cell s1
  replace s2 := hg2.cell s2
  have HFIN : Hid (∀ w', Fr w2 w' → Has W w' ((ViewT B R k l d).sep ((RingT R q).sep U))) := Lib.hid fun w' hf => (VP.close (VP.fr HP2.out hf)).turn.right
  clear hg2 hw2 HP HVA c0
  clear w1
  obtain ⟨hb, hhb⟩ : ∃ hb, hb = holds q (sk, st, sm) := ⟨_, rfl⟩
  rw [← hhb] at H18 H22 H2n H2k H21 H0 ⊢
  clear hhb
  cases hb with
  | false =>
    obtain ⟨rfl, rfl, rfl⟩ := H18.out (by first | rfl | trivial)
    go_wp2_with fail
    go_ret
    exact ⟨rfl, HFIN.out _ (Fr.refl _)⟩
  | true =>
  clear H18
  by_cases hk : sk = k
  · subst hk
    go_upto_region 3 with fail
    go_quiet (fail)
    have HP3 := Lib.hid (VP.fr HP2.out (Fr.drewN _ nq))
    replace c3 := (Fr.drewN _ nq).cell c3
    replace s0 := (Fr.drewN _ nq).cell s0
    replace s1 := (Fr.drewN _ nq).cell s1
    replace s2 := (Fr.drewN _ nq).cell s2
    replace HFIN : Hid (∀ w', Fr (w2.drewN nq) w' → Has W w' ((ViewT B R sk l d).sep ((RingT R q).sep U))) := Lib.hid fun w' hf => HFIN.out w' ((Fr.drewN _ _).trans hf)
    clear HP2 c1 H22
    generalize w2.drewN nq = w3 at *
    cases o with
    | none =>
      obtain ⟨rfl, rfl, rfl⟩ := H2n.out (by first | rfl | trivial) (by first | rfl | trivial) (by first | rfl | trivial)
      unfold readV zeroC C.v at HRD
      go_wp2_with (go_at_call 25; refine (HRD.out _).mono ?_; rintro e w4 ⟨rfl, hf4⟩)
      go_ret
      exact ⟨rfl, HFIN.out _ (hf4.trans (Fr.alloc _ _))⟩
    | some c =>
    clear H2n
    obtain ⟨hok, hcl⟩ := HRC.out c (by first | rfl | trivial)
    have HOK := Lib.hid hok
    have HCL := Lib.hid hcl
    have HIL := Lib.hid (fun w' => isOfLog_any c w' hok)
    unfold readV at HRD
    have HCV : Hid (c.v = .agg #[.int .i64 c.k, .int .i64 c.n, .int .i64 c.t, .string (S c.s)]) := Lib.hid rfl
    rw [HCV.out] at HIL
    simp only [HCV.out] at HRD
    replace H2k := Lib.hid (fun h => H2k.out (by first | rfl | trivial) (by first | rfl | trivial) c (by first | rfl | trivial) h)
    replace H21 := Lib.hid (fun h => H21.out (by first | rfl | trivial) (by first | rfl | trivial) c (by first | rfl | trivial) h)
    replace H0 := Lib.hid (fun h => H0.out (by first | rfl | trivial) (by first | rfl | trivial) c (by first | rfl | trivial) h)
    clear hok hcl HRC
    go_upto_region 6 with (go_at_call 25; refine (HRD.out _).mono ?_; rintro e w4 ⟨rfl, hf4⟩)
    have hfX := hf4.trans (Fr.alloc w4 (.cells #[.int .i64 c.k, .int .i64 c.n, .int .i64 c.t, .string (S c.s)] 68))
    obtain ⟨x0, x1, x2, x3⟩ := CAt.new w4 c
    have HP4 := Lib.hid (VP.vbox (VP.fr HP3.out hf4) c)
    have HF4 := Lib.hid hfX
    replace c3 := hfX.cell c3
    replace s0 := hfX.cell s0
    replace s1 := hfX.cell s1
    replace s2 := hfX.cell s2
    obtain ⟨X, hX⟩ : ∃ X, X = w4.heap.size := ⟨_, rfl⟩
    rw [← hX] at x0 x1 x2 x3 HP4 ⊢
    clear hX hfX hf4 HP3 HRD
    generalize w4.alloc (.cells #[.int .i64 c.k, .int .i64 c.n, .int .i64 c.t, .string (S c.s)] 68) = w5 at *
    by_cases hkd : c.k ≤ 2
    · have hkd' : decide (c.k ≤ 2) = true := decide_eq_true hkd
      rw [hkd'] at HIL
      have HD1 := Lib.hid (fun h => H21.out hkd h)
      have HD0 := Lib.hid (fun h => H0.out hkd h)
      clear H2k H21 H0 hkd' hkd
      go_upto_region 8 with (go_at_call 27; refine (HIL.out _).mono ?_; rintro e w6 ⟨rfl, hf6⟩)
      have HP6 := Lib.hid (VP.fr HP4.out hf6)
      have HF6 := Lib.hid (HF4.out.trans hf6)
      replace c3 := hf6.cell c3
      replace s0 := hf6.cell s0
      replace s1 := hf6.cell s1
      replace s2 := hf6.cell s2
      replace x0 := hf6.cell x0
      replace x1 := hf6.cell x1
      replace x2 := hf6.cell x2
      replace x3 := hf6.cell x3
      clear hf6 HP4 HF4 HIL
      have HVD := Lib.hid (vdenies (VP.close HP6.out) HHD.out c HOK.out)
      rw [HCV.out] at HVD
      generalize dny d c = db at *
      cases db with
      | true =>
        obtain ⟨rfl, rfl, rfl⟩ := HD1.out (by first | rfl | trivial)
        go_wp2_with (go_at_call 28; refine HVD.out.mono ?_; rintro e w7 ⟨rfl, hf7⟩)
        go_ret
        exact ⟨rfl, HFIN.out _ (HF6.out.trans hf7)⟩
      | false =>
        have hE := HD0.out (by first | rfl | trivial)
        replace H0a := Lib.hid (fun h => H0a.out hE h)
        replace H0n := Lib.hid (fun h => H0n.out hE h)
        subst hE
        clear HD1 HD0
        go_upto_region 10 with (go_at_call 28; refine HVD.out.mono ?_; rintro e w7 ⟨rfl, hf7⟩)
        have HP7 := Lib.hid (VP.fr HP6.out hf7)
        have HF7 := Lib.hid (HF6.out.trans hf7)
        replace c3 := hf7.cell c3
        replace s0 := hf7.cell s0
        replace s1 := hf7.cell s1
        replace s2 := hf7.cell s2
        replace x0 := hf7.cell x0
        replace x1 := hf7.cell x1
        replace x2 := hf7.cell x2
        replace x3 := hf7.cell x3
        clear hf7 HP6 HF6 HVD
        have hlk := fun n => ((VP.mm HP7.out).fr (Fr.drewN _ n)).look1 sm HGS.out.2.2
        have hmv : (mmV d sm).getD (.bool false) = .bool (d.mm sm) := by unfold mmV; cases d.mm sm <;> rfl
        rw [hmv] at hlk
        clear hmv
        generalize d.mm sm = mb at *
        have HQ7 := Lib.hid (fun n => VP.fr HP7.out (Fr.drewN _ n))
        cases mb with
        | true =>
          obtain ⟨rfl, rfl⟩ := H0a.out (by first | rfl | trivial)
          generalize p.mM = MM at *
          go_quiet (fail)
          go_wp2_with fail
          go_ret
          exact ⟨rfl, HFIN.out _ (HF7.out.trans (Fr.drewN _ _))⟩
        | false =>
          have hLD := H0n.out (by first | rfl | trivial)
          clear H0a H0n
          go_quiet (fail)
          have HP8 := Lib.hid (HQ7.out nq)
          replace c3 := (Fr.drewN _ nq).cell c3
          replace s0 := (Fr.drewN _ nq).cell s0
          replace s1 := (Fr.drewN _ nq).cell s1
          replace s2 := (Fr.drewN _ nq).cell s2
          replace x0 := (Fr.drewN _ nq).cell x0
          replace x1 := (Fr.drewN _ nq).cell x1
          replace x2 := (Fr.drewN _ nq).cell x2
          replace x3 := (Fr.drewN _ nq).cell x3
          clear HQ7 hlk HFIN HF7 HP7
          generalize w7.drewN nq = w8 at *
          go_upto_region 11 with fail
          obtain ⟨w9, n9, hup, hv9⟩ := VP.mmput (VP.fr HP8.out (Fr.drew w8)) sm HGS.out.2.2
          have HP9 := Lib.hid hv9
          generalize hMM : p.mM = MM at c3 hup
          clear hMM hv9 HP8
          refine wp_region_still_tail 6 (by kernel_rfl) (by kernel_rfl) ?_
          simp only [List.take_succ_cons, List.take_zero, List.drop_succ_cons, List.drop_zero]
          iterate 6 still_step
          refine wpStill_nil ?_
          try simp only [Act.put, List.setIfInBounds_toArray, List.set_cons_zero, List.set_cons_succ]
          refine wpList_map_store rfl (.tmp 48) (.tmp 50) (.const (.bool true)) _ rfl MM _ _ rfl rfl rfl hup rfl ?_
          clear hup c3 s0 s1 s2 x0 x1 x2 x3 w8
          go_upto_region 12 with fail
          obtain ⟨i0, hi, hz0, hz1, hz2⟩ := info_parts infoSg
          have HIN := Lib.hid hi
          have hfX : Fr w9 (w9.alloc (.cells #[.int .i64 sk, .string (S st), .int .i64 sm] 37)).drew := (Fr.alloc _ _).trans (Fr.drew _)
          have c2 : w9.cell? ⟨B, 2, none⟩ = some p.av := VP.cell HP9.out 2 p.av rfl
          obtain ⟨s0, s1, s2⟩ := SB.at (VP.rest HP9.out).right
          rw [Nat.zero_add] at s1 s2
          simp only at s0 s1 s2
          have HA := Lib.hid (VP.forAppend (VP.fr HP9.out hfX))
          have hav : ∃ a cc, p.av = .slice a l.length cc := row_form HA.out.row
          generalize hpav : p.av = av at *
          have HPAV := Lib.hid hpav
          obtain ⟨a, cc, hav⟩ := hav
          subst hav
          have d2 := (Fr.drew w9).cell c2
          have d0 := (Fr.drew w9).cell s0
          have d1 := (Fr.drew w9).cell s1
          have d3 := (Fr.drew w9).cell s2
          have y2 := hfX.cell c2
          have y0 := hfX.cell s0
          have y1 := hfX.cell s1
          have y3 := hfX.cell s2
          have HN := Lib.hid (show l.length ≤ 100000 from HLL.out)
          have HSL := Lib.hid (show sgC (l ++ [(sk, st, sm)]) = sgC l ++ [.int .i64 sk, .string (S st), .int .i64 sm] from by rw [sgC_append]; simp [sgC])
          have HLE := Lib.hid (show (l ++ [(sk, st, sm)]).length = l.length + 1 from by simp)
          generalize sgC l = xs at *
          clear hfX hpav hi s0 s1 s2 c2
          go_region_law
            ((refine step_append_lies _ (by rfl) (.tmp 55) (.tmp 57) 35 (by rfl) 0 37 i0 (.agg #[.int .i64 0, .string (S []), .int .i64 0]) 3 32 Tryd.underlying35 HIN.out hz0 hz1 hz2 rfl (by decide) (.slice a l.length cc) l.length xs (by rfl) HA.out.row
                ⟨w9.heap.size, 0, none⟩ 1 1 [.int .i64 sk, .string (S st), .int .i64 sm] (by rfl) (by rfl) (World.news_of_block (cs := #[.int .i64 sk, .string (S st), .int .i64 sm]) (t := 37) (fr := (0, 0)) (heap_alloc_new w9 _)) (by simp [Value.oneCell'])
                (by decide) (by have := HN.out; unfold maxLen; omega) (by have := HN.out; omega) (Nat.zero_le _) (w9.heap.size + 1) (by simp) ?_
              intro gg cap1 w10 hown1 hgrow hat1 hlt1
              have h10 := HA.out.app hown1 hgrow (fun x hx => by
                simp only [Value.ownBlock, Option.some.injEq] at hx
                subst hx
                rcases hat1 with h | h
                · exact .inl h
                · exact .inr (by rw [h]; simp))
              rw [← HSL.out, ← HLE.out] at h10
              obtain ⟨hb10, hv10⟩ := acc_done h10
              have c33' : w10.cell? ⟨B, 2, none⟩ = some (.slice a l.length cc) := cellOf hb10 rfl
              have f33' : w10.frozen? ⟨B, 2, none⟩ = false := frozenOf hb10 2
              rw [HLE.out] at hv10
              have HV10 := Lib.hid hv10
              clear h10 hb10 hv10 hown1 hgrow hat1 hlt1))
          all_goals
            have HV11 := Lib.hid (HV10.out)
            obtain ⟨x0, x1, x2, x3⟩ := VP.cb HV11.out
            have HLR := Lib.hid (vlearn (VP.close HV11.out) (show HdOk { d with mm := fun m => if m = sm then true else d.mm m } from ⟨HHD.out.srt, HHD.out.len, HHD.out.fits⟩) c HOK.out)
            rw [HCV.out, lrn_mm] at HLR
            go_wp2_with (go_at_call 29; refine HLR.out.mono ?_; rintro e w11 ⟨rfl, h11⟩)
            go_ret
            refine ⟨rfl, ?_⟩
            rw [hLD.1, hLD.2, HVS.out, HCL.out]
            exact h11.turn.right.turn.right
    · obtain ⟨rfl, rfl, rfl⟩ := H2k.out (by omega)
      have hkd' : decide (c.k ≤ 2) = false := decide_eq_false hkd
      rw [hkd'] at HIL
      go_wp2_with (go_at_call 27; refine (HIL.out _).mono ?_; rintro e w6 ⟨rfl, hf6⟩)
      go_ret
      exact ⟨rfl, HFIN.out _ (HF4.out.trans hf6)⟩
  · obtain ⟨rfl, rfl, rfl⟩ := H22.out (by first | rfl | trivial) hk
    have hk' : (sk != k) = true := bne_iff_ne.2 hk
    go_upto_region 3 with fail
    go_quiet (fail)
    go_wp2_with fail
    go_ret
    exact ⟨rfl, HFIN.out _ (Fr.drewN _ _)⟩
end Go.Proofs.YthppefkamklakaaDoor
