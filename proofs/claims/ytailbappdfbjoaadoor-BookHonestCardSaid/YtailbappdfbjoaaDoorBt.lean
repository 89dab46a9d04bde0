/-
  BookHonest: the walk.
-/
import Derived.Test.YtailbappdfbjoaaDoorBs
namespace Go.Proofs.YtailbappdfbjoaaDoor
open Go.RowKit Go.MapKept Go.Maps Go.WideMaps

/-- The claims of the first k entries of the ring that are the key's. -/
noncomputable def cl (key : Int) (q : List Sd) (k : Nat) : List C := ((q.take k).filter fun e => decide (e.1 = key)).map fun e => (readC e.2).getD zeroC
theorem cl_zero (key : Int) (q : List Sd) : cl key q 0 = [] := rfl
theorem cl_no {key : Int} {q : List Sd} {k : Nat} (h : k < q.length) (hk : q[k].1 ≠ key) : cl key q (k + 1) = cl key q k := by
  unfold cl
  rw [List.take_succ_eq_append_getElem h, List.filter_append, List.filter_cons_of_neg (by simpa using hk), List.filter_nil, List.append_nil]
theorem cl_yes {key : Int} {q : List Sd} {k : Nat} (h : k < q.length) (hk : q[k].1 = key) {c : C} (hc : readC q[k].2 = some c) : cl key q (k + 1) = cl key q k ++ [c] := by
  unfold cl
  rw [List.take_succ_eq_append_getElem h, List.filter_append, List.filter_cons_of_pos (by simpa using hk), List.filter_nil, List.map_append, List.map_cons, List.map_nil, hc]
  rfl
theorem cl_len (key : Int) (q : List Sd) (k : Nat) : (cl key q k).length ≤ k := by
  unfold cl
  rw [List.length_map]
  refine Nat.le_trans (List.length_filter_le _ _) ?_
  rw [List.length_take]; omega
theorem cl_mem {s : BS} {q : List Sd} (h : Hon s q) {k : Nat} {c : C} (hc : c ∈ cl s.k q k) : okB c = true ∧ (s.k, textC c) ∈ q := by
  unfold cl at hc
  obtain ⟨e, he, rfl⟩ := List.mem_map.1 hc
  obtain ⟨h1, h2⟩ := List.mem_filter.1 he
  have hq := List.mem_of_mem_take h1
  have hk : e.1 = s.k := of_decide_eq_true h2
  obtain ⟨d, hd, ht⟩ := h.all e hq hk
  have hr : readC e.2 = some d := by rw [ht]; exact readC_text hd
  rw [hr]
  show okB d = true ∧ (s.k, textC d) ∈ q
  refine ⟨hd, ?_⟩
  have : e = (s.k, textC d) := by rw [← hk, ← ht]
  rw [← this]; exact hq
theorem ok_fits {c : C} (h : okB c = true) : c.fits := by
  have hb := ok_bounds h
  exact ⟨⟨by omega, by omega⟩, ⟨by omega, by omega⟩, ⟨by omega, by omega⟩, by omega⟩
/-- What is known of an entry that is the key's. -/
theorem own_entry {s : BS} {q : List Sd} (h : Hon s q) {k : Nat} (hk : k < q.length) (he : q[k].1 = s.k) : ∃ c, okB c = true ∧ readC q[k].2 = some c ∧ q[k].2.length ≤ 20100 ∧ ∀ d ∈ cl s.k q k, contra d c = false ∧ contra c d = false := by
  obtain ⟨c, hc, ht⟩ := h.all _ (List.getElem_mem hk) he
  have hm : (s.k, textC c) ∈ q := by
    have : q[k] = (s.k, textC c) := by rw [← he, ← ht]
    rw [← this]; exact List.getElem_mem hk
  refine ⟨c, hc, by rw [ht]; exact readC_text hc, by rw [ht]; exact textC_len hc, fun d hd => ?_⟩
  obtain ⟨h1, h2⟩ := cl_mem h hd
  exact ⟨h.contra h1 hc h2 hm, h.contra hc h1 hm h2⟩

theorem own_entry2 {s : BS} {q : List Sd} (h : Hon s q) {key : Int} (hs : s.k = key) {k : Nat} (hk : k < q.length) (he : q[k].1 = key) : ∃ c, okB c = true ∧ readC q[k].2 = some c ∧ q[k].2.length ≤ 20100 ∧ ∀ d ∈ cl key q k, okB d = true ∧ contra d c = false ∧ contra c d = false := by
  subst hs
  obtain ⟨c, h1, h2, h3, h4⟩ := own_entry h hk he
  exact ⟨c, h1, h2, h3, fun d hd => ⟨(cl_mem h hd).1, h4 d hd⟩⟩
theorem read_some {t : Txt} {c : C} (h : readC t = some c) (ht : t.length ≤ 20100) (w : World) :
    Calls Tryd.prog 22 #[.string (S t)] w fun e w' => e = .returned (.tuple #[.agg #[.int .i64 c.k, .int .i64 c.n, .int .i64 c.t, .string (S c.s)], .int .i64 0]) ∧ Fr w w' := by
  refine (read_any t w (by omega)).mono ?_
  rintro e w' ⟨rfl, hf⟩
  exact ⟨by rw [h]; rfl, hf⟩
theorem right_ok (c : C) (hc : okB c = true) (w : World) :
    Calls Tryd.prog 23 #[.agg #[.int .i64 c.k, .int .i64 c.n, .int .i64 c.t, .string (S c.s)]] w fun e w' => e = .returned (.bool true) ∧ Fr w w' :=
  (right_any c w (ok_fits hc)).mono fun _ _ ⟨he, hf⟩ => ⟨by rw [he, hc], hf⟩
theorem contra_ok2 (a b : C) (ha : okB a = true) (hb : okB b = true) (h : contra a b = false) (w : World) :
    Calls Tryd.prog 24 #[.agg #[.int .i64 a.k, .int .i64 a.n, .int .i64 a.t, .string (S a.s)], .agg #[.int .i64 b.k, .int .i64 b.n, .int .i64 b.t, .string (S b.s)]] w fun e w' => e = .returned (.bool false) ∧ Fr w w' :=
  (contra_any a b w (ok_fits ha) (ok_fits hb)).mono fun _ _ ⟨he, hf⟩ => ⟨by rw [he, h], hf⟩
theorem eight_fr {w w' : World} {g1 j X : Nat} {y c : C} (h : w.cell? ⟨g1, j * 4, none⟩ = some (.int .i64 y.k) ∧ w.cell? ⟨g1, j * 4 + 1, none⟩ = some (.int .i64 y.n) ∧ w.cell? ⟨g1, j * 4 + 2, none⟩ = some (.int .i64 y.t) ∧ w.cell? ⟨g1, j * 4 + 3, none⟩ = some (.string (S y.s)) ∧ w.cell? ⟨X, 0, none⟩ = some (.int .i64 c.k) ∧ w.cell? ⟨X, 1, none⟩ = some (.int .i64 c.n) ∧ w.cell? ⟨X, 2, none⟩ = some (.int .i64 c.t) ∧ w.cell? ⟨X, 3, none⟩ = some (.string (S c.s))) (hf : Fr w w') :
    w'.cell? ⟨g1, j * 4, none⟩ = some (.int .i64 y.k) ∧ w'.cell? ⟨g1, j * 4 + 1, none⟩ = some (.int .i64 y.n) ∧ w'.cell? ⟨g1, j * 4 + 2, none⟩ = some (.int .i64 y.t) ∧ w'.cell? ⟨g1, j * 4 + 3, none⟩ = some (.string (S y.s)) ∧ w'.cell? ⟨X, 0, none⟩ = some (.int .i64 c.k) ∧ w'.cell? ⟨X, 1, none⟩ = some (.int .i64 c.n) ∧ w'.cell? ⟨X, 2, none⟩ = some (.int .i64 c.t) ∧ w'.cell? ⟨X, 3, none⟩ = some (.string (S c.s)) := ⟨hf.cell h.1, hf.cell h.2.1, hf.cell h.2.2.1, hf.cell h.2.2.2.1, hf.cell h.2.2.2.2.1, hf.cell h.2.2.2.2.2.1, hf.cell h.2.2.2.2.2.2.1, hf.cell h.2.2.2.2.2.2.2⟩
set_option maxHeartbeats 1000000 in
set_option maxRecDepth 100000 in
theorem honest_not (v : Value) (l : List Op3) (key : Int) (w : World) (hT : Tab w) (h : OSl w v l) (ha : OArg l) (hf : ¬ FewO l) :
    Calls Tryd.prog 4 #[.int .i64 key, v] w fun e w' => e = .returned (.bool true) ∧ Fr w w' := by
  have H := Lib.hid h
  have HA := Lib.hid ha
  have HF := Lib.hid hf
  have HT := Lib.hid hT
  clear h ha hf hT
  go_enter Tryd.func4, Tryd.ntmps4
  go_wp2_with (first
    | (go_at_call 8; refine (fewO_no _ (H.out.fr hf1) HA.out HF.out).mono ?_; rintro e w3 ⟨rfl, rfl⟩)
    | (go_at_call 7; refine (small_any _ HT.out).mono ?_; rintro e w1 ⟨rfl, hf1⟩))
  go_ret
  exact ⟨rfl, hf1⟩
set_option maxHeartbeats 1000000 in
set_option maxRecDepth 100000 in
theorem honest_nokey (v : Value) (l : List Op3) (key : Int) (w : World) (hT : Tab w) (h : OSl w v l) (ha : OArg l) (hf : FewO l) (hk : ¬ IsKey key) :
    Calls Tryd.prog 4 #[.int .i64 key, v] w fun e w' => e = .returned (.bool true) ∧ Fr w w' := by
  have H := Lib.hid h
  have HA := Lib.hid ha
  have HF := Lib.hid hf
  have HT := Lib.hid hT
  have HK := Lib.hid hk
  rcases notKey hk with hlt | ⟨hge, hlt⟩
  all_goals
    clear h ha hf hT hk
    go_enter Tryd.func4, Tryd.ntmps4
    go_wp2_with (first
      | (go_at_call 8; refine (fewO_yes _ (H.out.fr hf1) HA.out HF.out).mono ?_; rintro e w2 ⟨rfl, rfl⟩)
      | (go_at_call 7; refine (small_any _ HT.out).mono ?_; rintro e w1 ⟨rfl, hf1⟩; have H1 := Lib.hid ((Has.here w).fr hf1))
      | (go_at_call 9; refine (Has.ring H1.out).mono ?_; rintro e w3 ⟨R, rfl, h3⟩; have H3 := Lib.hid h3; clear h3)
      | (go_at_call 11; refine (bnew_no _ key _ HK.out).mono ?_; rintro e w5 ⟨rfl, hf5⟩; have H5 := Lib.hid (H3.out.fr hf5); clear hf5))
    go_ret
    exact ⟨rfl, H5.out.toFr⟩
set_option maxHeartbeats 4000000 in
set_option maxRecDepth 100000 in
theorem honest_yes (ad : Option Addr) (c : Nat) (l : List Op3) (key : Int) (w : World) (hT : Tab w) (h : OSl w (.slice ad l.length c) l) (ha : OArg l) (hf : FewO l) (hk : IsKey key) :
    Calls Tryd.prog 4 #[.int .i64 key, .slice ad l.length c] w fun e w' => e = .returned (.bool true) ∧ Fr w w' := by
  obtain ⟨i0, hi, hz0, hz1, hz2⟩ := info_parts infoC
  have HIN := Lib.hid hi
  have H := Lib.hid h
  have HA := Lib.hid ha
  have HF := Lib.hid hf
  have HT := Lib.hid hT
  have HK := Lib.hid hk
  have hll := hf.1
  clear h ha hf hT hk hi
  go_enter Tryd.func4, Tryd.ntmps4
  go_upto_region 10 with (first
    | (go_at_call 8; refine (fewO_yes _ (H.out.fr hf1) HA.out HF.out).mono ?_; rintro e w2 ⟨rfl, rfl⟩)
    | (go_at_call 7; refine (small_any _ HT.out).mono ?_; rintro e w1 ⟨rfl, hf1⟩; have H1 := Lib.hid ((Has.here w).fr hf1))
    | (go_at_call 9; refine (Has.ring H1.out).mono ?_; rintro e w3 ⟨R, rfl, h3⟩; have H3 := Lib.hid h3; clear h3)
    | (go_at_call 11; refine (bnew_yes H3.out key HK.out).mono ?_; rintro e w5 ⟨B, rfl, h5⟩; have H5 := Lib.hid h5; clear h5))
  clear H3 H1 hf1
  go_wp2_with fail
  go_loopw [9] (fun i wr => ∃ k : Nat, k ≤ l.length ∧ i = .int .i64 k ∧ Hid (Has w wr ((BookT B R (st key l k).1 (st key l k).2).sep .emp))) (fun i _ => l.length - (intOf i).toNat)
  case atStart => exact ⟨0, Nat.zero_le _, rfl, H5⟩
  case round =>
    obtain ⟨k, hk, rfl, hR⟩ := hrel
    clear H5
    by_cases hlt : k < l.length
    · obtain ⟨Bl, o, c', hv, hc⟩ := H.out.get (by omega)
      obtain ⟨rfl, rfl⟩ : ad = some ⟨Bl, o, none⟩ ∧ c = c' := by simpa using hv
      have hst := st_ok key l k
      have HSK := Lib.hid hst.key
      have HOK := Lib.hid (hst.ok (by omega))
      have HQ := Lib.hid (show (st key l k).2.length ≤ 100 by have := hst.ring; omega)
      have HNX := Lib.hid (st_succ key l k hlt)
      have HO := Lib.hid (HA.out.2 _ (List.getElem_mem hlt))
      have HC := Lib.hid (hc k hlt)
      clear hc hv hst
      generalize l[k] = x at *
      generalize st key l k = p at *
      obtain ⟨s, q⟩ := p
      simp only at HSK HOK HQ hR
      have c0 := hR.out.toFr.cell HC.out.1
      have c1 := hR.out.toFr.cell HC.out.2.1
      have c2 := hR.out.toFr.cell HC.out.2.2
      obtain ⟨g, hg⟩ : ∃ g, g = sgO q (opO s x) := ⟨_, rfl⟩
      obtain ⟨q', hq'⟩ : ∃ q', q' = qO q (opO s x) := ⟨_, rfl⟩
      obtain ⟨e1, he⟩ : ∃ e1, e1 = opE s x := ⟨_, rfl⟩
      have HG := Lib.hid hg
      have HQ' := Lib.hid hq'
      have HE := Lib.hid he
      have HQL := Lib.hid (show q'.length ≤ 1000000 by rw [hq']; have := qO_len q (opO s x); have := HQ.out; omega)
      have HVA : Hid (1 ≤ x.1 → x.1 ≤ 3 → e1 = 0 → g.1 = key ∧ holds q' g = true) := Lib.hid (by
        rw [hg, hq', he, ← HSK.out]
        exact op_valid (by rw [HSK.out]; exact HK.out) x)
      clear hg hq' he
      go_upto_region 14 with (go_at_call 13; refine (do_key hR.out HT.out HOK.out (by have := HQ.out; omega) x HO.out key HSK.out).mono ?_
                              obtain ⟨n, hn⟩ : ∃ n, n = opN s x := ⟨_, rfl⟩
                              rw [← HG.out, ← hn, ← HE.out, ← HQ'.out]
                              unfold sgV
                              clear hn
                              rintro e w7 ⟨rfl, h7⟩)
      have h8 := h7.box 37 #[.int .i64 g.1, .string (S g.2.1), .int .i64 g.2.2]
      have hX := h8.boxed
      have H8 := Lib.hid h8.right
      obtain ⟨X, hXX⟩ : ∃ X, X = w7.heap.size := ⟨_, rfl⟩
      rw [← hXX] at hX ⊢
      generalize w7.alloc (.cells #[.int .i64 g.1, .string (S g.2.1), .int .i64 g.2.2] 37) = w8 at *
      clear h8 h7 hR c0 c1 c2 hXX
      have c0 := H8.out.toFr.cell HC.out.1
      have x0 : w8.cell? ⟨X, 0, none⟩ = some (.int .i64 g.1) := cellOf hX rfl
      have x1 : w8.cell? ⟨X, 1, none⟩ = some (.string (S g.2.1)) := cellOf hX rfl
      have x2 : w8.cell? ⟨X, 2, none⟩ = some (.int .i64 g.2.2) := cellOf hX rfl
      clear hX
      have HR1 : Hid (∀ w', Fr w8 w' → Has w w' ((BookT B R (st key l (k + 1)).1 (st key l (k + 1)).2).sep .emp)) := Lib.hid fun w' hf => by
        rw [HNX.out]
        show Has w w' ((BookT B R (opB s x) (qO q (opO s x))).sep .emp)
        rw [← HQ'.out]
        exact H8.out.fr hf
      by_cases h1 : 1 ≤ x.1
      · by_cases h3 : x.1 ≤ 3
        · by_cases h0 : e1 = 0
          · obtain ⟨hgk, hgv⟩ := HVA.out h1 h3 h0
            have HV := Lib.hid hgv
            clear hgv HVA
            subst h0
            obtain ⟨gk, gt, gm⟩ := g
            simp only at hgk x0 x1 x2
            subst hgk
            go_wp2_with (go_at_call 21; refine (H8.out.bvalid (gk, gt, gm) HQL.out).mono ?_; rw [HV.out]; rintro e w9 ⟨rfl, hf9⟩)
            have HR2 := Lib.hid (HR1.out _ hf9)
            go_roundw
            case rel => exact ⟨k + 1, by omega, by go_num, HR2⟩
            case measure => simp [intOf]; omega
          · have HR2 := Lib.hid (HR1.out _ (Fr.refl _))
            clear HVA
            go_wp2_with fail
            go_roundw
            case rel => exact ⟨k + 1, by omega, by go_num, HR2⟩
            case measure => simp [intOf]; omega
        · have HR2 := Lib.hid (HR1.out _ (Fr.refl _))
          clear HVA
          go_wp2_with fail
          go_roundw
          case rel => exact ⟨k + 1, by omega, by go_num, HR2⟩
          case measure => simp [intOf]; omega
      · have HR2 := Lib.hid (HR1.out _ (Fr.refl _))
        clear HVA
        go_wp2_with fail
        go_roundw
        case rel => exact ⟨k + 1, by omega, by go_num, HR2⟩
        case measure => simp [intOf]; omega
    · obtain rfl : k = l.length := by omega
      have hst := st_ok key l l.length
      have HH := Lib.hid (st_hon key l l.length (Nat.le_refl _) (by omega))
      have HSK := Lib.hid hst.key
      have hql : (st key l l.length).2.length ≤ 25 := by have := hst.ring; omega
      generalize st key l l.length = p at *
      obtain ⟨s, q⟩ := p
      simp only at HH HSK hql hR
      clear hst hlt hk
      go_upto_region 17 with (go_at_call 19; refine (Has.ball hR.out (by omega)).mono ?_; rintro e w6 ⟨vb, rfl, ho6, hf6⟩; have H6 := Lib.hid (hR.out.radd ho6 hf6); obtain ⟨va, vc, rfl⟩ := row_form ho6; clear ho6 hf6)
      have H7 : Hid (0 = (cl key q 0).length ∧ Has w w6 ((RowT 58 4 (.slice none 0 0) 0 (cC (cl key q 0))).sep ((RowT 56 2 (.slice va q.length vc) q.length (sdC q)).sep ((BookT B R s q).sep .emp)))) := Lib.hid ⟨rfl, H6.out.nilRow 58 4⟩
      clear H6 hR
      go_wp2_with fail
      go_loopw [14, 15] (fun a14 i wr => ∃ k : Nat, k ≤ q.length ∧ i = .int .i64 k ∧ ∃ b d n, a14 = .slice b n d ∧ n ≤ k ∧ Hid (n = (cl key q k).length ∧ Has w wr ((RowT 58 4 (.slice b n d) n (cC (cl key q k))).sep ((RowT 56 2 (.slice va q.length vc) q.length (sdC q)).sep ((BookT B R s q).sep .emp))))) (fun _ i _ => q.length - (intOf i).toNat)
      case atStart => exact ⟨0, Nat.zero_le _, rfl, none, 0, 0, rfl, Nat.le_refl _, H7⟩
      case round =>
      obtain ⟨k, hk, rfl, b, d, n, rfl, hnk, hR⟩ := hrel
      clear H7
      by_cases hlt : k < q.length
      · obtain ⟨gq, cq, hvq, -⟩ := row_at hR.out.2.right.row rfl (by omega)
        obtain ⟨rfl, rfl⟩ : va = some ⟨gq, 0, none⟩ ∧ vc = cq := by simpa using hvq
        obtain ⟨s0, s1⟩ := sd_cell hR.out.2.right.row rfl k hlt
        clear hvq
        by_cases hkey : q[k].1 = key
        · obtain ⟨c, hc, hr, hcl, hcon⟩ := own_entry2 HH.out HSK.out hlt hkey
          have HCL := Lib.hid (cl_yes hlt hkey hr)
          have HC := Lib.hid hc
          have HRD := Lib.hid hr
          have HLEN := Lib.hid hcl
          have HCON := Lib.hid hcon
          clear hc hr hcl hcon
          generalize q[k] = x at *
          obtain ⟨xk, xt⟩ := x
          simp only at hkey s0 s1 HRD HLEN
          subst hkey
          go_upto_region 23 with (go_at_call 22; refine (read_some HRD.out HLEN.out _).mono ?_; rintro e w7 ⟨rfl, hf7⟩)
          have h8 := (hR.out.2.fr hf7).box 58 #[.int .i64 c.k, .int .i64 c.n, .int .i64 c.t, .string (S c.s)]
          have H8 := Lib.hid h8.turn
          obtain ⟨X, hXX⟩ : ∃ X, X = w7.heap.size := ⟨_, rfl⟩
          rw [← hXX] at H8 ⊢
          generalize w7.alloc (.cells #[.int .i64 c.k, .int .i64 c.n, .int .i64 c.t, .string (S c.s)] 58) = w8 at *
          have hX := H8.out.right.boxed
          have x0 : w8.cell? ⟨X, 0, none⟩ = some (.int .i64 c.k) := cellOf hX rfl
          have x1 : w8.cell? ⟨X, 1, none⟩ = some (.int .i64 c.n) := cellOf hX rfl
          have x2 : w8.cell? ⟨X, 2, none⟩ = some (.int .i64 c.t) := cellOf hX rfl
          have x3 : w8.cell? ⟨X, 3, none⟩ = some (.string (S c.s)) := cellOf hX rfl
          have HNL := Lib.hid hR.out.1
          clear h8 hXX hX s0 s1 hf7 hR
          go_upto_region 25 with (go_at_call 23; refine (right_ok c HC.out _).mono ?_; rintro e w9 ⟨rfl, hf9⟩)
          have H9 := Lib.hid (H8.out.fr hf9)
          clear H8 hf9 x0 x1 x2 x3
          have hn25 : n ≤ 25 := by omega
          go_wp2_with fail
          go_loopw [18] (fun i wr => ∃ j : Nat, j ≤ n ∧ i = .int .i64 j ∧ Hid (Has w wr ((RowT 58 4 (.slice b n d) n (cC (cl xk q k))).sep ((BoxT 58 X #[.int .i64 c.k, .int .i64 c.n, .int .i64 c.t, .string (S c.s)]).sep ((RowT 56 2 (.slice (some ⟨gq, 0, none⟩) q.length vc) q.length (sdC q)).sep ((BookT B R s q).sep .emp)))))) (fun i _ => n - (intOf i).toNat)
          case atStart => exact ⟨0, Nat.zero_le _, rfl, H9⟩
          case round =>
          obtain ⟨j, hj, rfl, hR⟩ := hrel
          clear H9
          by_cases hjn : j < n
          · have hjl : j < (cl xk q k).length := by have := HNL.out; omega
            obtain ⟨g1, d1, hv1, _, hce⟩ := crow_at hR.out.row HNL.out (by omega)
            rw [← HNL.out] at hv1
            obtain ⟨rfl, rfl⟩ : b = some ⟨g1, 0, none⟩ ∧ d = d1 := by simpa using hv1
            have hcell := hce j hjl
            have HD := Lib.hid (HCON.out _ (List.getElem_mem hjl))
            clear hv1 hce
            generalize (cl xk q k)[j] = y at *
            obtain ⟨y0, y1, y2, y3⟩ := hcell
            have hX := hR.out.right.boxed
            have HE0 : Hid (wr.drew.cell? ⟨g1, j * 4, none⟩ = some (.int .i64 y.k) ∧ wr.drew.cell? ⟨g1, j * 4 + 1, none⟩ = some (.int .i64 y.n) ∧ wr.drew.cell? ⟨g1, j * 4 + 2, none⟩ = some (.int .i64 y.t) ∧ wr.drew.cell? ⟨g1, j * 4 + 3, none⟩ = some (.string (S y.s)) ∧ wr.drew.cell? ⟨X, 0, none⟩ = some (.int .i64 c.k) ∧ wr.drew.cell? ⟨X, 1, none⟩ = some (.int .i64 c.n) ∧ wr.drew.cell? ⟨X, 2, none⟩ = some (.int .i64 c.t) ∧ wr.drew.cell? ⟨X, 3, none⟩ = some (.string (S c.s))) := Lib.hid (eight_fr ⟨y0, y1, y2, y3, cellOf hX rfl, cellOf hX rfl, cellOf hX rfl, cellOf hX rfl⟩ (Fr.drew wr))
            clear y0 y1 y2 y3 hX
            go_upto_region 28 with fail
            go_cut [154] (fun bv wx => bv = .bool false ∧ Hid (Has w wx ((RowT 58 4 (.slice (some ⟨g1, 0, none⟩) n d) n (cC (cl xk q k))).sep ((BoxT 58 X #[.int .i64 c.k, .int .i64 c.n, .int .i64 c.t, .string (S c.s)]).sep ((RowT 56 2 (.slice (some ⟨gq, 0, none⟩) q.length vc) q.length (sdC q)).sep ((BookT B R s q).sep .emp))))))
            case first =>
              go_region_held3 (fun w' => w'.cell? ⟨g1, j * 4, none⟩ = some (.int .i64 y.k) ∧ w'.cell? ⟨g1, j * 4 + 1, none⟩ = some (.int .i64 y.n) ∧ w'.cell? ⟨g1, j * 4 + 2, none⟩ = some (.int .i64 y.t) ∧ w'.cell? ⟨g1, j * 4 + 3, none⟩ = some (.string (S y.s)) ∧ w'.cell? ⟨X, 0, none⟩ = some (.int .i64 c.k) ∧ w'.cell? ⟨X, 1, none⟩ = some (.int .i64 c.n) ∧ w'.cell? ⟨X, 2, none⟩ = some (.int .i64 c.t) ∧ w'.cell? ⟨X, 3, none⟩ = some (.string (S c.s)))
                (first | exact HE2.out | exact HE1.out | exact HE0.out)
                (first
                  | (have he1 := HE1.out; clear he1; go_at_call 24; refine (contra_ok2 c y HC.out HD.out.1 HD.out.2.2 _).mono ?_; rintro e w11 ⟨rfl, hf11⟩; have HE2 := Lib.hid (eight_fr HE1.out hf11))
                  | (go_at_call 24; refine (contra_ok2 y c HD.out.1 HC.out HD.out.2.1 _).mono ?_; rintro e w10 ⟨rfl, hf10⟩; have HE1 := Lib.hid (eight_fr HE0.out hf10)))
              all_goals (go_wp2_with fail; go_meet; exact ⟨rfl, Lib.hid (((hR.out.fr (Fr.drew wr)).fr hf10).fr hf11)⟩)
            case rest =>
              obtain ⟨rfl, hR5⟩ := hcut
              go_wp2_with fail
              go_roundw
              case rel => exact ⟨j + 1, by omega, by go_num, hR5⟩
              case measure => simp [intOf]; omega
          · obtain rfl : j = n := by omega
            have hX := hR.out.right.boxed
            have x0 : wr.cell? ⟨X, 0, none⟩ = some (.int .i64 c.k) := cellOf hX rfl
            have x1 : wr.cell? ⟨X, 1, none⟩ = some (.int .i64 c.n) := cellOf hX rfl
            have x2 : wr.cell? ⟨X, 2, none⟩ = some (.int .i64 c.t) := cellOf hX rfl
            have x3 : wr.cell? ⟨X, 3, none⟩ = some (.string (S c.s)) := cellOf hX rfl
            clear hX
            go_wp2_with (at_builtin; refine wpList_app rfl _ _ 54 rfl 58 i0 (.agg #[.int .i64 0, .int .i64 0, .int .i64 0, .string (S [])]) 4 40 Tryd.underlying54 HIN.out hz0 hz1 hz2 rfl (by decide) rfl hR.out 1 1 [.int .i64 c.k, .int .i64 c.n, .int .i64 c.t, .string (S c.s)] rfl rfl (by simp [Value.oneCell']) (by decide) (by omega) (by decide) ?_; intro g9 cap9 w12 h12; have H12 := Lib.hid h12; clear h12)
            have HR1 : Hid (j + 1 = (cl xk q (k + 1)).length ∧ Has w w12 ((RowT 58 4 (.slice (some ⟨g9, 0, none⟩) (j + 1) cap9) (j + 1) (cC (cl xk q (k + 1)))).sep ((RowT 56 2 (.slice (some ⟨gq, 0, none⟩) q.length vc) q.length (sdC q)).sep ((BookT B R s q).sep .emp)))) := Lib.hid (by
              rw [HCL.out, List.length_append, cC_append]
              exact ⟨by rw [HNL.out]; rfl, H12.out.turn.right⟩)
            go_roundw
            case rel => exact ⟨k + 1, by omega, by go_num, _, _, _, rfl, by omega, HR1⟩
            case measure => simp [intOf]; omega
        · have HCL := Lib.hid (cl_no hlt hkey)
          generalize q[k] = x at *
          obtain ⟨xk, xt⟩ := x
          simp only at hkey s0 s1
          have HR1 : Hid (n = (cl key q (k + 1)).length ∧ Has w wr ((RowT 58 4 (.slice b n d) n (cC (cl key q (k + 1)))).sep ((RowT 56 2 (.slice (some ⟨gq, 0, none⟩) q.length vc) q.length (sdC q)).sep ((BookT B R s q).sep .emp)))) := Lib.hid (by rw [HCL.out]; exact hR.out)
          go_wp2_with fail
          go_roundw
          case rel => exact ⟨k + 1, by omega, by go_num, b, d, n, rfl, by omega, HR1⟩
          case measure => simp [intOf]; omega
      · go_wp2_with fail
        go_ret
        exact ⟨rfl, hR.out.2.toFr⟩
theorem honest_any (v : Value) (l : List Op3) (key : Int) (w : World) (hT : Tab w) (h : OSl w v l) (ha : OArg l) :
    Calls Tryd.prog 4 #[.int .i64 key, v] w fun e w' => e = .returned (.bool true) ∧ Fr w w' := by
  by_cases hf : FewO l
  · by_cases hk : IsKey key
    · obtain ⟨ad, c, rfl⟩ := h.len
      exact honest_yes ad c l key w hT h ha hf hk
    · exact honest_nokey v l key w hT h ha hf hk
  · exact honest_not v l key w hT h ha hf
end Go.Proofs.YtailbappdfbjoaaDoor
