/-
  SealMakes: the walk.
-/
import Derived.Test.YtifbenjjjghgoaaSk
namespace Go.Proofs.Ytifbenjjjghgoaa
open Go.RowKit Go.MapKept Go.Maps Go.WideMaps

set_option maxHeartbeats 1000000 in
set_option maxRecDepth 100000 in
theorem makes_not (v : Value) (l : List Sd) (s : Sg) (w : World) (h : Sl w v l) (ha : Arg l) (hf : ¬ Few l) :
    Calls Try.prog 4 #[v, sgV s] w fun e w' => e = .returned (.bool true) ∧ Fr w w' := by
  have H := Lib.hid h
  have HA := Lib.hid ha
  have HF := Lib.hid hf
  clear h ha hf
  unfold sgV
  have H0 := Lib.hid ((Has.here w).box 24 #[.int .i64 s.1, .string (S s.2.1), .int .i64 s.2.2])
  go_enter Try.func4, Try.ntmps4
  go_wp2_with (first
    | (go_at_call 8; refine (few_no _ (H.out.fr h2.toFr) HA.out HF.out).mono ?_; rintro e w3 ⟨rfl, rfl⟩)
    | (go_at_call 9; refine ((H0.out.fr hf1).ring).mono ?_; rintro e w2 ⟨B, rfl, h2⟩)
    | (go_at_call 7; refine (small_any _).mono ?_; rintro e w1 ⟨rfl, hf1⟩))
  go_ret
  exact ⟨rfl, h2.toFr⟩

/-- The signatures of the keys among the first k. -/
def mk (l : List Sd) (k : Nat) : List Sg := ((l.take k).filter key).map (sgOf l)
theorem mk_len (l : List Sd) (k : Nat) : (mk l k).length ≤ l.length := by
  unfold mk
  rw [List.length_map]
  have h1 := List.length_filter_le key (l.take k)
  have h2 : (l.take k).length ≤ l.length := by rw [List.length_take]; omega
  omega
theorem mk_yes {l : List Sd} {k : Nat} (hk : k < l.length) (h : IsKey l[k].1) : mk l (k + 1) = mk l k ++ [sgOf l l[k]] := by
  unfold mk
  rw [List.take_succ_eq_append_getElem hk, List.filter_append, List.map_append]
  simp [key, h]
theorem mk_no {l : List Sd} {k : Nat} (hk : k < l.length) (h : ¬ IsKey l[k].1) : mk l (k + 1) = mk l k := by
  unfold mk
  rw [List.take_succ_eq_append_getElem hk, List.filter_append, List.map_append]
  simp [key, h]
theorem mk_holds {l : List Sd} {k : Nat} {g : Sg} (h : g ∈ mk l k) : holds (SL (l.take k)) g = true := by
  unfold mk at h
  obtain ⟨e, he, rfl⟩ := List.mem_map.1 h
  obtain ⟨h1, h2⟩ := List.mem_filter.1 he
  exact holds_take h1 (of_decide_eq_true h2)

/-- What is tried in the end. -/
def ext (s x : Sg) : List Sg := [(s.1, x.2.1, x.2.2), (x.1, s.2.1, x.2.2), (x.1, x.2.1, s.2.2), (x.1, x.2.1, x.2.2 + 1)]
def alls (s : Sg) (m : List Sg) (n : Nat) : List Sg := s :: m ++ (m.take n).flatMap (ext s)
theorem alls_succ (s : Sg) (m : List Sg) (n : Nat) (hn : n < m.length) : alls s m (n + 1) = alls s m n ++ ext s m[n] := by
  unfold alls
  rw [List.take_succ_eq_append_getElem hn, List.flatMap_append, ← List.append_assoc]
  simp
theorem flat_len (s : Sg) (m : List Sg) : (m.flatMap (ext s)).length = m.length * 4 := by
  induction m with
  | nil => rfl
  | cons a m ih => rw [List.flatMap_cons, List.length_append, ih]; simp only [ext, List.length_cons, List.length_nil]; omega
theorem alls_len (s : Sg) (m : List Sg) (n : Nat) : (alls s m n).length ≤ 1 + m.length + m.length * 4 := by
  unfold alls
  rw [List.length_append, flat_len, List.length_cons, List.length_take]
  omega
theorem mk_all (l : List Sd) : mk l l.length = (l.filter key).map (sgOf l) := by unfold mk; rw [List.take_length]
theorem mk_bound {l : List Sd} {g : Sg} {k : Nat} (h : g ∈ mk l k) : 0 ≤ g.2.2 ∧ g.2.2 ≤ l.length := by
  unfold mk at h
  obtain ⟨e, _, rfl⟩ := List.mem_map.1 h
  have := px_le l e
  unfold sgOf
  simp only
  omega
theorem mem_take_succ' (l : List Sg) (s : Sg) (k : Nat) (hk : k < l.length) : decide (s ∈ l.take (k + 1)) = (decide (s ∈ l.take k) || decide (l[k] = s)) := by
  rw [List.take_succ_eq_append_getElem hk, Bool.eq_iff_iff]
  simp only [decide_eq_true_eq, Bool.or_eq_true, List.mem_append, List.mem_singleton]
  exact ⟨fun h => h.imp id Eq.symm, fun h => h.imp id Eq.symm⟩

set_option maxHeartbeats 4000000 in
set_option maxRecDepth 100000 in
theorem makes_yes (ad : Option Addr) (c : Nat) (l : List Sd) (s : Sg) (w : World) (h : Sl w (.slice ad l.length c) l) (ha : Arg l) (hf : Few l) :
    Calls Try.prog 4 #[.slice ad l.length c, sgV s] w fun e w' => e = .returned (.bool true) ∧ Fr w w' := by
  obtain ⟨i0, hi, hz0, hz1, hz2⟩ := info_parts infoSg
  have HIN := Lib.hid hi
  have H := Lib.hid h
  have HA := Lib.hid ha
  have HF := Lib.hid hf
  have hll := hf.1
  clear h ha hf hi
  unfold sgV
  obtain ⟨R0, hR0⟩ : ∃ R0, R0 = w.heap.size := ⟨_, rfl⟩
  have H0 := Lib.hid ((Has.here w).box 24 #[.int .i64 s.1, .string (S s.2.1), .int .i64 s.2.2])
  rw [← hR0] at H0
  have HR0 := Lib.hid hR0
  clear hR0
  go_enter Try.func4, Try.ntmps4
  go_upto_region 5 with (first
    | (go_at_call 8; refine (few_yes _ (H.out.fr h2.toFr) HA.out HF.out).mono ?_; rintro e w3 ⟨rfl, rfl⟩)
    | (go_at_call 9; refine ((H0.out.fr hf1).ring).mono ?_; rintro e w2 ⟨B, rfl, h2⟩)
    | (go_at_call 7; refine (small_any _).mono ?_; rintro e w1 ⟨rfl, hf1⟩))
  rw [← HR0.out]
  have H2 := Lib.hid (h2.comm.right)
  have H2 := Lib.hid ((h2.nilRow 24 3).turn)
  clear h2 hf1 H0
  go_wp2_with fail
  go_loopw [7, 8] (fun mv i wr => ∃ (k : Nat) (a0 : Option Addr) (c0 : Nat), k ≤ l.length ∧ i = .int .i64 k ∧ mv = .slice a0 (mk l k).length c0 ∧ Hid (Has w wr ((RingT B (SL (l.take k))).sep ((RowT 24 3 (.slice a0 (mk l k).length c0) (mk l k).length (sgC (mk l k))).sep ((BoxT 24 R0 #[.int .i64 s.1, .string (S s.2.1), .int .i64 s.2.2]).sep .emp))))) (fun _ i _ => l.length - (intOf i).toNat)
  case atStart => exact ⟨0, none, 0, Nat.zero_le _, rfl, rfl, H2⟩
  case round =>
    obtain ⟨k, a0, c0, hk, rfl, rfl, hR⟩ := hrel
    by_cases hlt : k < l.length
    ·
      -- slow
      rcases H.out with ⟨hb0, _⟩ | ⟨Bl, o, c', hv, hc⟩
      · rw [hb0] at hlt; simp at hlt
      obtain ⟨rfl, rfl⟩ : ad = some ⟨Bl, o, none⟩ ∧ c = c' := by simpa using hv
      have C1 := Lib.hid (hc k hlt)
      have c1 := hR.out.toFr.cell (hc k hlt).1
      have c2 := hR.out.toFr.cell (hc k hlt).2
      have e1 := (Fr.drew wr).cell c1
      have e2 := (Fr.drew wr).cell c2
      have f1 := (Fr.alloc wr (.cells #[.int .i64 0, .string ⟨#[]⟩, .int .i64 0] 24)).cell c1
      have f2 := (Fr.alloc wr (.cells #[.int .i64 0, .string ⟨#[]⟩, .int .i64 0] 24)).cell c2
      have HSL := Lib.hid (SL_take l k hlt)
      have HYES := Lib.hid (fun h => mk_yes (l := l) hlt h)
      have HNO := Lib.hid (fun h => mk_no (l := l) hlt h)
      have HSK := Lib.hid (fun h => sign_key l k hlt h)
      have HTX := Lib.hid (HF.out.txt (List.getElem_mem hlt))
      have HQL := Lib.hid (show (SL (l.take k)).length ≤ 1000000 by have := SL_len_take l k; omega)
      have hml := mk_len l k
      have HML1 := Lib.hid (mk_len l (k + 1))
      have HQ1 := Lib.hid (show (SL (l.take (k + 1))).length ≤ 1000000 by have := SL_len_take l (k + 1); omega)
      have HPX := Lib.hid (px_le l l[k])
      clear hc hv
      generalize l[k] = x at *
      obtain ⟨y, t⟩ := x
      simp only at c1 c2 e1 e2 f1 f2
      obtain ⟨r, hr⟩ : ∃ r, r = signR (SL (l.take k)) (y, t) := ⟨_, rfl⟩
      have HRr := Lib.hid hr
      obtain ⟨U, hU⟩ : ∃ U : Thing, U = (RowT 24 3 (.slice a0 (mk l k).length c0) (mk l k).length (sgC (mk l k))).sep ((BoxT 24 R0 #[.int .i64 s.1, .string (S s.2.1), .int .i64 s.2.2]).sep .emp) := ⟨_, rfl⟩
      rw [← hU] at hR
      have HU := Lib.hid hU
      clear hr hU
      go_upto_region 9 with fail
      go_cut [9] (fun p wx => ∃ (R : Nat) (w5 : World), p = .pointer (some ⟨R, 0, none⟩) ∧ w5 = wx ∧ Hid (Has w w5 ((RingT B (SL (l.take (k + 1)))).sep ((BoxT 24 R #[.int .i64 r.1, .string (S r.2.1), .int .i64 r.2.2]).sep U))))
      case first =>
        go_region_with (go_at_call 11; refine (Has.sign (W := w) (B := B) (q := SL (l.take k)) (by first | exact hR.out.fr (Fr.drew _) | exact ((hR.out.fr (Fr.drew _)).box _ _).turn) y t HTX.out HQL.out).mono ?_; rw [← HRr.out]; unfold sgV; rintro e w4 ⟨rfl, h4⟩; have H4 := Lib.hid h4; try (have bx : w4.heap[wr.heap.size]? = _ := (Has.right h4).boxed; have r0 : w4.cell? ⟨wr.heap.size, 0, none⟩ = some (.int .i64 0) := cellOf bx rfl; have r1 : w4.cell? ⟨wr.heap.size, 1, none⟩ = some (.string ⟨#[]⟩) := cellOf bx rfl; have r2 : w4.cell? ⟨wr.heap.size, 2, none⟩ = some (.int .i64 0) := cellOf bx rfl; have z0 : w4.frozen? ⟨wr.heap.size, 0, none⟩ = false := frozenOf bx 0; have z1 : w4.frozen? ⟨wr.heap.size, 1, none⟩ = false := frozenOf bx 1; have z2 : w4.frozen? ⟨wr.heap.size, 2, none⟩ = false := frozenOf bx 2; clear bx); clear h4)
        all_goals (go_wp2_with fail; go_meet; first
          | exact ⟨_, _, rfl, rfl, Lib.hid (by rw [HSL.out]; exact (H4.out.box 24 #[.int .i64 r.1, .string (S r.2.1), .int .i64 r.2.2]).turn)⟩
          | exact ⟨_, _, rfl, rfl, Lib.hid (by rw [HSL.out]; exact (((H4.out.turn.set 0 (.int .i64 r.1)).set 1 (.string (S r.2.1))).set 2 (.int .i64 r.2.2)).turn)⟩)
      case rest =>
        obtain ⟨R, w5, rfl, rfl, hR5⟩ := hcut
        have b5 := hR5.out.right.boxed
        have h5 := hR5.out.turn.right
        have hfw := hR5.out.toFr
        have g1 := hfw.cell C1.out.1
        have g2 := hfw.cell C1.out.2
        rw [HU.out] at h5
        have H5 := Lib.hid h5.turn
        simp only at g1 g2
        clear h5 hR5 hR hfw c1 c2 e1 e2 f1 f2 H2 HU
        by_cases hy : IsKey y
        · have hy0 := hy.1
          have hy1 := hy.2
          obtain ⟨n, hn⟩ : ∃ n : Nat, n = px l (y, t) := ⟨_, rfl⟩
          have hrr := HRr.out.trans (HSK.out hy).1
          unfold sgOf at hrr
          have HMK := Lib.hid (HYES.out hy)
          unfold sgOf at HMK
          rw [← hn] at hrr HMK
          subst hrr
          simp only at b5 HMK
          have x0 : w5.cell? ⟨R, 0, none⟩ = some (.int .i64 y) := cellOf b5 rfl
          have x1 : w5.cell? ⟨R, 1, none⟩ = some (.string (S t)) := cellOf b5 rfl
          have x2 : w5.cell? ⟨R, 2, none⟩ = some (.int .i64 n) := cellOf b5 rfl
          clear b5 hn HRr HSK HYES HNO HPX
          go_upto_region 11 with fail
          go_quiet (fail)
          have H6 := Lib.hid (H5.out.fr (Fr.drewN w5 nq))
          have x0' := (Fr.drewN w5 nq).cell x0
          have x1' := (Fr.drewN w5 nq).cell x1
          have x2' := (Fr.drewN w5 nq).cell x2
          generalize w5.drewN nq = w5' at *
          clear x0 x1 x2 H5 g1 g2
          go_upto_region 16 with (at_builtin; refine wpList_app rfl _ _ 43 rfl 24 i0 (.agg #[.int .i64 0, .string (S []), .int .i64 0]) 3 32 Try.underlying43 HIN.out hz0 hz1 hz2 rfl (by decide) rfl H6.out 1 1 [.int .i64 y, .string (S t), .int .i64 n] rfl rfl (by simp [Value.oneCell']) (by decide) (by omega) (by decide) ?_; intro a1g cc1 w6 h6)
          have hlen : (mk l k).length + 1 = (mk l (k + 1)).length := by rw [HMK.out]; simp
          have HS6 : Hid (Has w w6 ((RingT B (SL (l.take (k + 1)))).sep ((RowT 24 3 (.slice (some ⟨a1g, 0, none⟩) (mk l (k + 1)).length cc1) (mk l (k + 1)).length (sgC (mk l (k + 1)))).sep ((BoxT 24 R0 #[.int .i64 s.1, .string (S s.2.1), .int .i64 s.2.2]).sep .emp)))) := Lib.hid (by
            have e : sgC (mk l (k + 1)) = sgC (mk l k) ++ [.int .i64 y, .string (S t), .int .i64 n] := by rw [HMK.out, sgC_append]; rfl
            rw [e, ← hlen]
            exact h6.turn)
          rw [hlen]
          clear h6 H6 x0' x1' x2' HMK hlen
          have hml1 := HML1.out
          obtain ⟨a1, ha1⟩ : ∃ a1 : Option Addr, a1 = some ⟨a1g, 0, none⟩ := ⟨_, rfl⟩
          rw [← ha1] at HS6 ⊢
          clear ha1
          go_wp2_with fail
          go_loopw [10] (fun j wr2 => ∃ jj : Nat, jj ≤ (mk l (k + 1)).length ∧ j = .int .i64 jj ∧ Hid (Has w wr2 ((RingT B (SL (l.take (k + 1)))).sep ((RowT 24 3 (.slice a1 (mk l (k + 1)).length cc1) (mk l (k + 1)).length (sgC (mk l (k + 1)))).sep ((BoxT 24 R0 #[.int .i64 s.1, .string (S s.2.1), .int .i64 s.2.2]).sep .emp))))) (fun j _ => (mk l (k + 1)).length - (intOf j).toNat)
          case atStart => exact ⟨0, Nat.zero_le _, rfl, HS6⟩
          case round =>
            obtain ⟨jj, hjj, rfl, hV⟩ := hrel
            by_cases hj : jj < (mk l (k + 1)).length
            · obtain ⟨g, cap, hv, _, hcell⟩ := sg_at hV.out.right.row rfl (by omega)
              obtain ⟨rfl, rfl⟩ : a1 = some ⟨g, 0, none⟩ ∧ cc1 = cap := by simpa using hv
              have d := hcell jj hj
              have HH := Lib.hid (mk_holds (List.getElem_mem hj))
              generalize (mk l (k + 1))[jj] = sg at *
              have d0 := d.c0
              have d1 := d.c1
              have d2 := d.c2
              clear d hcell hv
              go_wp2_with (go_at_call 13; refine (Has.valid hV.out sg HQ1.out).mono ?_; rw [HH.out]; rintro e w7 ⟨rfl, hf7⟩)
              go_roundw
              case rel => exact ⟨jj + 1, by omega, by go_num, Lib.hid (hV.out.fr hf7)⟩
              case measure => simp [intOf]; omega
            · go_wp2_with fail
              go_roundw
              case rel => exact ⟨k + 1, a1, cc1, by omega, by go_num, rfl, hV⟩
              case measure => simp [intOf]; omega
        · have hrr : r = (0, [], 0) := by rw [HRr.out]; unfold signR; rw [if_neg hy]
          have HMK := Lib.hid (HNO.out hy)
          subst hrr
          simp only at b5
          have x0 : w5.cell? ⟨R, 0, none⟩ = some (.int .i64 0) := cellOf b5 rfl
          have x1 : w5.cell? ⟨R, 1, none⟩ = some (.string (S [])) := cellOf b5 rfl
          have x2 : w5.cell? ⟨R, 2, none⟩ = some (.int .i64 0) := cellOf b5 rfl
          have HS6 : Hid (Has w w5 ((RingT B (SL (l.take (k + 1)))).sep ((RowT 24 3 (.slice a0 (mk l (k + 1)).length c0) (mk l (k + 1)).length (sgC (mk l (k + 1)))).sep ((BoxT 24 R0 #[.int .i64 s.1, .string (S s.2.1), .int .i64 s.2.2]).sep .emp)))) := Lib.hid (by
            rw [HMK.out]
            exact H5.out.turn)
          rw [← HMK.out]
          rw [← HMK.out] at hml
          clear b5 HRr HSK HYES HNO HPX HMK H5
          have hml1 := HML1.out
          obtain ⟨a1, ha1⟩ : ∃ a1 : Option Addr, a1 = a0 := ⟨_, rfl⟩
          obtain ⟨cc1, hcc1⟩ : ∃ cc1 : Nat, cc1 = c0 := ⟨_, rfl⟩
          rw [← ha1, ← hcc1] at HS6 ⊢
          clear ha1 hcc1
          have hno : y < 0 ∨ (¬ y < 0 ∧ 200 ≤ y) := by unfold IsKey at hy; omega
          clear hy
          rcases hno with hno | ⟨hno1, hno2⟩
          · go_upto_region 16 with fail
            go_wp2_with fail
            go_loopw [10] (fun j wr2 => ∃ jj : Nat, jj ≤ (mk l (k + 1)).length ∧ j = .int .i64 jj ∧ Hid (Has w wr2 ((RingT B (SL (l.take (k + 1)))).sep ((RowT 24 3 (.slice a1 (mk l (k + 1)).length cc1) (mk l (k + 1)).length (sgC (mk l (k + 1)))).sep ((BoxT 24 R0 #[.int .i64 s.1, .string (S s.2.1), .int .i64 s.2.2]).sep .emp))))) (fun j _ => (mk l (k + 1)).length - (intOf j).toNat)
            case atStart => exact ⟨0, Nat.zero_le _, rfl, HS6⟩
            case round =>
              obtain ⟨jj, hjj, rfl, hV⟩ := hrel
              by_cases hj : jj < (mk l (k + 1)).length
              · obtain ⟨g, cap, hv, _, hcell⟩ := sg_at hV.out.right.row rfl (by omega)
                obtain ⟨rfl, rfl⟩ : a1 = some ⟨g, 0, none⟩ ∧ cc1 = cap := by simpa using hv
                have d := hcell jj hj
                have HH := Lib.hid (mk_holds (List.getElem_mem hj))
                generalize (mk l (k + 1))[jj] = sg at *
                have d0 := d.c0
                have d1 := d.c1
                have d2 := d.c2
                clear d hcell hv
                go_wp2_with (go_at_call 13; refine (Has.valid hV.out sg HQ1.out).mono ?_; rw [HH.out]; rintro e w7 ⟨rfl, hf7⟩)
                go_roundw
                case rel => exact ⟨jj + 1, by omega, by go_num, Lib.hid (hV.out.fr hf7)⟩
                case measure => simp [intOf]; omega
              · go_wp2_with fail
                go_roundw
                case rel => exact ⟨k + 1, a1, cc1, by omega, by go_num, rfl, hV⟩
                case measure => simp [intOf]; omega
          · go_upto_region 16 with fail
            go_wp2_with fail
            go_loopw [10] (fun j wr2 => ∃ jj : Nat, jj ≤ (mk l (k + 1)).length ∧ j = .int .i64 jj ∧ Hid (Has w wr2 ((RingT B (SL (l.take (k + 1)))).sep ((RowT 24 3 (.slice a1 (mk l (k + 1)).length cc1) (mk l (k + 1)).length (sgC (mk l (k + 1)))).sep ((BoxT 24 R0 #[.int .i64 s.1, .string (S s.2.1), .int .i64 s.2.2]).sep .emp))))) (fun j _ => (mk l (k + 1)).length - (intOf j).toNat)
            case atStart => exact ⟨0, Nat.zero_le _, rfl, HS6⟩
            case round =>
              obtain ⟨jj, hjj, rfl, hV⟩ := hrel
              by_cases hj : jj < (mk l (k + 1)).length
              · obtain ⟨g, cap, hv, _, hcell⟩ := sg_at hV.out.right.row rfl (by omega)
                obtain ⟨rfl, rfl⟩ : a1 = some ⟨g, 0, none⟩ ∧ cc1 = cap := by simpa using hv
                have d := hcell jj hj
                have HH := Lib.hid (mk_holds (List.getElem_mem hj))
                generalize (mk l (k + 1))[jj] = sg at *
                have d0 := d.c0
                have d1 := d.c1
                have d2 := d.c2
                clear d hcell hv
                go_wp2_with (go_at_call 13; refine (Has.valid hV.out sg HQ1.out).mono ?_; rw [HH.out]; rintro e w7 ⟨rfl, hf7⟩)
                go_roundw
                case rel => exact ⟨jj + 1, by omega, by go_num, Lib.hid (hV.out.fr hf7)⟩
                case measure => simp [intOf]; omega
              · go_wp2_with fail
                go_roundw
                case rel => exact ⟨k + 1, a1, cc1, by omega, by go_num, rfl, hV⟩
                case measure => simp [intOf]; omega
      -- /slow
    · obtain rfl : k = l.length := by omega
      rw [List.take_length] at hR
      have hml := mk_len l l.length
      have HQ := Lib.hid (show (SL l).length ≤ 1000000 by have := SL_len l; omega)
      have HB := Lib.hid (fun g => fun (h : g ∈ mk l l.length) => mk_bound h)
      have HH := Lib.hid (holds_iff l)
      rw [← mk_all l] at HH
      obtain ⟨m, hm⟩ : ∃ m, m = mk l l.length := ⟨_, rfl⟩
      rw [← hm] at hR hml HB HH ⊢
      clear hm H2 hlt hk
      have b0 := hR.out.right.right.boxed
      have x0 : wr.cell? ⟨R0, 0, none⟩ = some (.int .i64 s.1) := cellOf b0 rfl
      have x1 : wr.cell? ⟨R0, 1, none⟩ = some (.string (S s.2.1)) := cellOf b0 rfl
      have x2 : wr.cell? ⟨R0, 2, none⟩ = some (.int .i64 s.2.2) := cellOf b0 rfl
      clear b0
      go_upto_region 21 with fail
      have HR := Lib.hid hR.out
      go_cut [11] (fun av wx => ∃ (g : Nat) (ca : Nat) (w5 : World), av = .slice (some ⟨g, 0, none⟩) (alls s m 0).length ca ∧ w5 = wx ∧ Hid (Has w w5 ((RowT 24 3 (.slice (some ⟨g, 0, none⟩) (alls s m 0).length ca) (alls s m 0).length (sgC (alls s m 0))).sep ((RingT B (SL l)).sep ((RowT 24 3 (.slice a0 m.length c0) m.length (sgC m)).sep ((BoxT 24 R0 #[.int .i64 s.1, .string (S s.2.1), .int .i64 s.2.2]).sep .emp))))))
      case first =>
        -- slow
        have HL0 : Hid (1 + m.length = (alls s m 0).length) := Lib.hid (by simp [alls]; omega)
        have HC0 : Hid ([Value.int .i64 s.1, .string (S s.2.1), .int .i64 s.2.2] ++ sgC m = sgC (alls s m 0)) := Lib.hid (by simp [alls, sgC])
        have HL := Lib.hid (HR.out.lit 24 3 1 [.int .i64 s.1, .string (S s.2.1), .int .i64 s.2.2] rfl (by decide))
        rcases Nat.eq_zero_or_pos m.length with h0 | h0
        · have HM0 := Lib.hid (List.length_eq_zero_iff.1 h0)
          have H00 := Lib.hid h0
          rcases hR.out.right.row.2 with ⟨hv, _⟩ | ⟨g, cap, cur, hv, _⟩
          · obtain ⟨rfl, hx0, rfl⟩ : a0 = none ∧ m.length = 0 ∧ c0 = 0 := by simpa using hv
            clear hv h0 hx0
            go_wp2_with (at_builtin; refine wpList_append_own_none rfl _ _ 43 rfl 0 24 i0 3 Try.underlying43 HIN.out _ 1 _ rfl HL.out.row (by show Value.slice none m.length 0 = _; rw [H00.out]) ?_)
            go_wp2_with fail
            have hm0 := HM0.out
            subst hm0
            go_meet
            exact ⟨_, _, _, rfl, rfl, HL⟩
          · obtain ⟨rfl, rfl⟩ : a0 = some ⟨g, 0, none⟩ ∧ c0 = cap := by simpa using hv
            clear hv h0
            have hrow : (wr.alloc (.cells [Value.int .i64 s.1, .string (S s.2.1), .int .i64 s.2.2].toArray 24)).ownsRow wr.heap.size 24 3 (.slice (some ⟨wr.heap.size, 0, none⟩) 1 1) 1 [.int .i64 s.1, .string (S s.2.1), .int .i64 s.2.2] :=
              World.ownsRow_lit (base := wr.heap.size) (e := 24) (size := 3) wr #[.int .i64 s.1, .string (S s.2.1), .int .i64 s.2.2] 1 (Nat.le_refl _) (by decide) rfl
            have HRow := Lib.hid hrow
            clear hrow
            go_wp2_with (at_builtin; refine wpList_append_own _ rfl _ _ 43 rfl wr.heap.size 24 i0 (.agg #[.int .i64 0, .string (S []), .int .i64 0]) 3 32 Try.underlying43 HIN.out hz0 hz1 hz2 rfl (by decide) _ _ _ rfl HRow.out ⟨g, 0, none⟩ m.length c0 (sgC m) rfl (sgC_length m) ?cc (sgC_one m) (by unfold maxLen; omega) (by omega) (by simp) ?_)
            case cc => intro j u hu; rw [HM0.out] at hu; simp [sgC] at hu
            intro v2 w6 hown hgrow _
            have hown2 := own_base hown (Nat.zero_le _)
            have h6 := HL.out.app hown2 hgrow (fun p hp => by
              have h1 := (hown.lt p hp).1
              simp only [Value.ownBlock, Option.some.injEq]
              have h2 : (wr.alloc (.cells [Value.int .i64 s.1, .string (S s.2.1), .int .i64 s.2.2].toArray 24)).heap.size = wr.heap.size + 1 := by simp
              rw [h2]
              omega)
            have h6 : Has w w6 ((RowT 24 3 v2 (1 + m.length) ([Value.int .i64 s.1, .string (S s.2.1), .int .i64 s.2.2] ++ sgC m)).sep ((RingT B (SL l)).sep ((RowT 24 3 (.slice (some ⟨g, 0, none⟩) m.length c0) m.length (sgC m)).sep ((BoxT 24 R0 #[.int .i64 s.1, .string (S s.2.1), .int .i64 s.2.2]).sep .emp)))) := h6
            rw [HL0.out, HC0.out] at h6
            obtain ⟨g2, ca, hv2, _⟩ := sg_at h6.row rfl (by rw [← HL0.out]; omega)
            subst hv2
            have H6 := Lib.hid h6
            clear hown hown2 hgrow h6
            go_wp2_with fail
            go_meet
            exact ⟨_, _, _, rfl, rfl, H6⟩
        · obtain ⟨g, cap, hv, _, hcell⟩ := sg_at hR.out.right.row rfl h0
          obtain ⟨rfl, rfl⟩ : a0 = some ⟨g, 0, none⟩ ∧ c0 = cap := by simpa using hv
          clear hcell hv
          go_wp2_with (at_builtin; refine wpList_app_from rfl _ _ 43 rfl 24 i0 (.agg #[.int .i64 0, .string (S []), .int .i64 0]) 3 32 Try.underlying43 HIN.out hz0 hz1 hz2 rfl (by decide) rfl HL.out ⟨g, 0, none⟩ m.length c0 (sgC m) rfl (sgC_length m) ?cc (sgC_one m) h0 (by omega) (by decide) ?_)
          case cc =>
            intro j u hu
            have hj : j < m.length * 3 := by have := (List.getElem?_eq_some_iff.1 hu).1; rwa [sgC_length] at this
            rw [Addr.add_mid, Nat.zero_add, HL.out.right.right.row.cellAt j (by omega), hu]
          intro g2 ca w6 h6
          have h6' : Has w w6 ((RowT 24 3 (.slice (some ⟨g2, 0, none⟩) (1 + m.length) ca) (1 + m.length) ([Value.int .i64 s.1, .string (S s.2.1), .int .i64 s.2.2] ++ sgC m)).sep ((RingT B (SL l)).sep ((RowT 24 3 (.slice (some ⟨g, 0, none⟩) m.length c0) m.length (sgC m)).sep ((BoxT 24 R0 #[.int .i64 s.1, .string (S s.2.1), .int .i64 s.2.2]).sep .emp)))) := h6
          rw [HL0.out, HC0.out] at h6'
          rw [HL0.out]
          clear h6
          go_wp2_with fail
          go_meet
          exact ⟨_, _, _, rfl, rfl, Lib.hid h6'⟩
        -- /slow
      case rest =>
        obtain ⟨ga, ca, w5, rfl, rfl, hR5⟩ := hcut
        clear HR hR x0 x1 x2
        go_wp2_with fail
        go_loopw [11, 12] (fun av i wq => ∃ (n : Nat) (g : Nat) (cq : Nat), n ≤ m.length ∧ i = .int .i64 n ∧ av = .slice (some ⟨g, 0, none⟩) (alls s m n).length cq ∧ Hid (Has w wq ((RowT 24 3 (.slice (some ⟨g, 0, none⟩) (alls s m n).length cq) (alls s m n).length (sgC (alls s m n))).sep ((RingT B (SL l)).sep ((RowT 24 3 (.slice a0 m.length c0) m.length (sgC m)).sep ((BoxT 24 R0 #[.int .i64 s.1, .string (S s.2.1), .int .i64 s.2.2]).sep .emp)))))) (fun _ i _ => m.length - (intOf i).toNat)
        case atStart => exact ⟨0, _, _, Nat.zero_le _, rfl, rfl, hR5⟩
        case round =>
          obtain ⟨n, g, cq, hn, rfl, rfl, hA⟩ := hrel
          by_cases hlt : n < m.length
          ·
            -- slow
            obtain ⟨g2, cap2, hv, _, hcell⟩ := sg_at hA.out.right.right.row rfl (by omega)
            obtain ⟨rfl, rfl⟩ : a0 = some ⟨g2, 0, none⟩ ∧ c0 = cap2 := by simpa using hv
            have d := hcell n hlt
            have hb := HB.out _ (List.getElem_mem hlt)
            have HAS := Lib.hid (alls_succ s m n hlt)
            have hal := alls_len s m n
            generalize m[n] = x at *
            have d0 := d.c0
            have d1 := d.c1
            have d2 := d.c2
            have hb0 := hb.1
            have hb1 := hb.2
            obtain ⟨xm, hxm⟩ : ∃ xm, xm = x.2.2 := ⟨_, rfl⟩
            rw [← hxm] at d2 hb0 hb1
            have HXM := Lib.hid hxm
            have b0 := hA.out.right.right.right.boxed
            have hfa := Fr.alloc wr (.cells #[.int .i64 x.1, .string (S x.2.1), .int .i64 xm] 24)
            have s0 := hfa.cell (cellOf (v := .int .i64 s.1) (i := 0) b0 rfl)
            have s1 := hfa.cell (cellOf (v := .string (S s.2.1)) (i := 1) b0 rfl)
            have s2 := hfa.cell (cellOf (v := .int .i64 s.2.2) (i := 2) b0 rfl)
            have H7 := Lib.hid (hA.out.fr hfa)
            have hbx := heap_alloc_new wr (.cells #[.int .i64 x.1, .string (S x.2.1), .int .i64 xm] 24)
            have y0 := cellOf (v := .int .i64 x.1) (i := 0) hbx rfl
            have y1 := cellOf (v := .string (S x.2.1)) (i := 1) hbx rfl
            have y2 := cellOf (v := .int .i64 xm) (i := 2) hbx rfl
            clear d hcell hv hb b0 hfa hxm hR5 hbx
            go_upto_region 26 with fail
            generalize (wr.alloc (.cells #[.int .i64 x.1, .string (S x.2.1), .int .i64 xm] 24)) = wb at *
            clear d0 d1 d2
            go_wp2_with (at_builtin; refine wpList_app rfl _ _ 43 rfl 24 i0 (.agg #[.int .i64 0, .string (S []), .int .i64 0]) 3 32 Try.underlying43 HIN.out hz0 hz1 hz2 rfl (by decide) rfl H7.out 4 4 [.int .i64 s.1, .string (S x.2.1), .int .i64 xm, .int .i64 x.1, .string (S s.2.1), .int .i64 xm, .int .i64 x.1, .string (S x.2.1), .int .i64 s.2.2, .int .i64 x.1, .string (S x.2.1), .int .i64 (xm + 1)] rfl rfl (by simp [Value.oneCell']) (by decide) (by omega) (by decide) ?_; intro g9 cq9 w9 h9; have H9 := Lib.hid h9; clear h9)
            have HLN : Hid ((alls s m n).length + 4 = (alls s m (n + 1)).length) := Lib.hid (by rw [HAS.out]; simp [ext])
            go_roundw
            case rel =>
              refine ⟨n + 1, g9, cq9, by omega, by go_num, by rw [HLN.out], Lib.hid ?_⟩
              have e : sgC (alls s m (n + 1)) = sgC (alls s m n) ++ [.int .i64 s.1, .string (S x.2.1), .int .i64 xm, .int .i64 x.1, .string (S s.2.1), .int .i64 xm, .int .i64 x.1, .string (S x.2.1), .int .i64 s.2.2, .int .i64 x.1, .string (S x.2.1), .int .i64 (xm + 1)] := by
                rw [HAS.out, sgC_append, HXM.out]
                rfl
              rw [e, ← HLN.out]
              exact H9.out
            case measure => simp [intOf]; omega
            -- /slow
          · obtain rfl : n = m.length := by omega
            have hal := alls_len s m m.length
            have hal0 : 0 < (alls s m m.length).length := by simp [alls]
            obtain ⟨A, hA0⟩ : ∃ A, A = alls s m m.length := ⟨_, rfl⟩
            rw [← hA0] at hA hal hal0 ⊢
            clear hA0 hlt hn hR5
            obtain ⟨g3, cap3, hv3, _, hcA⟩ := sg_at hA.out.row rfl hal0
            obtain ⟨rfl, rfl⟩ : g = g3 ∧ cq = cap3 := by simpa using hv3
            have HCA := Lib.hid hcA
            have HCM : Hid (∀ (j : Nat) (h : j < m.length), ∃ gm, a0 = some ⟨gm, 0, none⟩ ∧ SgAt wr gm (j * 3) m[j]) := Lib.hid fun j h => by
              obtain ⟨gm, cm, hvm, _, hcm⟩ := sg_at hA.out.right.right.row rfl (by omega)
              simp only [Value.slice.injEq, true_and] at hvm
              exact ⟨gm, hvm.1, hcm j h⟩
            clear hv3 hcA
            obtain ⟨wA, rfl⟩ : ∃ wA, wA = wr := ⟨_, rfl⟩
            go_wp2_with fail
            go_loopw [14] (fun i wx => ∃ n : Nat, n ≤ A.length ∧ i = .int .i64 n ∧ Hid (Fr wA wx)) (fun i _ => A.length - (intOf i).toNat)
            case atStart => exact ⟨0, Nat.zero_le _, rfl, Lib.hid (Fr.refl _)⟩
            case round =>
              obtain ⟨n, hn, rfl, hX⟩ := hrel
              by_cases hlt : n < A.length
              · have HCn := Lib.hid (HCA.out n hlt)
                generalize A[n] = sa at *
                go_wp2_with fail
                go_loopw [15, 16] (fun b i wx => ∃ k : Nat, k ≤ m.length ∧ i = .int .i64 k ∧ b = .bool (decide (sa ∈ m.take k)) ∧ Hid (Fr wA wx)) (fun _ i _ => m.length - (intOf i).toNat)
                case atStart => exact ⟨0, Nat.zero_le _, rfl, by simp, hX⟩
                case round =>
                  obtain ⟨k, hk, rfl, rfl, hY⟩ := hrel
                  by_cases hlk : k < m.length
                  · obtain ⟨gm, hgm, hcm⟩ := HCM.out k hlk
                    have hcm := hcm.fr hY.out
                    have hcs := HCn.out.fr hY.out
                    have HMT := Lib.hid (mem_take_succ' m sa k hlk)
                    subst hgm
                    generalize m[k] = x at *
                    obtain ⟨x0, x1, x2⟩ := x
                    obtain ⟨a1, a2, a3⟩ := sa
                    have d0 : wr.cell? _ = some (.int .i64 x0) := hcm.c0
                    have d1 : wr.cell? _ = some (.string (S x1)) := hcm.c1
                    have d2 : wr.cell? _ = some (.int .i64 x2) := hcm.c2
                    have e0 : wr.cell? _ = some (.int .i64 a1) := hcs.c0
                    have e1 : wr.cell? _ = some (.string (S a2)) := hcs.c1
                    have e2 : wr.cell? _ = some (.int .i64 a3) := hcs.c2
                    clear hcm hcs
                    cases hb : decide ((a1, a2, a3) ∈ m.take k) with
                    | true =>
                      try rw [hb] at HMT
                      clear hb
                      go_wp2_with fail
                      go_quiet (fail)
                      go_wp2_with fail
                      go_roundw
                      case rel => exact ⟨k + 1, by omega, by go_num, by rw [HMT.out]; rfl, Lib.hid (hY.out.trans (Fr.drewN _ _))⟩
                      case measure => simp [intOf]; omega
                    | false =>
                      try rw [hb] at HMT
                      clear hb
                      rcases (show (x0 = a1 ∧ x1 = a2 ∧ x2 = a3) ∨ x0 ≠ a1 ∨ (x0 = a1 ∧ x1 ≠ a2) ∨ (x0 = a1 ∧ x1 = a2 ∧ x2 ≠ a3) by
                        by_cases h1 : x0 = a1 <;> by_cases h2 : x1 = a2 <;> by_cases h3 : x2 = a3 <;> simp [h1, h2, h3]) with ⟨rfl, rfl, rfl⟩ | hne | ⟨rfl, hne⟩ | ⟨rfl, rfl, hne⟩
                      · go_wp2_with fail
                        go_quiet (fail)
                        go_wp2_with fail
                        go_roundw
                        case rel => exact ⟨k + 1, by omega, by go_num, by rw [HMT.out]; simp, Lib.hid (hY.out.trans (Fr.drewN _ _))⟩
                        case measure => simp [intOf]; omega
                      · go_wp2_with fail
                        go_quiet (fail)
                        go_wp2_with fail
                        go_roundw
                        case rel => exact ⟨k + 1, by omega, by go_num, by rw [HMT.out]; simp [hne], Lib.hid (hY.out.trans (Fr.drewN _ _))⟩
                        case measure => simp [intOf]; omega
                      · go_wp2_with fail
                        go_quiet (fail)
                        go_wp2_with fail
                        go_roundw
                        case rel => exact ⟨k + 1, by omega, by go_num, by rw [HMT.out]; simp [hne], Lib.hid (hY.out.trans (Fr.drewN _ _))⟩
                        case measure => simp [intOf]; omega
                      · go_wp2_with fail
                        go_quiet (fail)
                        go_wp2_with fail
                        go_roundw
                        case rel => exact ⟨k + 1, by omega, by go_num, by rw [HMT.out]; simp [hne], Lib.hid (hY.out.trans (Fr.drewN _ _))⟩
                        case measure => simp [intOf]; omega
                  · obtain rfl : k = m.length := by omega
                    have hcs := HCn.out.fr hY.out
                    have e0 := hcs.c0
                    have e1 := hcs.c1
                    have e2 := hcs.c2
                    have hh := HH.out sa
                    rw [List.take_length]
                    generalize decide (sa ∈ m) = bb at *
                    have HHs := Lib.hid hh
                    clear hcs hh
                    go_wp2_with (go_at_call 13; refine (Has.valid ((hA.out.turn).fr hY.out) sa HQ.out).mono ?_; rw [HHs.out]; rintro e w7 ⟨rfl, hf7⟩)
                    go_roundw
                    case rel => exact ⟨n + 1, by omega, by go_num, Lib.hid (hY.out.trans hf7)⟩
                    case measure => simp [intOf]; omega
              · go_wp2_with fail
                go_ret
                exact ⟨rfl, hA.out.toFr.trans hX.out⟩
theorem makes_any (v : Value) (l : List Sd) (s : Sg) (w : World) (h : Sl w v l) (ha : Arg l) :
    Calls Try.prog 4 #[v, sgV s] w fun e w' => e = .returned (.bool true) ∧ Fr w w' := by
  by_cases hf : Few l
  · obtain ⟨ad, c, rfl⟩ := h.len
    exact makes_yes ad c l s w h ha hf
  · exact makes_not v l s w h ha hf
end Go.Proofs.Ytifbenjjjghgoaa
