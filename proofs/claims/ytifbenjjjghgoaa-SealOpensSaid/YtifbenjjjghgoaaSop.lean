/-
  SealOpens: the walk.
-/
import Derived.Test.YtifbenjjjghgoaaSk
namespace Go.Proofs.Ytifbenjjjghgoaa
open Go.RowKit Go.MapKept Go.Maps Go.WideMaps

/-- The signatures of the keys among the first k. -/
def mo (l : List Sd) (k : Nat) : List Sg := ((l.take k).filter key).map (sgOf l)
theorem mo_len (l : List Sd) (k : Nat) : (mo l k).length ≤ l.length := by
  unfold mo
  rw [List.length_map]
  have h1 := List.length_filter_le key (l.take k)
  have h2 : (l.take k).length ≤ l.length := by rw [List.length_take]; omega
  omega
theorem mo_yes {l : List Sd} {k : Nat} (hk : k < l.length) (h : IsKey l[k].1) : mo l (k + 1) = mo l k ++ [sgOf l l[k]] := by
  unfold mo
  rw [List.take_succ_eq_append_getElem hk, List.filter_append, List.map_append]
  simp [key, h]
theorem mo_no {l : List Sd} {k : Nat} (hk : k < l.length) (h : ¬ IsKey l[k].1) : mo l (k + 1) = mo l k := by
  unfold mo
  rw [List.take_succ_eq_append_getElem hk, List.filter_append, List.map_append]
  simp [key, h]
theorem mo_holds {l : List Sd} {g : Sg} (h : g ∈ mo l l.length) : holds (SL l) g = true := by
  rw [holds_iff]
  unfold mo at h
  rw [List.take_length] at h
  exact decide_eq_true h
theorem SL_keys (l : List Sd) : AllKeys (SL l) := fun _ he => (mem_SL.1 he).2
/-- Open, beside other things. -/
theorem open_good {W w : World} {U : Thing} (h : Has W w U) {v : Value} {l : List Sd} (hl : Sl w v l) (hn : l.length ≤ 1000000) (ht : ∀ e ∈ l, e.2.length ≤ maxLen) (hk : AllKeys l) (hd : l.Nodup) :
    Calls Try.prog 15 #[v] w fun r w' => ∃ B, r = .returned (.tuple #[.pointer (some ⟨B, 0, none⟩), .int .i64 0]) ∧ Has W w' ((RingT B l).sep U) := by
  refine (open_any v l w hl hn ht).mono ?_
  rintro r w' (⟨B, _, _, rfl, hs⟩ | ⟨_, h2, _⟩ | ⟨h2, _⟩)
  · exact ⟨B, rfl, h.new hs⟩
  · exact absurd hd h2
  · exact absurd hk h2
theorem open_twice {w : World} {v : Value} {l : List Sd} (hl : Sl w v l) (hn : l.length ≤ 1000000) (ht : ∀ e ∈ l, e.2.length ≤ maxLen) (hk : AllKeys l) (hd : ¬ l.Nodup) :
    Calls Try.prog 15 #[v] w fun r w' => r = .returned (.tuple #[.pointer none, .int .i64 5]) ∧ Fr w w' := by
  refine (open_any v l w hl hn ht).mono ?_
  rintro r w' (⟨B, _, h2, rfl, hs⟩ | ⟨_, _, h3, h4⟩ | ⟨h2, _⟩)
  · exact absurd h2 hd
  · exact ⟨h3, h4⟩
  · exact absurd hk h2
theorem open_arg {w : World} {v : Value} {l : List Sd} (hl : Sl w v l) (hn : l.length ≤ 1000000) (ht : ∀ e ∈ l, e.2.length ≤ maxLen) (hk : ¬ AllKeys l) :
    Calls Try.prog 15 #[v] w fun r w' => r = .returned (.tuple #[.pointer none, .int .i64 1]) ∧ Fr w w' := by
  refine (open_any v l w hl hn ht).mono ?_
  rintro r w' (⟨B, h2, _⟩ | ⟨h2, _⟩ | ⟨_, h3, h4⟩)
  · exact absurd h2 hk
  · exact absurd h2 hk
  · exact ⟨h3, h4⟩

/-- An append to a row of new memory. -/
theorem fr_row {a b c : World} {base e size n : Nat} {v : Value} {xs : List Value} (h : Fr a b) (ho : b.ownsRow base e size v n xs) (hb : a.heap.size ≤ base) (hg : b.grownBy c v.ownBlock) : Fr a c :=
  ⟨hg.os.trans h.os, hg.tape.trans h.tape, hg.output.trans h.output, Nat.le_trans h.size hg.size, fun k hk _ => by
    rw [hg.block k (Nat.lt_of_lt_of_le hk h.size) (fun e => by have := (ho.lt k e.symm).1; omega)]
    exact h.block hk⟩
theorem step_append_own {P : Program} {ops : Array Oper} {op : Oper} {a : Act} {w : World} {K : Act → World → Prop} {Q : Exit → Act → World → Prop} {E : Prop} (hg : op.guard = none) (s x : Operand) (t : TypeId)
    (hop : op.op = .call { callee := .builtin .append, args := #[s, x], argTypes := #[t, t] }) (base : Nat) (e : TypeId) (i : TypeInfo) (z : Value) (size bytes : Nat) (h1 : P.underlying t = some (.slice e)) (h2 : P.info? e = some i) (h3 : i.zero = some z) (h4 : i.size = size) (h5 : i.bytes = bytes) (h6 : z.cells.size = size) (h7 : 0 < size)
    (v : Value) (n : Nat) (xs : List Value) (hs : a.eval s = v) (hrow : w.ownsRow base e size v n xs) (ad : Addr) (m c : Nat) (news : List Value) (hx : a.eval x = .slice (some ad) m c) (hl : news.length = m * size) (hn : ∀ j u, news[j]? = some u → w.cell? (ad.add j) = some u) (hone : ∀ u ∈ news, u.oneCell' = true)
    (b1 : n + m ≤ maxLen) (b2 : (n + m) * bytes ≤ 140737488355328) (hb : base ≤ w.heap.size) (hK : ∀ v' w', w'.ownsRow base e size v' (n + m) (xs ++ news) → w.grownBy w' v.ownBlock → K (a.put op.dst v') w') :
    if Region.wanted op (yielded ops a.tmps) = true then Oper.wp P op a w K Q else E := by
  have hw : Region.wanted op (yielded ops a.tmps) = true := by simp [Region.wanted, hg]
  rw [if_pos hw]
  exact wp_append_own w s x t hop base e i z size bytes h1 h2 h3 h4 h5 h6 h7 v n xs hs hrow ad m c news hx hl hn hone b1 b2 hb (fun v' w' r1 r2 _ => hK v' w' r1 r2)

set_option maxHeartbeats 1000000 in
set_option maxRecDepth 100000 in
theorem opens_not (v : Value) (l : List Sd) (e0 : Sd) (w : World) (h : Sl w v l) (ha : Arg l) (hs : e0.2.length ≤ maxLen) (hf : ¬ (Few l ∧ e0.2.length ≤ 500)) :
    Calls Try.prog 6 #[v, sdV e0] w fun e w' => e = .returned (.bool true) ∧ Fr w w' := by
  have H := Lib.hid h
  have HA := Lib.hid ha
  have HF := Lib.hid hf
  clear h ha hf
  unfold sdV
  unfold maxLen at hs
  have H0 := Lib.hid ((Has.here w).box 33 #[.int .i64 e0.1, .string (S e0.2)])
  go_enter Try.func6, Try.ntmps6
  by_cases hfew : Few l
  · have HFew := Lib.hid hfew
    have hbig : ¬ e0.2.length ≤ 500 := fun h => HF.out ⟨hfew, h⟩
    clear hfew
    go_upto_region 3 with (first
      | (go_at_call 9; refine ((H0.out.fr hf1).ring).mono ?_; rintro e w2 ⟨B, rfl, h2⟩)
      | (go_at_call 7; refine (small_any _).mono ?_; rintro e w1 ⟨rfl, hf1⟩))
    have s1 : w2.cell? ⟨w.heap.size, 1, none⟩ = some (.string (S e0.2)) := cellOf h2.right.boxed rfl
    go_wp2_with (first
      | (go_at_call 8; refine (few_yes _ (H.out.fr h2.toFr) HA.out HFew.out).mono ?_; rintro e w3 ⟨rfl, rfl⟩))
    go_ret
    exact ⟨rfl, h2.toFr⟩
  · have HFew := Lib.hid hfew
    clear hfew
    go_wp2_with (first
      | (go_at_call 8; refine (few_no _ (H.out.fr h2.toFr) HA.out HFew.out).mono ?_; rintro e w3 ⟨rfl, rfl⟩)
      | (go_at_call 9; refine ((H0.out.fr hf1).ring).mono ?_; rintro e w2 ⟨B, rfl, h2⟩)
      | (go_at_call 7; refine (small_any _).mono ?_; rintro e w1 ⟨rfl, hf1⟩))
    go_ret
    exact ⟨rfl, h2.toFr⟩

set_option maxHeartbeats 20000000 in
set_option maxRecDepth 100000 in
theorem opens_yes (ad : Option Addr) (c : Nat) (l : List Sd) (e0 : Sd) (w : World) (h : Sl w (.slice ad l.length c) l) (ha : Arg l) (hf : Few l) (hs : e0.2.length ≤ 500) :
    Calls Try.prog 6 #[.slice ad l.length c, sdV e0] w fun e w' => e = .returned (.bool true) ∧ Fr w w' := by
  obtain ⟨i0, hi, hz0, hz1, hz2⟩ := info_parts infoSg
  obtain ⟨i1, hi1, hyz0, hyz1, hyz2⟩ := info_parts infoSd
  have HIN := Lib.hid hi
  have HIN1 := Lib.hid hi1
  have H := Lib.hid h
  have HA := Lib.hid ha
  have HF := Lib.hid hf
  have hll := hf.1
  clear h ha hf hi hi1
  unfold sdV
  obtain ⟨R0, hR0⟩ : ∃ R0, R0 = w.heap.size := ⟨_, rfl⟩
  have H0 := Lib.hid ((Has.here w).box 33 #[.int .i64 e0.1, .string (S e0.2)])
  rw [← hR0] at H0
  have HR0 := Lib.hid hR0
  clear hR0
  go_enter Try.func6, Try.ntmps6
  go_upto_region 3 with (first
    | (go_at_call 9; refine ((H0.out.fr hf1).ring).mono ?_; rintro e w2 ⟨B, rfl, h2⟩)
    | (go_at_call 7; refine (small_any _).mono ?_; rintro e w1 ⟨rfl, hf1⟩))
  rw [← HR0.out]
  have s1 : w2.cell? ⟨R0, 1, none⟩ = some (.string (S e0.2)) := cellOf h2.right.boxed rfl
  go_upto_region 5 with (go_at_call 8; refine (few_yes _ (H.out.fr h2.toFr) HA.out HF.out).mono ?_; rintro e w3 ⟨rfl, rfl⟩)
  have H2 : Hid (Has w w3 ((RingT B []).sep ((RowT 24 3 (.slice none 0 0) 0 []).sep ((BoxT 33 R0 #[.int .i64 e0.1, .string (S e0.2)]).sep .emp)))) := Lib.hid ((h2.nilRow 24 3).turn)
  clear h2 hf1 H0 s1
  go_wp2_with fail
  go_loopw [7, 8] (fun mv i wr => ∃ (k : Nat) (a0 : Option Addr) (c0 : Nat), k ≤ l.length ∧ i = .int .i64 k ∧ mv = .slice a0 (mo l k).length c0 ∧ Hid (Has w wr ((RingT B (SL (l.take k))).sep ((RowT 24 3 (.slice a0 (mo l k).length c0) (mo l k).length (sgC (mo l k))).sep ((BoxT 33 R0 #[.int .i64 e0.1, .string (S e0.2)]).sep .emp))))) (fun _ i _ => l.length - (intOf i).toNat)
  case atStart => exact ⟨0, none, 0, Nat.zero_le _, rfl, rfl, H2⟩
  case round =>
    obtain ⟨k, a0, c0, hk, rfl, rfl, hR⟩ := hrel
    by_cases hlt : k < l.length
    ·
      -- slow
      rcases H.out with ⟨hb0, _⟩ | ⟨Bl, o, c', hv, hc⟩
      · rw [hb0] at hlt; simp at hlt
      obtain ⟨rfl, rfl⟩ : ad = some ⟨Bl, o, none⟩ ∧ c = c' := by simpa using hv
      have C1 := Lib.hid (hc k hlt)
      have c1 := hR.out.toFr.cell (hc k hlt).1
      have c2 := hR.out.toFr.cell (hc k hlt).2
      have e1 := (Fr.drew wr).cell c1
      have e2 := (Fr.drew wr).cell c2
      have f1 := (Fr.alloc wr (.cells #[.int .i64 0, .string ⟨#[]⟩, .int .i64 0] 24)).cell c1
      have f2 := (Fr.alloc wr (.cells #[.int .i64 0, .string ⟨#[]⟩, .int .i64 0] 24)).cell c2
      have HSL := Lib.hid (SL_take l k hlt)
      have HYES := Lib.hid (fun h => mo_yes (l := l) hlt h)
      have HNO := Lib.hid (fun h => mo_no (l := l) hlt h)
      have HSK := Lib.hid (fun h => sign_key l k hlt h)
      have HTX := Lib.hid (HF.out.txt (List.getElem_mem hlt))
      have HQL := Lib.hid (show (SL (l.take k)).length ≤ 1000000 by have := SL_len_take l k; omega)
      have hml := mo_len l k
      have hml1 : (mo l k).length + 1 ≤ 1000000 := by omega
      clear hc hv
      generalize l[k] = x at *
      obtain ⟨y, t⟩ := x
      simp only at c1 c2 e1 e2 f1 f2
      obtain ⟨r, hr⟩ : ∃ r, r = signR (SL (l.take k)) (y, t) := ⟨_, rfl⟩
      have HRr := Lib.hid hr
      obtain ⟨U, hU⟩ : ∃ U : Thing, U = (RowT 24 3 (.slice a0 (mo l k).length c0) (mo l k).length (sgC (mo l k))).sep ((BoxT 33 R0 #[.int .i64 e0.1, .string (S e0.2)]).sep .emp) := ⟨_, rfl⟩
      rw [← hU] at hR
      have HU := Lib.hid hU
      clear hr hU
      go_upto_region 9 with fail
      go_cut [9] (fun p wx => ∃ (R : Nat) (w5 : World), p = .pointer (some ⟨R, 0, none⟩) ∧ w5 = wx ∧ Hid (Has w w5 ((RingT B (SL (l.take (k + 1)))).sep ((BoxT 24 R #[.int .i64 r.1, .string (S r.2.1), .int .i64 r.2.2]).sep U))))
      case first =>
        go_region_with (go_at_call 11; refine (Has.sign (W := w) (B := B) (q := SL (l.take k)) (by first | exact hR.out.fr (Fr.drew _) | exact ((hR.out.fr (Fr.drew _)).box _ _).turn) y t HTX.out HQL.out).mono ?_; rw [← HRr.out]; unfold sgV; rintro e w4 ⟨rfl, h4⟩; have H4 := Lib.hid h4; try (have bx : w4.heap[wr.heap.size]? = _ := (Has.right h4).boxed; have r0 : w4.cell? ⟨wr.heap.size, 0, none⟩ = some (.int .i64 0) := cellOf bx rfl; have r1 : w4.cell? ⟨wr.heap.size, 1, none⟩ = some (.string ⟨#[]⟩) := cellOf bx rfl; have r2 : w4.cell? ⟨wr.heap.size, 2, none⟩ = some (.int .i64 0) := cellOf bx rfl; have z0 : w4.frozen? ⟨wr.heap.size, 0, none⟩ = false := frozenOf bx 0; have z1 : w4.frozen? ⟨wr.heap.size, 1, none⟩ = false := frozenOf bx 1; have z2 : w4.frozen? ⟨wr.heap.size, 2, none⟩ = false := frozenOf bx 2; clear bx); clear h4)
        all_goals (go_wp2_with fail; go_meet; first
          | exact ⟨_, _, rfl, rfl, Lib.hid (by rw [HSL.out]; exact (H4.out.box 24 #[.int .i64 r.1, .string (S r.2.1), .int .i64 r.2.2]).turn)⟩
          | exact ⟨_, _, rfl, rfl, Lib.hid (by rw [HSL.out]; exact (((H4.out.turn.set 0 (.int .i64 r.1)).set 1 (.string (S r.2.1))).set 2 (.int .i64 r.2.2)).turn)⟩)
      case rest =>
        obtain ⟨R, w5, rfl, rfl, hR5⟩ := hcut
        have b5 := hR5.out.right.boxed
        have h5 := hR5.out.turn.right
        have hfw := hR5.out.toFr
        have g1 := hfw.cell C1.out.1
        have g2 := hfw.cell C1.out.2
        rw [HU.out] at h5
        have H5 := Lib.hid h5.turn
        simp only at g1 g2
        clear h5 hR5 hR hfw c1 c2 e1 e2 f1 f2 H2 HU
        by_cases hy : IsKey y
        · have hy0 := hy.1
          have hy1 := hy.2
          have hrr := HRr.out.trans (HSK.out hy).1
          have HMK := Lib.hid (HYES.out hy)
          rw [← hrr] at HMK
          have x0 : w5.cell? ⟨R, 0, none⟩ = some (.int .i64 r.1) := cellOf b5 rfl
          have x1 : w5.cell? ⟨R, 1, none⟩ = some (.string (S r.2.1)) := cellOf b5 rfl
          have x2 : w5.cell? ⟨R, 2, none⟩ = some (.int .i64 r.2.2) := cellOf b5 rfl
          clear b5 HRr HSK HYES HNO hrr
          go_wp2_with (at_builtin; refine wpList_app rfl _ _ 43 rfl 24 i0 (.agg #[.int .i64 0, .string (S []), .int .i64 0]) 3 32 Try.underlying43 HIN.out hz0 hz1 hz2 rfl (by decide) rfl H5.out 1 1 [.int .i64 r.1, .string (S r.2.1), .int .i64 r.2.2] rfl rfl (by simp [Value.oneCell']) (by decide) hml1 (by decide) ?_; intro a1g cc1 w6 h6; have H6 := Lib.hid h6; clear h6)
          have HLN : Hid ((mo l k).length + 1 = (mo l (k + 1)).length) := Lib.hid (by rw [HMK.out]; simp)
          go_roundw
          case rel =>
            refine ⟨k + 1, _, _, by omega, by go_num, by rw [← HLN.out], Lib.hid ?_⟩
            have e : sgC (mo l (k + 1)) = sgC (mo l k) ++ [.int .i64 r.1, .string (S r.2.1), .int .i64 r.2.2] := by rw [HMK.out, sgC_append]; rfl
            rw [e, ← HLN.out]
            exact H6.out.turn
          case measure => simp [intOf]; omega
        · have HMK := Lib.hid (HNO.out hy)
          have hno : y < 0 ∨ (¬ y < 0 ∧ 200 ≤ y) := by unfold IsKey at hy; omega
          clear b5 HRr HSK HYES HNO hy
          rcases hno with hno | ⟨hno1, hno2⟩
          · go_wp2_with fail
            go_roundw
            case rel => exact ⟨k + 1, _, _, by omega, by go_num, by rw [HMK.out], Lib.hid (by rw [HMK.out]; exact H5.out.turn)⟩
            case measure => simp [intOf]; omega
          · go_wp2_with fail
            go_roundw
            case rel => exact ⟨k + 1, _, _, by omega, by go_num, by rw [HMK.out], Lib.hid (by rw [HMK.out]; exact H5.out.turn)⟩
            case measure => simp [intOf]; omega
      -- /slow
    · obtain rfl : k = l.length := by omega
      rw [List.take_length] at hR
      have hml := mo_len l l.length
      have hql := SL_len l
      have HQ := Lib.hid (show (SL l).length ≤ 1000000 by omega)
      have HMH := Lib.hid (fun g => fun (h : g ∈ mo l l.length) => mo_holds h)
      have HKS := Lib.hid (SL_keys l)
      have HND := Lib.hid (SL_nodup l)
      have HTT : Hid (∀ e ∈ SL l, e.2.length ≤ maxLen) := Lib.hid (fun e he => HF.out.txt (mem_SL.1 he).1)
      obtain ⟨q, hq⟩ : ∃ q, q = SL l := ⟨_, rfl⟩
      obtain ⟨m, hm⟩ : ∃ m, m = mo l l.length := ⟨_, rfl⟩
      rw [← hq] at hR HQ HMH HKS HND HTT hql
      rw [← hm] at hR HMH hml ⊢
      have H3 := Lib.hid hR.out
      clear hm hq H2 hlt hk hR
      go_upto_region 18 with (first
        | (go_at_call 17; refine (same_any _ (Sl.own ho6 rfl) (Sl.own (H5.out.fr hf6).right.row rfl) HQ.out).mono ?_; rintro e w7 ⟨rfl, hf7⟩)
        | (go_at_call 18; refine (Has.all H5.out HQ.out).mono ?_; rintro e w6 ⟨v6, rfl, ho6, hf6⟩)
        | (go_at_call 15; refine (open_good H4.out (Sl.own H4.out.row rfl) HQ.out HTT.out HKS.out HND.out).mono ?_; rintro e w5 ⟨Bq, rfl, h5⟩; have H5 := Lib.hid h5; clear h5)
        | (go_at_call 18; refine (Has.all H3.out HQ.out).mono ?_; rintro e w4 ⟨v4, rfl, ho4, hf4⟩; obtain ⟨va, vc, rfl⟩ := row_form ho4; have H4 := Lib.hid (H3.out.new (RowT.made ho4 hf4)); clear ho4 hf4))
      have H7 := Lib.hid (H5.out.fr (hf6.trans hf7))
      clear ho6 hf6 hf7 H5 H4 H3
      go_wp2_with fail
      go_loopw [13] (fun i wx => ∃ n : Nat, n ≤ m.length ∧ i = .int .i64 n ∧ Hid (Has w wx ((RingT Bq q).sep ((RowT 33 2 (.slice va q.length vc) q.length (sdC q)).sep ((RingT B q).sep ((RowT 24 3 (.slice a0 m.length c0) m.length (sgC m)).sep ((BoxT 33 R0 #[.int .i64 e0.1, .string (S e0.2)]).sep .emp))))))) (fun i _ => m.length - (intOf i).toNat)
      case atStart => exact ⟨0, Nat.zero_le _, rfl, H7⟩
      case round =>
        obtain ⟨n, hn, rfl, hX⟩ := hrel
        clear H7
        by_cases hln : n < m.length
        · obtain ⟨gm, cm, hvm, _, hcm⟩ := sg_at hX.out.right.right.right.row rfl (by omega)
          obtain ⟨rfl, rfl⟩ : a0 = some ⟨gm, 0, none⟩ ∧ c0 = cm := by simpa using hvm
          have hd := hcm n hln
          have HH := Lib.hid (HMH.out _ (List.getElem_mem hln))
          generalize m[n] = sg at *
          have d0 := hd.c0
          have d1 := hd.c1
          have d2 := hd.c2
          clear hd hcm hvm
          go_wp2_with (go_at_call 13; refine (Has.valid hX.out sg HQ.out).mono ?_; rw [HH.out]; rintro e w8 ⟨rfl, hf8⟩)
          go_roundw
          case rel => exact ⟨n + 1, by omega, by go_num, Lib.hid (hX.out.fr hf8)⟩
          case measure => simp [intOf]; omega
        · obtain rfl : n = m.length := by omega
          have H8 := Lib.hid hX.out
          clear hX hln hn
          rcases Nat.eq_zero_or_pos q.length with hz | hz
          · have hz' : ¬ (0 < (q.length : Int)) := by omega
            clear hz
            go_upto_region 28 with fail
            clear hz'
            -- the copy, and after it
            have H9 := Lib.hid (H8.out.right.turn)
            clear H8
            go_upto_region 31 with (go_at_call 20; refine (Has.copy H9.out HQ.out).mono ?_; rintro e w9 ⟨Bc, rfl, h9⟩; have H10 := Lib.hid h9; clear h9)
            go_upto_region 32 with (go_at_call 18; refine (Has.all H10.out HQ.out).mono ?_; rintro e w10 ⟨v10, rfl, ho10, hf10⟩; obtain ⟨va10, vc10, rfl⟩ := row_form ho10)
            have H11 := Lib.hid ((H10.out.fr hf10).turn)
            clear ho10 hf10 H10 H9
            have b0 := H11.out.right.right.right.right.boxed
            have s0 := cellOf (v := .int .i64 e0.1) (i := 0) b0 rfl
            have s1 := cellOf (v := .string (S e0.2)) (i := 1) b0 rfl
            clear b0
            go_upto_region 33 with (go_at_call 11; refine (Has.sign H11.out e0.1 e0.2 (by unfold maxLen; omega) HQ.out).mono ?_; rintro e w12 ⟨rfl, h12⟩; have H12 := Lib.hid h12; clear h12)
            have HQ2 : Hid ((signL q (e0.1, e0.2)).length ≤ 1000000) := Lib.hid (by
              unfold signL
              split
              · have := (addL_len q (e0.1, e0.2)).2
                omega
              · omega)
            obtain ⟨q2, hq2⟩ : ∃ q2, q2 = signL q (e0.1, e0.2) := ⟨_, rfl⟩
            rw [← hq2] at H12 HQ2
            clear hq2 H11 s0 s1
            go_upto_region 34 with (go_at_call 18; refine (Has.all H12.out HQ2.out).mono ?_; rintro e w13 ⟨v13, rfl, ho13, hf13⟩; obtain ⟨va13, vc13, rfl⟩ := row_form ho13; have H13 := Lib.hid (H12.out.new (RowT.made ho13 hf13)); clear ho13 hf13)
            have H14 := Lib.hid H13.out.pull3
            clear H13 H12
            go_upto_region 36 with (first
              | (go_at_call 17; refine (same_any _ (Sl.own ho15 rfl) (Sl.own ((H14.out.fr hf14).fr hf15).right.right.right.row rfl) HQ.out).mono ?_; rintro e w16 ⟨rfl, hf16⟩)
              | (go_at_call 18; refine (Has.all (H14.out.fr hf14) HQ.out).mono ?_; rintro e w15 ⟨v15, rfl, ho15, hf15⟩)
              | (go_at_call 18; refine (Has.all H14.out HQ.out).mono ?_; rintro e w14 ⟨v14, rfl, ho14, hf14⟩; obtain ⟨va14, vc14, rfl⟩ := row_form ho14))
            have H16 := Lib.hid (((H14.out.fr hf14).fr hf15).fr hf16)
            clear ho14 ho15 hf14 hf15 hf16 H14
            have b0 := H16.out.right.right.right.right.right.boxed
            have s0 := cellOf (v := .int .i64 e0.1) (i := 0) b0 rfl
            have s1 := cellOf (v := .string (S e0.2)) (i := 1) b0 rfl
            clear b0
            have hcat : S e0.2 ++ ⟨#[120]⟩ = S (e0.2 ++ [120]) := S_append e0.2 [120]
            go_upto_region 37 with (go_at_call 11; refine (Has.sign H16.out 0 (e0.2 ++ [120]) (by rw [List.length_append]; unfold maxLen; simp; omega) HQ.out).mono ?_; rintro e w17 ⟨rfl, h17⟩; have H17 := Lib.hid h17.pull3; clear h17)
            clear hcat s0 s1 H16
            go_wp2_with (first
              | (go_at_call 17; refine (same_any _ (Sl.own ho18 rfl) (Sl.own (H17.out.fr hf18).right.right.row rfl) HQ2.out).mono ?_; rintro e w19 ⟨rfl, hf19⟩)
              | (go_at_call 18; refine (Has.all H17.out HQ2.out).mono ?_; rintro e w18 ⟨v18, rfl, ho18, hf18⟩))
            go_ret
            exact ⟨rfl, H17.out.toFr.trans (hf18.trans hf19)⟩
          · obtain ⟨g, cap, hvv, _, hcell⟩ := row_at H8.out.right.row rfl hz
            obtain ⟨rfl, rfl⟩ : va = some ⟨g, 0, none⟩ ∧ vc = cap := by simpa using hvv
            obtain ⟨n, hn⟩ : ∃ n, q.length = n + 1 := ⟨q.length - 1, by omega⟩
            have HN1 := Lib.hid hn
            have hnb : n + 1 ≤ 40 := by omega
            have HLEN : Hid ((sdC q).length = (n + 1) * 2) := Lib.hid (by rw [sdC_length, hn])
            have HCC : Hid (∀ w', Fr wr w' → ∀ j u, (sdC q)[j]? = some u → w'.cell? ((⟨g, 0, none⟩ : Addr).add j) = some u) := Lib.hid fun w' hf j u hu => by
              have hj : j < q.length * 2 := by have := (List.getElem?_eq_some_iff.1 hu).1; rwa [sdC_length] at this
              have h9 := own_fr H8.out.right.row hf
              rw [Addr.add_mid, Nat.zero_add, h9.cellAt j (by omega), hu]
            obtain ⟨z, hzz⟩ : ∃ z, z = q[n] := ⟨_, rfl⟩
            obtain ⟨y, hyy⟩ : ∃ y, y = q[0] := ⟨_, rfl⟩
            have HLD0 : Hid (∀ w', Fr wr w' → w'.cell? ⟨g, n * 2, none⟩ = some (.int .i64 z.1) ∧ w'.cell? ⟨g, n * 2 + 1, none⟩ = some (.string (S z.2))) := Lib.hid fun w' hf => by
              rw [hzz]
              exact ⟨hf.cell (hcell n (by omega)).1, hf.cell (hcell n (by omega)).2⟩
            have HLE0 : Hid (∀ w', Fr wr w' → w'.cell? ⟨g, 0, none⟩ = some (.int .i64 y.1) ∧ w'.cell? ⟨g, 1, none⟩ = some (.string (S y.2))) := Lib.hid fun w' hf => by
              rw [hyy]
              exact ⟨hf.cell (by have := (hcell 0 (by omega)).1; simpa using this), hf.cell (by have := (hcell 0 (by omega)).2; simpa using this)⟩
            have HZM : Hid (z ∈ q) := Lib.hid (by rw [hzz]; exact List.getElem_mem _)
            have HYM : Hid (y ∈ q) := Lib.hid (by rw [hyy]; exact List.getElem_mem _)
            clear hvv hcell hzz hyy hz
            obtain ⟨wA, rfl⟩ : ∃ wA, wA = wr := ⟨_, rfl⟩
            rw [hn]
            clear hn
            have hwn : IntKind.i64.wrap (n : Int) = (n : Int) := IntWalk.i64_in _ (by omega)
            have hwl : (n : Int) < (n : Int) + 1 := by omega
            have HLD := HLD0
            have HLT : Hid (∀ e ∈ q ++ [z], e.2.length ≤ maxLen) := Lib.hid fun e he => by
              rcases List.mem_append.1 he with h | h
              · exact HTT.out e h
              · rw [List.mem_singleton.1 h]; exact HTT.out z HZM.out
            have HKZ : Hid (AllKeys (q ++ [z])) := Lib.hid fun e he => by
              rcases List.mem_append.1 he with h | h
              · exact HKS.out e h
              · rw [List.mem_singleton.1 h]; exact HKS.out z HZM.out
            have HDZ : Hid (¬ (q ++ [z]).Nodup) := Lib.hid fun h => (List.nodup_append.1 h).2.2 z HZM.out z (by simp) rfl
            have HLN : Hid (0 + (n + 1) + 1 = (q ++ [z]).length) := Lib.hid (by rw [List.length_append, HN1.out]; simp)
            have HLQ : Hid ((q ++ [z]).length ≤ 1000000) := Lib.hid (by rw [← HLN.out]; omega)
            have HROW : Hid (∀ (w9 : World) (v9 : Value), w9.ownsRow wA.heap.size 33 2 v9 (0 + (n + 1) + 1) ([] ++ sdC q ++ [.int .i64 z.1, .string (S z.2)]) → w9.ownsRow wA.heap.size 33 2 v9 (0 + (n + 1) + 1) (sdC (q ++ [z]))) := Lib.hid (fun w9 v9 h9 => by rw [sdC_append]; exact h9)
            have HL1 : Hid ((wA.alloc (.cells #[] 33)).drew.ownsRow wA.heap.size 33 2 (.slice (some ⟨wA.heap.size, 0, none⟩) 0 0) 0 []) := Lib.hid (own_fr (World.ownsRow_lit (base := wA.heap.size) (e := 33) (size := 2) wA #[] 0 (Nat.le_refl _) (Nat.zero_le _) rfl) (Fr.drew _))
            have HLA : Hid (((wA.alloc (.cells #[] 33)).alloc (.cells #[.int .i64 z.1, .string (S z.2)] 33)).drew.ownsRow wA.heap.size 33 2 (.slice (some ⟨wA.heap.size, 0, none⟩) 0 0) 0 []) := Lib.hid (own_fr (World.ownsRow_lit (base := wA.heap.size) (e := 33) (size := 2) wA #[] 0 (Nat.le_refl _) (Nat.zero_le _) rfl) ((Fr.alloc _ _).trans (Fr.drew _)))
            have HLB : Hid (((wA.alloc (.cells #[.int .i64 z.1, .string (S z.2)] 33)).alloc (.cells #[] 33)).drew.ownsRow wA.heap.size 33 2 (.slice (some ⟨wA.heap.size + 1, 0, none⟩) 0 0) 0 []) := Lib.hid (by
              have h := own_fr (own_base (World.ownsRow_lit (base := (wA.alloc (.cells #[.int .i64 z.1, .string (S z.2)] 33)).heap.size) (e := 33) (size := 2) (wA.alloc (.cells #[.int .i64 z.1, .string (S z.2)] 33)) #[] 0 (Nat.le_refl _) (Nat.zero_le _) rfl) (b := wA.heap.size) (by simp)) (Fr.drew _)
              simpa using h)
            have HXB : Hid (((wA.alloc (.cells #[.int .i64 z.1, .string (S z.2)] 33)).alloc (.cells #[] 33)).drew.heap[wA.heap.size]? = some (.cells #[.int .i64 z.1, .string (S z.2)] 33 (0, 0))) := Lib.hid (((Fr.alloc _ _).trans (Fr.drew _)).heap (heap_alloc_new wA _))
            have HXA : Hid (((wA.alloc (.cells #[] 33)).alloc (.cells #[.int .i64 z.1, .string (S z.2)] 33)).drew.heap[wA.heap.size + 1]? = some (.cells #[.int .i64 z.1, .string (S z.2)] 33 (0, 0))) := Lib.hid (by
              have h := (Fr.drew _).heap (heap_alloc_new (wA.alloc (.cells #[] 33)) (.cells #[.int .i64 z.1, .string (S z.2)] 33))
              simpa using h)
            have k0 := (HLD.out _ (Fr.refl wA)).1
            have k0' := (HLD.out _ (Fr.refl wA)).2
            have kd := (HLD.out _ (Fr.drew wA)).1
            have kd' := (HLD.out _ (Fr.drew wA)).2
            have ka := (HLD.out _ (Fr.alloc wA (.cells #[] 33))).1
            have ka' := (HLD.out _ (Fr.alloc wA (.cells #[] 33))).2
            go_upto_region 24 with fail
            go_cut [14, 15] (fun p e wx => ∃ w5, p = .pointer none ∧ e = .int .i64 5 ∧ w5 = wx ∧ Hid (Fr wA w5))
            case first =>
              -- slow
              go_region_law ((first | (refine step_append_own (w := (wA.alloc (.cells #[] 33)).drew) (op := ⟨some 114, _, _, _, _, _⟩) (by rfl) (.tmp 112) (.tmp 113) 22 (by rfl) wA.heap.size 33 i1 (.agg #[.int .i64 0, .string (S [])]) 2 24 Try.underlying22 HIN1.out hyz0 hyz1 hyz2 rfl (by decide) (.slice (some ⟨wA.heap.size, 0, none⟩) 0 0) 0 [] (by rfl) HL1.out ⟨g, 0, none⟩ (n + 1) vc (sdC q) (by rfl) HLEN.out (HCC.out _ ((Fr.alloc wA (.cells #[] 33)).trans (Fr.drew _))) (sdC_one q) (by unfold maxLen; omega) (by omega) (by simp <;> omega) ?_; (intro v1 w1 hown1 hgr1; have HO1 := Lib.hid hown1; have HF1 := Lib.hid (fr_row ((Fr.alloc wA (.cells #[] 33)).trans (Fr.drew _)) HL1.out (Nat.le_refl _) hgr1); have k1 := (HLD.out _ HF1.out).1; have k2 := (HLD.out _ HF1.out).2; clear hown1 hgr1)) | (refine step_append_own (w := ((wA.alloc (.cells #[.int .i64 z.1, .string (S z.2)] 33)).alloc (.cells #[] 33)).drew) (op := ⟨some 114, _, _, _, _, _⟩) (by rfl) (.tmp 112) (.tmp 113) 22 (by rfl) wA.heap.size 33 i1 (.agg #[.int .i64 0, .string (S [])]) 2 24 Try.underlying22 HIN1.out hyz0 hyz1 hyz2 rfl (by decide) (.slice (some ⟨wA.heap.size + 1, 0, none⟩) 0 0) 0 [] (by rfl) HLB.out ⟨g, 0, none⟩ (n + 1) vc (sdC q) (by rfl) HLEN.out (HCC.out _ ((Fr.alloc wA (.cells #[.int .i64 z.1, .string (S z.2)] 33)).trans ((Fr.alloc _ (.cells #[] 33)).trans (Fr.drew _)))) (sdC_one q) (by unfold maxLen; omega) (by omega) (by simp <;> omega) ?_; (intro v1 w1 hown1 hgr1; have HO1 := Lib.hid hown1; have HF1 := Lib.hid (fr_row ((Fr.alloc wA (.cells #[.int .i64 z.1, .string (S z.2)] 33)).trans ((Fr.alloc _ (.cells #[] 33)).trans (Fr.drew _))) HLB.out (Nat.le_refl _) hgr1); have k1 := (HLD.out _ HF1.out).1; have k2 := (HLD.out _ HF1.out).2; have HXB1 := Lib.hid ((hgr1.block wA.heap.size (by simp <;> omega) (by simp [Value.ownBlock])).trans HXB.out); clear hown1 hgr1)) | (refine step_append_own (w := ((wA.alloc (.cells #[] 33)).alloc (.cells #[.int .i64 z.1, .string (S z.2)] 33)).drew) (op := ⟨some 114, _, _, _, _, _⟩) (by rfl) (.tmp 112) (.tmp 113) 22 (by rfl) wA.heap.size 33 i1 (.agg #[.int .i64 0, .string (S [])]) 2 24 Try.underlying22 HIN1.out hyz0 hyz1 hyz2 rfl (by decide) (.slice (some ⟨wA.heap.size, 0, none⟩) 0 0) 0 [] (by rfl) HLA.out ⟨g, 0, none⟩ (n + 1) vc (sdC q) (by rfl) HLEN.out (HCC.out _ ((Fr.alloc wA (.cells #[] 33)).trans ((Fr.alloc _ (.cells #[.int .i64 z.1, .string (S z.2)] 33)).trans (Fr.drew _)))) (sdC_one q) (by unfold maxLen; omega) (by omega) (by simp <;> omega) ?_; (intro v1 w1 hown1 hgr1; have HO1 := Lib.hid hown1; have HF1 := Lib.hid (fr_row ((Fr.alloc wA (.cells #[] 33)).trans ((Fr.alloc _ (.cells #[.int .i64 z.1, .string (S z.2)] 33)).trans (Fr.drew _))) HLA.out (Nat.le_refl _) hgr1); have k1 := (HLD.out _ HF1.out).1; have k2 := (HLD.out _ HF1.out).2; have HXA1 := Lib.hid ((hgr1.block (wA.heap.size + 1) (by simp) (by simp [Value.ownBlock])).trans HXA.out); clear hown1 hgr1)) | (refine step_append_own (w := w1.alloc (.cells #[.int .i64 z.1, .string (S z.2)] 33)) (op := ⟨some 122, _, _, _, _, _⟩) (by rfl) (.tmp 114) (.tmp 121) 22 (by rfl) wA.heap.size 33 i1 (.agg #[.int .i64 0, .string (S [])]) 2 24 Try.underlying22 HIN1.out hyz0 hyz1 hyz2 rfl (by decide) v1 (0 + (n + 1)) ([] ++ sdC q) (by rfl) (own_fr HO1.out (Fr.alloc w1 (.cells #[.int .i64 z.1, .string (S z.2)] 33))) ⟨w1.heap.size, 0, none⟩ 1 1 [.int .i64 z.1, .string (S z.2)] (by rfl) (by rfl) (World.news_of_block (heap_alloc_new w1 (.cells #[.int .i64 z.1, .string (S z.2)] 33))) (by simp [Value.oneCell']) (by unfold maxLen; omega) (by omega) (by have := HF1.out.size; simp <;> omega) ?_; (intro v2 w2 hown2 hgr2; have HF2 := Lib.hid (fr_row (HF1.out.trans (Fr.alloc w1 (.cells #[.int .i64 z.1, .string (S z.2)] 33))) (own_fr HO1.out (Fr.alloc w1 (.cells #[.int .i64 z.1, .string (S z.2)] 33))) (Nat.le_refl _) hgr2); have hs2 := Sl.own (l := q ++ [z]) (HROW.out _ _ hown2) HLN.out; obtain ⟨va2, vc2, hv2⟩ := row_form hown2; obtain ⟨N2, hN2⟩ : ∃ N2, N2 = 0 + (n + 1) + 1 := ⟨_, rfl⟩; rw [← hN2] at hv2; subst hv2; have HS2 := Lib.hid hs2; clear hown2 hgr2 hs2 hN2)) | (refine step_append_own (w := w1) (op := ⟨some 122, _, _, _, _, _⟩) (by rfl) (.tmp 114) (.tmp 121) 22 (by rfl) wA.heap.size 33 i1 (.agg #[.int .i64 0, .string (S [])]) 2 24 Try.underlying22 HIN1.out hyz0 hyz1 hyz2 rfl (by decide) v1 (0 + (n + 1)) ([] ++ sdC q) (by rfl) HO1.out ⟨wA.heap.size, 0, none⟩ 1 1 [.int .i64 z.1, .string (S z.2)] (by rfl) (by rfl) (World.news_of_block HXB1.out) (by simp [Value.oneCell']) (by unfold maxLen; omega) (by omega) (by have := HF1.out.size; simp <;> omega) ?_; (intro v2 w2 hown2 hgr2; have HF2 := Lib.hid (fr_row HF1.out HO1.out (Nat.le_refl _) hgr2); have hs2 := Sl.own (l := q ++ [z]) (HROW.out _ _ hown2) HLN.out; obtain ⟨va2, vc2, hv2⟩ := row_form hown2; obtain ⟨N2, hN2⟩ : ∃ N2, N2 = 0 + (n + 1) + 1 := ⟨_, rfl⟩; rw [← hN2] at hv2; subst hv2; have HS2 := Lib.hid hs2; clear hown2 hgr2 hs2 hN2)) | (refine step_append_own (w := w1) (op := ⟨some 122, _, _, _, _, _⟩) (by rfl) (.tmp 114) (.tmp 121) 22 (by rfl) wA.heap.size 33 i1 (.agg #[.int .i64 0, .string (S [])]) 2 24 Try.underlying22 HIN1.out hyz0 hyz1 hyz2 rfl (by decide) v1 (0 + (n + 1)) ([] ++ sdC q) (by rfl) HO1.out ⟨wA.heap.size + 1, 0, none⟩ 1 1 [.int .i64 z.1, .string (S z.2)] (by rfl) (by rfl) (World.news_of_block HXA1.out) (by simp [Value.oneCell']) (by unfold maxLen; omega) (by omega) (by have := HF1.out.size; simp <;> omega) ?_; (intro v2 w2 hown2 hgr2; have HF2 := Lib.hid (fr_row HF1.out HO1.out (Nat.le_refl _) hgr2); have hs2 := Sl.own (l := q ++ [z]) (HROW.out _ _ hown2) HLN.out; obtain ⟨va2, vc2, hv2⟩ := row_form hown2; obtain ⟨N2, hN2⟩ : ∃ N2, N2 = 0 + (n + 1) + 1 := ⟨_, rfl⟩; rw [← hN2] at hv2; subst hv2; have HS2 := Lib.hid hs2; clear hown2 hgr2 hs2 hN2)) | (go_simp; go_at_call 15; refine (open_twice HS2.out HLQ.out HLT.out HKZ.out HDZ.out).mono ?_; rintro e w3 ⟨rfl, hf3⟩; have HF3 := Lib.hid (HF2.out.trans hf3); clear hf3)))
              all_goals (go_wp2_with fail; go_meet; exact ⟨_, rfl, rfl, rfl, HF3⟩)
              -- /slow
            case rest =>
              obtain ⟨wB, rfl, rfl, rfl, hFB⟩ := hcut
              have HCC : Hid (∀ w', Fr wB w' → ∀ j u, (sdC q)[j]? = some u → w'.cell? ((⟨g, 0, none⟩ : Addr).add j) = some u) := Lib.hid fun w' hf => HCC.out w' (hFB.out.trans hf)
              have HLD : Hid (∀ w', Fr wB w' → w'.cell? ⟨g, 0, none⟩ = some (.int .i64 y.1) ∧ w'.cell? ⟨g, 1, none⟩ = some (.string (S y.2))) := Lib.hid fun w' hf => HLE0.out w' (hFB.out.trans hf)
              have HLT : Hid (∀ e ∈ q ++ [y, (200, [])], e.2.length ≤ maxLen) := Lib.hid fun e he => by
                rcases List.mem_append.1 he with h | h
                · exact HTT.out e h
                · simp only [List.mem_cons, List.not_mem_nil, or_false] at h
                  rcases h with rfl | rfl
                  · exact HTT.out _ HYM.out
                  · simp
              have HKZ : Hid (¬ AllKeys (q ++ [y, (200, [])])) := Lib.hid fun h => absurd (h (200, []) (by simp)) (by decide)
              have H8 := Lib.hid (H8.out.fr hFB.out)
              clear HLN HLQ HROW HL1 HLA HLB HXB HXA k0 k0' kd kd' ka ka' hFB HLD0 HLE0
              have HLN : Hid (0 + (n + 1) + 2 = (q ++ [y, (200, [])]).length) := Lib.hid (by rw [List.length_append, HN1.out]; simp)
              have HLQ : Hid ((q ++ [y, (200, [])]).length ≤ 1000000) := Lib.hid (by rw [← HLN.out]; omega)
              have HROW : Hid (∀ (w9 : World) (v9 : Value), w9.ownsRow wB.heap.size 33 2 v9 (0 + (n + 1) + 2) ([] ++ sdC q ++ [.int .i64 y.1, .string (S y.2), .int .i64 200, .string ⟨#[]⟩]) → w9.ownsRow wB.heap.size 33 2 v9 (0 + (n + 1) + 2) (sdC (q ++ [y, (200, [])]))) := Lib.hid (fun w9 v9 h9 => by rw [sdC_append]; exact h9)
              have HL1 : Hid ((wB.alloc (.cells #[] 33)).drew.ownsRow wB.heap.size 33 2 (.slice (some ⟨wB.heap.size, 0, none⟩) 0 0) 0 []) := Lib.hid (own_fr (World.ownsRow_lit (base := wB.heap.size) (e := 33) (size := 2) wB #[] 0 (Nat.le_refl _) (Nat.zero_le _) rfl) (Fr.drew _))
              have HLA : Hid (((wB.alloc (.cells #[] 33)).alloc (.cells #[.int .i64 y.1, .string (S y.2), .int .i64 200, .string ⟨#[]⟩] 33)).drew.ownsRow wB.heap.size 33 2 (.slice (some ⟨wB.heap.size, 0, none⟩) 0 0) 0 []) := Lib.hid (own_fr (World.ownsRow_lit (base := wB.heap.size) (e := 33) (size := 2) wB #[] 0 (Nat.le_refl _) (Nat.zero_le _) rfl) ((Fr.alloc _ _).trans (Fr.drew _)))
              have HLB : Hid (((wB.alloc (.cells #[.int .i64 y.1, .string (S y.2), .int .i64 200, .string ⟨#[]⟩] 33)).alloc (.cells #[] 33)).drew.ownsRow wB.heap.size 33 2 (.slice (some ⟨wB.heap.size + 1, 0, none⟩) 0 0) 0 []) := Lib.hid (by
                have h := own_fr (own_base (World.ownsRow_lit (base := (wB.alloc (.cells #[.int .i64 y.1, .string (S y.2), .int .i64 200, .string ⟨#[]⟩] 33)).heap.size) (e := 33) (size := 2) (wB.alloc (.cells #[.int .i64 y.1, .string (S y.2), .int .i64 200, .string ⟨#[]⟩] 33)) #[] 0 (Nat.le_refl _) (Nat.zero_le _) rfl) (b := wB.heap.size) (by simp)) (Fr.drew _)
                simpa using h)
              have HXB : Hid (((wB.alloc (.cells #[.int .i64 y.1, .string (S y.2), .int .i64 200, .string ⟨#[]⟩] 33)).alloc (.cells #[] 33)).drew.heap[wB.heap.size]? = some (.cells #[.int .i64 y.1, .string (S y.2), .int .i64 200, .string ⟨#[]⟩] 33 (0, 0))) := Lib.hid (((Fr.alloc _ _).trans (Fr.drew _)).heap (heap_alloc_new wB _))
              have HXA : Hid (((wB.alloc (.cells #[] 33)).alloc (.cells #[.int .i64 y.1, .string (S y.2), .int .i64 200, .string ⟨#[]⟩] 33)).drew.heap[wB.heap.size + 1]? = some (.cells #[.int .i64 y.1, .string (S y.2), .int .i64 200, .string ⟨#[]⟩] 33 (0, 0))) := Lib.hid (by
                have h := (Fr.drew _).heap (heap_alloc_new (wB.alloc (.cells #[] 33)) (.cells #[.int .i64 y.1, .string (S y.2), .int .i64 200, .string ⟨#[]⟩] 33))
                simpa using h)
              have k0 := (HLD.out _ (Fr.refl wB)).1
              have k0' := (HLD.out _ (Fr.refl wB)).2
              have kd := (HLD.out _ (Fr.drew wB)).1
              have kd' := (HLD.out _ (Fr.drew wB)).2
              have ka := (HLD.out _ (Fr.alloc wB (.cells #[] 33))).1
              have ka' := (HLD.out _ (Fr.alloc wB (.cells #[] 33))).2
              go_upto_region 25 with fail
              go_cut [16, 17] (fun p e wx => ∃ w5, p = .pointer none ∧ e = .int .i64 1 ∧ w5 = wx ∧ Hid (Fr wB w5))
              case first =>
                -- slow
                go_region_law ((first | (refine step_append_own (w := (wB.alloc (.cells #[] 33)).drew) (op := ⟨some 129, _, _, _, _, _⟩) (by rfl) (.tmp 127) (.tmp 128) 22 (by rfl) wB.heap.size 33 i1 (.agg #[.int .i64 0, .string (S [])]) 2 24 Try.underlying22 HIN1.out hyz0 hyz1 hyz2 rfl (by decide) (.slice (some ⟨wB.heap.size, 0, none⟩) 0 0) 0 [] (by rfl) HL1.out ⟨g, 0, none⟩ (n + 1) vc (sdC q) (by rfl) HLEN.out (HCC.out _ ((Fr.alloc wB (.cells #[] 33)).trans (Fr.drew _))) (sdC_one q) (by unfold maxLen; omega) (by omega) (by simp <;> omega) ?_; (intro v1 w1 hown1 hgr1; have HO1 := Lib.hid hown1; have HF1 := Lib.hid (fr_row ((Fr.alloc wB (.cells #[] 33)).trans (Fr.drew _)) HL1.out (Nat.le_refl _) hgr1); have k1 := (HLD.out _ HF1.out).1; have k2 := (HLD.out _ HF1.out).2; clear hown1 hgr1)) | (refine step_append_own (w := ((wB.alloc (.cells #[.int .i64 y.1, .string (S y.2), .int .i64 200, .string ⟨#[]⟩] 33)).alloc (.cells #[] 33)).drew) (op := ⟨some 129, _, _, _, _, _⟩) (by rfl) (.tmp 127) (.tmp 128) 22 (by rfl) wB.heap.size 33 i1 (.agg #[.int .i64 0, .string (S [])]) 2 24 Try.underlying22 HIN1.out hyz0 hyz1 hyz2 rfl (by decide) (.slice (some ⟨wB.heap.size + 1, 0, none⟩) 0 0) 0 [] (by rfl) HLB.out ⟨g, 0, none⟩ (n + 1) vc (sdC q) (by rfl) HLEN.out (HCC.out _ ((Fr.alloc wB (.cells #[.int .i64 y.1, .string (S y.2), .int .i64 200, .string ⟨#[]⟩] 33)).trans ((Fr.alloc _ (.cells #[] 33)).trans (Fr.drew _)))) (sdC_one q) (by unfold maxLen; omega) (by omega) (by simp <;> omega) ?_; (intro v1 w1 hown1 hgr1; have HO1 := Lib.hid hown1; have HF1 := Lib.hid (fr_row ((Fr.alloc wB (.cells #[.int .i64 y.1, .string (S y.2), .int .i64 200, .string ⟨#[]⟩] 33)).trans ((Fr.alloc _ (.cells #[] 33)).trans (Fr.drew _))) HLB.out (Nat.le_refl _) hgr1); have k1 := (HLD.out _ HF1.out).1; have k2 := (HLD.out _ HF1.out).2; have HXB1 := Lib.hid ((hgr1.block wB.heap.size (by simp <;> omega) (by simp [Value.ownBlock])).trans HXB.out); clear hown1 hgr1)) | (refine step_append_own (w := ((wB.alloc (.cells #[] 33)).alloc (.cells #[.int .i64 y.1, .string (S y.2), .int .i64 200, .string ⟨#[]⟩] 33)).drew) (op := ⟨some 129, _, _, _, _, _⟩) (by rfl) (.tmp 127) (.tmp 128) 22 (by rfl) wB.heap.size 33 i1 (.agg #[.int .i64 0, .string (S [])]) 2 24 Try.underlying22 HIN1.out hyz0 hyz1 hyz2 rfl (by decide) (.slice (some ⟨wB.heap.size, 0, none⟩) 0 0) 0 [] (by rfl) HLA.out ⟨g, 0, none⟩ (n + 1) vc (sdC q) (by rfl) HLEN.out (HCC.out _ ((Fr.alloc wB (.cells #[] 33)).trans ((Fr.alloc _ (.cells #[.int .i64 y.1, .string (S y.2), .int .i64 200, .string ⟨#[]⟩] 33)).trans (Fr.drew _)))) (sdC_one q) (by unfold maxLen; omega) (by omega) (by simp <;> omega) ?_; (intro v1 w1 hown1 hgr1; have HO1 := Lib.hid hown1; have HF1 := Lib.hid (fr_row ((Fr.alloc wB (.cells #[] 33)).trans ((Fr.alloc _ (.cells #[.int .i64 y.1, .string (S y.2), .int .i64 200, .string ⟨#[]⟩] 33)).trans (Fr.drew _))) HLA.out (Nat.le_refl _) hgr1); have k1 := (HLD.out _ HF1.out).1; have k2 := (HLD.out _ HF1.out).2; have HXA1 := Lib.hid ((hgr1.block (wB.heap.size + 1) (by simp) (by simp [Value.ownBlock])).trans HXA.out); clear hown1 hgr1)) | (refine step_append_own (w := w1.alloc (.cells #[.int .i64 y.1, .string (S y.2), .int .i64 200, .string ⟨#[]⟩] 33)) (op := ⟨some 135, _, _, _, _, _⟩) (by rfl) (.tmp 129) (.tmp 134) 22 (by rfl) wB.heap.size 33 i1 (.agg #[.int .i64 0, .string (S [])]) 2 24 Try.underlying22 HIN1.out hyz0 hyz1 hyz2 rfl (by decide) v1 (0 + (n + 1)) ([] ++ sdC q) (by rfl) (own_fr HO1.out (Fr.alloc w1 (.cells #[.int .i64 y.1, .string (S y.2), .int .i64 200, .string ⟨#[]⟩] 33))) ⟨w1.heap.size, 0, none⟩ 2 2 [.int .i64 y.1, .string (S y.2), .int .i64 200, .string ⟨#[]⟩] (by rfl) (by rfl) (World.news_of_block (heap_alloc_new w1 (.cells #[.int .i64 y.1, .string (S y.2), .int .i64 200, .string ⟨#[]⟩] 33))) (by simp [Value.oneCell']) (by unfold maxLen; omega) (by omega) (by have := HF1.out.size; simp <;> omega) ?_; (intro v2 w2 hown2 hgr2; have HF2 := Lib.hid (fr_row (HF1.out.trans (Fr.alloc w1 (.cells #[.int .i64 y.1, .string (S y.2), .int .i64 200, .string ⟨#[]⟩] 33))) (own_fr HO1.out (Fr.alloc w1 (.cells #[.int .i64 y.1, .string (S y.2), .int .i64 200, .string ⟨#[]⟩] 33))) (Nat.le_refl _) hgr2); have hs2 := Sl.own (l := q ++ [y, (200, [])]) (HROW.out _ _ hown2) HLN.out; obtain ⟨va2, vc2, hv2⟩ := row_form hown2; obtain ⟨N2, hN2⟩ : ∃ N2, N2 = 0 + (n + 1) + 2 := ⟨_, rfl⟩; rw [← hN2] at hv2; subst hv2; have HS2 := Lib.hid hs2; clear hown2 hgr2 hs2 hN2)) | (refine step_append_own (w := w1) (op := ⟨some 135, _, _, _, _, _⟩) (by rfl) (.tmp 129) (.tmp 134) 22 (by rfl) wB.heap.size 33 i1 (.agg #[.int .i64 0, .string (S [])]) 2 24 Try.underlying22 HIN1.out hyz0 hyz1 hyz2 rfl (by decide) v1 (0 + (n + 1)) ([] ++ sdC q) (by rfl) HO1.out ⟨wB.heap.size, 0, none⟩ 2 2 [.int .i64 y.1, .string (S y.2), .int .i64 200, .string ⟨#[]⟩] (by rfl) (by rfl) (World.news_of_block HXB1.out) (by simp [Value.oneCell']) (by unfold maxLen; omega) (by omega) (by have := HF1.out.size; simp <;> omega) ?_; (intro v2 w2 hown2 hgr2; have HF2 := Lib.hid (fr_row HF1.out HO1.out (Nat.le_refl _) hgr2); have hs2 := Sl.own (l := q ++ [y, (200, [])]) (HROW.out _ _ hown2) HLN.out; obtain ⟨va2, vc2, hv2⟩ := row_form hown2; obtain ⟨N2, hN2⟩ : ∃ N2, N2 = 0 + (n + 1) + 2 := ⟨_, rfl⟩; rw [← hN2] at hv2; subst hv2; have HS2 := Lib.hid hs2; clear hown2 hgr2 hs2 hN2)) | (refine step_append_own (w := w1) (op := ⟨some 135, _, _, _, _, _⟩) (by rfl) (.tmp 129) (.tmp 134) 22 (by rfl) wB.heap.size 33 i1 (.agg #[.int .i64 0, .string (S [])]) 2 24 Try.underlying22 HIN1.out hyz0 hyz1 hyz2 rfl (by decide) v1 (0 + (n + 1)) ([] ++ sdC q) (by rfl) HO1.out ⟨wB.heap.size + 1, 0, none⟩ 2 2 [.int .i64 y.1, .string (S y.2), .int .i64 200, .string ⟨#[]⟩] (by rfl) (by rfl) (World.news_of_block HXA1.out) (by simp [Value.oneCell']) (by unfold maxLen; omega) (by omega) (by have := HF1.out.size; simp <;> omega) ?_; (intro v2 w2 hown2 hgr2; have HF2 := Lib.hid (fr_row HF1.out HO1.out (Nat.le_refl _) hgr2); have hs2 := Sl.own (l := q ++ [y, (200, [])]) (HROW.out _ _ hown2) HLN.out; obtain ⟨va2, vc2, hv2⟩ := row_form hown2; obtain ⟨N2, hN2⟩ : ∃ N2, N2 = 0 + (n + 1) + 2 := ⟨_, rfl⟩; rw [← hN2] at hv2; subst hv2; have HS2 := Lib.hid hs2; clear hown2 hgr2 hs2 hN2)) | (go_simp; go_at_call 15; refine (open_arg HS2.out HLQ.out HLT.out HKZ.out).mono ?_; rintro e w3 ⟨rfl, hf3⟩; have HF3 := Lib.hid (HF2.out.trans hf3); clear hf3)))
                all_goals (go_wp2_with fail; go_meet; exact ⟨_, rfl, rfl, rfl, HF3⟩)
                -- /slow
              case rest =>
                obtain ⟨wC, rfl, rfl, rfl, hFC⟩ := hcut
                have H8 := Lib.hid (H8.out.fr hFC.out)
                clear HLN HLQ HROW HL1 HLA HLB HXB HXA k0 k0' kd kd' ka ka' hFC HLD HCC
                rw [← HN1.out]
                go_upto_region 28 with fail
                -- the copy, and after it
                have H9 := Lib.hid (H8.out.right.turn)
                clear H8
                go_upto_region 31 with (go_at_call 20; refine (Has.copy H9.out HQ.out).mono ?_; rintro e w9 ⟨Bc, rfl, h9⟩; have H10 := Lib.hid h9; clear h9)
                go_upto_region 32 with (go_at_call 18; refine (Has.all H10.out HQ.out).mono ?_; rintro e w10 ⟨v10, rfl, ho10, hf10⟩; obtain ⟨va10, vc10, rfl⟩ := row_form ho10)
                have H11 := Lib.hid ((H10.out.fr hf10).turn)
                clear ho10 hf10 H10 H9
                have b0 := H11.out.right.right.right.right.boxed
                have s0 := cellOf (v := .int .i64 e0.1) (i := 0) b0 rfl
                have s1 := cellOf (v := .string (S e0.2)) (i := 1) b0 rfl
                clear b0
                go_upto_region 33 with (go_at_call 11; refine (Has.sign H11.out e0.1 e0.2 (by unfold maxLen; omega) HQ.out).mono ?_; rintro e w12 ⟨rfl, h12⟩; have H12 := Lib.hid h12; clear h12)
                have HQ2 : Hid ((signL q (e0.1, e0.2)).length ≤ 1000000) := Lib.hid (by
                  unfold signL
                  split
                  · have := (addL_len q (e0.1, e0.2)).2
                    omega
                  · omega)
                obtain ⟨q2, hq2⟩ : ∃ q2, q2 = signL q (e0.1, e0.2) := ⟨_, rfl⟩
                rw [← hq2] at H12 HQ2
                clear hq2 H11 s0 s1
                go_upto_region 34 with (go_at_call 18; refine (Has.all H12.out HQ2.out).mono ?_; rintro e w13 ⟨v13, rfl, ho13, hf13⟩; obtain ⟨va13, vc13, rfl⟩ := row_form ho13; have H13 := Lib.hid (H12.out.new (RowT.made ho13 hf13)); clear ho13 hf13)
                have H14 := Lib.hid H13.out.pull3
                clear H13 H12
                go_upto_region 36 with (first
                  | (go_at_call 17; refine (same_any _ (Sl.own ho15 rfl) (Sl.own ((H14.out.fr hf14).fr hf15).right.right.right.row rfl) HQ.out).mono ?_; rintro e w16 ⟨rfl, hf16⟩)
                  | (go_at_call 18; refine (Has.all (H14.out.fr hf14) HQ.out).mono ?_; rintro e w15 ⟨v15, rfl, ho15, hf15⟩)
                  | (go_at_call 18; refine (Has.all H14.out HQ.out).mono ?_; rintro e w14 ⟨v14, rfl, ho14, hf14⟩; obtain ⟨va14, vc14, rfl⟩ := row_form ho14))
                have H16 := Lib.hid (((H14.out.fr hf14).fr hf15).fr hf16)
                clear ho14 ho15 hf14 hf15 hf16 H14
                have b0 := H16.out.right.right.right.right.right.boxed
                have s0 := cellOf (v := .int .i64 e0.1) (i := 0) b0 rfl
                have s1 := cellOf (v := .string (S e0.2)) (i := 1) b0 rfl
                clear b0
                have hcat : S e0.2 ++ ⟨#[120]⟩ = S (e0.2 ++ [120]) := S_append e0.2 [120]
                go_upto_region 37 with (go_at_call 11; refine (Has.sign H16.out 0 (e0.2 ++ [120]) (by rw [List.length_append]; unfold maxLen; simp; omega) HQ.out).mono ?_; rintro e w17 ⟨rfl, h17⟩; have H17 := Lib.hid h17.pull3; clear h17)
                clear hcat s0 s1 H16
                go_wp2_with (first
                  | (go_at_call 17; refine (same_any _ (Sl.own ho18 rfl) (Sl.own (H17.out.fr hf18).right.right.row rfl) HQ2.out).mono ?_; rintro e w19 ⟨rfl, hf19⟩)
                  | (go_at_call 18; refine (Has.all H17.out HQ2.out).mono ?_; rintro e w18 ⟨v18, rfl, ho18, hf18⟩))
                go_ret
                exact ⟨rfl, H17.out.toFr.trans (hf18.trans hf19)⟩
theorem opens_any (v : Value) (l : List Sd) (e0 : Sd) (w : World) (h : Sl w v l) (ha : Arg l) (hs : e0.2.length ≤ maxLen) :
    Calls Try.prog 6 #[v, sdV e0] w fun e w' => e = .returned (.bool true) ∧ Fr w w' := by
  by_cases hf : Few l ∧ e0.2.length ≤ 500
  · obtain ⟨ad, c, rfl⟩ := h.len
    exact opens_yes ad c l e0 w h ha hf.1 hf.2
  · exact opens_not v l e0 w h ha hs hf
end Go.Proofs.Ytifbenjjjghgoaa
