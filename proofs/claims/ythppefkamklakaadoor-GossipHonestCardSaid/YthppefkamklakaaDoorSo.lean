/-
  A ring in memory (RingT); New, isKey, mark, Sign, Valid, All.
-/
import Derived.Test.YthppefkamklakaaDoorSb
namespace Go.Proofs.YthppefkamklakaaDoor
open Go.RowKit Go.MapKept Go.Maps Go.WideMaps
open Go.ChangeMaps (setBlock)

/-- What a world holds of a ring with the entries q, at block B; O: the blocks that belong to it. -/
structure RgAt (w : World) (O : Nat → Prop) (B M : Nat) (ev : Value) (q : List Sd) : Prop where
  bound : ∀ k, O k → k < w.heap.size
  oB : O B
  oM : O M
  oE : ∀ p, ev.ownBlock = some p → O p
  heap : w.heap[B]? = some (.cells #[ev, .map (some M)] 58 (0, 0))
  map : MapIs w M (pmV q) q.length
  row : w.ownsRow 0 94 2 ev q.length (sdC q)
  nodup : q.Nodup
theorem MapIs.heap {w w' : World} {M : Nat} {m n} (h : MapIs w M m n) (hw : w'.heap[M]? = w.heap[M]?) : MapIs w' M m n := by
  obtain ⟨es, clock, hb, h'⟩ := h
  exact ⟨es, clock, hw.trans hb, h'⟩
theorem RgAt.frame {w w' : World} {O : Nat → Prop} {B M : Nat} {ev : Value} {q : List Sd} (h : RgAt w O B M ev q) (hs : w.heap.size ≤ w'.heap.size) (hw : ∀ k, O k → w'.heap[k]? = w.heap[k]?) : RgAt w' O B M ev q :=
  ⟨fun k hk => Nat.lt_of_lt_of_le (h.bound k hk) hs, h.oB, h.oM, h.oE, by rw [hw B h.oB]; exact h.heap, h.map.heap (hw M h.oM), ownsRow_heap h.row (fun p hp => hw p (h.oE p hp)), h.nodup⟩
theorem RgAt.mb {w : World} {O : Nat → Prop} {B M : Nat} {ev : Value} {q : List Sd} (h : RgAt w O B M ev q) : M ≠ B := by
  rintro rfl
  obtain ⟨es, cl, hb, _⟩ := h.map
  rw [h.heap] at hb; cases hb
theorem RgAt.em {w : World} {O : Nat → Prop} {B M : Nat} {ev : Value} {q : List Sd} (h : RgAt w O B M ev q) : ∀ p, ev.ownBlock = some p → p ≠ M := by
  obtain ⟨es, cl, hb, _⟩ := h.map
  exact row_ne_map h.row hb
theorem RgAt.eb {w : World} {O : Nat → Prop} {B M : Nat} {ev : Value} {q : List Sd} (h : RgAt w O B M ev q) : ∀ p, ev.ownBlock = some p → p ≠ B := row_ne h.row h.heap (by decide)
/-- A ring with the entries q at block B. -/
def RingT (B : Nat) (q : List Sd) : Thing where
  at_ w O := ∃ M ev, RgAt w O B M ev q
  bound h k hk := let ⟨_, _, h'⟩ := h; h'.bound k hk
  frame h hs hw := let ⟨M, ev, h'⟩ := h; ⟨M, ev, h'.frame hs hw⟩

/-! ### New -/
theorem new_at (w : World) : (RingT (w.heap.size + 1) []).step (fun _ => False) w ((w.alloc (.map #[] 0)).alloc (.cells #[.slice none 0 0, .map (some w.heap.size)] 58)) := by
  have hs : ((w.alloc (.map #[] 0)).alloc (.cells #[.slice none 0 0, .map (some w.heap.size)] 58)).heap.size = w.heap.size + 2 := by simp
  have hb : ((w.alloc (.map #[] 0)).alloc (.cells #[.slice none 0 0, .map (some w.heap.size)] 58)).heap[w.heap.size + 1]? = some (.cells #[.slice none 0 0, .map (some w.heap.size)] 58 (0, 0)) := by
    have := heap_alloc_new (w.alloc (.map #[] 0)) (.cells #[.slice none 0 0, .map (some w.heap.size)] 58)
    simpa using this
  refine ⟨fun k => w.heap.size ≤ k ∧ k < w.heap.size + 2, ⟨w.heap.size, .slice none 0 0, fun k hk => by rw [hs]; exact hk.2, by omega, by omega, fun p hp => by simp [Value.ownBlock] at hp, hb, ?_, World.ownsRow_nil _ _ _ _, List.nodup_nil⟩, ?_, ?_⟩
  · have h1 := (MapIs.new w).heap (M := w.heap.size) (w' := (w.alloc (.map #[] 0)).alloc (.cells #[.slice none 0 0, .map (some w.heap.size)] 58)) ((Fr.alloc _ _).block (by simp))
    exact h1
  · intro k hk; exact .inr (by rw [hs]; exact hk)
  · exact .of_fr ((Fr.alloc _ _).trans (Fr.alloc _ _))
/-- A new ring at some block. -/
def NewP (w : World) (e : Ending) (w' : World) : Prop := ∃ B, e = .returned (.pointer (some ⟨B, 0, none⟩)) ∧ (RingT B []).step (fun _ => False) w w'
set_option maxHeartbeats 1000000 in
set_option maxRecDepth 100000 in
theorem new_any (w : World) : Calls Tryd.prog 6 #[] w (NewP w) := by
  have hmm := @run_makeMap Tryd.prog
  go_enter Tryd.func6, Tryd.ntmps6
  go_wp2
  go_ret
  exact ⟨_, rfl, new_at w⟩

/-! ### isKey -/
theorem isKey_yes (k : Int) (w : World) (h0 : 0 ≤ k) (h1 : k < 200) :
    Calls Tryd.prog 31 #[.int .i64 k] w fun e w' => e = .returned (.bool true) ∧ w' = w := by
  go_enter Tryd.func31, Tryd.ntmps31
  go_wp2
  go_ret
  exact ⟨rfl, rfl⟩
set_option maxRecDepth 100000 in
theorem isKey_no (k : Int) (w : World) (h : k < 0 ∨ 200 ≤ k) :
    Calls Tryd.prog 31 #[.int .i64 k] w fun e w' => e = .returned (.bool false) ∧ w' = w := by
  rcases h with h | h
  · have h' : ¬ (0 ≤ k) := by omega
    go_enter Tryd.func31, Tryd.ntmps31
    go_wp2
    go_ret
    exact ⟨rfl, rfl⟩
  · have h' : 0 ≤ k := by omega
    have h2 : ¬ (k < 200) := by omega
    go_enter Tryd.func31, Tryd.ntmps31
    go_wp2
    go_ret
    exact ⟨rfl, rfl⟩

/-! ### mark -/
theorem mark_old (O : Nat → Prop) (B : Nat) (q : List Sd) (e : Sd) (n : Nat) (w : World) (h : (RingT B q).at_ w O) (he : KeyOk e) (hp : pm 0 q e = some n) (_hq : q.length ≤ 1000000) :
    Calls Tryd.prog 32 #[.pointer (some ⟨B, 0, none⟩), sdV e] w fun r w' => r = .returned (.int .i64 n) ∧ Fr w w' := by
  obtain ⟨M, ev, hr⟩ := h
  have hn := pm_lt hp
  have c0 := (Fr.alloc w (.cells #[.int .i64 e.1, .string (S e.2)] 94)).cell (cellOf hr.heap (i := 1) rfl)
  have hlk := fun k => look_some ((hr.map.fr (Fr.alloc w (.cells #[.int .i64 e.1, .string (S e.2)] 94))).fr (Fr.drewN _ k)) he hp
  unfold sdV at hlk ⊢
  clear hr hp he
  go_enter Tryd.func32, Tryd.ntmps32
  go_wp2_with fail
  go_quiet (fail)
  go_wp2_with fail
  go_ret
  exact ⟨rfl, (Fr.alloc _ _).trans (Fr.drewN _ _)⟩

/-- A store into the ring's first cell, behind an append. -/
theorem RgAt.appended {w w1 : World} {O : Nat → Prop} {B M : Nat} {ev : Value} {q : List Sd} (h : RgAt w O B M ev q) (hg : w.grownBy w1 ev.ownBlock) (v1 : Value) (e : Sd)
    (hr : w1.ownsRow 0 94 2 v1 (q.length + 1) (sdC q ++ [.int .i64 e.1, .string (S e.2)])) (w2 : World) (ho : OnlyB M (w1.setCell ⟨B, 0, none⟩ v1) w2) (hm : MapIs w2 M (pmV (q ++ [e])) (q.length + 1)) (hn : e ∉ q) :
    RgAt w2 (fun k => O k ∨ v1.ownBlock = some k) B M v1 (q ++ [e]) := by
  have hB : w1.heap[B]? = w.heap[B]? := hg.block B (h.bound _ h.oB) (fun e => h.eb B e.symm rfl)
  have hb1 : w1.heap[B]? = some (.cells #[ev, .map (some M)] 58 (0, 0)) := hB.trans h.heap
  have hM : w1.heap[M]? = w.heap[M]? := hg.block M (h.bound _ h.oM) (fun e => h.em M e.symm rfl)
  have hs : (w1.setCell ⟨B, 0, none⟩ v1).heap.size = w1.heap.size := by simp
  have hv : ∀ p, v1.ownBlock = some p → p ≠ B := row_ne hr hb1 (by decide)
  obtain ⟨es, cl, hes, _⟩ := h.map
  have hv2 : ∀ p, v1.ownBlock = some p → p ≠ M := row_ne_map hr (hM.trans hes)
  have hmb := h.mb
  refine ⟨fun k hk => ?_, .inl h.oB, .inl h.oM, fun p hp => .inr hp, ?_, by simpa using hm, ?_, by have := addL_nodup (s := e) h.nodup; rwa [addL_new hn] at this⟩
  · rw [ho.size, hs]
    rcases hk with hk | hk
    · have := h.bound k hk
      have := hg.size
      omega
    · exact (hr.lt k hk).2
  · rw [ho.block (fun e => hmb e.symm), heapB hb1]; rfl
  · have h1 := ownsRow_heap (w' := w2) hr (fun p hp => (ho.block (hv2 p hp)).trans (heap_setCell_other w1 ⟨B, 0, none⟩ p v1 (hv p hp)))
    rw [List.length_append, sdC_append]
    exact h1

set_option maxHeartbeats 2000000 in
set_option maxRecDepth 100000 in
theorem mark_new (O : Nat → Prop) (B : Nat) (q : List Sd) (e : Sd) (w : World) (h : (RingT B q).at_ w O) (he : KeyOk e) (hp : e ∉ q) (hq : q.length ≤ 1000000) :
    Calls Tryd.prog 32 #[.pointer (some ⟨B, 0, none⟩), sdV e] w fun r w' => r = .returned (.int .i64 q.length) ∧ (RingT B (q ++ [e])).step O w w' := by
  obtain ⟨i0, hi, hz0, hz1, hz2⟩ := info_parts infoSd
  obtain ⟨M, ev, hr⟩ := h
  have HIN := Lib.hid hi
  have HNE := Lib.hid hp
  have HKE := Lib.hid he
  have HR := Lib.hid hr
  have HT := Lib.hid (heap_alloc_new w (.cells #[.int .i64 e.1, .string (S e.2)] 94))
  have HF := Lib.hid (Fr.alloc w (.cells #[.int .i64 e.1, .string (S e.2)] 94))
  have c0 := (Fr.alloc w (.cells #[.int .i64 e.1, .string (S e.2)] 94)).cell (cellOf hr.heap (i := 1) rfl)
  have hlk := fun k => look_none ((hr.map.fr (Fr.alloc w (.cells #[.int .i64 e.1, .string (S e.2)] 94))).fr (Fr.drewN _ k)) he (pm_none.2 hp)
  unfold sdV at hlk ⊢
  clear hr hp he hi
  go_enter Tryd.func32, Tryd.ntmps32
  go_wp2_with fail
  go_quiet (fail)
  have hf1 := HF.out.trans (Fr.drewN (w.alloc (.cells #[.int .i64 e.1, .string (S e.2)] 94)) nq)
  have ht1 := (Fr.drewN (w.alloc (.cells #[.int .i64 e.1, .string (S e.2)] 94)) nq).heap HT.out
  have HF1 := Lib.hid hf1
  have HT1 := Lib.hid ht1
  have HR1 := Lib.hid (HR.out.frame hf1.size (fun k hk => hf1.block (HR.out.bound k hk)))
  obtain ⟨T, hT⟩ : ∃ T, T = w.heap.size := ⟨_, rfl⟩
  rw [← hT] at HT1 ⊢
  have HTT := Lib.hid hT
  generalize (w.alloc (.cells #[.int .i64 e.1, .string (S e.2)] 94)).drewN nq = w1 at *
  clear c0 hlk HF HT hf1 ht1 hT
  obtain ⟨a, c, hev⟩ := row_form HR1.out.row
  subst hev
  have c1 : w1.cell? ⟨B, 0, none⟩ = some (.slice a q.length c) := cellOf HR1.out.heap rfl
  go_upto_region 4 with fail
  have f1 : w1.frozen? ⟨B, 0, none⟩ = false := frozenOf HR1.out.heap 0
  have p0 : w1.cell? ⟨T, 0, none⟩ = some (.int .i64 e.1) := cellOf HT1.out rfl
  have p1 : w1.cell? ⟨T, 1, none⟩ = some (.string (S e.2)) := cellOf HT1.out rfl
  have hlB := HR1.out.bound _ HR1.out.oB
  have hnpB : (Value.slice a q.length c).ownBlock ≠ some B := fun e => HR1.out.eb B e rfl
  have HRow := Lib.hid HR1.out.row
  obtain ⟨n, hn⟩ : ∃ n, n = q.length := ⟨_, rfl⟩
  obtain ⟨xs, hxs⟩ : ∃ xs, xs = sdC q := ⟨_, rfl⟩
  rw [← hn] at c1 hq hnpB ⊢
  rw [← hn, ← hxs] at HRow
  have HN := Lib.hid hn
  have HXS := Lib.hid hxs
  clear hn hxs
  go_cut [5] (fun s5 wx => ∃ (v1 : Value) (w2 : World), Hid (w2.ownsRow 0 94 2 v1 (n + 1) (xs ++ [.int .i64 e.1, .string (S e.2)])) ∧ Hid (w1.grownBy w2 (Value.slice a n c).ownBlock) ∧ Hid (∀ p, v1.ownBlock = some p → (Value.slice a n c).ownBlock = some p ∨ p = w1.heap.size + 1) ∧ s5 = .int .i64 n ∧ wx = w2.setCell ⟨B, 0, none⟩ v1)
  case first =>
    go_region_law
      ((refine step_append_lies _ (by rfl) (.tmp 27) (.tmp 29) 56 (by rfl) 0 94 i0 (.agg #[.int .i64 0, .string (S [])]) 2 24 Tryd.underlying56 HIN.out hz0 hz1 hz2 rfl (by decide) (.slice a n c) n xs (by rfl) ((HRow.out.alloc _).drew)
          ⟨w1.heap.size, 0, none⟩ 1 1 [.int .i64 e.1, .string (S e.2)] (by rfl) (by rfl) (World.news_of_block (cs := #[.int .i64 e.1, .string (S e.2)]) (t := 94) (fr := (0, 0)) (heap_alloc_new w1 _)) (by simp [Value.oneCell'])
          (by decide) (by unfold maxLen; omega) (by omega) (Nat.zero_le _) (w1.heap.size + 1) (by simp) ?_
        intro gg cap1 w2 hown1 hgrow hat1 hlt1
        have hg1 := Fr.grown ((Fr.alloc w1 (.cells #[.int .i64 e.1, .string (S e.2)] 94)).trans (Fr.drew _)) hgrow
        have c33' : w2.cell? ⟨B, 0, none⟩ = some (.slice a n c) := by
          rw [World.cell?_of_block (hg1.block B hlB (fun e => hnpB e.symm))]; exact c1
        have f33' : w2.frozen? ⟨B, 0, none⟩ = false := by
          rw [World.frozen?_of_block (hg1.block B hlB (fun e => hnpB e.symm))]; exact f1
        have HO1 := Lib.hid hown1
        have HG1 := Lib.hid hg1
        have HA1 := Lib.hid hat1
        clear hown1 hgrow hat1 hlt1 hg1))
    all_goals (go_wp2_with fail; go_meet; exact ⟨_, w2, HO1, HG1, Lib.hid (fun p hp => by
      simp only [Value.ownBlock, Option.some.injEq] at hp
      subst hp
      exact HA1.out), rfl, rfl⟩)
  case rest =>
    obtain ⟨v1, w2, HO1, HG1, HA1, rfl, rfl⟩ := hcut
    have ho3 := OnlyB.setCell w2 B 0 v1
    have hG1 := HG1.out
    have hOwn : w2.ownsRow 0 94 2 v1 (q.length + 1) (sdC q ++ [.int .i64 e.1, .string (S e.2)]) := by
      have := HO1.out
      rw [HXS.out, HN.out] at this
      exact this
    have hGq : w1.grownBy w2 (Value.slice a q.length c).ownBlock := by rw [← HN.out]; exact hG1
    have hmb := HR1.out.mb
    have hB2 : w2.heap[B]? = some (.cells #[.slice a q.length c, .map (some M)] 58 (0, 0)) := (hGq.block B hlB (fun e => HR1.out.eb B e.symm rfl)).trans HR1.out.heap
    have hM2 : w2.heap[M]? = w1.heap[M]? := hGq.block M (HR1.out.bound _ HR1.out.oM) (fun e => HR1.out.em M e.symm rfl)
    have hnT : ¬ O T := fun h => by have := HR.out.bound T h; rw [HTT.out] at this; omega
    have hlT : T < w1.heap.size := (Array.getElem?_eq_some_iff.1 HT1.out).1
    have hT2 : w2.heap[T]? = w1.heap[T]? := hGq.block T hlT (fun e => hnT (HR1.out.oE T e.symm))
    have hTB : T ≠ B := fun e => hnT (e ▸ HR.out.oB)
    have hTM : T ≠ M := fun e => hnT (e ▸ HR.out.oM)
    have hMap3 : MapIs (w2.setCell ⟨B, 0, none⟩ v1).drew M (pmV q) n := by
      have := (HR1.out.map.heap hM2).heap (ho3.block (k := M) hmb)
      rw [HN.out]
      exact this
    obtain ⟨w4, hr4, hm4, ho4⟩ := hMap3.store (m' := pmV (q ++ [e])) (n' := n + 1) e HKE.out (.int .i64 (n : Int))
      (fun t => by unfold pmV; rw [pm_push HNE.out]; split <;> first | rfl | (rw [HN.out]; rfl))
      (by unfold pmV; rw [pm_none.2 HNE.out]; rfl)
    have hAt := HR1.out.appended hGq v1 e hOwn w4 ho4.drew_left (by rw [← HN.out]; exact hm4) HNE.out
    have HFIN : Hid ((RingT B (q ++ [e])).step O w w4) := Lib.hid ⟨_, ⟨M, v1, hAt⟩, fun k hk => by
      have hlt := hAt.bound k hk
      rcases hk with hk | hk
      · exact .inl hk
      · rcases HA1.out k hk with h1 | h1
        · exact .inl (HR1.out.oE k (by rw [← HN.out]; exact h1))
        · exact .inr ⟨by have := HF1.out.size; omega, hlt⟩, (((Own.of_fr HF1.out).grown hGq (fun p hp => .inl (HR1.out.oE p hp))).only ho3 (.inl HR1.out.oB)).only ho4.drew_left (.inl HR1.out.oM)⟩
    have c3 : (w2.setCell ⟨B, 0, none⟩ v1).cell? ⟨B, 1, none⟩ = some (.map (some M)) := cellOf (heapB hB2) rfl
    have q0 : (w2.setCell ⟨B, 0, none⟩ v1).cell? ⟨T, 0, none⟩ = some (.int .i64 e.1) := cellOf ((ho3.block hTB).trans (hT2.trans HT1.out)) rfl
    have q1 : (w2.setCell ⟨B, 0, none⟩ v1).cell? ⟨T, 1, none⟩ = some (.string (S e.2)) := cellOf ((ho3.block hTB).trans (hT2.trans HT1.out)) rfl
    have HR4 := Lib.hid hr4
    clear hAt hOwn hMap3 hr4 hm4 ho4 ho3 hG1 hGq hmb hB2 hM2 hnT hlT hT2 hTB hTM p0 p1 c1 f1 HO1 HG1 HA1
    generalize (w2.setCell ⟨B, 0, none⟩ v1) = w3 at *
    unfold sdV at HR4
    go_upto_region 5 with fail
    refine wp_region_still_tail 6 (by kernel_rfl) (by kernel_rfl) ?_
    simp only [List.take_succ_cons, List.take_zero, List.drop_succ_cons, List.drop_zero]
    iterate 6 still_step
    refine wpStill_nil ?_
    try simp only [Act.put, List.setIfInBounds_toArray, List.set_cons_zero, List.set_cons_succ]
    refine wpList_map_store rfl (.tmp 36) (.tmp 37) (.tmp 38) _ rfl M _ _ rfl rfl rfl HR4.out rfl ?_
    go_wp2_with fail
    go_ret
    exact ⟨by rw [HN.out]; rfl, HFIN.out⟩

set_option maxRecDepth 100000 in
theorem mark_any (O : Nat → Prop) (B : Nat) (q : List Sd) (e : Sd) (w : World) (h : (RingT B q).at_ w O) (he : KeyOk e) (hq : q.length ≤ 1000000) :
    Calls Tryd.prog 32 #[.pointer (some ⟨B, 0, none⟩), sdV e] w fun r w' => r = .returned (.int .i64 (addN q e)) ∧ (RingT B (addL q e)).step O w w' := by
  by_cases hp : e ∈ q
  · obtain ⟨n, hn⟩ := pm_mem (i := 0) hp
    refine (mark_old O B q e n w h he hn hq).mono ?_
    rintro r w' ⟨rfl, hf⟩
    rw [addN_old hn, addL_old hp]
    exact ⟨rfl, Thing.step_fr h hf⟩
  · refine (mark_new O B q e w h he hp hq).mono ?_
    rintro r w' ⟨rfl, hs⟩
    rw [addN_new hp, addL_new hp]
    exact ⟨rfl, hs⟩

/-! ### Sign -/
/-- A signature as a value. -/
abbrev Sg := Int × Txt × Int
def sgV (s : Sg) : Value := .agg #[.int .i64 s.1, .string (S s.2.1), .int .i64 s.2.2]
set_option maxRecDepth 100000 in
theorem sign_no (B : Nat) (k : Int) (t : Txt) (w : World) (hk : k < 0 ∨ 200 ≤ k) :
    Calls Tryd.prog 14 #[.pointer (some ⟨B, 0, none⟩), .int .i64 k, .string (S t)] w fun r w' => r = .returned (sgV (0, [], 0)) ∧ Fr w w' := by
  go_enter Tryd.func14, Tryd.ntmps14
  go_wp2_with (go_at_call 31; refine (isKey_no k _ hk).mono ?_; rintro e w' ⟨rfl, rfl⟩)
  refine bodyPost_ret (v := sgV (0, [], 0)) (by simp [results, Tryd.results14, go_sem]; rfl) rfl ⟨rfl, ?_⟩
  exact Fr.alloc w _
set_option maxHeartbeats 1000000 in
set_option maxRecDepth 100000 in
theorem sign_yes (O : Nat → Prop) (B : Nat) (q : List Sd) (k : Int) (t : Txt) (w : World) (h : (RingT B q).at_ w O) (h0 : 0 ≤ k) (h1 : k < 200) (ht : t.length ≤ maxLen) (hq : q.length ≤ 1000000) :
    Calls Tryd.prog 14 #[.pointer (some ⟨B, 0, none⟩), .int .i64 k, .string (S t)] w fun r w' => r = .returned (sgV (k, t, addN q (k, t))) ∧ (RingT B (addL q (k, t))).step O w w' := by
  have HK := Lib.hid (show KeyOk (k, t) from ⟨by show -9223372036854775808 ≤ k; omega, by show k ≤ 9223372036854775807; omega, ht⟩)
  have HM := fun w' => fun (hf : Fr w w') => mark_any O B q (k, t) w' ((RingT B q).fr h hf) HK.out hq
  have HM := Lib.hid HM
  have HB := Lib.hid ((RingT B q).bound h)
  clear h
  go_enter Tryd.func14, Tryd.ntmps14
  go_wp2_with (first
    | (go_at_call 31; refine (isKey_yes k _ h0 h1).mono ?_; rintro e w' ⟨rfl, rfl⟩)
    | (go_at_call 32; refine (HM.out _ (Fr.alloc _ _)).mono ?_; rintro e w2 ⟨rfl, hs⟩
       obtain ⟨w3, hw3⟩ : ∃ w3, w3 = ((w2.setCell ⟨w.heap.size, 0, none⟩ (.int .i64 k)).setCell ⟨w.heap.size, 1, none⟩ (.string (S t))).setCell ⟨w.heap.size, 2, none⟩ (.int .i64 (addN q (k, t))) := ⟨_, rfl⟩
       have HS := Lib.hid hs
       have hR : w2.heap[w.heap.size]? = some (.cells #[.int .i64 0, .string ⟨#[]⟩, .int .i64 0] 37 (0, 0)) := by
         obtain ⟨_, _, _, ho⟩ := hs
         exact (ho.block w.heap.size (by simp) (fun h => absurd (HB.out _ h) (by omega))).trans (heap_alloc_new w _)
       have r0 : w2.cell? ⟨w.heap.size, 0, none⟩ = some (.int .i64 0) := cellOf hR rfl
       have r1 : w2.cell? ⟨w.heap.size, 1, none⟩ = some (.string ⟨#[]⟩) := cellOf hR rfl
       have r2 : w2.cell? ⟨w.heap.size, 2, none⟩ = some (.int .i64 0) := cellOf hR rfl
       have z0 := frozenOf hR 0
       have z1 := frozenOf hR 1
       have z2 := frozenOf hR 2
       have hR3 : w3.heap[w.heap.size]? = some (.cells #[.int .i64 k, .string (S t), .int .i64 (addN q (k, t))] 37 (0, 0)) := by rw [hw3, heapB (heapB (heapB hR))]; rfl
       have hw4 := Lib.hid (show ∀ P, P ≠ w.heap.size → w3.heap[P]? = w2.heap[P]? from fun P hP => by
         rw [hw3, heap_setCell_other _ ⟨w.heap.size, 2, none⟩ P _ hP, heap_setCell_other _ ⟨w.heap.size, 1, none⟩ P _ hP, heap_setCell_other _ ⟨w.heap.size, 0, none⟩ P _ hP])
       have hs3 := Lib.hid (show w3.heap.size = w2.heap.size by rw [hw3]; simp)
       have ho3 := Lib.hid (show w3.os = w2.os ∧ w3.tape = w2.tape ∧ w3.output = w2.output by rw [hw3]; exact ⟨rfl, rfl, rfl⟩)
       have HW3 := Lib.hid hw3
       have HR3 := Lib.hid hR3
       clear hs hR hR3 hw3))
  rw [← HW3.out]
  have d0 : w3.cell? ⟨w.heap.size, 0, none⟩ = some (.int .i64 k) := cellOf HR3.out rfl
  have d1 : w3.cell? ⟨w.heap.size, 1, none⟩ = some (.string (S t)) := cellOf HR3.out rfl
  have d2 : w3.cell? ⟨w.heap.size, 2, none⟩ = some (.int .i64 (addN q (k, t))) := cellOf HR3.out rfl
  refine bodyPost_ret (v := sgV (k, t, addN q (k, t))) (by simp [results, Tryd.results14, go_sem, d0, d1, d2]; rfl) rfl ⟨rfl, ?_⟩
  obtain ⟨O', ht, hg, ho⟩ := HS.out
  have hO' : ∀ p, O' p → p ≠ w.heap.size := fun p hp e => by
    rcases hg p hp with h | h
    · have := HB.out p h; omega
    · have := h.1; simp at this; omega
  refine ⟨O', (RingT B (addL q (k, t))).frame ht (Nat.le_of_eq hs3.out.symm) (fun p hp => hw4.out p (hO' p hp)), fun p hp => ?_, ?_⟩
  · rcases hg p hp with h | h
    · exact .inl h
    · exact .inr ⟨by have := h.1; simp at this; omega, by rw [hs3.out]; exact h.2⟩
  · have h1 : Own O w w2 := (Own.of_fr (Fr.alloc w _)).trans (fun _ h => .inl h) ho
    exact ⟨ho3.out.1.trans h1.os, ho3.out.2.1.trans h1.tape, ho3.out.2.2.trans h1.output, by rw [hs3.out]; exact h1.size, fun p hp hn => (hw4.out p (by omega)).trans (h1.block p hp hn)⟩

/-- What Sign does. -/
def IsKey (k : Int) : Prop := 0 ≤ k ∧ k < 200
instance (k : Int) : Decidable (IsKey k) := by unfold IsKey; exact inferInstance
def signL (q : List Sd) (e : Sd) : List Sd := if IsKey e.1 then addL q e else q
def signR (q : List Sd) (e : Sd) : Sg := if IsKey e.1 then (e.1, e.2, addN q e) else (0, [], 0)
set_option maxRecDepth 100000 in
theorem sign_any (O : Nat → Prop) (B : Nat) (q : List Sd) (k : Int) (t : Txt) (w : World) (h : (RingT B q).at_ w O) (ht : t.length ≤ maxLen) (hq : q.length ≤ 1000000) :
    Calls Tryd.prog 14 #[.pointer (some ⟨B, 0, none⟩), .int .i64 k, .string (S t)] w fun r w' => r = .returned (sgV (signR q (k, t))) ∧ (RingT B (signL q (k, t))).step O w w' := by
  unfold signL signR
  by_cases hk : IsKey k
  · rw [if_pos hk, if_pos hk]
    exact sign_yes O B q k t w h hk.1 hk.2 ht hq
  · rw [if_neg hk, if_neg hk]
    refine (sign_no B k t w (by unfold IsKey at hk; omega)).mono ?_
    rintro r w' ⟨rfl, hf⟩
    exact ⟨rfl, Thing.step_fr h hf⟩

/-! ### Valid -/
/-- A signature holds. -/
def holds (q : List Sd) (s : Sg) : Bool := decide (0 ≤ s.2.2 ∧ q[s.2.2.toNat]? = some (s.1, s.2.1))
set_option maxHeartbeats 1000000 in
set_option maxRecDepth 100000 in
theorem valid_out (O : Nat → Prop) (B : Nat) (q : List Sd) (s : Sg) (w : World) (h : (RingT B q).at_ w O) (hm : s.2.2 < 0 ∨ (q.length : Int) ≤ s.2.2) (hq : q.length ≤ 1000000) :
    Calls Tryd.prog 24 #[.pointer (some ⟨B, 0, none⟩), sgV s] w fun r w' => r = .returned (.bool false) ∧ Fr w w' := by
  obtain ⟨M, ev, hr⟩ := h
  obtain ⟨a, c, hev⟩ := row_form hr.row
  subst hev
  have c0 := (Fr.alloc w (.cells #[.int .i64 s.1, .string (S s.2.1), .int .i64 s.2.2] 37)).cell (cellOf hr.heap (i := 0) rfl)
  clear hr
  obtain ⟨k, t, m⟩ := s
  unfold sgV
  simp only at hm c0 ⊢
  rcases hm with hm | hm
  · go_enter Tryd.func24, Tryd.ntmps24
    go_wp2_with fail
    go_quiet (fail)
    go_wp2_with fail
    go_ret
    exact ⟨rfl, (Fr.alloc _ _).trans (Fr.drewN _ _)⟩
  · have hm' : ¬ (m < 0) := by omega
    go_enter Tryd.func24, Tryd.ntmps24
    go_wp2_with fail
    go_quiet (fail)
    go_wp2_with fail
    go_ret
    exact ⟨rfl, (Fr.alloc _ _).trans (Fr.drewN _ _)⟩
end Go.Proofs.YthppefkamklakaaDoor
