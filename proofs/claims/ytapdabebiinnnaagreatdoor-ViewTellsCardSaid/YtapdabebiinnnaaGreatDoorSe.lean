/-
  The reference's ring: New, find, Sign, Valid, All, Open.
-/
import Derived.Test.YtapdabebiinnnaaGreatDoorSk
namespace Go.Proofs.YtapdabebiinnnaaGreatDoor
open Go.RowKit Go.MapKept Go.Maps Go.WideMaps

/-- What a world holds of the reference's ring at block B. -/
structure ReAt (w : World) (O : Nat → Prop) (B : Nat) (ev : Value) (q : List Sd) : Prop where
  bound : ∀ k, O k → k < w.heap.size
  oB : O B
  oE : ∀ p, ev.ownBlock = some p → O p
  heap : w.heap[B]? = some (.cells #[ev] 74 (0, 0))
  row : w.ownsRow 0 78 2 ev q.length (sdC q)
theorem ReAt.frame {w w' : World} {O : Nat → Prop} {B : Nat} {ev : Value} {q : List Sd} (h : ReAt w O B ev q) (hs : w.heap.size ≤ w'.heap.size) (hw : ∀ k, O k → w'.heap[k]? = w.heap[k]?) : ReAt w' O B ev q :=
  ⟨fun k hk => Nat.lt_of_lt_of_le (h.bound k hk) hs, h.oB, h.oE, by rw [hw B h.oB]; exact h.heap, ownsRow_heap h.row (fun p hp => hw p (h.oE p hp))⟩
theorem ReAt.eb {w : World} {O : Nat → Prop} {B : Nat} {ev : Value} {q : List Sd} (h : ReAt w O B ev q) : ∀ p, ev.ownBlock = some p → p ≠ B := row_ne h.row h.heap (by decide)
def RefT (B : Nat) (q : List Sd) : Thing where
  at_ w O := ∃ ev, ReAt w O B ev q
  bound h k hk := let ⟨_, h'⟩ := h; h'.bound k hk
  frame h hs hw := let ⟨ev, h'⟩ := h; ⟨ev, h'.frame hs hw⟩

set_option maxRecDepth 100000 in
theorem rnew_any (w : World) : Calls Tryz.prog 8 #[] w fun e w' => ∃ B, e = .returned (.pointer (some ⟨B, 0, none⟩)) ∧ (RefT B []).step (fun _ => False) w w' := by
  go_enter Tryz.func8, Tryz.ntmps8
  go_wp2
  go_ret
  refine ⟨w.heap.size, rfl, fun k => k = w.heap.size, ⟨.slice none 0 0, fun k hk => by rw [hk]; simp, rfl, fun p hp => by simp [Value.ownBlock] at hp, heap_alloc_new w _, World.ownsRow_nil _ _ _ _⟩, fun k hk => .inr (by rw [hk]; simp), .of_fr (Fr.alloc w _)⟩

/-- The index, or -1. -/
def ixI (q : List Sd) (e : Sd) : Int := match pm 0 q e with | some k => (k : Int) | none => -1
theorem pm_take_none {q : List Sd} {e : Sd} {k : Nat} (hk : k < q.length) (h : e ∉ q.take k) (hn : q[k] ≠ e) : e ∉ q.take (k + 1) := by
  rw [List.take_succ_eq_append_getElem hk, List.mem_append, List.mem_singleton]
  rintro (h' | h')
  · exact h h'
  · exact hn h'.symm
theorem ixI_here {q : List Sd} {k : Nat} {e : Sd} (hk : k < q.length) (he : q[k] = e) (h : e ∉ q.take k) : ixI q e = (k : Int) := by
  have h1 := pm_new (q.drop (k + 1)) h
  rw [show q.take k ++ e :: q.drop (k + 1) = q by rw [← he, ← List.drop_eq_getElem_cons hk, List.take_append_drop], List.length_take] at h1
  unfold ixI
  rw [h1]
  show ((min k q.length : Nat) : Int) = _
  omega
set_option maxRecDepth 100000 in
theorem ixI_none {q : List Sd} {e : Sd} (h : e ∉ q) : ixI q e = -1 := by unfold ixI; rw [pm_none.2 h]
set_option maxHeartbeats 1000000 in
theorem find_any (O : Nat → Prop) (B : Nat) (q : List Sd) (k : Int) (t : Txt) (w : World) (h : (RefT B q).at_ w O) (hq : q.length ≤ 1000000) :
    Calls Tryz.prog 40 #[.pointer (some ⟨B, 0, none⟩), .int .i64 k, .string (S t)] w fun e w' => e = .returned (.int .i64 (ixI q (k, t))) ∧ w' = w := by
  obtain ⟨ev, hr⟩ := h
  obtain ⟨a, c, hev⟩ := row_form hr.row
  subst hev
  have c0 : w.cell? ⟨B, 0, none⟩ = some (.slice a q.length c) := cellOf hr.heap rfl
  have HR := Lib.hid hr.row
  clear hr
  go_enter Tryz.func40, Tryz.ntmps40
  go_wp2_with fail
  go_loopw [7] (fun i wr => ∃ n : Nat, n ≤ q.length ∧ i = .int .i64 n ∧ Hid ((k, t) ∉ q.take n) ∧ wr = w) (fun i _ => q.length - (intOf i).toNat)
  case atStart => exact ⟨0, Nat.zero_le _, rfl, Lib.hid (by simp), rfl⟩
  case round =>
    obtain ⟨n, hn, rfl, hN, rfl⟩ := hrel
    by_cases hlt : n < q.length
    · obtain ⟨g, cap, hv, _, hcell⟩ := row_at HR.out rfl (by omega)
      obtain ⟨rfl, rfl⟩ : a = some ⟨g, 0, none⟩ ∧ c = cap := by simpa using hv
      have hc := hcell n hlt
      have HH := Lib.hid (fun (e : q[n] = (k, t)) => ixI_here (q := q) hlt e hN.out)
      have HNX := Lib.hid (fun (e : q[n] ≠ (k, t)) => pm_take_none hlt hN.out e)
      clear hcell hv
      generalize q[n] = x at *
      obtain ⟨y, u⟩ := x
      have c1 : wr.cell? _ = some (.int .i64 y) := hc.1
      have c2 : wr.cell? _ = some (.string (S u)) := hc.2
      clear hc
      rcases (show (y = k ∧ u = t) ∨ y ≠ k ∨ (y = k ∧ u ≠ t) by
        by_cases h1 : y = k <;> by_cases h2 : u = t <;> simp [h1, h2]) with ⟨rfl, rfl⟩ | hne | ⟨rfl, hne⟩
      · have HIX := Lib.hid (HH.out rfl)
        clear HH HNX
        go_wp2_with fail
        go_ret
        exact ⟨by rw [HIX.out]; rfl, rfl⟩
      · have HN2 := Lib.hid (HNX.out (fun e => hne (congrArg Prod.fst e)))
        go_wp2_with fail
        go_roundw
        case rel => exact ⟨n + 1, by omega, by go_num, HN2, trivial⟩
        case measure => simp [intOf]; omega
      · have HN2 := Lib.hid (HNX.out (fun e => hne (congrArg Prod.snd e)))
        have hbf : (u == t) = false := beq_eq_false_iff_ne.2 hne
        go_wp2_with fail
        go_roundw
        case rel => exact ⟨n + 1, by omega, by go_num, HN2, trivial⟩
        case measure => simp [intOf]; omega
    · obtain rfl : n = q.length := by omega
      have HIX := Lib.hid (ixI_none (e := (k, t)) (q := q) (by have := hN.out; rwa [List.take_length] at this))
      go_wp2_with fail
      go_ret
      exact ⟨by rw [HIX.out]; rfl, rfl⟩

/-- An append to the reference's list. -/
theorem ReAt.appended {w w1 : World} {O : Nat → Prop} {B : Nat} {ev : Value} {q : List Sd} (h : ReAt w O B ev q) (hg : w.grownBy w1 ev.ownBlock) (v1 : Value) (e : Sd)
    (hr : w1.ownsRow 0 78 2 v1 (q.length + 1) (sdC q ++ [.int .i64 e.1, .string (S e.2)])) : ReAt (w1.setCell ⟨B, 0, none⟩ v1) (fun k => O k ∨ v1.ownBlock = some k) B v1 (q ++ [e]) := by
  have hB : w1.heap[B]? = w.heap[B]? := hg.block B (h.bound _ h.oB) (fun e => h.eb B e.symm rfl)
  have hb1 : w1.heap[B]? = some (.cells #[ev] 74 (0, 0)) := hB.trans h.heap
  have hs : (w1.setCell ⟨B, 0, none⟩ v1).heap.size = w1.heap.size := by simp
  have hv : ∀ p, v1.ownBlock = some p → p ≠ B := row_ne hr hb1 (by decide)
  refine ⟨fun k hk => ?_, .inl h.oB, fun p hp => .inr hp, by rw [heapB hb1]; rfl, ?_⟩
  · rw [hs]
    rcases hk with hk | hk
    · have := h.bound k hk
      have := hg.size
      omega
    · exact (hr.lt k hk).2
  · have h1 := ownsRow_heap (w' := w1.setCell ⟨B, 0, none⟩ v1) hr (fun p hp => heap_setCell_other w1 ⟨B, 0, none⟩ p v1 (hv p hp))
    rw [List.length_append, sdC_append]
    exact h1

/-! ### Sign -/
theorem rsign_no (B : Nat) (k : Int) (t : Txt) (w : World) (hk : k < 0 ∨ (¬ k < 0 ∧ 200 ≤ k)) :
    Calls Tryz.prog 10 #[.pointer (some ⟨B, 0, none⟩), .int .i64 k, .string (S t)] w fun r w' => r = .returned (sgV (0, [], 0)) ∧ Fr w w' := by
  rcases hk with hk | ⟨hk1, hk2⟩
  · go_enter Tryz.func10, Tryz.ntmps10
    go_wp2_with fail
    exact bodyPost_ret (v := sgV (0, [], 0)) (by simp [results, Tryz.results10, go_sem]; rfl) rfl ⟨rfl, Fr.alloc w _⟩
  · go_enter Tryz.func10, Tryz.ntmps10
    go_wp2_with fail
    exact bodyPost_ret (v := sgV (0, [], 0)) (by simp [results, Tryz.results10, go_sem]; rfl) rfl ⟨rfl, Fr.alloc w _⟩
set_option maxRecDepth 100000 in
theorem ixI_some {q : List Sd} {e : Sd} {n : Nat} (h : pm 0 q e = some n) : ixI q e = (n : Int) := by unfold ixI; rw [h]
set_option maxHeartbeats 2000000 in
theorem rsign_old (O : Nat → Prop) (B : Nat) (q : List Sd) (k : Int) (t : Txt) (n : Nat) (w : World) (h : (RefT B q).at_ w O) (h0 : 0 ≤ k) (h1 : k < 200) (hq : q.length ≤ 1000000) (hp : pm 0 q (k, t) = some n) :
    Calls Tryz.prog 10 #[.pointer (some ⟨B, 0, none⟩), .int .i64 k, .string (S t)] w fun r w' => r = .returned (sgV (k, t, n)) ∧ Fr w w' := by
  have hlt := pm_lt hp
  have HF := Lib.hid (fun w' => fun (hf : Fr w w') => find_any O B q k t w' ((RefT B q).fr h hf) hq)
  have HI := Lib.hid (ixI_some hp)
  have h0' : ¬ k < 0 := by omega
  have h1' : ¬ 200 ≤ k := by omega
  clear h hp
  go_enter Tryz.func10, Tryz.ntmps10
  go_wp2_with (go_at_call 40; refine (HF.out _ (Fr.alloc _ _)).mono ?_; rw [HI.out]; rintro e w2 ⟨rfl, rfl⟩)
  exact bodyPost_ret (v := sgV (k, t, n)) (by simp [results, Tryz.results10, go_sem]; rfl) rfl ⟨rfl, Fr.alloc w _⟩
set_option maxHeartbeats 2000000 in
set_option maxRecDepth 100000 in
theorem rsign_new (O : Nat → Prop) (B : Nat) (q : List Sd) (k : Int) (t : Txt) (w : World) (h : (RefT B q).at_ w O) (h0 : 0 ≤ k) (h1 : k < 200) (hq : q.length ≤ 1000000) (hp : (k, t) ∉ q) :
    Calls Tryz.prog 10 #[.pointer (some ⟨B, 0, none⟩), .int .i64 k, .string (S t)] w fun r w' => r = .returned (sgV (k, t, q.length)) ∧ (RefT B (q ++ [(k, t)])).step O w w' := by
  obtain ⟨i0, hi, hz0, hz1, hz2⟩ := info_parts infoSd
  have HIN := Lib.hid hi
  have HF := Lib.hid (fun w' => fun (hf : Fr w w') => find_any O B q k t w' ((RefT B q).fr h hf) hq)
  have HI := Lib.hid (ixI_none hp)
  have h0' : ¬ k < 0 := by omega
  have h1' : ¬ 200 ≤ k := by omega
  obtain ⟨ev, hr⟩ := h
  obtain ⟨a, c, hev⟩ := row_form hr.row
  subst hev
  have HR := Lib.hid hr
  have hf1 := Fr.alloc w (.cells #[.int .i64 0, .string ⟨#[]⟩, .int .i64 0] 32)
  have HF1 := Lib.hid hf1
  have HT1 := Lib.hid (heap_alloc_new w (.cells #[.int .i64 0, .string ⟨#[]⟩, .int .i64 0] 32))
  have HR1 := Lib.hid (hr.frame hf1.size (fun k hk => hf1.block (hr.bound k hk)))
  have c0 := cellOf (v := .slice a q.length c) HR1.out.heap (i := 0) rfl
  have hlB1 := HR1.out.bound _ HR1.out.oB
  clear hr hi hp hf1
  go_enter Tryz.func10, Tryz.ntmps10
  go_upto_region 6 with (go_at_call 40; refine (HF.out _ HF1.out).mono ?_; rw [HI.out]; rintro e w2 ⟨rfl, rfl⟩)
  obtain ⟨R, hR⟩ : ∃ R, R = w.heap.size := ⟨_, rfl⟩
  rw [← hR] at HT1 ⊢
  have HRR := Lib.hid hR
  clear hR
  generalize (w.alloc (.cells #[.int .i64 0, .string ⟨#[]⟩, .int .i64 0] 32)) = w1 at *
  have hlR1 : R < w1.heap.size := (Array.getElem?_eq_some_iff.1 HT1.out).1
  have hnR : ¬ O R := fun h => by have := HR.out.bound R h; rw [HRR.out] at this; omega
  have HNR := Lib.hid hnR
  have hRB : R ≠ B := fun e => hnR (e ▸ HR.out.oB)
  have hnpB : (Value.slice a q.length c).ownBlock ≠ some B := fun e => HR1.out.eb B e rfl
  have hnpR : (Value.slice a q.length c).ownBlock ≠ some R := fun e => hnR (HR1.out.oE R e)
  have HRow := Lib.hid HR1.out.row
  have hq1 : (q.length + 1) * 24 ≤ 140737488355328 := by omega
  obtain ⟨n, hn⟩ : ∃ n, n = q.length := ⟨_, rfl⟩
  obtain ⟨xs, hxs⟩ : ∃ xs, xs = sdC q := ⟨_, rfl⟩
  rw [← hn] at c0 hq hq1 hnpB hnpR ⊢
  rw [← hn, ← hxs] at HRow
  have HN := Lib.hid hn
  have HXS := Lib.hid hxs
  have HBB := Lib.hid hnpB
  have HBR := Lib.hid hnpR
  have HRB := Lib.hid hRB
  clear hn hxs hnR hnpB hnpR hRB
  go_wp2_with (at_builtin; refine wpList_append_lies _ rfl (.tmp 30) (.tmp 34) 70 rfl 0 78 i0 (.agg #[.int .i64 0, .string (S [])]) 2 24 Tryz.underlying70 HIN.out hz0 hz1 hz2 rfl (by decide) (.slice a n c) n xs rfl (HRow.out.alloc _) ⟨w1.heap.size, 0, none⟩ 1 1 [.int .i64 k, .string (S t)] rfl rfl (World.news_of_block (cs := #[.int .i64 k, .string (S t)]) (t := 78) (fr := (0, 0)) (heap_alloc_new w1 _)) (by simp [Value.oneCell']) (by decide) (by unfold maxLen; omega) hq1 (Nat.zero_le _) (w1.heap.size + 1) (by simp) ?_
               intro gg cap1 w2 hown1 hgrow hat1 hlt1
               have hg1 := Fr.grown (Fr.alloc w1 (.cells #[.int .i64 k, .string (S t)] 78)) hgrow
               have hB2 := (hg1.block B hlB1 (fun e => HBB.out e.symm)).trans HR1.out.heap
               have hR2 := (hg1.block R hlR1 (fun e => HBR.out e.symm)).trans HT1.out
               have cB : w2.cell? ⟨B, 0, none⟩ = some (.slice a n c) := by rw [HN.out]; exact cellOf hB2 rfl
               have fB : w2.frozen? ⟨B, 0, none⟩ = false := frozenOf hB2 0
               have hR3 := (heap_setCell_other w2 ⟨B, 0, none⟩ R (.slice (some ⟨gg, 0, none⟩) (n + 1) cap1) HRB.out).trans hR2
               have r0 : (w2.setCell ⟨B, 0, none⟩ (.slice (some ⟨gg, 0, none⟩) (n + 1) cap1)).cell? ⟨R, 0, none⟩ = some (.int .i64 0) := cellOf hR3 rfl
               have r1 : (w2.setCell ⟨B, 0, none⟩ (.slice (some ⟨gg, 0, none⟩) (n + 1) cap1)).cell? ⟨R, 1, none⟩ = some (.string ⟨#[]⟩) := cellOf hR3 rfl
               have r2 : (w2.setCell ⟨B, 0, none⟩ (.slice (some ⟨gg, 0, none⟩) (n + 1) cap1)).cell? ⟨R, 2, none⟩ = some (.int .i64 0) := cellOf hR3 rfl
               have z0 := frozenOf hR3 0
               have z1 := frozenOf hR3 1
               have z2 := frozenOf hR3 2
               have HR3 := Lib.hid hR3
               have HO1 := Lib.hid hown1
               have HG1 := Lib.hid hg1
               have HA1 := Lib.hid hat1
               clear hown1 hgrow hat1 hlt1 hg1 hB2 hR2 hR3)
  obtain ⟨v1, hv1⟩ : ∃ v1 : Value, v1 = .slice (some ⟨gg, 0, none⟩) (n + 1) cap1 := ⟨_, rfl⟩
  rw [← hv1] at HO1 HR3 ⊢
  have hvb : v1.ownBlock = some gg := by rw [hv1]; rfl
  have hrow : w2.ownsRow 0 78 2 v1 (q.length + 1) (sdC q ++ [.int .i64 k, .string (S t)]) := by
    have := HO1.out
    rw [HXS.out, HN.out] at this
    exact this
  have hGq : w1.grownBy w2 (Value.slice a q.length c).ownBlock := by rw [← HN.out]; exact HG1.out
  have hAt := HR1.out.appended hGq v1 (k, t) hrow
  have ho3 := OnlyB.setCell w2 B 0 v1
  have hW3 : Own O w (w2.setCell ⟨B, 0, none⟩ v1) := ((Own.of_fr HF1.out).grown hGq (fun p hp => .inl (HR1.out.oE p hp))).only ho3 (.inl HR1.out.oB)
  have hs3 : w1.heap.size ≤ (w2.setCell ⟨B, 0, none⟩ v1).heap.size := by rw [ho3.size]; exact HG1.out.size
  have HR3' := HR3.out
  generalize (w2.setCell ⟨B, 0, none⟩ v1) = w3 at *
  have hO' : ∀ p, (O p ∨ v1.ownBlock = some p) → p ≠ R := fun p hp e => by
    subst e
    rcases hp with h | h
    · exact HNR.out h
    · rw [hvb, Option.some.injEq] at h
      subst h
      rcases HA1.out with h1 | h1
      · exact HNR.out (HR1.out.oE gg (by rw [← HN.out]; exact h1))
      · omega
  have hR4 := heapB (i := 2) (v := .int .i64 n) (heapB (i := 1) (v := .string (S t)) (heapB (i := 0) (v := .int .i64 k) HR3'))
  have d0 : (((w3.setCell ⟨R, 0, none⟩ (.int .i64 k)).setCell ⟨R, 1, none⟩ (.string (S t))).setCell ⟨R, 2, none⟩ (.int .i64 n)).cell? ⟨R, 0, none⟩ = some (.int .i64 k) := cellOf hR4 rfl
  have d1 : (((w3.setCell ⟨R, 0, none⟩ (.int .i64 k)).setCell ⟨R, 1, none⟩ (.string (S t))).setCell ⟨R, 2, none⟩ (.int .i64 n)).cell? ⟨R, 1, none⟩ = some (.string (S t)) := cellOf hR4 rfl
  have d2 : (((w3.setCell ⟨R, 0, none⟩ (.int .i64 k)).setCell ⟨R, 1, none⟩ (.string (S t))).setCell ⟨R, 2, none⟩ (.int .i64 n)).cell? ⟨R, 2, none⟩ = some (.int .i64 n) := cellOf hR4 rfl
  have o1 := OnlyB.setCell w3 R 0 (.int .i64 k)
  have o2 := OnlyB.setCell (w3.setCell ⟨R, 0, none⟩ (.int .i64 k)) R 1 (.string (S t))
  have o3 := OnlyB.setCell ((w3.setCell ⟨R, 0, none⟩ (.int .i64 k)).setCell ⟨R, 1, none⟩ (.string (S t))) R 2 (.int .i64 n)
  have hRw : w.heap.size ≤ R := by rw [HRR.out]; exact Nat.le_refl _
  have hW4 := ((hW3.only o1 (.inr hRw)).only o2 (.inr hRw)).only o3 (.inr hRw)
  have hF4 := hAt.frame (w' := ((w3.setCell ⟨R, 0, none⟩ (.int .i64 k)).setCell ⟨R, 1, none⟩ (.string (S t))).setCell ⟨R, 2, none⟩ (.int .i64 n)) (by rw [o3.size, o2.size, o1.size]; exact Nat.le_refl _) (fun p hp => by
    have := hO' p hp
    rw [o3.block this, o2.block this, o1.block this])
  clear z0 z1 z2 r0 r1 r2 cB fB o1 o2 o3 hR4
  generalize ((w3.setCell ⟨R, 0, none⟩ (.int .i64 k)).setCell ⟨R, 1, none⟩ (.string (S t))).setCell ⟨R, 2, none⟩ (.int .i64 n) = w4 at *
  refine bodyPost_ret (v := sgV (k, t, n)) (by simp [results, Tryz.results10, go_sem, d0, d1, d2]; rfl) rfl ⟨by rw [HN.out], ?_⟩
  refine ⟨_, ⟨v1, hF4⟩, fun p hp => ?_, hW4⟩
  have hlt := hF4.bound p hp
  rcases hp with h | h
  · exact .inl h
  · rw [hvb, Option.some.injEq] at h
    subst h
    rcases HA1.out with h1 | h1
    · exact .inl (HR1.out.oE gg (by rw [← HN.out]; exact h1))
    · exact .inr ⟨by have := HF1.out.size; omega, hlt⟩
set_option maxRecDepth 100000 in
theorem rsign_any (O : Nat → Prop) (B : Nat) (q : List Sd) (k : Int) (t : Txt) (w : World) (h : (RefT B q).at_ w O) (hq : q.length ≤ 1000000) :
    Calls Tryz.prog 10 #[.pointer (some ⟨B, 0, none⟩), .int .i64 k, .string (S t)] w fun r w' => r = .returned (sgV (signR q (k, t))) ∧ (RefT B (signL q (k, t))).step O w w' := by
  unfold signL signR
  by_cases hk : IsKey k
  · rw [if_pos hk, if_pos hk]
    by_cases hp : (k, t) ∈ q
    · obtain ⟨n, hn⟩ := pm_mem (i := 0) hp
      refine (rsign_old O B q k t n w h hk.1 hk.2 hq hn).mono ?_
      rintro r w' ⟨rfl, hf⟩
      rw [addN_old hn, addL_old hp]
      exact ⟨rfl, Thing.step_fr h hf⟩
    · refine (rsign_new O B q k t w h hk.1 hk.2 hq hp).mono ?_
      rintro r w' ⟨rfl, hs⟩
      rw [addN_new hp, addL_new hp]
      exact ⟨rfl, hs⟩
  · rw [if_neg hk, if_neg hk]
    refine (rsign_no B k t w (by unfold IsKey at hk; omega)).mono ?_
    rintro r w' ⟨rfl, hf⟩
    exact ⟨rfl, Thing.step_fr h hf⟩
end Go.Proofs.YtapdabebiinnnaaGreatDoor
