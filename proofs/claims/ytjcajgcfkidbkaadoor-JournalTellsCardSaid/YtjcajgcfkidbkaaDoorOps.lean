/-
  Package disk: strikes, checkWrite, Write, Sync, Truncate.
-/
import Derived.Test.YtjcajgcfkidbkaaDoorPut
namespace Go.Proofs.YtjcajgcfkidbkaaDoor
open Go.RowKit

/-! ### The invariant is kept -/
theorem inv_new : Inv newS := ⟨List.nodup_nil, by intro p hp; simp [newS] at hp, by intro f n; simp [newS], fun _ _ _ => rfl, fun _ _ _ => rfl, fun _ => Nat.le_refl _, fun _ => by simp [newS], fun _ _ _ _ _ => rfl⟩
theorem inv_settle {s : RS} (h : Inv s) (f : Nat) : Inv (settleS s f) where
  nodup := h.nodup.filter _
  inQ := fun p hp => h.inQ p (List.mem_filter.1 hp).1
  pd := fun f' n => by
    dsimp only [settleS]
    rw [List.mem_filter]
    by_cases c : f' = f
    · subst c; simp
    · rw [if_neg c, h.pd]; simp [c]
  nz := h.nz
  dz0 := fun f' i hi => by
    dsimp only [settleS] at hi ⊢
    by_cases c : f' = f
    · subst c; rw [if_pos rfl] at hi ⊢; exact h.nz _ i hi
    · rw [if_neg c] at hi ⊢; exact h.dz0 f' i hi
  le := fun f' => by
    dsimp only [settleS]
    by_cases c : f' = f
    · subst c; rw [if_pos rfl]; exact Nat.le_refl _
    · rw [if_neg c]; exact h.le f'
  max := h.max
  eq := fun f' n hp j hj => by
    dsimp only [settleS] at hp ⊢
    by_cases c : f' = f
    · subst c; rw [if_pos rfl]
    · rw [if_neg c] at hp ⊢; exact h.eq f' n hp j hj
theorem inv_cut {s : RS} (h : Inv s) (f size : Nat) (hs : size ≤ s.sz f) (hp : ∀ n, s.pd f n = false) : Inv (cutS s f size) where
  nodup := h.nodup
  inQ := fun p hq => by
    have h1 := h.inQ p hq
    have hne : p.1 ≠ f := fun e => by
      have := (h.pd p.1 p.2).2 hq
      rw [e, hp] at this; cases this
    refine ⟨h1.1, ?_⟩
    dsimp only [cutS]; rw [if_neg hne]; exact h1.2
  pd := h.pd
  nz := fun f' i hi => by
    dsimp only [cutS] at hi ⊢
    by_cases c : f' = f
    · subst c; rw [if_pos rfl] at hi; rw [if_pos ⟨rfl, hi⟩]
    · rw [if_neg c] at hi; rw [if_neg (fun h => c h.1)]; exact h.nz f' i hi
  dz0 := fun f' i hi => by
    dsimp only [cutS] at hi ⊢
    by_cases c : f' = f
    · subst c; rw [if_pos rfl] at hi ⊢; rw [if_pos hi]
    · rw [if_neg c] at hi ⊢; exact h.dz0 f' i hi
  le := fun f' => by
    dsimp only [cutS]
    by_cases c : f' = f
    · rw [if_pos c, if_pos c]; exact Nat.le_refl _
    · rw [if_neg c, if_neg c]; exact h.le f'
  max := fun f' => by
    dsimp only [cutS]
    by_cases c : f' = f
    · rw [if_pos c]; have := h.max f; omega
    · rw [if_neg c]; exact h.max f'
  eq := fun f' n hq j hj => by
    dsimp only [cutS] at hq ⊢
    by_cases c : f' = f
    · subst c; rw [if_pos rfl]
      by_cases c2 : size ≤ 64 * n + j
      · rw [if_pos ⟨rfl, c2⟩, if_pos c2]
      · rw [if_neg (fun h => c2 h.2), if_neg c2]
    · rw [if_neg c, if_neg (fun h => c h.1)]; exact h.eq f' n hq j hj
theorem tot_eq (at_ n : Nat) (h : 0 < n) (m : Nat) : (at_ / 64 ≤ m ∧ m < at_ / 64 + tot at_ n) ↔ (at_ < 64 * m + 64 ∧ 64 * m < at_ + n) := by
  unfold tot; omega
theorem pos_tot (at_ n : Nat) (h : 0 < n) : pos at_ n (tot at_ n) = n := by
  unfold pos tot; rw [if_neg (by omega)]; omega
theorem mem_newQ (s : RS) (f m c : Nat) (p : Nat × Nat) : p ∈ newQ s f m c ↔ p.1 = f ∧ m ≤ p.2 ∧ p.2 < m + c ∧ s.pd f p.2 = false := by
  unfold newQ
  simp only [List.mem_map, List.mem_filter, List.mem_range'_1]
  constructor
  · rintro ⟨x, ⟨⟨h1, h2⟩, h3⟩, rfl⟩
    exact ⟨rfl, h1, h2, by simpa using h3⟩
  · rintro ⟨h1, h2, h3, h4⟩
    exact ⟨p.2, ⟨⟨h2, h3⟩, by simpa using h4⟩, by rw [← h1]⟩
theorem inv_put {s : RS} (h : Inv s) (f at_ : Nat) (l : List UInt8) (hf : f < 16) (hl : l ≠ []) (hat : at_ + l.length ≤ 16777216) : Inv (putS s f at_ l) := by
  have hlp : 0 < l.length := by cases l with | nil => exact absurd rfl hl | cons _ _ => simp
  have hpt := pos_tot at_ l.length hlp
  have hte := tot_eq at_ l.length hlp
  refine ⟨?_, ?_, ?_, ?_, ?_, ?_, ?_, ?_⟩
  · show (s.q ++ newQ s f (at_ / 64) (tot at_ l.length)).Nodup
    rw [List.nodup_append]
    refine ⟨h.nodup, ?_, ?_⟩
    · unfold newQ List.Nodup
      rw [List.pairwise_map]
      have := (List.nodup_range' (s := at_ / 64) (n := tot at_ l.length)).filter (fun x => !s.pd f x)
      exact this.imp (fun hne e => hne (by simpa using e))
    · intro a ha b hb e
      subst e
      have h1 := (mem_newQ _ _ _ _ _).1 hb
      have h2 := (h.pd a.1 a.2).2 ha
      rw [h1.1, h1.2.2.2] at h2
      cases h2
  · intro p hp
    rcases List.mem_append.1 hp with hp | hp
    · have h1 := h.inQ p hp
      refine ⟨h1.1, ?_⟩
      show 64 * p.2 < (if p.1 = f then max (s.sz f) (at_ + l.length) else s.sz p.1)
      split
      · rename_i e; have := h1.2; rw [e] at this; omega
      · exact h1.2
    · have h1 := (mem_newQ _ _ _ _ _).1 hp
      refine ⟨by rw [h1.1]; exact hf, ?_⟩
      show 64 * p.2 < (if p.1 = f then max (s.sz f) (at_ + l.length) else s.sz p.1)
      rw [if_pos h1.1]
      have := (hte p.2).1 ⟨h1.2.1, h1.2.2.1⟩
      omega
  · intro f' n
    show (if f' = f ∧ at_ / 64 ≤ n ∧ n < at_ / 64 + tot at_ l.length then true else s.pd f' n) = true ↔ (f', n) ∈ s.q ++ newQ s f (at_ / 64) (tot at_ l.length)
    rw [List.mem_append, mem_newQ, ← h.pd]
    dsimp only
    by_cases c : f' = f ∧ at_ / 64 ≤ n ∧ n < at_ / 64 + tot at_ l.length
    · rw [if_pos c]
      obtain ⟨rfl, c1, c2⟩ := c
      cases hq : s.pd f' n <;> simp [c1, c2]
    · rw [if_neg c]
      exact ⟨.inl, fun h => h.resolve_right (fun h => c ⟨h.1, h.2.1, h.2.2.1⟩)⟩
  · intro f' i hi
    show (if f' = f ∧ at_ ≤ i ∧ i < at_ + pos at_ l.length (tot at_ l.length) then l.getD (i - at_) 0 else s.now f' i) = 0
    have hi' : (if f' = f then max (s.sz f) (at_ + l.length) else s.sz f') ≤ i := hi
    rw [hpt]
    by_cases c : f' = f
    · rw [if_pos c] at hi'
      rw [if_neg (by omega)]
      exact h.nz f' i (by rw [c]; omega)
    · rw [if_neg c] at hi'
      rw [if_neg (fun h => c h.1)]
      exact h.nz f' i hi'
  · exact h.dz0
  · intro f'
    show s.dz f' ≤ (if f' = f then max (s.sz f) (at_ + l.length) else s.sz f')
    have := h.le f'
    split
    · rename_i e; rw [e] at this ⊢; omega
    · exact this
  · intro f'
    show (if f' = f then max (s.sz f) (at_ + l.length) else s.sz f') ≤ 16777216
    have := h.max f'
    split
    · rename_i e; rw [e] at this; omega
    · exact this
  · intro f' n hq j hj
    have hq' : (if f' = f ∧ at_ / 64 ≤ n ∧ n < at_ / 64 + tot at_ l.length then true else s.pd f' n) = false := hq
    show (if f' = f ∧ at_ ≤ 64 * n + j ∧ 64 * n + j < at_ + pos at_ l.length (tot at_ l.length) then l.getD (64 * n + j - at_) 0 else s.now f' (64 * n + j)) = s.dur f' (64 * n + j)
    by_cases c : f' = f ∧ at_ / 64 ≤ n ∧ n < at_ / 64 + tot at_ l.length
    · rw [if_pos c] at hq'; cases hq'
    · rw [if_neg c] at hq'
      rw [hpt, if_neg (fun h1 => c ⟨h1.1, (hte n).2 (by omega)⟩)]
      exact h.eq f' n hq' j hj

theorem crK_succ (s : RS) (ks : List Int) (k : Nat) (h : k < s.q.length) : crK s ks (k + 1) = crStep ks k (s.q[k]) (crK s ks k) := by
  show (if h : k < s.q.length then _ else _) = _
  rw [dif_pos h]
theorem nodup_take {q : List (Nat × Nat)} (h : q.Nodup) {k : Nat} (hk : k < q.length) : q[k] ∉ q.take k := by
  intro hm
  obtain ⟨i, hi, e⟩ := List.getElem_of_mem hm
  rw [List.length_take] at hi
  rw [List.getElem_take] at e
  have := (List.pairwise_iff_getElem.1 h) i k (by omega) hk (by omega)
  exact this e
/-- What a crash has made of a sector when it has looked at k pending ones. -/
def Char (s : RS) (ks : List Int) (k : Nat) (f n : Nat) : Prop :=
  (∃ j, ∃ h : j < s.q.length, j < k ∧ s.q[j] = (f, n) ∧ (crK s ks k).pd f n = false ∧ ∀ i, i < 64 →
    (crK s ks k).now f (64 * n + i) = (if kept ks j = true then s.now f (64 * n + i) else s.dur f (64 * n + i)) ∧ (crK s ks k).dur f (64 * n + i) = (if kept ks j = true then s.now f (64 * n + i) else s.dur f (64 * n + i))) ∨
  ((f, n) ∉ s.q.take k ∧ (crK s ks k).pd f n = s.pd f n ∧ ∀ i, i < 64 → (crK s ks k).now f (64 * n + i) = s.now f (64 * n + i) ∧ (crK s ks k).dur f (64 * n + i) = s.dur f (64 * n + i))
theorem char_any {s : RS} (hI : Inv s) (ks : List Int) (k : Nat) (hk : k ≤ s.q.length) (f n : Nat) : Char s ks k f n := by
  induction k with
  | zero => exact .inr ⟨by simp, rfl, fun i hi => ⟨rfl, rfl⟩⟩
  | succ k ih =>
    have hlt : k < s.q.length := hk
    have ih := ih (Nat.le_of_lt hlt)
    unfold Char
    rw [crK_succ s ks k hlt]
    by_cases c : s.q[k] = (f, n)
    · have e1 : (s.q[k]).1 = f := by rw [c]
      have e2 : (s.q[k]).2 = n := by rw [c]
      rcases ih with ⟨j, hj, hjk, hq, _⟩ | ⟨hnm, hpd, hih⟩
      · exact absurd (List.mem_take_iff_getElem.2 ⟨j, by omega, by rw [hq, c]⟩) (nodup_take hI.nodup hlt)
      · refine .inl ⟨k, hlt, by omega, c, ?_, fun i hi => ?_⟩
        · show (if f = (s.q[k]).1 ∧ n = (s.q[k]).2 then false else _) = false
          rw [if_pos ⟨e1.symm, e2.symm⟩]
        · have hd : (64 * n + i) / 64 = n := by omega
          obtain ⟨h1, h2⟩ := hih i hi
          constructor
          · show (if f = (s.q[k]).1 ∧ (64 * n + i) / 64 = (s.q[k]).2 then (if kept ks k = true then (crK s ks k).now (s.q[k]).1 (64 * n + i) else (crK s ks k).dur (s.q[k]).1 (64 * n + i)) else _) = _
            rw [if_pos ⟨e1.symm, by rw [hd, e2]⟩, e1, h1, h2]
          · show (if f = (s.q[k]).1 ∧ (64 * n + i) / 64 = (s.q[k]).2 ∧ kept ks k = true then (crK s ks k).now (s.q[k]).1 (64 * n + i) else (crK s ks k).dur f (64 * n + i)) = _
            by_cases hkp : kept ks k = true
            · rw [if_pos ⟨e1.symm, by rw [hd, e2], hkp⟩, if_pos hkp, e1, h1]
            · rw [if_neg (fun h => hkp h.2.2), if_neg hkp, h2]
    · have c' : ¬ (f = (s.q[k]).1 ∧ n = (s.q[k]).2) := fun h => c (Prod.ext h.1.symm h.2.symm)
      have keep : (crStep ks k (s.q[k]) (crK s ks k)).pd f n = (crK s ks k).pd f n ∧ ∀ i, i < 64 → (crStep ks k (s.q[k]) (crK s ks k)).now f (64 * n + i) = (crK s ks k).now f (64 * n + i) ∧ (crStep ks k (s.q[k]) (crK s ks k)).dur f (64 * n + i) = (crK s ks k).dur f (64 * n + i) := by
        refine ⟨if_neg c', fun i hi => ?_⟩
        have hd : (64 * n + i) / 64 = n := by omega
        exact ⟨if_neg (fun h => c' ⟨h.1, by rw [← hd]; exact h.2⟩), if_neg (fun h => c' ⟨h.1, by rw [← hd]; exact h.2.1⟩)⟩
      rcases ih with ⟨j, hj, hjk, hq, hpd, hih⟩ | ⟨hnm, hpd, hih⟩
      · exact .inl ⟨j, hj, by omega, hq, by rw [keep.1]; exact hpd, fun i hi => by rw [(keep.2 i hi).1, (keep.2 i hi).2]; exact hih i hi⟩
      · refine .inr ⟨fun hm => ?_, by rw [keep.1]; exact hpd, fun i hi => by rw [(keep.2 i hi).1, (keep.2 i hi).2]; exact hih i hi⟩
        rcases (take_succ_mem hlt _).1 hm with h | h
        · exact hnm h
        · exact c h.symm
/-- The sizes on the way. -/
theorem crK_dz {s : RS} (hI : Inv s) (ks : List Int) (k : Nat) (f : Nat) : s.dz f ≤ (crK s ks k).dz f ∧ (crK s ks k).dz f ≤ s.sz f := by
  induction k with
  | zero => exact ⟨Nat.le_refl _, hI.le f⟩
  | succ k ih =>
    by_cases hlt : k < s.q.length
    · rw [crK_succ s ks k hlt]
      show s.dz f ≤ (if f = (s.q[k]).1 ∧ kept ks k = true then max ((crK s ks k).dz f) (min (((s.q[k]).2 + 1) * 64) ((crK s ks k).sz f)) else (crK s ks k).dz f) ∧ (if f = (s.q[k]).1 ∧ kept ks k = true then max ((crK s ks k).dz f) (min (((s.q[k]).2 + 1) * 64) ((crK s ks k).sz f)) else (crK s ks k).dz f) ≤ s.sz f
      rw [(crK_rest s ks k).1]
      split <;> omega
    · have : crK s ks (k + 1) = crK s ks k := by
        show (if h : k < s.q.length then _ else _) = _
        rw [dif_neg hlt]
      rw [this]; exact ih
/-- A sector that survives reaches into the durable part. -/
theorem crK_dz_kept (s : RS) (ks : List Int) (k : Nat) (hk : k ≤ s.q.length) (j : Nat) (hj : j < k) (hkp : kept ks j = true) : min (((s.q[j]'(by omega)).2 + 1) * 64) (s.sz (s.q[j]'(by omega)).1) ≤ (crK s ks k).dz (s.q[j]'(by omega)).1 := by
  induction k with
  | zero => omega
  | succ k ih =>
    have hlt : k < s.q.length := hk
    rw [crK_succ s ks k hlt]
    show _ ≤ (if (s.q[j]'(by omega)).1 = (s.q[k]).1 ∧ kept ks k = true then max ((crK s ks k).dz (s.q[j]'(by omega)).1) (min (((s.q[k]).2 + 1) * 64) ((crK s ks k).sz (s.q[j]'(by omega)).1)) else (crK s ks k).dz (s.q[j]'(by omega)).1)
    rw [(crK_rest s ks k).1]
    by_cases e : j = k
    · subst e; rw [if_pos ⟨rfl, hkp⟩]; omega
    · have := ih (by omega) (by omega)
      split <;> omega
theorem inv_crash {s : RS} (hI : Inv s) (ks : List Int) : Inv (crashS s ks) := by
  unfold crashS
  split
  · exact hI
  · have hd0 : ∀ f i, (crK s ks s.q.length).dz f ≤ i → (crK s ks s.q.length).dur f i = 0 := fun f i hi => by
      obtain ⟨n, j, rfl, hj⟩ : ∃ n j, i = 64 * n + j ∧ j < 64 := ⟨i / 64, i % 64, by omega, by omega⟩
      have h1 := crK_dz hI ks s.q.length f
      rcases char_any hI ks s.q.length (Nat.le_refl _) f n with ⟨m, hm, _, hq, _, hh⟩ | ⟨_, _, hh⟩
      · rw [(hh j hj).2]
        split
        · rename_i hkp
          have h2 := crK_dz_kept s ks s.q.length (Nat.le_refl _) m hm hkp
          rw [hq] at h2
          exact hI.nz f _ (by dsimp only at h2; omega)
        · exact hI.dz0 f _ (by omega)
      · rw [(hh j hj).2]; exact hI.dz0 f _ (by omega)
    have heq : ∀ f n j, j < 64 → (crK s ks s.q.length).now f (64 * n + j) = (crK s ks s.q.length).dur f (64 * n + j) := fun f n j hj => by
      rcases char_any hI ks s.q.length (Nat.le_refl _) f n with ⟨m, hm, _, hq, _, hh⟩ | ⟨hnm, _, hh⟩
      · rw [(hh j hj).1, (hh j hj).2]
      · rw [(hh j hj).1, (hh j hj).2]
        rw [List.take_length] at hnm
        exact hI.eq f n (by rw [← Bool.not_eq_true]; exact fun h => hnm ((hI.pd f n).1 h)) j hj
    refine ⟨List.nodup_nil, by intro p hp; simp at hp, fun f n => ?_, fun f i hi => ?_, hd0, fun f => Nat.le_refl _, fun f => ?_, fun f n _ j hj => heq f n j hj⟩
    · show (crK s ks s.q.length).pd f n = true ↔ _
      rcases char_any hI ks s.q.length (Nat.le_refl _) f n with ⟨m, hm, _, hq, hp, _⟩ | ⟨hnm, hp, _⟩
      · rw [hp]; simp
      · rw [hp]
        rw [List.take_length] at hnm
        have : s.pd f n = false := by rw [← Bool.not_eq_true]; exact fun h => hnm ((hI.pd f n).1 h)
        rw [this]; simp
    · obtain ⟨n, j, rfl, hj⟩ : ∃ n j, i = 64 * n + j ∧ j < 64 := ⟨i / 64, i % 64, by omega, by omega⟩
      show (crK s ks s.q.length).now f (64 * n + j) = 0
      rw [heq f n j hj]; exact hd0 f _ hi
    · have := crK_dz hI ks s.q.length f
      have := hI.max f
      show (crK s ks s.q.length).dz f ≤ _
      omega

/-! ### strikes -/
def strikeS (s : RS) : RS := if s.calls = 0 then s else if s.calls = 1 then crashS { s with calls := 0 } s.keep else { s with calls := s.calls - 1 }
theorem inv_calls {s : RS} (h : Inv s) (n : Nat) : Inv { s with calls := n } := ⟨h.nodup, h.inQ, h.pd, h.nz, h.dz0, h.le, h.max, h.eq⟩
theorem inv_strike {s : RS} (h : Inv s) : Inv (strikeS s) := by
  unfold strikeS
  split
  · exact h
  · split
    · exact inv_crash (inv_calls h 0) _
    · exact inv_calls h _

set_option maxHeartbeats 1000000 in
set_option maxRecDepth 100000 in
theorem strikes_any (O : Nat → Prop) (B : Nat) (s : RS) (w : World) (h : Dk w O B s) (hI : Inv s) (hc : s.calls ≤ 9223372036854775807) :
    Calls Tryd.prog 66 #[.pointer (some ⟨B, 0, none⟩)] w fun e w' => e = .returned (.bool (strikeS s).down) ∧ DkP O w w' B (strikeS s) := by
  obtain ⟨M, C, pv, kv, hd⟩ := h
  have c35 := cellOf hd.heap hd.blk.calls
  have c37 := cellOf hd.heap hd.blk.down
  have f35 := frozenOf hd.heap 35
  have HD := Lib.hid hd
  have HI := Lib.hid hI
  rcases Nat.lt_trichotomy s.calls 1 with h1 | h1 | h1
  · have h0 : s.calls = 0 := by omega
    have hs : strikeS s = s := by unfold strikeS; rw [if_pos h0]
    rw [hs]
    rw [h0] at c35
    have HS := Lib.hid hs
    clear hd hI hs h0 hc h1
    go_enter Tryd.func66, Tryd.ntmps66
    go_wp2_with fail
    go_ret
    exact ⟨rfl, .refl ⟨M, C, pv, kv, HD.out⟩⟩
  · have hs : strikeS s = crashS { s with calls := 0 } s.keep := by unfold strikeS; rw [if_neg (by omega), if_pos h1]
    rw [h1] at c35
    have d1 := hd.setB 35 (.int .i64 0) (hd.blk.setCalls 0) (fun _ _ _ => rfl) rfl rfl
    have o1 := hd.own_setB 35 (.int .i64 0)
    have c36 := cellOf d1.heap d1.blk.keep
    have c35' := cellOf d1.heap d1.blk.calls
    have D1 := Lib.hid d1
    have O1 := Lib.hid o1
    rw [hs]
    clear hd hI hs hc h1 d1 o1
    go_enter Tryd.func66, Tryd.ntmps66
    go_wp2_with fail
    refine (crash_own O B M _ pv kv { s with calls := 0 } _ D1.out (inv_calls HI.out 0)).mono ?_
    rintro e w1 ⟨rfl, O2, ⟨M2, C2, pv2, kv2, hd2⟩, g2, w2⟩
    have c37' := cellOf hd2.heap hd2.blk.down
    have HD2 := Lib.hid hd2
    have G2 := Lib.hid g2
    have W2 := Lib.hid w2
    clear hd2 g2 w2
    go_wp2_with fail
    go_ret
    exact ⟨rfl, DkP.comb Gr.self O1.out ⟨O2, ⟨M2, C2, pv2, kv2, HD2.out⟩, G2.out, W2.out⟩⟩
  · have hs : strikeS s = { s with calls := s.calls - 1 } := by unfold strikeS; rw [if_neg (by omega), if_neg (by omega)]
    rw [hs]
    obtain ⟨n, hn⟩ : ∃ n, n = s.calls := ⟨_, rfl⟩
    have hn1 : 1 < n := by omega
    have hn2 : n ≤ 9223372036854775807 := by omega
    have e1 : ((n : Int) - 1) = ((s.calls - 1 : Nat) : Int) := by omega
    rw [← hn] at c35
    have d1 := hd.setB 35 (.int .i64 ((s.calls - 1 : Nat) : Int)) (hd.blk.setCalls (s.calls - 1)) (fun _ _ _ => rfl) rfl rfl
    have o1 := hd.own_setB 35 (.int .i64 ((s.calls - 1 : Nat) : Int))
    rw [← e1] at d1 o1
    have D1 := Lib.hid d1
    have O1 := Lib.hid o1
    have c37' : (w.setCell ⟨B, 35, none⟩ (.int .i64 ((n : Int) - 1))).cell? ⟨B, 37, none⟩ = some (.bool s.down) := cellOf d1.heap d1.blk.down
    have c35' : (w.setCell ⟨B, 35, none⟩ (.int .i64 ((n : Int) - 1))).cell? ⟨B, 35, none⟩ = some (.int .i64 ((n : Int) - 1)) := by
      have := cellOf d1.heap d1.blk.calls
      rw [this, e1]
    have hne : ((n : Int) - 1 == 0) = false := by
      rw [beq_eq_false_iff_ne]; omega
    clear hd hI hs hc h1 d1 o1 e1 hn
    go_enter Tryd.func66, Tryd.ntmps66
    go_wp2_with fail
    go_ret
    exact ⟨rfl, O, ⟨M, _, pv, kv, D1.out⟩, Gr.self, O1.out⟩

/-! ### checkWrite, Write -/
def chk (f at_ : Int) (n : Nat) : Int := if f < 0 ∨ 16 ≤ f ∨ at_ < 0 then 1 else if 16777216 < at_ + n then 6 else 0
set_option maxHeartbeats 1000000 in
set_option maxRecDepth 100000 in
theorem check_any (f at_ : Int) (n : Nat) (w : World) (hn : n ≤ 140737488355328) (ha : at_ ≤ 9223372036854775807) :
    Calls Tryd.prog 64 #[.int .i64 f, .int .i64 at_, .int .i64 n] w fun e w' => e = .returned (.int .i64 (chk f at_ n)) ∧ w' = w := by
  by_cases hf : 0 ≤ f ∧ f < 16
  · by_cases h1 : at_ < 0
    · have hc : chk f at_ n = 1 := by unfold chk; rw [if_pos (by omega)]
      rw [hc]
      clear hc
      go_enter Tryd.func64, Tryd.ntmps64
      go_wp2_with (go_at_call 60; refine (isFile_yes f _ hf.1 hf.2).mono ?_; rintro e w' ⟨rfl, rfl⟩)
      go_ret
      exact ⟨rfl, rfl⟩
    · by_cases h2 : 16777216 < at_ + n
      · have hc : chk f at_ n = 6 := by unfold chk; rw [if_neg (by omega), if_pos h2]
        have h3 : (16777216 : Int) - n < at_ := by omega
        rw [hc]
        clear hc
        go_enter Tryd.func64, Tryd.ntmps64
        go_wp2_with (go_at_call 60; refine (isFile_yes f _ hf.1 hf.2).mono ?_; rintro e w' ⟨rfl, rfl⟩)
        go_ret
        exact ⟨rfl, rfl⟩
      · have hc : chk f at_ n = 0 := by unfold chk; rw [if_neg (by omega), if_neg h2]
        have h3 : ¬ ((16777216 : Int) - n < at_) := by omega
        rw [hc]
        clear hc
        go_enter Tryd.func64, Tryd.ntmps64
        go_wp2_with (go_at_call 60; refine (isFile_yes f _ hf.1 hf.2).mono ?_; rintro e w' ⟨rfl, rfl⟩)
        go_ret
        exact ⟨rfl, rfl⟩
  · have hc : chk f at_ n = 1 := by unfold chk; rw [if_pos (by omega)]
    rw [hc]
    clear hc
    go_enter Tryd.func64, Tryd.ntmps64
    go_wp2_with (go_at_call 60; refine (isFile_no f _ (by omega)).mono ?_; rintro e w' ⟨rfl, rfl⟩)
    go_ret
    exact ⟨rfl, rfl⟩

/-- What is written before the call counts. -/
def wrS (s : RS) (f at_ : Int) (l : List UInt8) : RS := if chk f at_ l.length = 0 ∧ l ≠ [] then putS s f.toNat at_.toNat l else s
def writeS (s : RS) (f at_ : Int) (l : List UInt8) : RS := if s.down then s else strikeS (wrS s f at_ l)
def writeE (s : RS) (f at_ : Int) (l : List UInt8) : Int := if s.down then 8 else if (strikeS (wrS s f at_ l)).down then 8 else chk f at_ l.length
theorem chk_zero {f at_ : Int} {n : Nat} (h : chk f at_ n = 0) : 0 ≤ f ∧ f < 16 ∧ 0 ≤ at_ ∧ at_ + n ≤ 16777216 := by
  unfold chk at h
  split at h
  · cases h
  · split at h
    · cases h
    · omega
theorem inv_wr {s : RS} (h : Inv s) (f at_ : Int) (l : List UInt8) : Inv (wrS s f at_ l) := by
  unfold wrS
  split
  · rename_i c
    obtain ⟨a, b, d, e⟩ := chk_zero c.1
    exact inv_put h f.toNat at_.toNat l (by omega) c.2 (by omega)
  · exact h
theorem inv_write {s : RS} (h : Inv s) (f at_ : Int) (l : List UInt8) : Inv (writeS s f at_ l) := by
  unfold writeS
  split
  · exact h
  · exact inv_strike (inv_wr h f at_ l)
theorem wr_calls (s : RS) (f at_ : Int) (l : List UInt8) : (wrS s f at_ l).calls = s.calls ∧ (wrS s f at_ l).down = s.down := by
  unfold wrS; split <;> exact ⟨rfl, rfl⟩

theorem writeE_down {s : RS} (h : s.down = true) (f at_ : Int) (l : List UInt8) : writeE s f at_ l = 8 := by unfold writeE; rw [if_pos h]
theorem writeE_struck {s : RS} (h : s.down = false) {f at_ : Int} {l : List UInt8} (h2 : (strikeS (wrS s f at_ l)).down = true) : writeE s f at_ l = 8 := by unfold writeE; rw [if_neg (by rw [h]; exact Bool.false_ne_true), if_pos h2]
theorem writeE_ok {s : RS} (h : s.down = false) {f at_ : Int} {l : List UInt8} (h2 : (strikeS (wrS s f at_ l)).down = false) : writeE s f at_ l = chk f at_ l.length := by unfold writeE; rw [if_neg (by rw [h]; exact Bool.false_ne_true), if_neg (by rw [h2]; exact Bool.false_ne_true)]
theorem toList_data (str : ByteArray) : str.toList = str.data.toList := by
  cases str with
  | mk d =>
    have := ByteArray.toList_mk d.toList
    rw [Array.toArray_toList] at this
    exact this
set_option maxHeartbeats 1000000 in
set_option maxRecDepth 100000 in
theorem write_any (O : Nat → Prop) (B : Nat) (f at_ : Int) (str : ByteArray) (l : List UInt8) (s : RS) (w : World) (hstr : str.data.toList = l) (h : Dk w O B s) (hI : Inv s) (hc : s.calls ≤ 9223372036854775807) (hl : l.length ≤ 140737488355328) (ha : at_ ≤ 9223372036854775807) :
    Calls Tryd.prog 37 #[.pointer (some ⟨B, 0, none⟩), .int .i64 f, .int .i64 at_, .string str] w fun e w' => e = .returned (.int .i64 (writeE s f at_ l)) ∧ DkP O w w' B (writeS s f at_ l) := by
  have hll : str.size = l.length := by rw [← hstr, Array.length_toList]; rfl
  obtain ⟨M, C, pv, kv, hd⟩ := id h
  have c37 := cellOf hd.heap hd.blk.down
  clear hd
  rcases hdn : s.down with _ | _
  · rw [hdn] at c37
    have hs : writeS s f at_ l = strikeS (wrS s f at_ l) := by unfold writeS; rw [hdn]; rfl
    rw [hs]
    have HDN := Lib.hid hdn
    obtain ⟨n0, hn0⟩ : ∃ n0, n0 = l.length := ⟨_, rfl⟩
    have hlen : str.size = n0 := by rw [hll, hn0]
    rw [← hn0] at hl
    have HN := Lib.hid hn0
    have HS := Lib.hid hstr
    have HK := Lib.hid h
    have HI := Lib.hid hI
    clear hs hdn hll hn0 hstr h hI
    have hstrike : ∀ (O1 : Nat → Prop) (w1 : World), Dk w1 O1 B (wrS s f at_ l) → Calls Tryd.prog 66 #[.pointer (some ⟨B, 0, none⟩)] w1 fun e w' => e = .returned (.bool (strikeS (wrS s f at_ l)).down) ∧ DkP O1 w1 w' B (strikeS (wrS s f at_ l)) :=
      fun O1 w1 h1 => strikes_any O1 B _ w1 h1 (inv_wr HI.out f at_ l) (by rw [(wr_calls s f at_ l).1]; exact hc)
    have HST := Lib.hid hstrike
    clear hstrike
    obtain ⟨ck, hck⟩ : ∃ ck, ck = chk f at_ n0 := ⟨_, rfl⟩
    have HCK := Lib.hid hck
    have hcheck : ∀ w1, Calls Tryd.prog 64 #[.int .i64 f, .int .i64 at_, .int .i64 n0] w1 fun e w' => e = .returned (.int .i64 ck) ∧ w' = w1 := fun w1 => by
      rw [hck]; exact check_any f at_ n0 w1 hl ha
    clear hck
    by_cases hz0 : ck = 0
    · obtain ⟨a1, a2, a3, a4⟩ := chk_zero (HCK.out ▸ hz0 : chk f at_ n0 = 0)
      have hz1 : chk f at_ n0 = 0 := HCK.out ▸ hz0
      subst hz0
      have HCH := Lib.hid hcheck
      have hstl : str.toList = l := by rw [toList_data]; exact HS.out
      by_cases hle : l = []
      · have hw : wrS s f at_ l = s := by unfold wrS; rw [if_neg (fun h => h.2 hle)]
        rw [hw] at HST ⊢
        have HW := Lib.hid hw
        clear hw
        have he : str.toList.isEmpty = true := by rw [hstl, hle]; rfl
        have HE : Hid (chk f at_ n0 = 0) := Lib.hid hz1
        clear hstl hle hcheck hz1
        go_enter Tryd.func37, Tryd.ntmps37
        go_wp2_with (go_at_call 64; refine (HCH.out _).mono ?_; rintro e w' ⟨rfl, rfl⟩)
        refine (HST.out O _ HK.out).mono ?_
        rintro e w2 ⟨rfl, hP⟩
        have HP := Lib.hid hP
        clear hP
        cases hb : (strikeS s).down
        · have HB := Lib.hid hb
          clear hb
          go_wp2_with fail
          go_ret
          exact ⟨by rw [writeE_ok HDN.out (by rw [HW.out]; exact HB.out), ← HN.out, HE.out]; rfl, HP.out⟩
        · have HB := Lib.hid hb
          clear hb
          go_wp2_with fail
          go_ret
          exact ⟨by rw [writeE_struck HDN.out (by rw [HW.out]; exact HB.out)]; rfl, HP.out⟩
      · obtain ⟨fn, rfl⟩ : ∃ fn : Nat, f = fn := ⟨f.toNat, by omega⟩
        obtain ⟨an, rfl⟩ : ∃ an : Nat, at_ = an := ⟨at_.toNat, by omega⟩
        have hw : wrS s fn an l = putS s fn an l := by unfold wrS; rw [if_pos ⟨by rw [← HN.out]; exact hz1, hle⟩]; rfl
        rw [hw] at HST ⊢
        have HW := Lib.hid hw
        clear hw
        have he : str.toList.isEmpty = false := by rw [hstl]; cases l with | nil => exact absurd rfl hle | cons _ _ => rfl
        have HE : Hid (chk fn an n0 = 0) := Lib.hid hz1
        have HL := Lib.hid hle
        have HA4 : Hid (an + l.length ≤ 16777216) := Lib.hid (by have := HN.out; omega)
        have hfn : fn < 16 := by omega
        clear hstl hle hcheck hz1
        go_enter Tryd.func37, Tryd.ntmps37
        go_wp2_with (go_at_call 64; refine (HCH.out _).mono ?_; rintro e w' ⟨rfl, rfl⟩)
        refine (put_any O B fn an str l s _ HS.out HK.out HI.out hfn HL.out HA4.out).mono ?_
        rintro e w2 ⟨rfl, O1, hD1, hG1, hW1⟩
        have HD1 := Lib.hid hD1
        have HG1 := Lib.hid hG1
        have HW1 := Lib.hid hW1
        clear hD1 hG1 hW1
        go_wp2_with fail
        refine (HST.out O1 _ HD1.out).mono ?_
        rintro e w3 ⟨rfl, hP⟩
        have HP := Lib.hid (DkP.comb HG1.out HW1.out hP)
        clear hP
        cases hb : (strikeS (putS s fn an l)).down
        · have HB := Lib.hid hb
          clear hb
          go_wp2_with fail
          go_ret
          exact ⟨by rw [writeE_ok HDN.out (by rw [HW.out]; exact HB.out), ← HN.out, HE.out]; rfl, HP.out⟩
        · have HB := Lib.hid hb
          clear hb
          go_wp2_with fail
          go_ret
          exact ⟨by rw [writeE_struck HDN.out (by rw [HW.out]; exact HB.out)]; rfl, HP.out⟩
    · have hw : wrS s f at_ l = s := by unfold wrS; rw [if_neg (fun h => hz0 (by rw [HCK.out, HN.out]; exact h.1))]
      rw [hw] at HST ⊢
      have hne : (ck == 0) = false := by rw [beq_eq_false_iff_ne]; exact hz0
      have HCH := Lib.hid hcheck
      have HW := Lib.hid hw
      clear hw hcheck
      go_enter Tryd.func37, Tryd.ntmps37
      go_wp2_with (go_at_call 64; refine (HCH.out _).mono ?_; rintro e w' ⟨rfl, rfl⟩)
      refine (HST.out O _ HK.out).mono ?_
      rintro e w2 ⟨rfl, hP⟩
      have HP := Lib.hid hP
      clear hP
      cases hb : (strikeS s).down
      · have HB := Lib.hid hb
        clear hb
        go_wp2_with fail
        go_ret
        exact ⟨by rw [writeE_ok HDN.out (by rw [HW.out]; exact HB.out), ← HN.out, ← HCK.out]; rfl, HP.out⟩
      · have HB := Lib.hid hb
        clear hb
        go_wp2_with fail
        go_ret
        exact ⟨by rw [writeE_struck HDN.out (by rw [HW.out]; exact HB.out)]; rfl, HP.out⟩
  · rw [hdn] at c37
    have hs : writeS s f at_ l = s := by unfold writeS; rw [hdn]; rfl
    have he := writeE_down hdn f at_ l
    rw [hs, he]
    have HK := Lib.hid h
    clear hs he hdn h hI hll hstr
    go_enter Tryd.func37, Tryd.ntmps37
    go_wp2_with fail
    go_ret
    exact ⟨rfl, .refl HK.out⟩
end Go.Proofs.YtjcajgcfkidbkaaDoor
