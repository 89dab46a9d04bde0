/-
  Plain mathematics of ClaimTruth: what is true of a log does not contradict itself; what is not true contradicts something that is.
-/
import Derived.Test.YtdaiapopncpilaaDoorCx
namespace Go.Proofs.YtdaiapopncpilaaDoor
open Go

/-- What is true of the log. -/
def Tr (l : List Txt) (g : List UInt8) (c : C) : Prop :=
  (∃ (i : Nat) (h : i < l.length), c = entC i l[i]) ∨ (∃ i, i < g.length ∧ c = szC l.length g i) ∨ ∃ (n : Int) (q : Txt), absP l n q ∧ c = ⟨2, n, 0, q⟩
theorem kind_alike {a b : C} (h : a.k ≠ b.k) (h1 : ¬ (a.k = 2 ∧ b.k = 0)) (h2 : ¬ (b.k = 2 ∧ a.k = 0)) : contra a b = false := by
  cases hc : contra a b with
  | false => rfl
  | true =>
    rcases contra_kinds hc with h3 | h3 | h3
    · exact absurd h3.1 h
    · exact absurd ⟨h3.2, h3.1⟩ h2
    · exact absurd h3 h1
theorem no_ent_ent (l : List Txt) (i j : Nat) (hi : i < l.length) (hj : j < l.length) : contra (entC i l[i]) (entC j l[j]) = false := by
  unfold contra alike
  simp only [entC, if_true]
  rw [Bool.and_eq_false_iff]
  right
  refine decide_eq_false fun h => h.2 ?_
  have : i = j := by omega
  subst this; rfl
theorem no_sz_sz (m : Nat) (g : List UInt8) (i j : Nat) : contra (szC m g i) (szC m g j) = false := by
  unfold contra alike szs
  simp only [szC, if_true]
  rw [Bool.and_eq_false_iff]
  right
  rw [if_neg (by decide), Bool.eq_false_iff]
  intro h
  rw [Bool.or_eq_true, Bool.or_eq_true] at h
  rcases h with (h | h) | h <;> replace h := of_decide_eq_true h
  · have : i = j := by omega
    subst this; exact h.2 rfl
  · have := szN_mono m g (show i + 1 ≤ j + 1 by omega)
    omega
  · have := szN_mono m g (show j + 1 ≤ i + 1 by omega)
    omega
theorem no_abs_ent (l : List Txt) (n : Int) (q : Txt) (h : absP l n q) (i : Nat) (hi : i < l.length) : contra ⟨2, n, 0, q⟩ (entC i l[i]) = false := by
  cases hc : contra ⟨2, n, 0, q⟩ (entC i l[i]) with
  | false => rfl
  | true =>
    unfold contra den at hc
    rw [Bool.and_eq_true] at hc
    have h2 := hc.2
    rw [if_neg (show (2 : Int) ≠ (entC i l[i]).k from by show (2 : Int) ≠ 0; decide)] at h2
    rw [Bool.or_eq_true, Bool.and_eq_true, Bool.and_eq_true, Bool.and_eq_true, Bool.and_eq_true, Bool.and_eq_true, Bool.and_eq_true] at h2
    rcases h2 with h2 | h2
    · exact absurd (of_decide_eq_true h2.2) (h i hi (of_decide_eq_true h2.1.2))
    · exact absurd (of_decide_eq_true h2.1.1.1) (show ¬ ((0 : Int) = 2) by decide)
theorem tr_no {l : List Txt} {g : List UInt8} {a b : C} (ha : Tr l g a) (hb : Tr l g b) : contra a b = false := by
  rcases ha with ⟨i, hi, rfl⟩ | ⟨i, hi, rfl⟩ | ⟨n, q, hp, rfl⟩ <;> rcases hb with ⟨j, hj, rfl⟩ | ⟨j, hj, rfl⟩ | ⟨m, r, hr, rfl⟩
  · exact no_ent_ent l i j hi hj
  · exact kind_alike (show (0 : Int) ≠ 1 by decide) (fun h => absurd h.2 (show ¬ ((1 : Int) = 0) by decide)) (fun h => absurd h.1 (show ¬ ((1 : Int) = 2) by decide))
  · rw [contra_comm]; exact no_abs_ent l m r hr i hi
  · exact kind_alike (show (1 : Int) ≠ 0 by decide) (fun h => absurd h.1 (show ¬ ((1 : Int) = 2) by decide)) (fun h => absurd h.2 (show ¬ ((1 : Int) = 0) by decide))
  · exact no_sz_sz _ g i j
  · exact kind_alike (show (1 : Int) ≠ 2 by decide) (fun h => absurd h.1 (show ¬ ((1 : Int) = 2) by decide)) (fun h => absurd h.2 (show ¬ ((1 : Int) = 0) by decide))
  · exact no_abs_ent l n q hp j hj
  · exact kind_alike (show (2 : Int) ≠ 1 by decide) (fun h => absurd h.2 (show ¬ ((1 : Int) = 0) by decide)) (fun h => absurd h.1 (show ¬ ((1 : Int) = 2) by decide))
  · unfold contra alike; simp

/-- The claims of absent keys. -/
noncomputable def absKn (l : List Txt) (q : Txt) (n : Nat) : List C := ((List.range n).filter fun i => absB l (i : Nat) q).map fun i => ⟨2, ((i : Nat) : Int), 0, q⟩
noncomputable def absK (l : List Txt) (q : Txt) : List C := if q.length ≤ 100 then absKn l q (l.length + 1) else []
theorem absKn_succ (l : List Txt) (q : Txt) (n : Nat) : absKn l q (n + 1) = if absB l n q = true then absKn l q n ++ [⟨2, n, 0, q⟩] else absKn l q n := by
  unfold absKn
  rw [List.range_succ, List.filter_append, List.map_append]
  by_cases h : absB l n q = true
  · rw [if_pos h, List.filter_cons_of_pos (by exact h), List.filter_nil]; rfl
  · rw [if_neg h, List.filter_cons_of_neg (by exact h), List.filter_nil]; simp
theorem absKn_len (l : List Txt) (q : Txt) (n : Nat) : (absKn l q n).length ≤ n := by
  unfold absKn
  rw [List.length_map]
  have := List.length_filter_le (fun i => absB l (i : Nat) q) (List.range n)
  rw [List.length_range] at this
  exact this
theorem absKn_tr {l : List Txt} {g : List UInt8} {q : Txt} {n : Nat} {a : C} (h : a ∈ absKn l q n) : Tr l g a := by
  unfold absKn at h
  obtain ⟨i, hi, rfl⟩ := List.mem_map.1 h
  exact .inr (.inr ⟨i, q, absB_true.1 (List.mem_filter.1 hi).2, rfl⟩)
theorem absK_len (l : List Txt) (q : Txt) : (absK l q).length ≤ l.length + 1 := by
  unfold absK
  split
  · exact absKn_len _ _ _
  · simp
theorem absK_tr {l : List Txt} {g : List UInt8} {q : Txt} {a : C} (h : a ∈ absK l q) : Tr l g a := by
  unfold absK at h
  split at h
  · exact absKn_tr h
  · simp at h
/-- All that is true, as far as the law asks: entries, sizes, and absent keys of the first k. -/
noncomputable def allB (l : List Txt) (g : List UInt8) : List C := entL l l.length ++ szL l.length g g.length
noncomputable def allL (l : List Txt) (g : List UInt8) (keys : List Txt) (k : Nat) : List C := allB l g ++ (keys.take k).flatMap (absK l)
theorem allB_len (l : List Txt) (g : List UInt8) : (allB l g).length = l.length + g.length := by unfold allB; rw [List.length_append, entL_len, szL_len]
theorem flat_len9 (l : List Txt) (ks : List Txt) : (ks.flatMap (absK l)).length ≤ ks.length * (l.length + 1) := by
  induction ks with
  | nil => simp
  | cons q ks ih =>
    rw [List.flatMap_cons, List.length_append, List.length_cons, Nat.succ_mul]
    have := absK_len l q
    omega
theorem allL_len (l : List Txt) (g : List UInt8) (keys : List Txt) (k : Nat) (hl : l.length ≤ 8) (hg : g.length ≤ 6) (hk : keys.length ≤ 6) : (allL l g keys k).length ≤ 68 := by
  unfold allL
  have h1 := flat_len9 l (keys.take k)
  have h2 : (keys.take k).length * (l.length + 1) ≤ 6 * 9 := Nat.mul_le_mul (by rw [List.length_take]; omega) (by omega)
  rw [List.length_append, allB_len]
  omega
theorem allL_succ (l : List Txt) (g : List UInt8) (keys : List Txt) (k : Nat) (h : k < keys.length) : allL l g keys (k + 1) = allL l g keys k ++ absK l keys[k] := by
  unfold allL
  rw [List.take_succ_eq_append_getElem h, List.flatMap_append, List.append_assoc]
  simp
theorem ent_mem {l : List Txt} {g : List UInt8} {i : Nat} (h : i < l.length) : entC i l[i] ∈ allB l g := by
  unfold allB
  exact List.mem_append_left _ (List.mem_of_getElem? (entL_get l l.length i h h))
theorem sz_mem {l : List Txt} {g : List UInt8} {i : Nat} (h : i < g.length) : szC l.length g i ∈ allB l g := by
  unfold allB szL
  exact List.mem_append_right _ (List.mem_map.2 ⟨i, List.mem_range.2 h, rfl⟩)
theorem allB_mem {l : List Txt} {g : List UInt8} {keys : List Txt} {k : Nat} {a : C} (h : a ∈ allB l g) : a ∈ allL l g keys k := List.mem_append_left _ h
theorem allL_tr {l : List Txt} {g : List UInt8} {keys : List Txt} {k : Nat} {a : C} (h : a ∈ allL l g keys k) : Tr l g a := by
  unfold allL allB at h
  rcases List.mem_append.1 h with h | h
  · rcases List.mem_append.1 h with h | h
    · unfold entL at h
      obtain ⟨i, hi, rfl⟩ := List.mem_map.1 h
      have hi := List.mem_range.1 hi
      refine .inl ⟨i, hi, ?_⟩
      rw [List.getElem?_eq_getElem hi]; rfl
    · unfold szL at h
      obtain ⟨i, hi, rfl⟩ := List.mem_map.1 h
      exact .inr (.inl ⟨i, List.mem_range.1 hi, rfl⟩)
  · obtain ⟨q, _, hq⟩ := List.mem_flatMap.1 h
    exact absK_tr hq
theorem allL_no {l : List Txt} {g : List UInt8} {keys : List Txt} {k : Nat} {a b : C} (ha : a ∈ allL l g keys k) (hb : b ∈ allL l g keys k) : contra a b = false := tr_no (allL_tr ha) (allL_tr hb)
/-- c contradicts one of them. -/
noncomputable def beat (A : List C) (c : C) : Bool := A.any (contra c)
theorem beat_of {A : List C} {c a : C} (h : a ∈ A) (hc : contra c a = true) : beat A c = true := List.any_eq_true.2 ⟨a, h, hc⟩
theorem beat_no {A : List C} {c : C} (h : okB c = false) : beat A c = false := by
  unfold beat
  rw [List.any_eq_false]
  intro a _
  unfold contra
  rw [h]; simp
theorem beat_take (A : List C) (c : C) (k : Nat) (h : k < A.length) : beat (A.take (k + 1)) c = (beat (A.take k) c || contra c A[k]) := by
  unfold beat
  rw [List.take_succ_eq_append_getElem h, List.any_append]; simp
theorem wrong_abs {l : List Txt} {g : List UInt8} {keys : List Txt} {k : Nat} {c : C} (hc : okB c = true) (he : entOk l) (hk : c.k = 2) (ha : absB l c.n c.s = false) : beat (allL l g keys k) c = true := by
  have hn : ¬ absP l c.n c.s := fun h => by rw [absB_true.2 h] at ha; cases ha
  unfold absP at hn
  obtain ⟨i, hn⟩ := Classical.not_forall.1 hn
  obtain ⟨hi, hn⟩ := Classical.not_forall.1 hn
  obtain ⟨hlt, hn⟩ := Classical.not_forall.1 hn
  have hkey : key l[i] = some c.s := Classical.not_not.1 hn
  refine beat_of (allB_mem (ent_mem hi)) ?_
  unfold contra den
  rw [hc, he i hi, if_neg (by rw [hk]; show ¬ ((2 : Int) = 0); decide), hk]
  simp [entC, hlt, hkey]
theorem wrong_ent {l : List Txt} {g : List UInt8} {keys : List Txt} {k i : Nat} {c : C} (hc : okB c = true) (he : entOk l) (hk : c.k = 0) (hi : i < l.length) (hn : c.n = i) (hs : c.s ≠ l[i]) : beat (allL l g keys k) c = true := by
  refine beat_of (allB_mem (ent_mem hi)) ?_
  unfold contra alike
  rw [hc, he i hi, if_pos (by rw [hk]; rfl), if_pos hk]
  simp [entC, hn, hs]
theorem sz_ok {l : List Txt} {g : List UInt8} {i : Nat} (hl : l.length ≤ 8) (hi : i < 6) : okB (szC l.length g i) = true := by
  have := szN_le l.length g (i + 1)
  refine (okB_iff _).2 ⟨?_, ?_, ?_, ?_, ?_, .inl ?_⟩
  · show (0 : Int) ≤ ((szN l.length g (i + 1) : Nat) : Int); omega
  · show ((szN l.length g (i + 1) : Nat) : Int) ≤ limN 1
    rw [show limN 1 = 200000 by decide]; omega
  · show (0 : Int) ≤ 10 * (i : Int); omega
  · show 10 * (i : Int) ≤ limT 1
    rw [show limT 1 = 1073741824 by decide]; omega
  · show ((([] : Txt).length : Nat) : Int) ≤ limS 1; decide
  · show (1 : Int) ≠ 0; decide
theorem wrong_sz {l : List Txt} {g : List UInt8} {keys : List Txt} {k i : Nat} {c : C} (hc : okB c = true) (hl : l.length ≤ 8) (hg : g.length ≤ 6) (hk : c.k = 1) (hi : i < g.length) (ht : c.t = 10 * (i : Int)) (hn : c.n ≠ (szN l.length g (i + 1) : Nat)) : beat (allL l g keys k) c = true := by
  refine beat_of (allB_mem (sz_mem hi)) ?_
  unfold contra alike szs
  rw [hc, sz_ok hl (by omega), if_pos (by rw [hk]; rfl), if_neg (by rw [hk]; decide), if_pos hk]
  simp [szC, ht, hn]
theorem fits_small {k n t : Int} {s : Txt} (hk : 0 ≤ k ∧ k ≤ 100) (hn : 0 ≤ n ∧ n ≤ 100) (ht : 0 ≤ t ∧ t ≤ 100) (hs : s.length ≤ 9223372036854775807) : C.fits ⟨k, n, t, s⟩ :=
  ⟨⟨show -9223372036854775808 ≤ k by omega, show k ≤ 9223372036854775807 by omega⟩, ⟨show -9223372036854775808 ≤ n by omega, show n ≤ 9223372036854775807 by omega⟩, ⟨show -9223372036854775808 ≤ t by omega, show t ≤ 9223372036854775807 by omega⟩, hs⟩
theorem tr_fits {l : List Txt} {g : List UInt8} {keys : List Txt} {k : Nat} {a : C} (hl : l.length ≤ 8) (hg : g.length ≤ 6) (hL : ∀ z ∈ l, z.length ≤ 100) (hK : ∀ z ∈ keys, z.length ≤ 9223372036854775807) (h : a ∈ allL l g keys k) : a.fits := by
  unfold allL allB at h
  rcases List.mem_append.1 h with h | h
  · rcases List.mem_append.1 h with h | h
    · unfold entL at h
      obtain ⟨i, hi, rfl⟩ := List.mem_map.1 h
      have hi := List.mem_range.1 hi
      rw [List.getElem?_eq_getElem hi]
      have := hL _ (List.getElem_mem hi)
      exact fits_small (by omega) (by omega) (by omega) (show (l[i]).length ≤ 9223372036854775807 by omega)
    · unfold szL at h
      obtain ⟨i, hi, rfl⟩ := List.mem_map.1 h
      have hi := List.mem_range.1 hi
      have := szN_le l.length g (i + 1)
      exact fits_small (by omega) (by omega) (by omega) (by simp)
  · obtain ⟨q, hq, hm⟩ := List.mem_flatMap.1 h
    unfold absK at hm
    split at hm
    · unfold absKn at hm
      obtain ⟨i, hi, rfl⟩ := List.mem_map.1 hm
      have hi := List.mem_range.1 (List.mem_filter.1 hi).1
      exact fits_small (by omega) (by omega) (by omega) (hK q (List.mem_of_mem_take hq))
    · simp at hm
end Go.Proofs.YtdaiapopncpilaaDoor
