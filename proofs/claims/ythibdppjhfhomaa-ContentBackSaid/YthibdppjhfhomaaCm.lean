/-
  Lists of contents: the index of a content (pm), how many different ones (dc), how many bytes (tot), right lists (Rt), what Add and Join make.
-/
import Derived.Test.YthibdppjhfhomaaProg
namespace Go.Proofs.Ythibdppjhfhomaa

abbrev Txt := List UInt8

/-- The least index of s, counted from i. -/
def pm (i : Nat) : List Txt → Txt → Option Nat
  | [], _ => none
  | x :: l, s => if s = x then some i else pm (i + 1) l s
/-- How many different ones. -/
def dc : List Txt → Nat
  | [] => 0
  | x :: l => if x ∈ l then dc l else dc l + 1
def tot : List Txt → Nat
  | [] => 0
  | x :: l => x.length + tot l
def Rt (l : List Txt) : Prop := l.Nodup ∧ tot l ≤ 1048576
instance (l : List Txt) : Decidable (Rt l) := by unfold Rt; exact inferInstance

theorem tot_append (l m : List Txt) : tot (l ++ m) = tot l + tot m := by
  induction l with
  | nil => simp [tot]
  | cons x l ih => simp only [List.cons_append, tot, ih]; omega
theorem tot_take (l : List Txt) (k : Nat) : tot (l.take k) ≤ tot l := by
  conv => rhs; rw [← List.take_append_drop k l, tot_append]
  omega
theorem tot_take_succ (l : List Txt) (k : Nat) (hk : k < l.length) : tot (l.take (k + 1)) = tot (l.take k) + l[k].length := by
  rw [List.take_succ_eq_append_getElem hk, tot_append]; simp [tot]
theorem tot_filter (p : Txt → Bool) (l : List Txt) : tot (l.filter p) ≤ tot l := by
  induction l with
  | nil => simp [tot]
  | cons x l ih => rw [List.filter_cons]; split <;> simp only [tot] <;> omega
theorem tot_mem {l : List Txt} {s : Txt} (h : s ∈ l) : s.length ≤ tot l := by
  induction l with
  | nil => simp at h
  | cons x l ih =>
    simp only [tot]
    rcases List.mem_cons.1 h with rfl | h'
    · omega
    · have := ih h'; omega
theorem tot_le {l : List Txt} {n : Nat} (h : ∀ s ∈ l, s.length ≤ n) : tot l ≤ l.length * n := by
  induction l with
  | nil => simp [tot]
  | cons x l ih =>
    have h1 := h x List.mem_cons_self
    have h2 := ih fun s hs => h s (List.mem_cons_of_mem _ hs)
    simp only [tot, List.length_cons, Nat.add_mul, Nat.one_mul]
    omega

theorem pm_cons (i : Nat) (x : Txt) (l : List Txt) (s : Txt) : pm i (x :: l) s = if s = x then some i else pm (i + 1) l s := rfl
theorem pm_none {i : Nat} {l : List Txt} {s : Txt} : pm i l s = none ↔ s ∉ l := by
  induction l generalizing i with
  | nil => simp [pm]
  | cons x l ih =>
    rw [pm_cons]
    split
    · rename_i h; simp [h]
    · rename_i h; rw [ih]; simp [h]
theorem pm_some {i : Nat} {l : List Txt} {s : Txt} {k : Nat} (h : pm i l s = some k) : i ≤ k ∧ k < i + l.length ∧ l[k - i]? = some s := by
  induction l generalizing i with
  | nil => simp [pm] at h
  | cons x l ih =>
    rw [pm_cons] at h
    split at h
    · rename_i hs
      simp only [Option.some.injEq] at h
      subst h; subst hs
      simp
    · obtain ⟨h1, h2, h3⟩ := ih h
      refine ⟨by omega, by simp only [List.length_cons]; omega, ?_⟩
      rw [show k - i = (k - (i + 1)) + 1 by omega, List.getElem?_cons_succ]
      exact h3
theorem pm_mem {i : Nat} {l : List Txt} {s : Txt} (h : s ∈ l) : ∃ k, pm i l s = some k := by
  cases hp : pm i l s with
  | none => exact absurd h (pm_none.1 hp)
  | some k => exact ⟨k, rfl⟩
theorem mem_of_pm {i : Nat} {l : List Txt} {s : Txt} {k : Nat} (h : pm i l s = some k) : s ∈ l := by
  apply Decidable.byContradiction
  intro hn
  rw [pm_none.2 hn] at h
  cases h
theorem pm_append (i : Nat) (l m : List Txt) (s : Txt) : pm i (l ++ m) s = if s ∈ l then pm i l s else pm (i + l.length) m s := by
  induction l generalizing i with
  | nil => simp
  | cons x l ih =>
    rw [List.cons_append, pm_cons, pm_cons]
    by_cases h : s = x
    · simp [h]
    · simp only [List.mem_cons, h, false_or, ih, List.length_cons, if_false]
      rw [show i + 1 + l.length = i + (l.length + 1) by omega]
theorem pm_pre {i : Nat} {l m : List Txt} {s : Txt} (h : s ∈ l) : pm i (l ++ m) s = pm i l s := by rw [pm_append, if_pos h]
theorem pm_new {l : List Txt} {s : Txt} (m : List Txt) (h : s ∉ l) : pm 0 (l ++ s :: m) s = some l.length := by
  rw [pm_append, if_neg h, pm_cons, if_pos rfl]; simp
/-- In a list without repetition an index is the index of its content. -/
theorem pm_at {l : List Txt} (hl : l.Nodup) {k : Nat} {s : Txt} (h : l[k]? = some s) : pm 0 l s = some k := by
  obtain ⟨hk, he⟩ := List.getElem?_eq_some_iff.1 h
  have hm : s ∈ l := List.mem_of_getElem? h
  obtain ⟨j, hj⟩ := pm_mem (i := 0) hm
  obtain ⟨_, h2, h3⟩ := pm_some hj
  rw [hj]
  congr 1
  simp only [Nat.sub_zero] at h3
  obtain ⟨hjl, hje⟩ := List.getElem?_eq_some_iff.1 h3
  exact (List.getElem_inj hl).1 (hje.trans he.symm)
theorem pm_inj {i : Nat} {l : List Txt} {s t : Txt} {k : Nat} (h : pm i l s = some k) (h' : pm i l t = some k) : s = t := by
  have a := (pm_some h).2.2
  have b := (pm_some h').2.2
  rw [a] at b
  exact Option.some.inj b

theorem dc_le (l : List Txt) : dc l ≤ l.length := by
  induction l with
  | nil => simp [dc]
  | cons x l ih => unfold dc; split <;> simp only [List.length_cons] <;> omega
theorem dc_full (l : List Txt) : dc l = l.length ↔ l.Nodup := by
  induction l with
  | nil => simp [dc]
  | cons x l ih =>
    have hle := dc_le l
    unfold dc
    split
    · rename_i h
      simp only [List.length_cons, List.nodup_cons, h, not_true_eq_false, false_and, iff_false]
      omega
    · rename_i h
      simp only [List.length_cons, List.nodup_cons, h, not_false_eq_true, true_and, ← ih]
      omega
theorem dc_step (l : List Txt) (_i : Nat) (x : Txt) (j : Nat) : dc (x :: l) = if pm j l x = none then dc l + 1 else dc l := by
  show (if x ∈ l then dc l else dc l + 1) = _
  simp only [pm_none]
  by_cases h : x ∈ l <;> simp [h]

/-- What Join makes. -/
def joinL (a b : List Txt) : List Txt := a ++ b.filter (fun s => decide (s ∉ a))
theorem joinL_nil (a : List Txt) : joinL a [] = a := by simp [joinL]
theorem joinL_take_succ (a b : List Txt) (k : Nat) (hk : k < b.length) : joinL a (b.take (k + 1)) = if b[k] ∈ a then joinL a (b.take k) else joinL a (b.take k) ++ [b[k]] := by
  unfold joinL
  rw [List.take_succ_eq_append_getElem hk, List.filter_append]
  by_cases h : b[k] ∈ a <;> simp [h]
theorem joinL_cut (a b : List Txt) (k : Nat) : ∃ m, joinL a b = joinL a (b.take k) ++ m := by
  refine ⟨(b.drop k).filter (fun s => decide (s ∉ a)), ?_⟩
  unfold joinL
  conv => lhs; rw [← List.take_append_drop k b]
  rw [List.filter_append, List.append_assoc]
theorem mem_joinL {a b : List Txt} {s : Txt} : s ∈ joinL a b ↔ s ∈ a ∨ s ∈ b := by
  unfold joinL
  simp only [List.mem_append, List.mem_filter, decide_eq_true_eq]
  by_cases h : s ∈ a <;> simp [h]
theorem joinL_nodup {a b : List Txt} (ha : a.Nodup) (hb : b.Nodup) : (joinL a b).Nodup := by
  unfold joinL
  refine List.nodup_append.2 ⟨ha, hb.filter _, ?_⟩
  intro x hx y hy e
  simp only [List.mem_filter, decide_eq_true_eq] at hy
  exact hy.2 (e ▸ hx)
/-- The print of s in what Join makes. -/
def pj (a b : List Txt) (s : Txt) : Nat := (pm 0 (joinL a b) s).getD 0
theorem pj_old {a b : List Txt} {s : Txt} {n : Nat} (h : pm 0 a s = some n) : pj a b s = n := by
  unfold pj joinL
  rw [pm_pre (mem_of_pm h), h]; rfl
theorem pj_new {a b : List Txt} (hb : b.Nodup) {k : Nat} (hk : k < b.length) (h : b[k] ∉ a) : pj a b b[k] = (joinL a (b.take k)).length := by
  obtain ⟨m, hm⟩ := joinL_cut a b (k + 1)
  unfold pj
  rw [hm, joinL_take_succ a b k hk, if_neg h, List.append_assoc, List.singleton_append, pm_new]
  · rfl
  · rw [mem_joinL]
    rintro (h' | h')
    · exact h h'
    · obtain ⟨i, hi, e⟩ := List.getElem_of_mem h'
      have hi' : i < k := by rw [List.length_take] at hi; omega
      rw [List.getElem_take] at e
      have := (List.getElem_inj hb).1 e
      omega
theorem pj_spec {a b : List Txt} {s : Txt} (h : s ∈ b) : (joinL a b)[pj a b s]? = some s := by
  obtain ⟨k, hk⟩ := pm_mem (i := 0) (mem_joinL.2 (.inr h) : s ∈ joinL a b)
  have := (pm_some hk).2.2
  unfold pj
  rw [hk]
  simpa using this
theorem joinL_again {a b : List Txt} (h : ∀ s ∈ b, s ∈ a) : joinL a b = a := by
  unfold joinL
  rw [List.filter_eq_nil_iff.2, List.append_nil]
  intro s hs
  simpa using h s hs

/-- What Add makes. -/
def addL (l : List Txt) (s : Txt) : List Txt := if s ∈ l then l else l ++ [s]
def addN (l : List Txt) (s : Txt) : Nat := (pm 0 l s).getD l.length
theorem addN_spec (l : List Txt) (s : Txt) : pm 0 (addL l s) s = some (addN l s) := by
  unfold addL addN
  by_cases h : s ∈ l
  · obtain ⟨k, hk⟩ := pm_mem (i := 0) h
    simp [h, hk]
  · rw [if_neg h, pm_new [] h, pm_none.2 h]; rfl
theorem addL_nodup {l : List Txt} {s : Txt} (h : l.Nodup) : (addL l s).Nodup := by
  unfold addL
  split
  · exact h
  · rename_i hs
    refine List.nodup_append.2 ⟨h, by simp, ?_⟩
    intro x hx y hy e
    simp only [List.mem_singleton] at hy
    subst hy
    exact hs (e ▸ hx)
theorem mem_addL {l : List Txt} {s t : Txt} : t ∈ addL l s ↔ t ∈ l ∨ t = s := by
  unfold addL
  split
  · rename_i h
    constructor
    · exact Or.inl
    · rintro (h' | rfl)
      · exact h'
      · exact h
  · simp
theorem addL_cut (l : List Txt) (s : Txt) : ∃ m, addL l s = l ++ m := by
  unfold addL
  split
  · exact ⟨[], by simp⟩
  · exact ⟨[s], rfl⟩
theorem tot_addL (l : List Txt) (s : Txt) : tot (addL l s) ≤ tot l + s.length := by
  unfold addL
  split
  · omega
  · rw [tot_append]; simp [tot]
end Go.Proofs.Ythibdppjhfhomaa
