/-
  Lists without repetition, over any type: the least index (pm), adding one (addL), adding all (addA).
-/
import Derived.Test.YthppefkamklakaaDoorProg
namespace Go.Proofs.YthppefkamklakaaDoor

section
variable {α : Type} [DecidableEq α]
/-- The least index of s, counted from i. -/
def pm (i : Nat) : List α → α → Option Nat
  | [], _ => none
  | x :: l, s => if s = x then some i else pm (i + 1) l s
theorem pm_cons (i : Nat) (x : α) (l : List α) (s : α) : pm i (x :: l) s = if s = x then some i else pm (i + 1) l s := rfl
theorem pm_none {i : Nat} {l : List α} {s : α} : pm i l s = none ↔ s ∉ l := by
  induction l generalizing i with
  | nil => simp [pm]
  | cons x l ih =>
    rw [pm_cons]
    split
    · rename_i h; simp [h]
    · rename_i h; rw [ih]; simp [h]
theorem pm_some {i : Nat} {l : List α} {s : α} {k : Nat} (h : pm i l s = some k) : i ≤ k ∧ k < i + l.length ∧ l[k - i]? = some s := by
  induction l generalizing i with
  | nil => simp [pm] at h
  | cons x l ih =>
    rw [pm_cons] at h
    split at h
    · rename_i hs
      simp only [Option.some.injEq] at h
      subst h; subst hs
      simp
    · obtain ⟨h1, h2, h3⟩ := ih h
      refine ⟨by omega, by simp only [List.length_cons]; omega, ?_⟩
      rw [show k - i = (k - (i + 1)) + 1 by omega, List.getElem?_cons_succ]
      exact h3
theorem pm_mem {i : Nat} {l : List α} {s : α} (h : s ∈ l) : ∃ k, pm i l s = some k := by
  cases hp : pm i l s with
  | none => exact absurd h (pm_none.1 hp)
  | some k => exact ⟨k, rfl⟩
theorem mem_of_pm {i : Nat} {l : List α} {s : α} {k : Nat} (h : pm i l s = some k) : s ∈ l := by
  apply Decidable.byContradiction
  intro hn
  rw [pm_none.2 hn] at h
  cases h
theorem pm_append (i : Nat) (l m : List α) (s : α) : pm i (l ++ m) s = if s ∈ l then pm i l s else pm (i + l.length) m s := by
  induction l generalizing i with
  | nil => simp
  | cons x l ih =>
    rw [List.cons_append, pm_cons, pm_cons]
    by_cases h : s = x
    · simp [h]
    · simp only [List.mem_cons, h, false_or, ih, List.length_cons, if_false]
      rw [show i + 1 + l.length = i + (l.length + 1) by omega]
theorem pm_pre {i : Nat} {l m : List α} {s : α} (h : s ∈ l) : pm i (l ++ m) s = pm i l s := by rw [pm_append, if_pos h]
theorem pm_new {l : List α} {s : α} (m : List α) (h : s ∉ l) : pm 0 (l ++ s :: m) s = some l.length := by
  rw [pm_append, if_neg h, pm_cons, if_pos rfl]; simp
/-- Behind one more. -/
theorem pm_push {l : List α} {s : α} (h : s ∉ l) (t : α) : pm 0 (l ++ [s]) t = if t = s then some l.length else pm 0 l t := by
  rw [pm_append]
  by_cases hm : t ∈ l
  · rw [if_pos hm, if_neg (by rintro rfl; exact h hm)]
  · rw [if_neg hm, pm_cons]
    by_cases e : t = s
    · rw [if_pos e, if_pos e]; simp
    · rw [if_neg e, if_neg e, pm_none.2 hm]; rfl
/-- In a list without repetition an index is the index of its content. -/
theorem pm_at {l : List α} (hl : l.Nodup) {k : Nat} {s : α} (h : l[k]? = some s) : pm 0 l s = some k := by
  obtain ⟨hk, he⟩ := List.getElem?_eq_some_iff.1 h
  have hm : s ∈ l := List.mem_of_getElem? h
  obtain ⟨j, hj⟩ := pm_mem (i := 0) hm
  obtain ⟨_, h2, h3⟩ := pm_some hj
  rw [hj]
  congr 1
  simp only [Nat.sub_zero] at h3
  obtain ⟨hjl, hje⟩ := List.getElem?_eq_some_iff.1 h3
  exact (List.getElem_inj hl).1 (hje.trans he.symm)
theorem pm_get {l : List α} {s : α} {k : Nat} (h : pm 0 l s = some k) : l[k]? = some s := by simpa using (pm_some h).2.2
theorem pm_lt {l : List α} {s : α} {k : Nat} (h : pm 0 l s = some k) : k < l.length := by simpa using (pm_some h).2.1
theorem pm_iff {l : List α} (hl : l.Nodup) {k : Nat} {s : α} : pm 0 l s = some k ↔ l[k]? = some s := ⟨pm_get, pm_at hl⟩

/-- What adding makes: the list, and the index. -/
def addL (l : List α) (s : α) : List α := if s ∈ l then l else l ++ [s]
def addN (l : List α) (s : α) : Nat := (pm 0 l s).getD l.length
theorem addN_spec (l : List α) (s : α) : pm 0 (addL l s) s = some (addN l s) := by
  unfold addL addN
  by_cases h : s ∈ l
  · obtain ⟨k, hk⟩ := pm_mem (i := 0) h
    simp [h, hk]
  · rw [if_neg h, pm_new [] h, pm_none.2 h]; rfl
theorem addN_get (l : List α) (s : α) : (addL l s)[addN l s]? = some s := pm_get (addN_spec l s)
theorem addN_lt (l : List α) (s : α) : addN l s < (addL l s).length := pm_lt (addN_spec l s)
theorem addN_le (l : List α) (s : α) : addN l s ≤ l.length := by
  unfold addN
  cases h : pm 0 l s with
  | none => exact Nat.le_refl _
  | some k => exact Nat.le_of_lt (pm_lt h)
theorem addL_nodup {l : List α} {s : α} (h : l.Nodup) : (addL l s).Nodup := by
  unfold addL
  split
  · exact h
  · rename_i hs
    refine List.nodup_append.2 ⟨h, by simp, ?_⟩
    intro x hx y hy e
    simp only [List.mem_singleton] at hy
    subst hy
    exact hs (e ▸ hx)
theorem mem_addL {l : List α} {s t : α} : t ∈ addL l s ↔ t ∈ l ∨ t = s := by
  unfold addL
  split
  · rename_i h
    constructor
    · exact Or.inl
    · rintro (h' | rfl)
      · exact h'
      · exact h
  · simp
theorem addL_cut (l : List α) (s : α) : ∃ m, addL l s = l ++ m := by
  unfold addL
  split
  · exact ⟨[], by simp⟩
  · exact ⟨[s], rfl⟩
theorem addL_len (l : List α) (s : α) : l.length ≤ (addL l s).length ∧ (addL l s).length ≤ l.length + 1 := by unfold addL; split <;> simp
theorem addL_old {l : List α} {s : α} (h : s ∈ l) : addL l s = l := if_pos h
theorem addL_new {l : List α} {s : α} (h : s ∉ l) : addL l s = l ++ [s] := if_neg h
theorem addN_old {l : List α} {s : α} {k : Nat} (h : pm 0 l s = some k) : addN l s = k := by unfold addN; rw [h]; rfl
theorem addN_new {l : List α} {s : α} (h : s ∉ l) : addN l s = l.length := by unfold addN; rw [pm_none.2 h]; rfl

/-- What comes of adding all of them. -/
def addA (a l : List α) : List α := l.foldl addL a
theorem addA_nil (a : List α) : addA a [] = a := rfl
theorem addA_cons (a : List α) (x : α) (l : List α) : addA a (x :: l) = addA (addL a x) l := rfl
theorem addA_app (a l m : List α) : addA a (l ++ m) = addA (addA a l) m := by unfold addA; rw [List.foldl_append]
theorem addA_take (a l : List α) (k : Nat) (hk : k < l.length) : addA a (l.take (k + 1)) = addL (addA a (l.take k)) l[k] := by
  rw [List.take_succ_eq_append_getElem hk, addA_app]; rfl
theorem addA_cut (a l : List α) : ∃ m, addA a l = a ++ m := by
  induction l generalizing a with
  | nil => exact ⟨[], by simp [addA]⟩
  | cons x l ih =>
    obtain ⟨m, hm⟩ := ih (addL a x)
    obtain ⟨m', hm'⟩ := addL_cut a x
    exact ⟨m' ++ m, by rw [addA_cons, hm, hm', List.append_assoc]⟩
theorem addA_nodup {a : List α} (ha : a.Nodup) (l : List α) : (addA a l).Nodup := by
  induction l generalizing a with
  | nil => exact ha
  | cons x l ih => exact ih (addL_nodup ha)
theorem mem_addA {a l : List α} {s : α} : s ∈ addA a l ↔ s ∈ a ∨ s ∈ l := by
  induction l generalizing a with
  | nil => simp [addA]
  | cons x l ih => rw [addA_cons, ih, mem_addL, List.mem_cons, or_assoc]
theorem addA_len (a l : List α) : a.length ≤ (addA a l).length ∧ (addA a l).length ≤ a.length + l.length := by
  induction l generalizing a with
  | nil => simp [addA]
  | cons x l ih =>
    have h1 := ih (addL a x)
    have h2 := addL_len a x
    rw [addA_cons, List.length_cons]
    omega
theorem addA_old {a l : List α} (h : ∀ s ∈ l, s ∈ a) : addA a l = a := by
  induction l generalizing a with
  | nil => rfl
  | cons x l ih => rw [addA_cons, addL_old (h x List.mem_cons_self)]; exact ih fun s hs => h s (List.mem_cons_of_mem _ hs)
theorem addA_all {a l : List α} (h : (a ++ l).Nodup) : addA a l = a ++ l := by
  induction l generalizing a with
  | nil => simp [addA]
  | cons x l ih =>
    have hx : x ∉ a := fun hm => (List.nodup_append.1 h).2.2 x hm x List.mem_cons_self rfl
    rw [addA_cons, addL_new hx, ih (by simpa using h)]
    simp
/-- As long as all together exactly if nothing comes twice. -/
theorem addA_full {a l : List α} (ha : a.Nodup) : (addA a l).length = a.length + l.length ↔ (a ++ l).Nodup := by
  constructor
  · induction l generalizing a with
    | nil => intro _; simpa using ha
    | cons x l ih =>
      intro h
      rw [addA_cons, List.length_cons] at h
      have h1 := addA_len (addL a x) l
      have h2 := addL_len a x
      have hx : x ∉ a := fun hm => by rw [addL_old hm] at h h1; omega
      rw [addL_new hx] at h
      have := ih (a := a ++ [x]) (by have := addL_nodup (s := x) ha; rwa [addL_new hx] at this) (by rw [h, List.length_append]; simp; omega)
      simpa using this
  · intro h
    rw [addA_all h, List.length_append]
theorem pm_addA {a l : List α} {s : α} {k : Nat} (h : pm 0 a s = some k) : pm 0 (addA a l) s = some k := by
  obtain ⟨m, hm⟩ := addA_cut a l
  rw [hm, pm_pre (mem_of_pm h), h]
end
end Go.Proofs.YthppefkamklakaaDoor
