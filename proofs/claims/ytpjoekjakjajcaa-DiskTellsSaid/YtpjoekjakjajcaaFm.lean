/-
  Plain mathematics of the reference's disk (ladingref02): strings as functions (Rep), its state (FS), and how it goes with the state of the program's disk (RR).
-/
import Derived.Test.YtpjoekjakjajcaaDo
namespace Go.Proofs.Ytpjoekjakjajcaa
open Go.RowKit

abbrev Txt := List UInt8
/-- L holds the bytes F up to z; behind them F is 0. -/
def Rep (L : Txt) (F : Nat → UInt8) (z : Nat) : Prop := L.length = z ∧ ∀ i, L.getD i 0 = F i
theorem Rep.nil : Rep [] (fun _ => 0) 0 := ⟨rfl, fun i => by simp⟩
theorem Rep.congr {L : Txt} {F G : Nat → UInt8} {z : Nat} (h : Rep L F z) (hG : ∀ i, F i = G i) : Rep L G z := ⟨h.1, fun i => (h.2 i).trans (hG i)⟩
theorem Rep.get {L : Txt} {F : Nat → UInt8} {z : Nat} (h : Rep L F z) (i : Nat) (hi : i < L.length) : L[i] = F i := by
  have := h.2 i
  rw [List.getD_eq_getElem?_getD, List.getElem?_eq_getElem hi] at this
  exact this
theorem Rep.sub {L : Txt} {F : Nat → UInt8} {z : Nat} (h : Rep L F z) (a n : Nat) (hn : a + n ≤ z) : (L.drop a).take n = (List.range n).map fun i => F (a + i) := by
  have h1 := h.1
  apply List.ext_getElem
  · simp; omega
  · intro i hi1 hi2
    simp only [List.length_map, List.length_range] at hi2
    rw [List.getElem_take, List.getElem_drop, h.get _ (by omega)]
    simp
theorem getD_take (L : Txt) (n i : Nat) : (L.take n).getD i 0 = if i < n then L.getD i 0 else 0 := by
  rw [List.getD_eq_getElem?_getD, List.getElem?_take, List.getD_eq_getElem?_getD]
  split <;> rfl
theorem getD_drop (L : Txt) (n i : Nat) : (L.drop n).getD i 0 = L.getD (n + i) 0 := by
  rw [List.getD_eq_getElem?_getD, List.getElem?_drop, List.getD_eq_getElem?_getD]
theorem Rep.take {L : Txt} {F : Nat → UInt8} {z : Nat} (h : Rep L F z) {n : Nat} (hn : n ≤ z) : Rep (L.take n) (fun i => if n ≤ i then 0 else F i) n := by
  refine ⟨by rw [List.length_take, h.1]; omega, fun i => ?_⟩
  rw [getD_take, h.2]
  show _ = if n ≤ i then 0 else F i
  by_cases c : i < n
  · rw [if_pos c, if_neg (by omega)]
  · rw [if_neg c, if_pos (by omega)]
theorem getD_far (L : Txt) (i : Nat) (h : L.length ≤ i) : L.getD i 0 = 0 := by
  rw [List.getD_eq_getElem?_getD, List.getElem?_eq_none h]; rfl

/-- Bytes put into a string at a place. -/
def fillL (L : Txt) (n : Nat) : Txt := L ++ List.replicate (n - L.length) 0
def putL (L : Txt) (a : Nat) (t : Txt) : Txt := if t = [] then L else (fillL L (a + t.length)).take a ++ (t ++ (fillL L (a + t.length)).drop (a + t.length))
theorem fillL_len (L : Txt) (n : Nat) : (fillL L n).length = max L.length n := by unfold fillL; simp; omega
theorem fillL_get (L : Txt) (n i : Nat) : (fillL L n).getD i 0 = L.getD i 0 := by
  unfold fillL
  rw [List.getD_eq_getElem?_getD, List.getD_eq_getElem?_getD]
  by_cases h : i < L.length
  · rw [List.getElem?_append_left h]
  · rw [List.getElem?_append_right (by omega), List.getElem?_replicate, List.getElem?_eq_none (show L.length ≤ i by omega)]
    split <;> rfl
theorem putL_len (L : Txt) (a : Nat) (t : Txt) (h : t ≠ []) : (putL L a t).length = max L.length (a + t.length) := by
  unfold putL
  rw [if_neg h]
  have h1 := fillL_len L (a + t.length)
  simp only [List.length_append, List.length_take, List.length_drop, h1]
  omega
theorem putL_get (L : Txt) (a : Nat) (t : Txt) (h : t ≠ []) (i : Nat) : (putL L a t).getD i 0 = if a ≤ i ∧ i < a + t.length then t.getD (i - a) 0 else L.getD i 0 := by
  unfold putL
  rw [if_neg h]
  have h1 := fillL_len L (a + t.length)
  have h2 : ((fillL L (a + t.length)).take a).length = a := by rw [List.length_take, h1]; omega
  rw [List.getD_eq_getElem?_getD]
  by_cases c1 : i < a
  · rw [List.getElem?_append_left (by omega), List.getElem?_take, if_pos c1, if_neg (by omega), ← List.getD_eq_getElem?_getD, fillL_get]
  · rw [List.getElem?_append_right (by omega), h2]
    by_cases c2 : i < a + t.length
    · rw [List.getElem?_append_left (by omega), if_pos ⟨by omega, c2⟩, List.getD_eq_getElem?_getD]
    · rw [List.getElem?_append_right (by omega), if_neg (by omega), List.getElem?_drop, ← List.getD_eq_getElem?_getD, fillL_get]
      congr 1; omega
theorem Rep.put {L : Txt} {F : Nat → UInt8} {z : Nat} (h : Rep L F z) (a : Nat) (t : Txt) (ht : t ≠ []) : Rep (putL L a t) (fun i => if a ≤ i ∧ i < a + t.length then t.getD (i - a) 0 else F i) (max z (a + t.length)) :=
  ⟨by rw [putL_len _ _ _ ht, h.1], fun i => by rw [putL_get _ _ _ ht, h.2]⟩

/-! ### The reference's state -/
structure FS where
  fl : List (Nat × Txt × Txt)
  q : List (Nat × Nat)
  lost : Nat
  down : Bool
  armed : Nat
  keep : List Int
/-- The file with a number. -/
def getF (l : List (Nat × Txt × Txt)) (f : Nat) : Txt × Txt := ((l.find? fun p => p.1 == f).map (·.2)).getD ([], [])
def setF (l : List (Nat × Txt × Txt)) (f : Nat) (x : Txt × Txt) : List (Nat × Txt × Txt) := l.filter (fun p => decide (p.1 ≠ f)) ++ [(f, x)]
theorem find_filter (l : List (Nat × Txt × Txt)) (f g : Nat) (h : g ≠ f) : (l.filter (fun p => decide (p.1 ≠ f))).find? (fun p => p.1 == g) = l.find? (fun p => p.1 == g) := by
  induction l with
  | nil => rfl
  | cons a l ih =>
    rw [List.filter_cons]
    by_cases c : a.1 = f
    · rw [if_neg (by simpa using c), ih, List.find?_cons_of_neg]
      simpa [c] using fun e => h e.symm
    · rw [if_pos (by simpa using c)]
      by_cases d : a.1 = g
      · rw [List.find?_cons_of_pos (by simpa using d), List.find?_cons_of_pos (by simpa using d)]
      · rw [List.find?_cons_of_neg (by simpa using d), List.find?_cons_of_neg (by simpa using d), ih]
theorem find_none (l : List (Nat × Txt × Txt)) (f : Nat) : (l.filter (fun p => decide (p.1 ≠ f))).find? (fun p => p.1 == f) = none := by
  rw [List.find?_eq_none]
  intro p hp
  have := (List.mem_filter.1 hp).2
  simpa using this
theorem get_same (l : List (Nat × Txt × Txt)) (f : Nat) (x : Txt × Txt) : getF (setF l f x) f = x := by
  unfold getF setF
  rw [List.find?_append, find_none]
  simp
theorem get_other (l : List (Nat × Txt × Txt)) (f g : Nat) (x : Txt × Txt) (h : g ≠ f) : getF (setF l f x) g = getF l g := by
  unfold getF setF
  rw [List.find?_append, find_filter l f g h]
  cases l.find? (fun p => p.1 == g) with
  | some p => rfl
  | none =>
    have : (f == g) = false := beq_eq_false_iff_ne.2 (fun e => h e.symm)
    simp [this]
/-- Files have different numbers, from 0 to 15. -/
structure Fine (l : List (Nat × Txt × Txt)) : Prop where
  nodup : (l.map (·.1)).Nodup
  small : ∀ p ∈ l, p.1 < 16
theorem Fine.nil : Fine [] := ⟨by simp, by simp⟩
theorem Fine.len {l : List (Nat × Txt × Txt)} (h : Fine l) : l.length ≤ 16 := by
  have := nodup_lt 16 (l.map (·.1)) h.nodup (fun x hx => by
    obtain ⟨p, hp, rfl⟩ := List.mem_map.1 hx
    exact h.small p hp)
  rwa [List.length_map] at this
theorem Fine.set {l : List (Nat × Txt × Txt)} (h : Fine l) {f : Nat} (hf : f < 16) (x : Txt × Txt) : Fine (setF l f x) := by
  unfold setF
  refine ⟨?_, fun p hp => ?_⟩
  · rw [List.map_append, List.nodup_append]
    refine ⟨List.Nodup.sublist (List.Sublist.map _ (List.filter_sublist)) h.nodup, by simp, ?_⟩
    intro a ha b hb
    obtain ⟨p, hp, rfl⟩ := List.mem_map.1 ha
    have := (List.mem_filter.1 hp).2
    simp at hb this
    subst hb
    exact this
  · rcases List.mem_append.1 hp with hp | hp
    · exact h.small p (List.mem_filter.1 hp).1
    · rw [List.mem_singleton] at hp; subst hp; exact hf
/-- How the two states go together. -/
structure RR (r : FS) (s : RS) : Prop where
  now : ∀ f, f < 16 → Rep (getF r.fl f).1 (s.now f) (s.sz f)
  dur : ∀ f, f < 16 → Rep (getF r.fl f).2 (s.dur f) (s.dz f)
  q : r.q = s.q
  lost : r.lost = s.lost
  down : r.down = s.down
  armed : r.armed = s.calls
  keep : 0 < s.calls → r.keep = s.keep
  fine : Fine r.fl
def newF : FS := ⟨[], [], 0, false, 0, []⟩
theorem rr_new : RR newF newS := ⟨fun _ _ => Rep.nil, fun _ _ => Rep.nil, rfl, rfl, rfl, rfl, fun h => absurd h (by decide), Fine.nil⟩

/-- settle. -/
def settleF (r : FS) (f : Nat) (x : Txt) : FS := { r with fl := setF r.fl f (x, x), q := r.q.filter fun p => decide (p.1 ≠ f) }
theorem rr_settle {r : FS} {s : RS} (h : RR r s) {f : Nat} (hf : f < 16) : RR (settleF r f (getF r.fl f).1) (settleS s f) := by
  refine ⟨fun g hg => ?_, fun g hg => ?_, by show r.q.filter _ = s.q.filter _; rw [h.q], h.lost, h.down, h.armed, h.keep, h.fine.set hf _⟩
  · show Rep (getF (setF r.fl f _) g).1 (s.now g) (s.sz g)
    by_cases c : g = f
    · subst c; rw [get_same]; exact h.now g hg
    · rw [get_other _ _ _ _ c]; exact h.now g hg
  · show Rep (getF (setF r.fl f _) g).2 (fun i => if g = f then s.now f i else s.dur g i) (if g = f then s.sz f else s.dz g)
    by_cases c : g = f
    · subst c; rw [get_same, if_pos rfl]; exact (h.now g hg).congr fun i => by rw [if_pos rfl]
    · rw [get_other _ _ _ _ c, if_neg c]; exact (h.dur g hg).congr fun i => by rw [if_neg c]
theorem rr_cut {r : FS} {s : RS} (h : RR r s) {f n : Nat} (hf : f < 16) (hn : n ≤ s.sz f) : RR (settleF r f ((getF r.fl f).1.take n)) (cutS (settleS s f) f n) := by
  refine ⟨fun g hg => ?_, fun g hg => ?_, by show r.q.filter _ = s.q.filter _; rw [h.q], h.lost, h.down, h.armed, h.keep, h.fine.set hf _⟩
  · show Rep (getF (setF r.fl f _) g).1 (fun i => if g = f ∧ n ≤ i then 0 else s.now g i) (if g = f then n else s.sz g)
    by_cases c : g = f
    · subst c; rw [get_same, if_pos rfl]; exact ((h.now g hg).take hn).congr fun i => by simp
    · rw [get_other _ _ _ _ c, if_neg c]; exact (h.now g hg).congr fun i => by simp [c]
  · show Rep (getF (setF r.fl f _) g).2 (fun i => if g = f then (if n ≤ i then 0 else s.now f i) else (if g = f then s.now f i else s.dur g i)) (if g = f then n else (if g = f then s.sz f else s.dz g))
    by_cases c : g = f
    · subst c; rw [get_same, if_pos rfl]; exact ((h.now g hg).take hn).congr fun i => by simp
    · rw [get_other _ _ _ _ c, if_neg c, if_neg c]; exact (h.dur g hg).congr fun i => by simp [c]
end Go.Proofs.Ytpjoekjakjajcaa
