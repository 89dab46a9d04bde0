/-
  Plain mathematics of the reference's disk: a write, a crash.
-/
import Derived.Test.YtjcajgcfkidbkaaDoorGd
namespace Go.Proofs.YtjcajgcfkidbkaaDoor
open Go.RowKit

abbrev Txt := List UInt8
/-- L holds the bytes F up to z; behind them F is 0. -/
def Rep (L : Txt) (F : Nat → UInt8) (z : Nat) : Prop := L.length = z ∧ ∀ i, L.getD i 0 = F i
theorem Rep.nil : Rep [] (fun _ => 0) 0 := ⟨rfl, fun i => by simp⟩
theorem Rep.congr {L : Txt} {F G : Nat → UInt8} {z : Nat} (h : Rep L F z) (hG : ∀ i, F i = G i) : Rep L G z := ⟨h.1, fun i => (h.2 i).trans (hG i)⟩
theorem Rep.get {L : Txt} {F : Nat → UInt8} {z : Nat} (h : Rep L F z) (i : Nat) (hi : i < L.length) : L[i] = F i := by
  have := h.2 i
  rw [List.getD_eq_getElem?_getD, List.getElem?_eq_getElem hi] at this
  exact this
theorem Rep.sub {L : Txt} {F : Nat → UInt8} {z : Nat} (h : Rep L F z) (a n : Nat) (hn : a + n ≤ z) : (L.drop a).take n = (List.range n).map fun i => F (a + i) := by
  have h1 := h.1
  apply List.ext_getElem
  · simp; omega
  · intro i hi1 hi2
    simp only [List.length_map, List.length_range] at hi2
    rw [List.getElem_take, List.getElem_drop, h.get _ (by omega)]
    simp
theorem getD_take (L : Txt) (n i : Nat) : (L.take n).getD i 0 = if i < n then L.getD i 0 else 0 := by
  rw [List.getD_eq_getElem?_getD, List.getElem?_take, List.getD_eq_getElem?_getD]
  split <;> rfl
theorem getD_drop (L : Txt) (n i : Nat) : (L.drop n).getD i 0 = L.getD (n + i) 0 := by
  rw [List.getD_eq_getElem?_getD, List.getElem?_drop, List.getD_eq_getElem?_getD]
theorem Rep.take {L : Txt} {F : Nat → UInt8} {z : Nat} (h : Rep L F z) {n : Nat} (hn : n ≤ z) : Rep (L.take n) (fun i => if n ≤ i then 0 else F i) n := by
  refine ⟨by rw [List.length_take, h.1]; omega, fun i => ?_⟩
  rw [getD_take, h.2]
  show _ = if n ≤ i then 0 else F i
  by_cases c : i < n
  · rw [if_pos c, if_neg (by omega)]
  · rw [if_neg c, if_pos (by omega)]
theorem getD_far (L : Txt) (i : Nat) (h : L.length ≤ i) : L.getD i 0 = 0 := by
  rw [List.getD_eq_getElem?_getD, List.getElem?_eq_none h]; rfl

/-- Bytes put into a string at a place. -/
def fillL (L : Txt) (n : Nat) : Txt := L ++ List.replicate (n - L.length) 0
def putL (L : Txt) (a : Nat) (t : Txt) : Txt := if t = [] then L else (fillL L (a + t.length)).take a ++ (t ++ (fillL L (a + t.length)).drop (a + t.length))
theorem fillL_len (L : Txt) (n : Nat) : (fillL L n).length = max L.length n := by unfold fillL; simp; omega
theorem fillL_get (L : Txt) (n i : Nat) : (fillL L n).getD i 0 = L.getD i 0 := by
  unfold fillL
  rw [List.getD_eq_getElem?_getD, List.getD_eq_getElem?_getD]
  by_cases h : i < L.length
  · rw [List.getElem?_append_left h]
  · rw [List.getElem?_append_right (by omega), List.getElem?_replicate, List.getElem?_eq_none (show L.length ≤ i by omega)]
    split <;> rfl
theorem putL_len (L : Txt) (a : Nat) (t : Txt) (h : t ≠ []) : (putL L a t).length = max L.length (a + t.length) := by
  unfold putL
  rw [if_neg h]
  have h1 := fillL_len L (a + t.length)
  simp only [List.length_append, List.length_take, List.length_drop, h1]
  omega
theorem putL_get (L : Txt) (a : Nat) (t : Txt) (h : t ≠ []) (i : Nat) : (putL L a t).getD i 0 = if a ≤ i ∧ i < a + t.length then t.getD (i - a) 0 else L.getD i 0 := by
  unfold putL
  rw [if_neg h]
  have h1 := fillL_len L (a + t.length)
  have h2 : ((fillL L (a + t.length)).take a).length = a := by rw [List.length_take, h1]; omega
  rw [List.getD_eq_getElem?_getD]
  by_cases c1 : i < a
  · rw [List.getElem?_append_left (by omega), List.getElem?_take, if_pos c1, if_neg (by omega), ← List.getD_eq_getElem?_getD, fillL_get]
  · rw [List.getElem?_append_right (by omega), h2]
    by_cases c2 : i < a + t.length
    · rw [List.getElem?_append_left (by omega), if_pos ⟨by omega, c2⟩, List.getD_eq_getElem?_getD]
    · rw [List.getElem?_append_right (by omega), if_neg (by omega), List.getElem?_drop, ← List.getD_eq_getElem?_getD, fillL_get]
      congr 1; omega
theorem Rep.put {L : Txt} {F : Nat → UInt8} {z : Nat} (h : Rep L F z) (a : Nat) (t : Txt) (ht : t ≠ []) : Rep (putL L a t) (fun i => if a ≤ i ∧ i < a + t.length then t.getD (i - a) 0 else F i) (max z (a + t.length)) :=
  ⟨by rw [putL_len _ _ _ ht, h.1], fun i => by rw [putL_get _ _ _ ht, h.2]⟩

/-! ### The reference's state -/
structure FS where
  fl : List (Nat × Txt × Txt)
  q : List (Nat × Nat)
  lost : Nat
  down : Bool
  armed : Nat
  keep : List Int
/-- The file with a number. -/
def getF (l : List (Nat × Txt × Txt)) (f : Nat) : Txt × Txt := ((l.find? fun p => p.1 == f).map (·.2)).getD ([], [])
def setF (l : List (Nat × Txt × Txt)) (f : Nat) (x : Txt × Txt) : List (Nat × Txt × Txt) := l.filter (fun p => decide (p.1 ≠ f)) ++ [(f, x)]
theorem find_filter (l : List (Nat × Txt × Txt)) (f g : Nat) (h : g ≠ f) : (l.filter (fun p => decide (p.1 ≠ f))).find? (fun p => p.1 == g) = l.find? (fun p => p.1 == g) := by
  induction l with
  | nil => rfl
  | cons a l ih =>
    rw [List.filter_cons]
    by_cases c : a.1 = f
    · rw [if_neg (by simpa using c), ih, List.find?_cons_of_neg]
      simpa [c] using fun e => h e.symm
    · rw [if_pos (by simpa using c)]
      by_cases d : a.1 = g
      · rw [List.find?_cons_of_pos (by simpa using d), List.find?_cons_of_pos (by simpa using d)]
      · rw [List.find?_cons_of_neg (by simpa using d), List.find?_cons_of_neg (by simpa using d), ih]
theorem find_none (l : List (Nat × Txt × Txt)) (f : Nat) : (l.filter (fun p => decide (p.1 ≠ f))).find? (fun p => p.1 == f) = none := by
  rw [List.find?_eq_none]
  intro p hp
  have := (List.mem_filter.1 hp).2
  simpa using this
theorem get_same (l : List (Nat × Txt × Txt)) (f : Nat) (x : Txt × Txt) : getF (setF l f x) f = x := by
  unfold getF setF
  rw [List.find?_append, find_none]
  simp
theorem get_other (l : List (Nat × Txt × Txt)) (f g : Nat) (x : Txt × Txt) (h : g ≠ f) : getF (setF l f x) g = getF l g := by
  unfold getF setF
  rw [List.find?_append, find_filter l f g h]
  cases l.find? (fun p => p.1 == g) with
  | some p => rfl
  | none =>
    have : (f == g) = false := beq_eq_false_iff_ne.2 (fun e => h e.symm)
    simp [this]
/-- Files have different numbers, from 0 to 15. -/
structure Fine (l : List (Nat × Txt × Txt)) : Prop where
  nodup : (l.map (·.1)).Nodup
  small : ∀ p ∈ l, p.1 < 16
theorem Fine.nil : Fine [] := ⟨by simp, by simp⟩
theorem Fine.len {l : List (Nat × Txt × Txt)} (h : Fine l) : l.length ≤ 16 := by
  have := nodup_lt 16 (l.map (·.1)) h.nodup (fun x hx => by
    obtain ⟨p, hp, rfl⟩ := List.mem_map.1 hx
    exact h.small p hp)
  rwa [List.length_map] at this
theorem Fine.set {l : List (Nat × Txt × Txt)} (h : Fine l) {f : Nat} (hf : f < 16) (x : Txt × Txt) : Fine (setF l f x) := by
  unfold setF
  refine ⟨?_, fun p hp => ?_⟩
  · rw [List.map_append, List.nodup_append]
    refine ⟨List.Nodup.sublist (List.Sublist.map _ (List.filter_sublist)) h.nodup, by simp, ?_⟩
    intro a ha b hb
    obtain ⟨p, hp, rfl⟩ := List.mem_map.1 ha
    have := (List.mem_filter.1 hp).2
    simp at hb this
    subst hb
    exact this
  · rcases List.mem_append.1 hp with hp | hp
    · exact h.small p (List.mem_filter.1 hp).1
    · rw [List.mem_singleton] at hp; subst hp; exact hf
/-- How the two states go together. -/
structure RR (r : FS) (s : RS) : Prop where
  now : ∀ f, f < 16 → Rep (getF r.fl f).1 (s.now f) (s.sz f)
  dur : ∀ f, f < 16 → Rep (getF r.fl f).2 (s.dur f) (s.dz f)
  q : r.q = s.q
  lost : r.lost = s.lost
  down : r.down = s.down
  armed : r.armed = s.calls
  keep : 0 < s.calls → r.keep = s.keep
  fine : Fine r.fl
def newF : FS := ⟨[], [], 0, false, 0, []⟩
theorem rr_new : RR newF newS := ⟨fun _ _ => Rep.nil, fun _ _ => Rep.nil, rfl, rfl, rfl, rfl, fun h => absurd h (by decide), Fine.nil⟩

/-- settle. -/
def settleF (r : FS) (f : Nat) (x : Txt) : FS := { r with fl := setF r.fl f (x, x), q := r.q.filter fun p => decide (p.1 ≠ f) }
theorem rr_settle {r : FS} {s : RS} (h : RR r s) {f : Nat} (hf : f < 16) : RR (settleF r f (getF r.fl f).1) (settleS s f) := by
  refine ⟨fun g hg => ?_, fun g hg => ?_, by show r.q.filter _ = s.q.filter _; rw [h.q], h.lost, h.down, h.armed, h.keep, h.fine.set hf _⟩
  · show Rep (getF (setF r.fl f _) g).1 (s.now g) (s.sz g)
    by_cases c : g = f
    · subst c; rw [get_same]; exact h.now g hg
    · rw [get_other _ _ _ _ c]; exact h.now g hg
  · show Rep (getF (setF r.fl f _) g).2 (fun i => if g = f then s.now f i else s.dur g i) (if g = f then s.sz f else s.dz g)
    by_cases c : g = f
    · subst c; rw [get_same, if_pos rfl]; exact (h.now g hg).congr fun i => by rw [if_pos rfl]
    · rw [get_other _ _ _ _ c, if_neg c]; exact (h.dur g hg).congr fun i => by rw [if_neg c]
theorem rr_cut {r : FS} {s : RS} (h : RR r s) {f n : Nat} (hf : f < 16) (hn : n ≤ s.sz f) : RR (settleF r f ((getF r.fl f).1.take n)) (cutS (settleS s f) f n) := by
  refine ⟨fun g hg => ?_, fun g hg => ?_, by show r.q.filter _ = s.q.filter _; rw [h.q], h.lost, h.down, h.armed, h.keep, h.fine.set hf _⟩
  · show Rep (getF (setF r.fl f _) g).1 (fun i => if g = f ∧ n ≤ i then 0 else s.now g i) (if g = f then n else s.sz g)
    by_cases c : g = f
    · subst c; rw [get_same, if_pos rfl]; exact ((h.now g hg).take hn).congr fun i => by simp
    · rw [get_other _ _ _ _ c, if_neg c]; exact (h.now g hg).congr fun i => by simp [c]
  · show Rep (getF (setF r.fl f _) g).2 (fun i => if g = f then (if n ≤ i then 0 else s.now f i) else (if g = f then s.now f i else s.dur g i)) (if g = f then n else (if g = f then s.sz f else s.dz g))
    by_cases c : g = f
    · subst c; rw [get_same, if_pos rfl]; exact ((h.now g hg).take hn).congr fun i => by simp
    · rw [get_other _ _ _ _ c, if_neg c, if_neg c]; exact (h.dur g hg).congr fun i => by simp [c]
end Go.Proofs.YtjcajgcfkidbkaaDoor
namespace Go.Proofs.YtjcajgcfkidbkaaDoor
open Go.RowKit

/-- The sectors of a write that are not pending yet. -/
def newF' (q : List (Nat × Nat)) (f m c : Nat) : List (Nat × Nat) := ((List.range' m c).filter fun x => decide ((f, x) ∉ q)).map fun x => (f, x)
theorem newF_eq {r : FS} {s : RS} (h : RR r s) (hI : Inv s) (f m c : Nat) : newF' r.q f m c = newQ s f m c := by
  unfold newF' newQ
  congr 1
  refine List.filter_congr fun x _ => ?_
  rw [h.q]
  cases hp : s.pd f x with
  | true => have := (hI.pd f x).1 hp; simp [this]
  | false => have : (f, x) ∉ s.q := fun hm => by rw [(hI.pd f x).2 hm] at hp; cases hp
             simp [this]
/-- A write that is possible. -/
def addF (r : FS) (f at_ : Nat) (l : Txt) : FS := if l = [] then r else { r with fl := setF r.fl f (putL (getF r.fl f).1 at_ l, (getF r.fl f).2), q := r.q ++ newF' r.q f (at_ / 64) (tot at_ l.length) }
theorem rr_add {r : FS} {s : RS} (h : RR r s) (hI : Inv s) {f at_ : Nat} {l : Txt} (hf : f < 16) (hl : l ≠ []) : RR (addF r f at_ l) (putS s f at_ l) := by
  have hp := pos_tot at_ l.length (List.length_pos_iff.2 hl)
  unfold addF
  rw [if_neg hl]
  refine ⟨fun g hg => ?_, fun g hg => ?_, ?_, h.lost, h.down, h.armed, h.keep, h.fine.set hf _⟩
  · show Rep (getF (setF r.fl f _) g).1 (fun i => if g = f ∧ at_ ≤ i ∧ i < at_ + pos at_ l.length (tot at_ l.length) then l.getD (i - at_) 0 else s.now g i) (if g = f then max (s.sz f) (at_ + l.length) else s.sz g)
    rw [hp]
    by_cases c : g = f
    · subst c; rw [get_same, if_pos rfl]; exact ((h.now g hg).put at_ l hl).congr fun i => by simp
    · rw [get_other _ _ _ _ c, if_neg c]; exact (h.now g hg).congr fun i => by simp [c]
  · show Rep (getF (setF r.fl f _) g).2 (s.dur g) (s.dz g)
    by_cases c : g = f
    · subst c; rw [get_same]; exact h.dur g hg
    · rw [get_other _ _ _ _ c]; exact h.dur g hg
  · show r.q ++ newF' r.q f _ _ = s.q ++ newQ s f _ _
    rw [newF_eq h hI, h.q]
theorem rr_wr {r : FS} {s : RS} (h : RR r s) (hI : Inv s) {f at_ : Int} {l : Txt} (hc : chk f at_ l.length = 0) : RR (addF r f.toNat at_.toNat l) (wrS s f at_ l) := by
  unfold wrS
  by_cases hl : l = []
  · rw [if_neg (fun h => h.2 hl)]; unfold addF; rw [if_pos hl]; exact h
  · rw [if_pos ⟨hc, hl⟩]
    refine rr_add h hI ?_ hl
    unfold chk at hc
    split at hc
    · cases hc
    · omega

/-- A sector survives. -/
def survL (fl : List (Nat × Txt × Txt)) (p : Nat × Nat) : List (Nat × Txt × Txt) :=
  setF fl p.1 ((getF fl p.1).1, if 64 * p.2 < (getF fl p.1).1.length then putL (getF fl p.1).2 (64 * p.2) (((getF fl p.1).1.drop (64 * p.2)).take (min (64 * p.2 + 64) (getF fl p.1).1.length - 64 * p.2)) else (getF fl p.1).2)
/-- The files when a crash has looked at k pending sectors. -/
def crF (fl : List (Nat × Txt × Txt)) (q : List (Nat × Nat)) (ks : List Int) : Nat → List (Nat × Txt × Txt)
  | 0 => fl
  | k + 1 => if h : k < q.length then (if kept ks k = true then survL (crF fl q ks k) (q[k]) else crF fl q ks k) else crF fl q ks k
theorem crF_fine {fl : List (Nat × Txt × Txt)} {q : List (Nat × Nat)} (h : Fine fl) (hq : ∀ p ∈ q, p.1 < 16) (ks : List Int) (k : Nat) : Fine (crF fl q ks k) := by
  induction k with
  | zero => exact h
  | succ k ih =>
    unfold crF
    split
    · split
      · exact ih.set (hq _ (List.getElem_mem _)) _
      · exact ih
    · exact ih
theorem crF_succ (fl : List (Nat × Txt × Txt)) (q : List (Nat × Nat)) (ks : List Int) (k : Nat) (h : k < q.length) : crF fl q ks (k + 1) = if kept ks k = true then survL (crF fl q ks k) (q[k]) else crF fl q ks k := by
  show (if h : k < q.length then _ else _) = _
  rw [dif_pos h]
theorem rr_crK {r : FS} {s : RS} (h : RR r s) (hI : Inv s) (ks : List Int) (k : Nat) (hk : k ≤ s.q.length) :
    ∀ f, f < 16 → (getF (crF r.fl r.q ks k) f).1 = (getF r.fl f).1 ∧ Rep (getF (crF r.fl r.q ks k) f).2 ((crK s ks k).dur f) ((crK s ks k).dz f) := by
  induction k with
  | zero => exact fun f hf => ⟨rfl, h.dur f hf⟩
  | succ k ih =>
    intro f hf
    have hlt : k < s.q.length := hk
    have ih := ih (by omega)
    have hq0 : r.q = s.q := h.q
    have hltr : k < r.q.length := by rw [hq0]; exact hlt
    rw [crF_succ _ _ _ _ hltr, crK_succ s ks k hlt]
    have hqk : r.q[k] = s.q[k] := by simp only [hq0]
    rw [hqk]
    obtain ⟨p, hp⟩ : ∃ p, p = s.q[k] := ⟨_, rfl⟩
    have hin := hI.inQ (s.q[k]) (List.getElem_mem hlt)
    have hnt := nodup_take hI.nodup hlt
    have hch := char_any hI ks k (Nat.le_of_lt hlt) (s.q[k]).1 (s.q[k]).2
    have hnow : ∀ i, i < 64 → (crK s ks k).now (s.q[k]).1 (64 * (s.q[k]).2 + i) = s.now (s.q[k]).1 (64 * (s.q[k]).2 + i) := by
      rcases hch with ⟨j, hj, hjk, hq, _⟩ | ⟨_, _, hh⟩
      · exact absurd (List.mem_take_iff_getElem.2 ⟨j, by omega, by rw [hq]⟩) hnt
      · exact fun i hi => (hh i hi).1
    rw [← hp] at hin hnow ⊢
    obtain ⟨g, n⟩ := p
    simp only at hin hnow
    have hdz := crK_dz hI ks k g
    have hsz : (crK s ks k).sz = s.sz := (crK_rest s ks k).1
    by_cases hkp : kept ks k = true
    · rw [if_pos hkp]
      unfold survL
      simp only
      have hN := h.now g hin.1
      obtain ⟨i1, i2⟩ := ih g hin.1
      rw [i1, if_pos (by rw [hN.1]; exact hin.2)]
      have ht : ((getF r.fl g).1.drop (64 * n)).take (min (64 * n + 64) (getF r.fl g).1.length - 64 * n) ≠ [] := by
        intro e
        have := congrArg List.length e
        rw [List.length_take, List.length_drop, hN.1, List.length_nil] at this
        omega
      have htl : (((getF r.fl g).1.drop (64 * n)).take (min (64 * n + 64) (getF r.fl g).1.length - 64 * n)).length = min (64 * n + 64) (s.sz g) - 64 * n := by
        rw [List.length_take, List.length_drop, hN.1]; omega
      by_cases c : f = g
      · subst c
        rw [get_same]
        refine ⟨rfl, ?_⟩
        show Rep _ (fun i => if f = f ∧ i / 64 = n ∧ kept ks k = true then (crK s ks k).now f i else (crK s ks k).dur f i) (if f = f ∧ kept ks k = true then max ((crK s ks k).dz f) (min ((n + 1) * 64) ((crK s ks k).sz f)) else (crK s ks k).dz f)
        rw [if_pos ⟨rfl, hkp⟩, hsz]
        have hput := i2.put (64 * n) _ ht
        refine ⟨by rw [hput.1, htl]; omega, fun i => ?_⟩
        rw [hput.2, htl]
        dsimp only
        by_cases c1 : i / 64 = n
        · refine Eq.trans ?_ (if_pos ⟨rfl, c1, hkp⟩).symm
          have hni := hnow (i - 64 * n) (by omega)
          rw [show 64 * n + (i - 64 * n) = i by omega] at hni
          rw [hni]
          by_cases c2 : i < s.sz f
          · rw [if_pos ⟨by omega, by omega⟩, getD_take, if_pos (by rw [hN.1]; omega), getD_drop, show 64 * n + (i - 64 * n) = i by omega]
            exact hN.2 i
          · rw [if_neg (by omega), hI.nz f i (by omega), ← i2.2 i]
            exact getD_far _ _ (by rw [i2.1]; omega)
        · refine (if_neg (by omega)).trans (if_neg (fun h => c1 h.2.1)).symm
      · rw [get_other _ _ _ _ c]
        obtain ⟨j1, j2⟩ := ih f hf
        refine ⟨j1, ?_⟩
        show Rep _ (fun i => if f = g ∧ i / 64 = n ∧ kept ks k = true then (crK s ks k).now g i else (crK s ks k).dur f i) (if f = g ∧ kept ks k = true then max ((crK s ks k).dz f) (min ((n + 1) * 64) ((crK s ks k).sz f)) else (crK s ks k).dz f)
        rw [if_neg (fun h => c h.1)]
        exact j2.congr fun i => by rw [if_neg (fun h => c h.1)]
    · rw [if_neg hkp]
      obtain ⟨j1, j2⟩ := ih f hf
      refine ⟨j1, ?_⟩
      show Rep _ (fun i => if f = g ∧ i / 64 = n ∧ kept ks k = true then (crK s ks k).now g i else (crK s ks k).dur f i) (if f = g ∧ kept ks k = true then max ((crK s ks k).dz f) (min ((n + 1) * 64) ((crK s ks k).sz f)) else (crK s ks k).dz f)
      rw [if_neg (fun h => hkp h.2)]
      exact j2.congr fun i => by rw [if_neg (fun h => hkp h.2.2)]
/-- Each file is what was durable. -/
def lastL (fl : List (Nat × Txt × Txt)) : List (Nat × Txt × Txt) := fl.map fun p => (p.1, p.2.2, p.2.2)
theorem get_last (fl : List (Nat × Txt × Txt)) (f : Nat) : getF (lastL fl) f = ((getF fl f).2, (getF fl f).2) := by
  unfold getF lastL
  induction fl with
  | nil => rfl
  | cons a l ih =>
    rw [List.map_cons]
    by_cases c : a.1 = f
    · rw [List.find?_cons_of_pos (by simpa using c), List.find?_cons_of_pos (by simpa using c)]; rfl
    · rw [List.find?_cons_of_neg (by simpa using c), List.find?_cons_of_neg (by simpa using c)]; exact ih
theorem Fine.last {fl : List (Nat × Txt × Txt)} (h : Fine fl) : Fine (lastL fl) := by
  have e : (lastL fl).map (·.1) = fl.map (·.1) := by unfold lastL; simp
  refine ⟨by rw [e]; exact h.nodup, fun p hp => ?_⟩
  unfold lastL at hp
  obtain ⟨x, hx, rfl⟩ := List.mem_map.1 hp
  exact h.small x hx
def crashF (r : FS) (ks : List Int) : FS := if r.down then r else { r with fl := lastL (crF r.fl r.q ks r.q.length), q := [], down := true, armed := 0 }
theorem rr_crash {r : FS} {s : RS} (h : RR r s) (hI : Inv s) (ks : List Int) : RR (crashF r ks) (crashS s ks) := by
  have hI2 := inv_crash hI ks
  unfold crashF
  unfold crashS at hI2 ⊢
  rw [h.down]
  cases hd : s.down with
  | true => simpa using h
  | false =>
    rw [hd] at hI2
    simp only [Bool.false_eq_true, if_false] at hI2 ⊢
    have hl : r.q.length = s.q.length := by rw [h.q]
    have hk := rr_crK h hI ks s.q.length (Nat.le_refl _)
    have hrest := crK_rest s ks s.q.length
    have hnow : ∀ f i, (crK s ks s.q.length).now f i = (crK s ks s.q.length).dur f i := fun f i => by
      have h1 := hI2.eq f (i / 64) (by
        cases hp : (crK s ks s.q.length).pd f (i / 64) with
        | false => rfl
        | true => have := (hI2.pd f (i / 64)).1 hp; simp at this) (i % 64) (by omega)
      rw [show 64 * (i / 64) + i % 64 = i by omega] at h1
      exact h1
    rw [hl]
    refine ⟨fun f hf => ?_, fun f hf => ?_, rfl, ?_, rfl, rfl, fun h => absurd h (Nat.lt_irrefl 0), Fine.last (crF_fine h.fine (fun p hp => by rw [h.q] at hp; exact (hI.inQ p hp).1) _ _)⟩
    · show Rep (getF (lastL _) f).1 ((crK s ks s.q.length).now f) ((crK s ks s.q.length).dz f)
      rw [get_last]
      exact (hk f hf).2.congr fun i => (hnow f i).symm
    · show Rep (getF (lastL _) f).2 ((crK s ks s.q.length).dur f) ((crK s ks s.q.length).dz f)
      rw [get_last]
      exact (hk f hf).2
    · show r.lost = (crK s ks s.q.length).lost
      rw [hrest.2.2.1]; exact h.lost
end Go.Proofs.YtjcajgcfkidbkaaDoor
