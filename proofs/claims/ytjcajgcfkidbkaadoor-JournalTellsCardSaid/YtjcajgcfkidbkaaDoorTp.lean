/-
  Plain mathematics about the state of a disk, for DiskSurvives: the last sector of a file that is longer than its durable part is pending; what a crash makes of a sector.
-/
import Derived.Test.YtjcajgcfkidbkaaDoorHd
namespace Go.Proofs.YtjcajgcfkidbkaaDoor
open Go.RowKit

/-- The last sector of what is not durable is pending. -/
def Top (s : RS) : Prop := ∀ f, s.dz f < s.sz f → s.pd f ((s.sz f - 1) / 64) = true
theorem top_new : Top newS := fun f h => absurd h (by simp [newS])
theorem top_calls {s : RS} (h : Top s) (n : Nat) : Top { s with calls := n } := h
theorem top_crash {s : RS} (h : Top s) (ks : List Int) : Top (crashS s ks) := by
  unfold crashS
  split
  · exact h
  · intro f hf
    exact absurd hf (Nat.lt_irrefl _)
theorem top_strike {s : RS} (h : Top s) : Top (strikeS s) := by
  unfold strikeS
  split
  · exact h
  · split
    · exact top_crash (top_calls h 0) _
    · exact top_calls h _
theorem top_settle {s : RS} (h : Top s) (g : Nat) : Top (settleS s g) := by
  intro f hf
  by_cases c : f = g
  · subst c
    change (if f = f then s.sz f else s.dz f) < s.sz f at hf
    rw [if_pos rfl] at hf
    exact absurd hf (Nat.lt_irrefl _)
  · change (if f = g then s.sz g else s.dz f) < s.sz f at hf
    rw [if_neg c] at hf
    show (if f = g then false else s.pd f ((s.sz f - 1) / 64)) = true
    rw [if_neg c]; exact h f hf
theorem top_cut {s : RS} (h : Top s) (g n : Nat) : Top (cutS s g n) := by
  intro f hf
  by_cases c : f = g
  · subst c
    change (if f = f then n else s.dz f) < (if f = f then n else s.sz f) at hf
    rw [if_pos rfl, if_pos rfl] at hf
    exact absurd hf (Nat.lt_irrefl _)
  · change (if f = g then n else s.dz f) < (if f = g then n else s.sz f) at hf
    rw [if_neg c, if_neg c] at hf
    show s.pd f (((if f = g then n else s.sz f) - 1) / 64) = true
    rw [if_neg c]; exact h f hf
theorem top_wr {s : RS} (h : Top s) (g at_ : Int) (l : List UInt8) : Top (wrS s g at_ l) := by
  unfold wrS
  split
  · rename_i hc
    have hl : 0 < l.length := List.length_pos_iff.2 hc.2
    generalize g.toNat = k
    generalize at_.toNat = a
    intro f hf
    change s.dz f < (if f = k then max (s.sz k) (a + l.length) else s.sz f) at hf
    show (if f = k ∧ a / 64 ≤ (((if f = k then max (s.sz k) (a + l.length) else s.sz f) - 1) / 64) ∧ (((if f = k then max (s.sz k) (a + l.length) else s.sz f) - 1) / 64) < a / 64 + tot a l.length then true else s.pd f (((if f = k then max (s.sz k) (a + l.length) else s.sz f) - 1) / 64)) = true
    by_cases c : f = k
    · subst c
      rw [if_pos rfl] at hf
      rw [if_pos rfl]
      by_cases c2 : s.sz f ≤ a + l.length
      · rw [Nat.max_eq_right c2]
        rw [if_pos ⟨rfl, (tot_eq a l.length hl _).2 ⟨by omega, by omega⟩⟩]
      · rw [Nat.max_eq_left (by omega)] at hf ⊢
        split
        · rfl
        · exact h f hf
    · rw [if_neg c] at hf
      rw [if_neg c, if_neg (fun h => c h.1)]
      exact h f hf
  · exact h
/-- What a crash makes of a sector. -/
theorem crash_sec {s : RS} (hI : Inv s) (hd : s.down = false) (ks : List Int) (f n : Nat) :
    (∀ j, j < 64 → (crashS s ks).now f (64 * n + j) = s.now f (64 * n + j)) ∨ (∀ j, j < 64 → (crashS s ks).now f (64 * n + j) = s.dur f (64 * n + j)) := by
  unfold crashS
  rw [if_neg (by rw [hd]; exact Bool.false_ne_true)]
  rcases char_any hI ks s.q.length (Nat.le_refl _) f n with ⟨m, hm, _, hq, _, hh⟩ | ⟨_, _, hh⟩
  · by_cases hk : kept ks m = true
    · exact .inl fun j hj => (hh j hj).1.trans (if_pos hk)
    · exact .inr fun j hj => (hh j hj).1.trans (if_neg hk)
  · exact .inl fun j hj => (hh j hj).1
theorem crash_sz {s : RS} (hI : Inv s) (hd : s.down = false) (ks : List Int) (f : Nat) : s.dz f ≤ (crashS s ks).sz f ∧ (crashS s ks).sz f ≤ s.sz f := by
  unfold crashS
  rw [if_neg (by rw [hd]; exact Bool.false_ne_true)]
  exact crK_dz hI ks _ f
theorem kept_one (j : Nat) : kept [1] j = true := by
  unfold kept
  rw [show [(1 : Int)].length = 1 from rfl, Nat.mod_one]
  rfl
theorem crash_all {s : RS} (hI : Inv s) (hT : Top s) (hd : s.down = false) (f i : Nat) : (crashS s [1]).now f i = s.now f i ∧ (crashS s [1]).sz f = s.sz f := by
  refine ⟨?_, ?_⟩
  · unfold crashS
    rw [if_neg (by rw [hd]; exact Bool.false_ne_true)]
    show (crK s [1] s.q.length).now f i = _
    have e : 64 * (i / 64) + i % 64 = i := by omega
    rw [← e]
    rcases char_any hI [1] s.q.length (Nat.le_refl _) f (i / 64) with ⟨m, hm, _, hq, _, hh⟩ | ⟨_, _, hh⟩
    · exact (hh _ (by omega)).1.trans (if_pos (kept_one m))
    · exact (hh _ (by omega)).1
  · have h1 := crash_sz hI hd [1] f
    by_cases c : s.dz f < s.sz f
    · have hm := (hI.pd f _).1 (hT f c)
      obtain ⟨j, hj, e⟩ := List.getElem_of_mem hm
      have h2 := crK_dz_kept s [1] s.q.length (Nat.le_refl _) j hj (kept_one j)
      simp only [e] at h2
      have h3 : (crashS s [1]).sz f = (crK s [1] s.q.length).dz f := by
        unfold crashS
        rw [if_neg (by rw [hd]; exact Bool.false_ne_true)]
      rw [← h3] at h2
      omega
    · omega

/-! ### Strings of bytes -/
def fb (F : Nat → UInt8) (n : Nat) : ByteArray := ⟨((List.range n).map F).toArray⟩
theorem fb_size (F : Nat → UInt8) (n : Nat) : (fb F n).size = n := by simp [fb, ByteArray.size]
theorem fb_get (F : Nat → UInt8) (n i : Nat) (h : i < (fb F n).size) : (fb F n)[i] = F i := by
  have h' : i < ((List.range n).map F).toArray.size := by simpa [fb, ByteArray.size] using h
  exact (show ((List.range n).map F).toArray[i]'h' = F i by simp)
theorem fb_congr {F G : Nat → UInt8} {n m : Nat} (h : n = m) (hh : ∀ i, i < n → F i = G i) : fb F n = fb G m := by
  subst h
  unfold fb
  congr 2
  exact List.map_congr_left (fun i hi => hh i (List.mem_range.1 hi))
end Go.Proofs.YtjcajgcfkidbkaaDoor
