/-
  Plain mathematics about the state of a disk: a file that is durable as it is stays so.
-/
import Derived.Test.YtjcajgcfkidbkaaDoorGd
namespace Go.Proofs.YtjcajgcfkidbkaaDoor
open Go.RowKit

/-- File f is F, z bytes, and durable. -/
structure Held (s : RS) (f : Nat) (F : Nat → UInt8) (z : Nat) : Prop where
  now : ∀ i, s.now f i = F i
  sz : s.sz f = z
  dz : s.dz f = z
  pd : ∀ n, s.pd f n = false
theorem crK_dz_off (s : RS) (ks : List Int) (f : Nat) (h : ∀ p ∈ s.q, p.1 ≠ f) (k : Nat) : (crK s ks k).dz f = s.dz f := by
  induction k with
  | zero => rfl
  | succ k ih =>
    unfold crK
    split
    · rename_i hk
      show (if f = (s.q[k]).1 ∧ kept ks k = true then _ else (crK s ks k).dz f) = _
      rw [if_neg (fun h1 => h _ (List.getElem_mem hk) h1.1.symm), ih]
    · exact ih
theorem held_q {s : RS} (hI : Inv s) {f : Nat} (h : ∀ n, s.pd f n = false) : ∀ p ∈ s.q, p.1 ≠ f := by
  rintro ⟨g, n⟩ hp rfl
  have := (hI.pd g n).2 hp
  rw [h n] at this
  exact Bool.false_ne_true this
theorem held_crash {s : RS} (hI : Inv s) {f : Nat} {F : Nat → UInt8} {z : Nat} (h : Held s f F z) (ks : List Int) : Held (crashS s ks) f F z := by
  have hq := held_q hI h.pd
  unfold crashS
  split
  · exact h
  · have hc := fun n => char_any hI ks s.q.length (Nat.le_refl _) f n
    have hc' : ∀ n, (crK s ks s.q.length).pd f n = s.pd f n ∧ ∀ i, i < 64 → (crK s ks s.q.length).now f (64 * n + i) = s.now f (64 * n + i) := fun n => by
      rcases hc n with ⟨j, hj, _, he, _⟩ | ⟨_, h1, h2⟩
      · exact absurd (by rw [he]) (hq _ (List.getElem_mem hj))
      · exact ⟨h1, fun i hi => (h2 i hi).1⟩
    refine ⟨fun i => ?_, ?_, ?_, fun n => (hc' n).1.trans (h.pd n)⟩
    · show (crK s ks s.q.length).now f i = F i
      have := (hc' (i / 64)).2 (i % 64) (by omega)
      rw [show 64 * (i / 64) + i % 64 = i by omega] at this
      rw [this, h.now]
    · show (crK s ks s.q.length).dz f = z
      rw [crK_dz_off s ks f hq, h.dz]
    · show (crK s ks s.q.length).dz f = z
      rw [crK_dz_off s ks f hq, h.dz]
theorem held_calls {s : RS} {f : Nat} {F : Nat → UInt8} {z : Nat} (h : Held s f F z) (n : Nat) : Held { s with calls := n } f F z := ⟨h.now, h.sz, h.dz, h.pd⟩
theorem held_strike {s : RS} (hI : Inv s) {f : Nat} {F : Nat → UInt8} {z : Nat} (h : Held s f F z) : Held (strikeS s) f F z := by
  unfold strikeS
  split
  · exact h
  · split
    · exact held_crash (inv_calls hI 0) (held_calls h 0) _
    · exact held_calls h _
theorem held_settle {s : RS} {f g : Nat} {F : Nat → UInt8} {z : Nat} (h : Held s f F z) (hg : f ≠ g) : Held (settleS s g) f F z :=
  ⟨h.now, h.sz, by show (if f = g then _ else s.dz f) = z; rw [if_neg hg]; exact h.dz, fun n => by show (if f = g then _ else s.pd f n) = false; rw [if_neg hg]; exact h.pd n⟩
theorem held_cut {s : RS} {f g n : Nat} {F : Nat → UInt8} {z : Nat} (h : Held s f F z) (hg : f ≠ g) : Held (cutS s g n) f F z :=
  ⟨fun i => by show (if f = g ∧ n ≤ i then 0 else s.now f i) = F i; rw [if_neg (fun h => hg h.1)]; exact h.now i, by show (if f = g then _ else s.sz f) = z; rw [if_neg hg]; exact h.sz,
    by show (if f = g then _ else s.dz f) = z; rw [if_neg hg]; exact h.dz, h.pd⟩
theorem held_wr {s : RS} {f : Nat} {g at_ : Int} {l : List UInt8} {F : Nat → UInt8} {z : Nat} (h : Held s f F z) (hg : g ≠ f) : Held (wrS s g at_ l) f F z := by
  unfold wrS
  split
  · rename_i hc
    have hz := chk_zero hc.1
    have hne : f ≠ g.toNat := by omega
    refine ⟨fun i => ?_, ?_, h.dz, fun n => ?_⟩
    · show (if f = g.toNat ∧ _ ∧ _ then _ else s.now f i) = F i
      rw [if_neg (fun h => hne h.1)]; exact h.now i
    · show (if f = g.toNat then _ else s.sz f) = z
      rw [if_neg hne]; exact h.sz
    · show (if f = g.toNat ∧ _ ∧ _ then _ else s.pd f n) = false
      rw [if_neg (fun h => hne h.1)]; exact h.pd n
  · exact h
theorem strike_up {s : RS} (h : (strikeS s).down = false) : (strikeS s).now = s.now ∧ (strikeS s).sz = s.sz ∧ (strikeS s).dur = s.dur ∧ (strikeS s).dz = s.dz ∧ (strikeS s).pd = s.pd ∧ (strikeS s).q = s.q := by
  unfold strikeS at h ⊢
  split at h
  · rename_i hc; rw [if_pos hc]; exact ⟨rfl, rfl, rfl, rfl, rfl, rfl⟩
  · rename_i hc
    rw [if_neg hc]
    split at h
    · unfold crashS at h
      split at h
      · rename_i hd; exact absurd hd (by have : s.down = false := h; rw [this]; exact Bool.false_ne_true)
      · exact absurd (show true = false from h) (by decide)
    · rename_i hc1; rw [if_neg hc1]; exact ⟨rfl, rfl, rfl, rfl, rfl, rfl⟩
theorem sync_ok {s : RS} {f : Int} (h : syncE s f = 0) : s.down = false ∧ (∃ fn : Nat, f = fn ∧ fn < 16 ∧ Held (syncS s f) fn (s.now fn) (s.sz fn)) ∧ (syncS s f).down = false := by
  unfold syncE at h
  split at h
  · exact absurd h (by decide)
  rename_i h1
  split at h
  · exact absurd h (by decide)
  rename_i h2
  split at h
  · exact absurd h (by decide)
  rename_i h3
  split at h
  · exact absurd h (by decide)
  rename_i h4
  have hd : (strikeS s).down = false := by simpa using h2
  have hu := strike_up hd
  have e : syncS s f = settleS (strikeS s) f.toNat := by
    unfold syncS
    rw [if_neg h1, if_neg h2, if_neg h3, if_neg h4]
  rw [e]
  unfold isF at h3
  refine ⟨by simpa using h1, ⟨f.toNat, by omega, by omega, ⟨fun i => ?_, ?_, ?_, fun n => ?_⟩⟩, hd⟩
  · show (strikeS s).now f.toNat i = _
    rw [hu.1]
  · show (strikeS s).sz f.toNat = _
    rw [hu.2.1]
  · show (if f.toNat = f.toNat then (strikeS s).sz f.toNat else _) = _
    rw [if_pos rfl, hu.2.1]
  · show (if f.toNat = f.toNat then false else _) = false
    rw [if_pos rfl]
end Go.Proofs.YtjcajgcfkidbkaaDoor
