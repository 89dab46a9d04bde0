/-
  What JournalLasts says of a file, over crashes: what is left of the records that were there.
-/
import Derived.Test.YtgncliigmjeffaaDoorJu
import Derived.Test.YtgncliigmjeffaaDoorJz
import Derived.Test.YtgncliigmjeffaaDoorAr
namespace Go.Proofs.YtgncliigmjeffaaDoor
open Go.RowKit

/-- The durable part of a file. -/
def durL (s : RS) (f : Nat) : List UInt8 := (List.range (s.dz f)).map (fun i => s.dur f i)
theorem durL_len (s : RS) (f : Nat) : (durL s f).length = s.dz f := by simp [durL]
theorem durL_get (s : RS) (f i : Nat) (h : i < (durL s f).length) : (durL s f)[i] = s.dur f i := by simp [durL]
theorem durL_ext {s : RS} {f : Nat} {l : List UInt8} (h1 : s.dz f = l.length) (h2 : ∀ i (h : i < l.length), s.dur f i = l[i]) : durL s f = l := by
  apply List.ext_getElem
  · rw [durL_len, h1]
  · intro i a b
    rw [durL_get, h2 i b]
theorem crash_pd {s : RS} (hI : Inv s) (hd : s.down = false) (ks : List Int) (f n : Nat) : (crashS s ks).pd f n = false := by
  have h := (inv_crash hI ks).pd f n
  cases hp : (crashS s ks).pd f n with
  | false => rfl
  | true =>
    have h2 := h.1 hp
    unfold crashS at h2
    rw [if_neg (by rw [hd]; exact Bool.false_ne_true)] at h2
    simp at h2
theorem crash_dz {s : RS} (hd : s.down = false) (ks : List Int) (f : Nat) : (crashS s ks).dz f = (crashS s ks).sz f := by
  unfold crashS
  rw [if_neg (by rw [hd]; exact Bool.false_ne_true)]
theorem now_dur {s : RS} (hI : Inv s) {f : Nat} (h : ∀ n, s.pd f n = false) (i : Nat) : s.now f i = s.dur f i := by
  have e := hI.eq f (i / 64) (h _) (i % 64) (Nat.mod_lt _ (by omega))
  rwa [Nat.div_add_mod] at e
theorem crash_dur {s : RS} (hI : Inv s) (hd : s.down = false) (ks : List Int) (f : Nat) : durL (crashS s ks) f = fileL (crashS s ks) f := by
  refine durL_ext (by rw [crash_dz hd, fileL_len]) (fun i h => ?_)
  rw [fileL_get, now_dur (inv_crash hI ks) (crash_pd hI hd ks f)]
/-- After a crash each byte is one of the file, or of its durable part, or 0. -/
theorem crash_byte {s : RS} (hI : Inv s) (hd : s.down = false) (ks : List Int) (f i : Nat) : (crashS s ks).now f i = s.now f i ∨ (crashS s ks).now f i = s.dur f i := by
  have e : 64 * (i / 64) + i % 64 = i := Nat.div_add_mod i 64
  have hm : i % 64 < 64 := Nat.mod_lt _ (by omega)
  rcases crash_sec hI hd ks f (i / 64) with h | h
  · have := h _ hm; rw [e] at this; exact .inl this
  · have := h _ hm; rw [e] at this; exact .inr this

open Jm (Zd)
theorem zd_at {L T : List UInt8} (h : Zd L T) : ∀ i (ht : i < T.length), T[i] = 0 ∨ ∃ hl : i < L.length, T[i] = L[i] := by
  induction h with
  | nil => intro i ht; simp at ht
  | cons x h ih =>
    intro i ht
    cases i with
    | zero => exact .inr ⟨by simp, rfl⟩
    | succ i => rcases ih i (by simpa using ht) with h1 | ⟨h1, h2⟩; exact .inl (by simpa using h1); exact .inr ⟨by simpa using h1, by simpa using h2⟩
  | zero x h ih =>
    intro i ht
    cases i with
    | zero => exact .inl rfl
    | succ i => rcases ih i (by simpa using ht) with h1 | ⟨h1, h2⟩; exact .inl (by simpa using h1); exact .inr ⟨by simpa using h1, by simpa using h2⟩
theorem pre_at {a T : List UInt8} (h : ∃ X, T = a ++ X) : a.length ≤ T.length ∧ ∀ i (hi : i < a.length) (ht : i < T.length), T[i] = a[i] := by
  obtain ⟨X, rfl⟩ := h
  exact ⟨by simp, fun i hi ht => List.getElem_append_left hi⟩
theorem pre_of {a T : List UInt8} (h1 : a.length ≤ T.length) (h2 : ∀ i (hi : i < a.length) (ht : i < T.length), T[i] = a[i]) : ∃ X, T = a ++ X := by
  refine ⟨T.drop a.length, ?_⟩
  have e : T.take a.length = a := by
    apply List.ext_getElem
    · rw [List.length_take]; omega
    · intro i x y
      rw [List.getElem_take]
      exact h2 i y (by omega)
  conv => lhs; rw [← List.take_append_drop a.length T, e]

/-- What is known of the file f: what is left of the records that were there, all of those that are sure among them. -/
structure LA (s : RS) (f : Nat) (all sure : List (List UInt8)) : Prop where
  good : Good s
  now : Zd (Jm.forms all) (fileL s f)
  dur : Zd (Jm.forms all) (durL s f)
  pre1 : ∃ X, fileL s f = Jm.forms sure ++ X
  pre2 : ∃ X, durL s f = Jm.forms sure ++ X
  ok : ∀ r ∈ all, r.length ≤ 200
theorem LA.crash {s : RS} {f : Nat} {all sure : List (List UInt8)} (h : LA s f all sure) (ks : List Int) : LA (crashS s ks) f all sure := by
  cases hd : s.down with
  | true =>
    have e : crashS s ks = s := by unfold crashS; rw [if_pos hd]
    rw [e]; exact h
  | false =>
    have hI := h.good.inv
    have hz := crash_sz hI hd ks f
    have hlen := h.now.len
    rw [fileL_len] at hlen
    have hnow : ∀ i, i < (crashS s ks).sz f → (crashS s ks).now f i = 0 ∨ ∃ hl : i < (Jm.forms all).length, (crashS s ks).now f i = (Jm.forms all)[i] := fun i hi => by
      rcases crash_byte hI hd ks f i with e | e
      · have := zd_at h.now i (by rw [fileL_len]; omega)
        rw [fileL_get] at this
        rw [e]; exact this
      · rw [e]
        by_cases hdz : i < s.dz f
        · have := zd_at h.dur i (by rw [durL_len]; exact hdz)
          rw [durL_get] at this
          exact this
        · exact .inl (hI.dz0 f i (by omega))
    have hT : Zd (Jm.forms all) (fileL (crashS s ks) f) := by
      refine Jm.Zd.of_get (by rw [fileL_len]; omega) (fun i hi hl => ?_)
      rw [fileL_get]
      rw [fileL_len] at hi
      rcases hnow i hi with h1 | ⟨_, h1⟩
      · exact .inl h1
      · exact .inr h1
    have hP : ∃ X, fileL (crashS s ks) f = Jm.forms sure ++ X := by
      have p1 := pre_at h.pre1
      have p2 := pre_at h.pre2
      have l1 := p1.1
      have l2 := p2.1
      rw [fileL_len] at l1
      rw [durL_len] at l2
      refine pre_of (by rw [fileL_len]; omega) (fun i hi ht => ?_)
      rw [fileL_get]
      rcases crash_byte hI hd ks f i with e | e
      · have := p1.2 i hi (by rw [fileL_len]; omega)
        rw [fileL_get] at this; rw [e]; exact this
      · have := p2.2 i hi (by rw [durL_len]; omega)
        rw [durL_get] at this; rw [e]; exact this
    exact ⟨good_crash h.good ks, hT, by rw [crash_dur hI hd]; exact hT, hP, by rw [crash_dur hI hd]; exact hP, h.ok⟩
theorem la_calls {s : RS} {f : Nat} {all sure : List (List UInt8)} (h : LA s f all sure) (n : Nat) (hn : n ≤ 9223372036854775807) : LA { s with calls := n } f all sure := ⟨⟨inv_calls h.good.inv n, hn, h.good.lost, h.good.keep⟩, h.now, h.dur, h.pre1, h.pre2, h.ok⟩
theorem LA.strike {s : RS} {f : Nat} {all sure : List (List UInt8)} (h : LA s f all sure) : LA (strikeS s) f all sure := by
  unfold strikeS
  split
  · exact h
  · split
    · exact (la_calls h 0 (by omega)).crash _
    · exact la_calls h _ (by have := h.good.calls; omega)
theorem la_down {s : RS} {f : Nat} {all sure : List (List UInt8)} (h : LA s f all sure) (b : Bool) : LA { s with down := b } f all sure := ⟨good_down h.good b, h.now, h.dur, h.pre1, h.pre2, h.ok⟩
theorem la_lost {s : RS} {f : Nat} {all sure : List (List UInt8)} (h : LA s f all sure) (n : Nat) (hn : n ≤ 9223372036854775807) : LA { s with lost := n } f all sure := ⟨good_lost h.good n hn, h.now, h.dur, h.pre1, h.pre2, h.ok⟩
theorem la_arm {s : RS} {f : Nat} {all sure : List (List UInt8)} (h : LA s f all sure) (n : Int) (hn : n ≤ 9223372036854775807) (ks : List Int) (hk : ks.length ≤ 60) : LA (armS s n ks) f all sure :=
  ⟨⟨inv_arm h.good.inv n ks, by show n.toNat ≤ _; omega, h.good.lost, hk⟩, h.now, h.dur, h.pre1, h.pre2, h.ok⟩
/-- What was durable counts as sure, when the file is what was written. -/
theorem LA.settle {s : RS} {f : Nat} {all sure : List (List UInt8)} (h : LA s f all sure) : LA (settleS s f) f all sure ∧ durL (settleS s f) f = fileL (settleS s f) f := by
  have e : durL (settleS s f) f = fileL (settleS s f) f := by
    refine durL_ext ?_ (fun i hi => ?_)
    · rw [fileL_len]; show (if f = f then s.sz f else _) = s.sz f; rw [if_pos rfl]
    · rw [fileL_get]; show (if f = f then s.now f i else _) = s.now f i; rw [if_pos rfl]
  exact ⟨⟨good_settle h.good f, h.now, by rw [e]; exact h.now, h.pre1, by rw [e]; exact h.pre1, h.ok⟩, e⟩
theorem LA.more {s : RS} {f : Nat} {all sure : List (List UInt8)} (h : LA s f all sure) (r : List UInt8) (hr : r.length ≤ 200) : LA s f (all ++ [r]) sure :=
  ⟨h.good, by rw [Jm.forms_append]; exact h.now.short _, by rw [Jm.forms_append]; exact h.dur.short _, h.pre1, h.pre2, fun x hx => by
    rcases List.mem_append.1 hx with hx | hx
    · exact h.ok x hx
    · rw [List.mem_singleton.1 hx]; exact hr⟩
theorem wr_dur (s : RS) (f at_ : Int) (l : List UInt8) (g : Nat) : durL (wrS s f at_ l) g = durL s g := by
  unfold wrS
  split <;> rfl
/-- The form of a record is written behind the others. -/
theorem LA.wr {s : RS} {f : Nat} {all sure : List (List UInt8)} (h : LA s f all sure) (hf : f < 16) (he : fileL s f = Jm.forms all) (r : List UInt8) (hr : r.length ≤ 200) (hm : (Jm.forms all).length + (Jm.formE.f r).length ≤ 16777216) :
    LA (wrS s f (Jm.forms all).length (Jm.formE.f r)) f (all ++ [r]) sure ∧ fileL (wrS s f (Jm.forms all).length (Jm.formE.f r)) f = Jm.forms (all ++ [r]) := by
  have hz : (Jm.forms all).length = s.sz f := by rw [← he, fileL_len]
  have e : fileL (wrS s f (Jm.forms all).length (Jm.formE.f r)) f = Jm.forms (all ++ [r]) := by rw [wr_file hf hz hm, he, Jm.forms_snoc]
  have h2 := h.more r hr
  obtain ⟨X, hX⟩ := h.pre1
  refine ⟨⟨good_wr h.good _ _ _, by rw [e]; exact Jm.Zd.refl _, by rw [wr_dur]; exact h2.dur, ⟨X ++ Jm.formE.f r, by rw [e, Jm.forms_snoc, ← he, hX, List.append_assoc]⟩, by rw [wr_dur]; exact h.pre2, h2.ok⟩, e⟩
/-- The file holds exactly these records, durably. -/
theorem LA.exact {s : RS} {f : Nat} {rs : List (List UInt8)} (hg : Good s) (h1 : fileL s f = Jm.forms rs) (h2 : durL s f = Jm.forms rs) (hr : ∀ r ∈ rs, r.length ≤ 200) : LA s f rs rs :=
  ⟨hg, by rw [h1]; exact Jm.Zd.refl _, by rw [h2]; exact Jm.Zd.refl _, ⟨[], by rw [h1, List.append_nil]⟩, ⟨[], by rw [h2, List.append_nil]⟩, hr⟩
/-- What is read from what is left. -/
theorem LA.recs {s : RS} {f : Nat} {all sure qs : List (List UInt8)} {q : List UInt8} (h : LA s f all sure) (hs : Jm.Small sure) (hr : Jm.Recs (fileL s f) qs q) : (∃ ps, all = qs ++ ps) ∧ ∃ ps, qs = sure ++ ps := by
  obtain ⟨ps, h1, _⟩ := Jm.Zd.recs h.now (fun r hr => by have := h.ok r hr; omega) hr
  obtain ⟨X, hX⟩ := h.pre1
  rw [hX] at hr
  obtain ⟨ps2, h2, _⟩ := Jm.Recs.more hs hr
  exact ⟨⟨ps, h1⟩, ps2, h2⟩
end Go.Proofs.YtgncliigmjeffaaDoor
