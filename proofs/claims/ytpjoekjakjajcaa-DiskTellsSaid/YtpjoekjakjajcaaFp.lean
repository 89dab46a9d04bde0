/-
  Plain mathematics of the reference's disk: what each call does to its state, and how that goes with the program's.
-/
import Derived.Test.YtpjoekjakjajcaaFl
namespace Go.Proofs.Ytpjoekjakjajcaa
open Go.RowKit

def tick (r : FS) : FS := { r with armed := r.armed - 1 }
/-- A call comes. -/
def comesF (r : FS) (f a : Int) (l : Txt) : FS :=
  if r.down = true ∨ r.armed = 0 then r else if 1 < r.armed then tick r else crashF (if isF f ∧ fitsB a l.length = true then addF (tick r) f.toNat a.toNat l else tick r) r.keep
def writeF (r : FS) (f a : Int) (l : Txt) : FS := if (comesF r f a l).down = true ∨ ¬ (isF f ∧ fitsB a l.length = true) then comesF r f a l else addF (comesF r f a l) f.toNat a.toNat l
def writeFE (r : FS) (f a : Int) (l : Txt) : Int := if (comesF r f a l).down = true then 8 else if ¬ isF f then 1 else if a < 0 then 1 else if fitsB a l.length = true then 0 else 6
theorem chk_iff (f a : Int) (n : Nat) : chk f a n = 0 ↔ isF f ∧ fitsB a n = true := by
  unfold chk fitsB isF
  simp only [Bool.and_eq_true, decide_eq_true_eq]
  constructor
  · intro h
    split at h
    · omega
    · split at h
      · omega
      · omega
  · rintro ⟨⟨h1, h2⟩, ⟨h3, h4⟩, h5⟩
    rw [if_neg (by omega), if_neg (by omega)]
theorem chk_cases (f a : Int) (n : Nat) : chk f a n = if ¬ isF f then 1 else if a < 0 then 1 else if fitsB a n = true then 0 else 6 := by
  by_cases h : chk f a n = 0
  · obtain ⟨h1, h2⟩ := (chk_iff f a n).1 h
    have h3 : ¬ a < 0 := by unfold fitsB at h2; simp only [Bool.and_eq_true, decide_eq_true_eq] at h2; omega
    rw [h, if_neg (fun e => e h1), if_neg h3, if_pos h2]
  · unfold chk at h ⊢
    by_cases h1 : f < 0 ∨ 16 ≤ f ∨ a < 0
    · rw [if_pos h1]
      by_cases h2 : isF f
      · rw [if_neg (fun e => e h2), if_pos (by unfold isF at h2; omega)]
      · rw [if_pos h2]
    · rw [if_neg h1] at h ⊢
      by_cases h2 : 16777216 < a + n
      · rw [if_pos h2]
        have h3 : isF f := by unfold isF; omega
        have h4 : ¬ fitsB a n = true := by unfold fitsB; simp only [Bool.and_eq_true, decide_eq_true_eq]; omega
        rw [if_neg (fun e => e h3), if_neg (by omega), if_neg h4]
      · rw [if_neg h2] at h; exact absurd rfl h
def withC (s : RS) (c : Nat) : RS := { s with calls := c }
theorem wr_with (s : RS) (c : Nat) (f a : Int) (l : Txt) : wrS (withC s c) f a l = withC (wrS s f a l) c := by
  unfold wrS
  by_cases h : chk f a l.length = 0 ∧ l ≠ []
  · rw [if_pos h, if_pos h]; rfl
  · rw [if_neg h, if_neg h]
theorem inv_withC {s : RS} (h : Inv s) (n : Nat) : Inv (withC s n) := inv_calls h n
theorem rr_tick {r : FS} {s : RS} (h : RR r s) (hc : 0 < s.calls) : RR (tick r) (withC s (s.calls - 1)) :=
  ⟨h.now, h.dur, h.q, h.lost, h.down, by show r.armed - 1 = s.calls - 1; rw [h.armed], fun _ => h.keep hc, h.fine⟩
theorem add_scalars (r : FS) (f a : Nat) (l : Txt) : (addF r f a l).down = r.down ∧ (addF r f a l).armed = r.armed ∧ (addF r f a l).keep = r.keep ∧ (addF r f a l).lost = r.lost := by
  unfold addF; split <;> exact ⟨rfl, rfl, rfl, rfl⟩
theorem crashF_down (r : FS) (ks : List Int) : (crashF r ks).down = true := by
  unfold crashF
  split
  · assumption
  · rfl
/-- A write that is possible, or nothing. -/
theorem rr_wrx {r : FS} {s : RS} (h : RR r s) (hI : Inv s) (f a : Int) (l : Txt) : RR (if isF f ∧ fitsB a l.length = true then addF r f.toNat a.toNat l else r) (wrS s f a l) := by
  by_cases hc : chk f a l.length = 0
  · rw [if_pos ((chk_iff f a _).1 hc)]
    exact rr_wr h hI hc
  · rw [if_neg (fun e => hc ((chk_iff f a _).2 e))]
    unfold wrS
    rw [if_neg (fun e => hc e.1)]
    exact h
theorem strike_zero {s : RS} (h : s.calls = 0) : strikeS s = s := by unfold strikeS; rw [if_pos h]
theorem strike_one {s : RS} (h : s.calls = 1) : strikeS s = crashS (withC s 0) s.keep := by unfold strikeS; rw [if_neg (by omega), if_pos h]; rfl
theorem strike_more {s : RS} (h : 2 ≤ s.calls) : strikeS s = withC s (s.calls - 1) := by unfold strikeS; rw [if_neg (by omega), if_neg (by omega)]; rfl
theorem wr_keep (s : RS) (f a : Int) (l : Txt) : (wrS s f a l).keep = s.keep := by unfold wrS; split <;> rfl
theorem rr_write {r : FS} {s : RS} (h : RR r s) (hI : Inv s) (f a : Int) (l : Txt) : RR (writeF r f a l) (writeS s f a l) ∧ writeFE r f a l = writeE s f a l := by
  have hE : ∀ d : Bool, s.down = false → (comesF r f a l).down = d → (strikeS (wrS s f a l)).down = d → writeFE r f a l = writeE s f a l := by
    intro d h1 h2 h3
    unfold writeFE writeE
    rw [h2, h3, h1, if_neg (show ¬ (false = true) by decide), chk_cases]
  by_cases hd : s.down = true
  · have hr : r.down = true := h.down.trans hd
    have hc : comesF r f a l = r := by unfold comesF; rw [if_pos (.inl hr)]
    unfold writeF writeS
    rw [hc, if_pos (.inl hr), if_pos hd]
    refine ⟨h, ?_⟩
    unfold writeFE writeE
    rw [hc, if_pos hr, if_pos hd]
  · have hd : s.down = false := by simpa using hd
    have hr : r.down = false := h.down.trans hd
    have hws : writeS s f a l = strikeS (wrS s f a l) := by unfold writeS; rw [hd]; rfl
    have hwc := wr_calls s f a l
    rw [hws]
    rcases Nat.lt_or_ge 1 s.calls with h2 | h2
    · have hra : 1 < r.armed := by rw [h.armed]; exact h2
      have hc : comesF r f a l = tick r := by
        unfold comesF
        rw [if_neg (by rw [hr]; rintro (e | e); exact absurd e (by decide); omega), if_pos hra]
      have hst : strikeS (wrS s f a l) = wrS (withC s (s.calls - 1)) f a l := by
        rw [strike_more (by rw [hwc.1]; omega), wr_with, hwc.1]
      have ht : (tick r).down = false := hr
      refine ⟨?_, hE false hd (by rw [hc]; exact ht) (by rw [hst]; exact (wr_calls _ f a l).2.trans hd)⟩
      rw [hst]
      have h3 := rr_wrx (rr_tick h (by omega)) (inv_withC hI _) f a l
      unfold writeF
      rw [hc, ht]
      by_cases hv : isF f ∧ fitsB a l.length = true
      · rw [if_neg (by rintro (e | e); exact absurd e (by decide); exact e hv)]
        rw [if_pos hv] at h3; exact h3
      · rw [if_pos (.inr hv)]
        rw [if_neg hv] at h3; exact h3
    · rcases Nat.eq_or_lt_of_le h2 with h1 | h1
      · have hra : r.armed = 1 := h.armed.trans h1
        have hc : comesF r f a l = crashF (if isF f ∧ fitsB a l.length = true then addF (tick r) f.toNat a.toNat l else tick r) r.keep := by
          unfold comesF
          rw [if_neg (by rw [hr, hra]; rintro (e | e); exact absurd e (by decide); exact absurd e (by decide)), if_neg (by omega)]
        have hst : strikeS (wrS s f a l) = crashS (wrS (withC s 0) f a l) s.keep := by
          rw [strike_one (hwc.1.trans h1), wr_with, wr_keep]
        have h3 := rr_wrx (rr_tick h (by omega)) (inv_withC hI _) f a l
        rw [h1] at h3
        have h4 := rr_crash h3 (inv_wr (inv_withC hI 0) f a l) r.keep
        have hk : r.keep = s.keep := h.keep (by omega)
        have hcd : (comesF r f a l).down = true := by rw [hc]; exact crashF_down _ _
        refine ⟨?_, hE true hd hcd (by rw [hst, ← hk, ← h4.down]; exact crashF_down _ _)⟩
        unfold writeF
        rw [if_pos (.inl hcd), hc, hst, ← hk]
        exact h4
      · have h0 : s.calls = 0 := by omega
        have hra : r.armed = 0 := h.armed.trans h0
        have hc : comesF r f a l = r := by unfold comesF; rw [if_pos (.inr hra)]
        have hst : strikeS (wrS s f a l) = wrS s f a l := strike_zero (hwc.1.trans h0)
        refine ⟨?_, hE false hd (by rw [hc]; exact hr) (by rw [hst]; exact hwc.2.trans hd)⟩
        rw [hst]
        have h3 := rr_wrx h hI f a l
        unfold writeF
        rw [hc, hr]
        by_cases hv : isF f ∧ fitsB a l.length = true
        · rw [if_neg (by rintro (e | e); exact absurd e (by decide); exact e hv)]
          rw [if_pos hv] at h3; exact h3
        · rw [if_pos (.inr hv)]
          rw [if_neg hv] at h3; exact h3
/-- A call that writes nothing. -/
theorem rr_strike {r : FS} {s : RS} (h : RR r s) (hI : Inv s) (hd : s.down = false) : RR (comesF r 0 0 []) (strikeS s) := by
  have hw := (rr_write h hI 0 0 []).1
  have hws : wrS s 0 0 [] = s := by unfold wrS; rw [if_neg (fun e => e.2 rfl)]
  unfold writeS at hw
  rw [hd, if_neg (show ¬ (false = true) by decide), hws] at hw
  have hF : writeF r 0 0 [] = comesF r 0 0 [] := by
    unfold writeF
    split
    · rfl
    · unfold addF; rw [if_pos rfl]
  rw [hF] at hw
  exact hw
theorem comes_down {r : FS} (h : r.down = true) (f a : Int) (l : Txt) : comesF r f a l = r := by unfold comesF; rw [if_pos (.inl h)]
def syncF (r : FS) (f : Int) : FS :=
  if (comesF r 0 0 []).down = true then comesF r 0 0 [] else if ¬ isF f then comesF r 0 0 [] else
    if 0 < (comesF r 0 0 []).lost then { comesF r 0 0 [] with lost := (comesF r 0 0 []).lost - 1 } else settleF (comesF r 0 0 []) f.toNat (getF (comesF r 0 0 []).fl f.toNat).1
def syncFE (r : FS) (f : Int) : Int := if (comesF r 0 0 []).down = true then 8 else if ¬ isF f then 1 else if 0 < (comesF r 0 0 []).lost then 9 else 0
theorem isF_nat {f : Int} (h : isF f) : f.toNat < 16 := by unfold isF at h; omega
theorem rr_sync {r : FS} {s : RS} (h : RR r s) (hI : Inv s) (f : Int) : RR (syncF r f) (syncS s f) ∧ syncFE r f = syncE s f := by
  by_cases hd : s.down = true
  · have hr : r.down = true := h.down.trans hd
    unfold syncF syncS syncFE syncE
    rw [comes_down hr, if_pos hr, if_pos hd, if_pos hr, if_pos hd]
    exact ⟨h, rfl⟩
  · have hd : s.down = false := by simpa using hd
    have hs := rr_strike h hI hd
    unfold syncF syncS syncFE syncE
    rw [hd, if_neg (show ¬ (false = true) by decide), if_neg (show ¬ (false = true) by decide)]
    generalize comesF r 0 0 [] = r1 at *
    generalize strikeS s = s1 at *
    rw [hs.down, hs.lost]
    by_cases h1 : s1.down = true
    · rw [if_pos h1, if_pos h1, if_pos h1]; exact ⟨hs, rfl⟩
    · rw [if_neg h1, if_neg h1, if_neg h1]
      by_cases h2 : isF f
      · have hn2 : ¬ ¬ isF f := fun e => e h2
        rw [if_neg hn2, if_neg hn2, if_neg hn2]
        by_cases h3 : 0 < s1.lost
        · rw [if_pos h3, if_pos h3, if_pos h3]
          exact ⟨⟨hs.now, hs.dur, hs.q, rfl, hs.down, hs.armed, hs.keep, hs.fine⟩, rfl⟩
        · rw [if_neg h3, if_neg h3, if_neg h3]
          exact ⟨rr_settle hs (isF_nat h2), rfl⟩
      · rw [if_pos h2, if_pos h2, if_pos h2]; exact ⟨hs, rfl⟩
def truncF (r : FS) (f n : Int) : FS :=
  if (comesF r 0 0 []).down = true then comesF r 0 0 [] else if ¬ (isF f ∧ 0 ≤ n ∧ n ≤ (getF (comesF r 0 0 []).fl f.toNat).1.length) then comesF r 0 0 [] else
    settleF (comesF r 0 0 []) f.toNat ((getF (comesF r 0 0 []).fl f.toNat).1.take n.toNat)
def truncFE (r : FS) (f n : Int) : Int := if (comesF r 0 0 []).down = true then 8 else if ¬ (isF f ∧ 0 ≤ n ∧ n ≤ (getF (comesF r 0 0 []).fl f.toNat).1.length) then 1 else 0
theorem rr_trunc {r : FS} {s : RS} (h : RR r s) (hI : Inv s) (f n : Int) : RR (truncF r f n) (truncS s f n) ∧ truncFE r f n = truncE s f n := by
  by_cases hd : s.down = true
  · have hr : r.down = true := h.down.trans hd
    unfold truncF truncS truncFE truncE
    rw [comes_down hr, if_pos hr, if_pos hd, if_pos hr, if_pos hd]
    exact ⟨h, rfl⟩
  · have hd : s.down = false := by simpa using hd
    have hs := rr_strike h hI hd
    unfold truncF truncS truncFE truncE
    rw [hd, if_neg (show ¬ (false = true) by decide), if_neg (show ¬ (false = true) by decide)]
    generalize comesF r 0 0 [] = r1 at *
    generalize strikeS s = s1 at *
    rw [hs.down]
    by_cases h1 : s1.down = true
    · rw [if_pos h1, if_pos h1, if_pos h1, if_pos h1]; exact ⟨hs, rfl⟩
    · rw [if_neg h1, if_neg h1, if_neg h1, if_neg h1]
      have hiff : (isF f ∧ 0 ≤ n ∧ n ≤ ((getF r1.fl f.toNat).1.length : Int)) ↔ (isF f ∧ 0 ≤ n ∧ n ≤ (s1.sz f.toNat : Int)) := by
        constructor
        · rintro ⟨a, b, c⟩
          rw [(hs.now _ (isF_nat a)).1] at c
          exact ⟨a, b, c⟩
        · rintro ⟨a, b, c⟩
          rw [← (hs.now _ (isF_nat a)).1] at c
          exact ⟨a, b, c⟩
      by_cases h2 : isF f ∧ 0 ≤ n ∧ n ≤ (s1.sz f.toNat : Int)
      · have h3 := hiff.2 h2
        rw [if_neg (fun e => e h3), if_neg (fun e => e h2), if_neg (fun e => e h3), if_neg (fun e => e h2)]
        exact ⟨rr_cut hs (isF_nat h2.1) (by omega), rfl⟩
      · have h3 : ¬ (isF f ∧ 0 ≤ n ∧ n ≤ ((getF r1.fl f.toNat).1.length : Int)) := fun e => h2 (hiff.1 e)
        rw [if_pos h3, if_pos h2, if_pos h3, if_pos h2]; exact ⟨hs, rfl⟩
theorem rr_lose {r : FS} {s : RS} (h : RR r s) (n : Nat) : RR { r with lost := n } { s with lost := n } := ⟨h.now, h.dur, h.q, rfl, h.down, h.armed, h.keep, h.fine⟩
theorem rr_start {r : FS} {s : RS} (h : RR r s) : RR { r with down := false } { s with down := false } := ⟨h.now, h.dur, h.q, h.lost, rfl, h.armed, h.keep, h.fine⟩
theorem rr_arm {r : FS} {s : RS} (h : RR r s) (n : Int) (ks : List Int) : RR { r with armed := n.toNat, keep := ks } (armS s n ks) := ⟨h.now, h.dur, h.q, h.lost, h.down, rfl, fun _ => rfl, h.fine⟩
/-- What Read returns. -/
def readFL (r : FS) (f a n : Int) : Txt := if r.down = true ∨ ¬ isF f ∨ a < 0 ∨ n < 0 then [] else ((getF r.fl f.toNat).1.drop a.toNat).take n.toNat
theorem rr_read {r : FS} {s : RS} (h : RR r s) (f a n : Int) : readFL r f a n = readL s f a n := by
  unfold readFL readL
  rw [h.down]
  by_cases hc : s.down = true ∨ ¬ isF f ∨ a < 0 ∨ n < 0
  · rw [if_pos hc, if_pos hc]
  · rw [if_neg hc, if_neg hc]
    have hf : isF f := by
      by_cases hf : isF f
      · exact hf
      · exact absurd (.inr (.inl hf)) hc
    have hp := h.now f.toNat (isF_nat hf)
    unfold bytesOf readN
    have hl := hp.1
    rcases Nat.lt_or_ge (s.sz f.toNat) a.toNat with hs | hs
    · rw [List.drop_eq_nil_of_le (by omega), List.take_nil, show min n.toNat (s.sz f.toNat - a.toNat) = 0 by omega]; rfl
    rw [← hp.sub _ _ (by omega)]
    apply List.ext_getElem
    · simp only [List.length_take, List.length_drop]; omega
    · intro i h1 h2
      simp only [List.getElem_take, List.getElem_drop]

/-! ### What the walks want -/
def comesS (s : RS) (f a : Int) (l : Txt) : RS :=
  if s.down = true ∨ s.calls = 0 then s else if 1 < s.calls then withC s (s.calls - 1) else crashS (wrS (withC s 0) f a l) s.keep
theorem rr_comes {r : FS} {s : RS} (h : RR r s) (hI : Inv s) (f a : Int) (l : Txt) : RR (comesF r f a l) (comesS s f a l) ∧ Inv (comesS s f a l) := by
  unfold comesF comesS
  rw [h.down, h.armed]
  by_cases h1 : s.down = true ∨ s.calls = 0
  · rw [if_pos h1, if_pos h1]; exact ⟨h, hI⟩
  · rw [if_neg h1, if_neg h1]
    have hc : 0 < s.calls := by
      rcases Nat.eq_zero_or_pos s.calls with h0 | h0
      · exact absurd (.inr h0) h1
      · exact h0
    by_cases h2 : 1 < s.calls
    · rw [if_pos h2, if_pos h2]; exact ⟨rr_tick h hc, inv_withC hI _⟩
    · rw [if_neg h2, if_neg h2]
      have h3 := rr_tick h hc
      rw [show s.calls - 1 = 0 by omega] at h3
      have h4 := rr_wrx h3 (inv_withC hI 0) f a l
      have hk : r.keep = s.keep := h.keep hc
      rw [hk]
      exact ⟨rr_crash h4 (inv_wr (inv_withC hI 0) f a l) _, inv_crash (inv_wr (inv_withC hI 0) f a l) _⟩
theorem rr_len {r : FS} {s : RS} (h : RR r s) (hI : Inv s) (f : Nat) (hf : f < 16) : (getF r.fl f).1.length ≤ 16777216 ∧ (getF r.fl f).2.length ≤ 16777216 := by
  have h1 := (h.now f hf).1
  have h2 := (h.dur f hf).1
  have h3 := hI.max f
  have h4 := hI.le f
  omega
theorem rr_q {r : FS} {s : RS} (h : RR r s) (hI : Inv s) : ∀ p ∈ r.q, p.1 < 16 ∧ p.2 ≤ 262144 := fun p hp => by
  rw [h.q] at hp
  have h1 := hI.inQ p hp
  have h2 := hI.max p.1
  omega
theorem crF_far (fl : List (Nat × Txt × Txt)) (q : List (Nat × Nat)) (ks : List Int) (n : Nat) : crF fl q ks (q.length + n) = crF fl q ks q.length := by
  induction n with
  | zero => rfl
  | succ n ih =>
    show crF fl q ks (q.length + n + 1) = _
    show (if h : q.length + n < q.length then _ else _) = _
    rw [dif_neg (by omega), ih]
theorem rr_lens {r : FS} {s : RS} (h : RR r s) (hI : Inv s) (ks : List Int) (k f : Nat) (hf : f < 16) : (getF (crF r.fl r.q ks k) f).1.length ≤ 16777216 ∧ (getF (crF r.fl r.q ks k) f).2.length ≤ 16777216 := by
  have key : ∀ k, k ≤ s.q.length → (getF (crF r.fl r.q ks k) f).1.length ≤ 16777216 ∧ (getF (crF r.fl r.q ks k) f).2.length ≤ 16777216 := fun k hk => by
    obtain ⟨h1, h2⟩ := rr_crK h hI ks k hk f hf
    rw [h1]
    have h3 := h2.1
    have h4 := crK_dz hI ks k f
    have h5 := (rr_len h hI f hf).1
    have h6 := hI.max f
    omega
  rcases Nat.le_total k s.q.length with hk | hk
  · exact key k hk
  · have : crF r.fl r.q ks k = crF r.fl r.q ks r.q.length := by
      have h1 := crF_far r.fl r.q ks (k - r.q.length)
      rw [h.q] at h1 ⊢
      rwa [show s.q.length + (k - s.q.length) = k by omega] at h1
    rw [this]
    exact key r.q.length (by rw [h.q]; exact Nat.le_refl _)
theorem add_qlen (r : FS) (f a : Nat) (l : Txt) : (addF r f a l).q.length ≤ r.q.length + l.length + 1 := by
  unfold addF
  split
  · omega
  · next hl =>
    show (r.q ++ newF' r.q f (a / 64) (tot a l.length)).length ≤ _
    rw [List.length_append]
    have h1 : (newF' r.q f (a / 64) (tot a l.length)).length ≤ tot a l.length := by
      unfold newF'
      rw [List.length_map]
      refine Nat.le_trans (List.length_filter_le _ _) ?_
      rw [List.length_range']; exact Nat.le_refl _
    have h2 : tot a l.length ≤ l.length + 1 := by
      have h0 : 0 < l.length := List.length_pos_iff.2 hl
      unfold tot
      have h3 : (a + l.length - 1) / 64 ≤ a / 64 + l.length := by
        have : (a + l.length - 1) / 64 ≤ (a + 64 * l.length) / 64 := Nat.div_le_div_right (by omega)
        omega
      omega
    omega
theorem crash_qlen (r : FS) (ks : List Int) : (crashF r ks).q.length ≤ r.q.length := by
  unfold crashF
  split
  · exact Nat.le_refl _
  · show ([] : List (Nat × Nat)).length ≤ _
    simp
theorem comes_qlen (r : FS) (f a : Int) (l : Txt) : (comesF r f a l).q.length ≤ r.q.length + l.length + 1 := by
  unfold comesF
  split
  · omega
  · split
    · show r.q.length ≤ _
      omega
    · refine Nat.le_trans (crash_qlen _ _) ?_
      split
      · exact add_qlen (tick r) _ _ _
      · show r.q.length ≤ _
        omega
end Go.Proofs.Ytpjoekjakjajcaa
