/-
  The reference's disk: Arm.
-/
import Derived.Test.YtjcajgcfkidbkaaDoorFae
import Derived.Test.YtjcajgcfkidbkaaDoorAr
import Derived.Deep.AppendSrc
namespace Go.Proofs.YtjcajgcfkidbkaaDoor
open Go.RowKit

def tick (r : FS) : FS := { r with armed := r.armed - 1 }
/-- A call comes. -/
def comesF (r : FS) (f a : Int) (l : Txt) : FS :=
  if r.down = true ∨ r.armed = 0 then r else if 1 < r.armed then tick r else crashF (if isF f ∧ fitsB a l.length = true then addF (tick r) f.toNat a.toNat l else tick r) r.keep
def writeF (r : FS) (f a : Int) (l : Txt) : FS := if (comesF r f a l).down = true ∨ ¬ (isF f ∧ fitsB a l.length = true) then comesF r f a l else addF (comesF r f a l) f.toNat a.toNat l
def writeFE (r : FS) (f a : Int) (l : Txt) : Int := if (comesF r f a l).down = true then 8 else if ¬ isF f then 1 else if a < 0 then 1 else if fitsB a l.length = true then 0 else 6
theorem chk_iff (f a : Int) (n : Nat) : chk f a n = 0 ↔ isF f ∧ fitsB a n = true := by
  unfold chk fitsB isF
  simp only [Bool.and_eq_true, decide_eq_true_eq]
  constructor
  · intro h
    split at h
    · omega
    · split at h
      · omega
      · omega
  · rintro ⟨⟨h1, h2⟩, ⟨h3, h4⟩, h5⟩
    rw [if_neg (by omega), if_neg (by omega)]
theorem chk_cases (f a : Int) (n : Nat) : chk f a n = if ¬ isF f then 1 else if a < 0 then 1 else if fitsB a n = true then 0 else 6 := by
  by_cases h : chk f a n = 0
  · obtain ⟨h1, h2⟩ := (chk_iff f a n).1 h
    have h3 : ¬ a < 0 := by unfold fitsB at h2; simp only [Bool.and_eq_true, decide_eq_true_eq] at h2; omega
    rw [h, if_neg (fun e => e h1), if_neg h3, if_pos h2]
  · unfold chk at h ⊢
    by_cases h1 : f < 0 ∨ 16 ≤ f ∨ a < 0
    · rw [if_pos h1]
      by_cases h2 : isF f
      · rw [if_neg (fun e => e h2), if_pos (by unfold isF at h2; omega)]
      · rw [if_pos h2]
    · rw [if_neg h1] at h ⊢
      by_cases h2 : 16777216 < a + n
      · rw [if_pos h2]
        have h3 : isF f := by unfold isF; omega
        have h4 : ¬ fitsB a n = true := by unfold fitsB; simp only [Bool.and_eq_true, decide_eq_true_eq]; omega
        rw [if_neg (fun e => e h3), if_neg (by omega), if_neg h4]
      · rw [if_neg h2] at h; exact absurd rfl h
def withC (s : RS) (c : Nat) : RS := { s with calls := c }
theorem wr_with (s : RS) (c : Nat) (f a : Int) (l : Txt) : wrS (withC s c) f a l = withC (wrS s f a l) c := by
  unfold wrS
  by_cases h : chk f a l.length = 0 ∧ l ≠ []
  · rw [if_pos h, if_pos h]; rfl
  · rw [if_neg h, if_neg h]
theorem inv_withC {s : RS} (h : Inv s) (n : Nat) : Inv (withC s n) := inv_calls h n
theorem rr_tick {r : FS} {s : RS} (h : RR r s) (hc : 0 < s.calls) : RR (tick r) (withC s (s.calls - 1)) :=
  ⟨h.now, h.dur, h.q, h.lost, h.down, by show r.armed - 1 = s.calls - 1; rw [h.armed], fun _ => h.keep hc, h.fine⟩
theorem add_scalars (r : FS) (f a : Nat) (l : Txt) : (addF r f a l).down = r.down ∧ (addF r f a l).armed = r.armed ∧ (addF r f a l).keep = r.keep ∧ (addF r f a l).lost = r.lost := by
  unfold addF; split <;> exact ⟨rfl, rfl, rfl, rfl⟩
theorem crashF_down (r : FS) (ks : List Int) : (crashF r ks).down = true := by
  unfold crashF
  split
  · assumption
  · rfl
/-- A write that is possible, or nothing. -/
theorem rr_wrx {r : FS} {s : RS} (h : RR r s) (hI : Inv s) (f a : Int) (l : Txt) : RR (if isF f ∧ fitsB a l.length = true then addF r f.toNat a.toNat l else r) (wrS s f a l) := by
  by_cases hc : chk f a l.length = 0
  · rw [if_pos ((chk_iff f a _).1 hc)]
    exact rr_wr h hI hc
  · rw [if_neg (fun e => hc ((chk_iff f a _).2 e))]
    unfold wrS
    rw [if_neg (fun e => hc e.1)]
    exact h
theorem strike_zero' {s : RS} (h : s.calls = 0) : strikeS s = s := by unfold strikeS; rw [if_pos h]
theorem strike_one {s : RS} (h : s.calls = 1) : strikeS s = crashS (withC s 0) s.keep := by unfold strikeS; rw [if_neg (by omega), if_pos h]; rfl
theorem strike_more {s : RS} (h : 2 ≤ s.calls) : strikeS s = withC s (s.calls - 1) := by unfold strikeS; rw [if_neg (by omega), if_neg (by omega)]; rfl
theorem wr_keep (s : RS) (f a : Int) (l : Txt) : (wrS s f a l).keep = s.keep := by unfold wrS; split <;> rfl
theorem rr_write {r : FS} {s : RS} (h : RR r s) (hI : Inv s) (f a : Int) (l : Txt) : RR (writeF r f a l) (writeS s f a l) ∧ writeFE r f a l = writeE s f a l := by
  have hE : ∀ d : Bool, s.down = false → (comesF r f a l).down = d → (strikeS (wrS s f a l)).down = d → writeFE r f a l = writeE s f a l := by
    intro d h1 h2 h3
    unfold writeFE writeE
    rw [h2, h3, h1, if_neg (show ¬ (false = true) by decide), chk_cases]
  by_cases hd : s.down = true
  · have hr : r.down = true := h.down.trans hd
    have hc : comesF r f a l = r := by unfold comesF; rw [if_pos (.inl hr)]
    unfold writeF writeS
    rw [hc, if_pos (.inl hr), if_pos hd]
    refine ⟨h, ?_⟩
    unfold writeFE writeE
    rw [hc, if_pos hr, if_pos hd]
  · have hd : s.down = false := by simpa using hd
    have hr : r.down = false := h.down.trans hd
    have hws : writeS s f a l = strikeS (wrS s f a l) := by unfold writeS; rw [hd]; rfl
    have hwc := wr_calls s f a l
    rw [hws]
    rcases Nat.lt_or_ge 1 s.calls with h2 | h2
    · have hra : 1 < r.armed := by rw [h.armed]; exact h2
      have hc : comesF r f a l = tick r := by
        unfold comesF
        rw [if_neg (by rw [hr]; rintro (e | e); exact absurd e (by decide); omega), if_pos hra]
      have hst : strikeS (wrS s f a l) = wrS (withC s (s.calls - 1)) f a l := by
        rw [strike_more (by rw [hwc.1]; omega), wr_with, hwc.1]
      have ht : (tick r).down = false := hr
      refine ⟨?_, hE false hd (by rw [hc]; exact ht) (by rw [hst]; exact (wr_calls _ f a l).2.trans hd)⟩
      rw [hst]
      have h3 := rr_wrx (rr_tick h (by omega)) (inv_withC hI _) f a l
      unfold writeF
      rw [hc, ht]
      by_cases hv : isF f ∧ fitsB a l.length = true
      · rw [if_neg (by rintro (e | e); exact absurd e (by decide); exact e hv)]
        rw [if_pos hv] at h3; exact h3
      · rw [if_pos (.inr hv)]
        rw [if_neg hv] at h3; exact h3
    · rcases Nat.eq_or_lt_of_le h2 with h1 | h1
      · have hra : r.armed = 1 := h.armed.trans h1
        have hc : comesF r f a l = crashF (if isF f ∧ fitsB a l.length = true then addF (tick r) f.toNat a.toNat l else tick r) r.keep := by
          unfold comesF
          rw [if_neg (by rw [hr, hra]; rintro (e | e); exact absurd e (by decide); exact absurd e (by decide)), if_neg (by omega)]
        have hst : strikeS (wrS s f a l) = crashS (wrS (withC s 0) f a l) s.keep := by
          rw [strike_one (hwc.1.trans h1), wr_with, wr_keep]
        have h3 := rr_wrx (rr_tick h (by omega)) (inv_withC hI _) f a l
        rw [h1] at h3
        have h4 := rr_crash h3 (inv_wr (inv_withC hI 0) f a l) r.keep
        have hk : r.keep = s.keep := h.keep (by omega)
        have hcd : (comesF r f a l).down = true := by rw [hc]; exact crashF_down _ _
        refine ⟨?_, hE true hd hcd (by rw [hst, ← hk, ← h4.down]; exact crashF_down _ _)⟩
        unfold writeF
        rw [if_pos (.inl hcd), hc, hst, ← hk]
        exact h4
      · have h0 : s.calls = 0 := by omega
        have hra : r.armed = 0 := h.armed.trans h0
        have hc : comesF r f a l = r := by unfold comesF; rw [if_pos (.inr hra)]
        have hst : strikeS (wrS s f a l) = wrS s f a l := strike_zero' (hwc.1.trans h0)
        refine ⟨?_, hE false hd (by rw [hc]; exact hr) (by rw [hst]; exact hwc.2.trans hd)⟩
        rw [hst]
        have h3 := rr_wrx h hI f a l
        unfold writeF
        rw [hc, hr]
        by_cases hv : isF f ∧ fitsB a l.length = true
        · rw [if_neg (by rintro (e | e); exact absurd e (by decide); exact e hv)]
          rw [if_pos hv] at h3; exact h3
        · rw [if_pos (.inr hv)]
          rw [if_neg hv] at h3; exact h3
/-- A call that writes nothing. -/
theorem rr_strike {r : FS} {s : RS} (h : RR r s) (hI : Inv s) (hd : s.down = false) : RR (comesF r 0 0 []) (strikeS s) := by
  have hw := (rr_write h hI 0 0 []).1
  have hws : wrS s 0 0 [] = s := by unfold wrS; rw [if_neg (fun e => e.2 rfl)]
  unfold writeS at hw
  rw [hd, if_neg (show ¬ (false = true) by decide), hws] at hw
  have hF : writeF r 0 0 [] = comesF r 0 0 [] := by
    unfold writeF
    split
    · rfl
    · unfold addF; rw [if_pos rfl]
  rw [hF] at hw
  exact hw
theorem comes_down {r : FS} (h : r.down = true) (f a : Int) (l : Txt) : comesF r f a l = r := by unfold comesF; rw [if_pos (.inl h)]
def syncF (r : FS) (f : Int) : FS :=
  if (comesF r 0 0 []).down = true then comesF r 0 0 [] else if ¬ isF f then comesF r 0 0 [] else
    if 0 < (comesF r 0 0 []).lost then { comesF r 0 0 [] with lost := (comesF r 0 0 []).lost - 1 } else settleF (comesF r 0 0 []) f.toNat (getF (comesF r 0 0 []).fl f.toNat).1
def syncFE (r : FS) (f : Int) : Int := if (comesF r 0 0 []).down = true then 8 else if ¬ isF f then 1 else if 0 < (comesF r 0 0 []).lost then 9 else 0
theorem isF_nat {f : Int} (h : isF f) : f.toNat < 16 := by unfold isF at h; omega
theorem rr_sync {r : FS} {s : RS} (h : RR r s) (hI : Inv s) (f : Int) : RR (syncF r f) (syncS s f) ∧ syncFE r f = syncE s f := by
  by_cases hd : s.down = true
  · have hr : r.down = true := h.down.trans hd
    unfold syncF syncS syncFE syncE
    rw [comes_down hr, if_pos hr, if_pos hd, if_pos hr, if_pos hd]
    exact ⟨h, rfl⟩
  · have hd : s.down = false := by simpa using hd
    have hs := rr_strike h hI hd
    unfold syncF syncS syncFE syncE
    rw [hd, if_neg (show ¬ (false = true) by decide), if_neg (show ¬ (false = true) by decide)]
    generalize comesF r 0 0 [] = r1 at *
    generalize strikeS s = s1 at *
    rw [hs.down, hs.lost]
    by_cases h1 : s1.down = true
    · rw [if_pos h1, if_pos h1, if_pos h1]; exact ⟨hs, rfl⟩
    · rw [if_neg h1, if_neg h1, if_neg h1]
      by_cases h2 : isF f
      · have hn2 : ¬ ¬ isF f := fun e => e h2
        rw [if_neg hn2, if_neg hn2, if_neg hn2]
        by_cases h3 : 0 < s1.lost
        · rw [if_pos h3, if_pos h3, if_pos h3]
          exact ⟨⟨hs.now, hs.dur, hs.q, rfl, hs.down, hs.armed, hs.keep, hs.fine⟩, rfl⟩
        · rw [if_neg h3, if_neg h3, if_neg h3]
          exact ⟨rr_settle hs (isF_nat h2), rfl⟩
      · rw [if_pos h2, if_pos h2, if_pos h2]; exact ⟨hs, rfl⟩
def truncF (r : FS) (f n : Int) : FS :=
  if (comesF r 0 0 []).down = true then comesF r 0 0 [] else if ¬ (isF f ∧ 0 ≤ n ∧ n ≤ (getF (comesF r 0 0 []).fl f.toNat).1.length) then comesF r 0 0 [] else
    settleF (comesF r 0 0 []) f.toNat ((getF (comesF r 0 0 []).fl f.toNat).1.take n.toNat)
def truncFE (r : FS) (f n : Int) : Int := if (comesF r 0 0 []).down = true then 8 else if ¬ (isF f ∧ 0 ≤ n ∧ n ≤ (getF (comesF r 0 0 []).fl f.toNat).1.length) then 1 else 0
theorem rr_trunc {r : FS} {s : RS} (h : RR r s) (hI : Inv s) (f n : Int) : RR (truncF r f n) (truncS s f n) ∧ truncFE r f n = truncE s f n := by
  by_cases hd : s.down = true
  · have hr : r.down = true := h.down.trans hd
    unfold truncF truncS truncFE truncE
    rw [comes_down hr, if_pos hr, if_pos hd, if_pos hr, if_pos hd]
    exact ⟨h, rfl⟩
  · have hd : s.down = false := by simpa using hd
    have hs := rr_strike h hI hd
    unfold truncF truncS truncFE truncE
    rw [hd, if_neg (show ¬ (false = true) by decide), if_neg (show ¬ (false = true) by decide)]
    generalize comesF r 0 0 [] = r1 at *
    generalize strikeS s = s1 at *
    rw [hs.down]
    by_cases h1 : s1.down = true
    · rw [if_pos h1, if_pos h1, if_pos h1, if_pos h1]; exact ⟨hs, rfl⟩
    · rw [if_neg h1, if_neg h1, if_neg h1, if_neg h1]
      have hiff : (isF f ∧ 0 ≤ n ∧ n ≤ ((getF r1.fl f.toNat).1.length : Int)) ↔ (isF f ∧ 0 ≤ n ∧ n ≤ (s1.sz f.toNat : Int)) := by
        constructor
        · rintro ⟨a, b, c⟩
          rw [(hs.now _ (isF_nat a)).1] at c
          exact ⟨a, b, c⟩
        · rintro ⟨a, b, c⟩
          rw [← (hs.now _ (isF_nat a)).1] at c
          exact ⟨a, b, c⟩
      by_cases h2 : isF f ∧ 0 ≤ n ∧ n ≤ (s1.sz f.toNat : Int)
      · have h3 := hiff.2 h2
        rw [if_neg (fun e => e h3), if_neg (fun e => e h2), if_neg (fun e => e h3), if_neg (fun e => e h2)]
        exact ⟨rr_cut hs (isF_nat h2.1) (by omega), rfl⟩
      · have h3 : ¬ (isF f ∧ 0 ≤ n ∧ n ≤ ((getF r1.fl f.toNat).1.length : Int)) := fun e => h2 (hiff.1 e)
        rw [if_pos h3, if_pos h2, if_pos h3, if_pos h2]; exact ⟨hs, rfl⟩
theorem rr_lose {r : FS} {s : RS} (h : RR r s) (n : Nat) : RR { r with lost := n } { s with lost := n } := ⟨h.now, h.dur, h.q, rfl, h.down, h.armed, h.keep, h.fine⟩
theorem rr_start {r : FS} {s : RS} (h : RR r s) : RR { r with down := false } { s with down := false } := ⟨h.now, h.dur, h.q, h.lost, rfl, h.armed, h.keep, h.fine⟩
theorem rr_arm {r : FS} {s : RS} (h : RR r s) (n : Int) (ks : List Int) : RR { r with armed := n.toNat, keep := ks } (armS s n ks) := ⟨h.now, h.dur, h.q, h.lost, h.down, rfl, fun _ => rfl, h.fine⟩
/-- What Read returns. -/
def readFL (r : FS) (f a n : Int) : Txt := if r.down = true ∨ ¬ isF f ∨ a < 0 ∨ n < 0 then [] else ((getF r.fl f.toNat).1.drop a.toNat).take n.toNat
theorem rr_read {r : FS} {s : RS} (h : RR r s) (f a n : Int) : readFL r f a n = readL s f a n := by
  unfold readFL readL
  rw [h.down]
  by_cases hc : s.down = true ∨ ¬ isF f ∨ a < 0 ∨ n < 0
  · rw [if_pos hc, if_pos hc]
  · rw [if_neg hc, if_neg hc]
    have hf : isF f := by
      by_cases hf : isF f
      · exact hf
      · exact absurd (.inr (.inl hf)) hc
    have hp := h.now f.toNat (isF_nat hf)
    unfold bytesOf readN
    have hl := hp.1
    rcases Nat.lt_or_ge (s.sz f.toNat) a.toNat with hs | hs
    · rw [List.drop_eq_nil_of_le (by omega), List.take_nil, show min n.toNat (s.sz f.toNat - a.toNat) = 0 by omega]; rfl
    rw [← hp.sub _ _ (by omega)]
    apply List.ext_getElem
    · simp only [List.length_take, List.length_drop]; omega
    · intro i h1 h2
      simp only [List.getElem_take, List.getElem_drop]

/-! ### What the walks want -/
def comesS (s : RS) (f a : Int) (l : Txt) : RS :=
  if s.down = true ∨ s.calls = 0 then s else if 1 < s.calls then withC s (s.calls - 1) else crashS (wrS (withC s 0) f a l) s.keep
theorem rr_comes {r : FS} {s : RS} (h : RR r s) (hI : Inv s) (f a : Int) (l : Txt) : RR (comesF r f a l) (comesS s f a l) ∧ Inv (comesS s f a l) := by
  unfold comesF comesS
  rw [h.down, h.armed]
  by_cases h1 : s.down = true ∨ s.calls = 0
  · rw [if_pos h1, if_pos h1]; exact ⟨h, hI⟩
  · rw [if_neg h1, if_neg h1]
    have hc : 0 < s.calls := by
      rcases Nat.eq_zero_or_pos s.calls with h0 | h0
      · exact absurd (.inr h0) h1
      · exact h0
    by_cases h2 : 1 < s.calls
    · rw [if_pos h2, if_pos h2]; exact ⟨rr_tick h hc, inv_withC hI _⟩
    · rw [if_neg h2, if_neg h2]
      have h3 := rr_tick h hc
      rw [show s.calls - 1 = 0 by omega] at h3
      have h4 := rr_wrx h3 (inv_withC hI 0) f a l
      have hk : r.keep = s.keep := h.keep hc
      rw [hk]
      exact ⟨rr_crash h4 (inv_wr (inv_withC hI 0) f a l) _, inv_crash (inv_wr (inv_withC hI 0) f a l) _⟩
theorem rr_len {r : FS} {s : RS} (h : RR r s) (hI : Inv s) (f : Nat) (hf : f < 16) : (getF r.fl f).1.length ≤ 16777216 ∧ (getF r.fl f).2.length ≤ 16777216 := by
  have h1 := (h.now f hf).1
  have h2 := (h.dur f hf).1
  have h3 := hI.max f
  have h4 := hI.le f
  omega
theorem rr_q {r : FS} {s : RS} (h : RR r s) (hI : Inv s) : ∀ p ∈ r.q, p.1 < 16 ∧ p.2 ≤ 262144 := fun p hp => by
  rw [h.q] at hp
  have h1 := hI.inQ p hp
  have h2 := hI.max p.1
  omega
theorem crF_far (fl : List (Nat × Txt × Txt)) (q : List (Nat × Nat)) (ks : List Int) (n : Nat) : crF fl q ks (q.length + n) = crF fl q ks q.length := by
  induction n with
  | zero => rfl
  | succ n ih =>
    show crF fl q ks (q.length + n + 1) = _
    show (if h : q.length + n < q.length then _ else _) = _
    rw [dif_neg (by omega), ih]
theorem rr_lens {r : FS} {s : RS} (h : RR r s) (hI : Inv s) (ks : List Int) (k f : Nat) (hf : f < 16) : (getF (crF r.fl r.q ks k) f).1.length ≤ 16777216 ∧ (getF (crF r.fl r.q ks k) f).2.length ≤ 16777216 := by
  have key : ∀ k, k ≤ s.q.length → (getF (crF r.fl r.q ks k) f).1.length ≤ 16777216 ∧ (getF (crF r.fl r.q ks k) f).2.length ≤ 16777216 := fun k hk => by
    obtain ⟨h1, h2⟩ := rr_crK h hI ks k hk f hf
    rw [h1]
    have h3 := h2.1
    have h4 := crK_dz hI ks k f
    have h5 := (rr_len h hI f hf).1
    have h6 := hI.max f
    omega
  rcases Nat.le_total k s.q.length with hk | hk
  · exact key k hk
  · have : crF r.fl r.q ks k = crF r.fl r.q ks r.q.length := by
      have h1 := crF_far r.fl r.q ks (k - r.q.length)
      rw [h.q] at h1 ⊢
      rwa [show s.q.length + (k - s.q.length) = k by omega] at h1
    rw [this]
    exact key r.q.length (by rw [h.q]; exact Nat.le_refl _)
theorem add_qlen (r : FS) (f a : Nat) (l : Txt) : (addF r f a l).q.length ≤ r.q.length + l.length + 1 := by
  unfold addF
  split
  · omega
  · next hl =>
    show (r.q ++ newF' r.q f (a / 64) (tot a l.length)).length ≤ _
    rw [List.length_append]
    have h1 : (newF' r.q f (a / 64) (tot a l.length)).length ≤ tot a l.length := by
      unfold newF'
      rw [List.length_map]
      refine Nat.le_trans (List.length_filter_le _ _) ?_
      rw [List.length_range']; exact Nat.le_refl _
    have h2 : tot a l.length ≤ l.length + 1 := by
      have h0 : 0 < l.length := List.length_pos_iff.2 hl
      unfold tot
      have h3 : (a + l.length - 1) / 64 ≤ a / 64 + l.length := by
        have : (a + l.length - 1) / 64 ≤ (a + 64 * l.length) / 64 := Nat.div_le_div_right (by omega)
        omega
      omega
    omega
theorem crash_qlen (r : FS) (ks : List Int) : (crashF r ks).q.length ≤ r.q.length := by
  unfold crashF
  split
  · exact Nat.le_refl _
  · show ([] : List (Nat × Nat)).length ≤ _
    simp
theorem comes_qlen (r : FS) (f a : Int) (l : Txt) : (comesF r f a l).q.length ≤ r.q.length + l.length + 1 := by
  unfold comesF
  split
  · omega
  · split
    · show r.q.length ≤ _
      omega
    · refine Nat.le_trans (crash_qlen _ _) ?_
      split
      · exact add_qlen (tick r) _ _ _
      · show r.q.length ≤ _
        omega
end Go.Proofs.YtjcajgcfkidbkaaDoor
namespace Go.Proofs.YtjcajgcfkidbkaaDoor
open Go.RowKit

set_option maxRecDepth 100000 in
theorem rcrash_rr {w : World} {O : Nat → Prop} {B : Nat} {r : FS} {s : RS} (h : (RfT B r).at_ w O) (hr : RR r s) (hI : Inv s) (hq : r.q.length ≤ 100000) (ks : List Int) (v : Value) (hk : Ints w v ks) (hkl : ks.length ≤ 17592186044416) (hkB : ∀ p, ks ≠ [] → v.ownBlock = some p → p ≠ B) :
    Calls Tryd.prog 25 #[.pointer (some ⟨B, 0, none⟩), v] w fun e w' => e = .returned (.tuple #[]) ∧ (RfT B (crashF r ks)).step O w w' :=
  (rcrash_any ks v h hr.fine (rr_q hr hI) hq (fun k f hf => rr_lens hr hI ks k f hf) hk hkl hkB).mono fun _ _ ⟨h1, h2, _⟩ => ⟨h1, h2⟩
set_option maxRecDepth 100000 in
theorem rcrash_own {w : World} {O : Nat → Prop} {B : Nat} {fv qv kv : Value} {r : FS} {s : RS} (h : RfAt w O B fv qv kv r) (hr : RR r s) (hI : Inv s) (hq : r.q.length ≤ 100000) (hkl : r.keep.length ≤ 17592186044416) :
    Calls Tryd.prog 25 #[.pointer (some ⟨B, 0, none⟩), kv] w fun e w' => e = .returned (.tuple #[]) ∧ (RfT B (crashF r r.keep)).step O w w' :=
  rcrash_rr ⟨fv, qv, kv, h⟩ hr hI hq r.keep kv (row_ints h.keep) hkl (fun p _ hp => rowB_ne h.keep h.heap (by decide) p hp)
set_option maxHeartbeats 2000000 in
set_option maxRecDepth 100000 in
theorem rcomes_any {w : World} {O : Nat → Prop} {B : Nat} {r : FS} {s : RS} (h : (RfT B r).at_ w O) (hr : RR r s) (hI : Inv s) (f a : Int) (l : Txt) (hl : l.length ≤ 1000) (hq : r.q.length ≤ 50000) (hkl : r.keep.length ≤ 17592186044416) (hA : r.armed ≤ 9223372036854775807) :
    Calls Tryd.prog 74 #[.pointer (some ⟨B, 0, none⟩), .int .i64 f, .int .i64 a, .string (S l)] w fun e w' => e = .returned (.tuple #[]) ∧ (RfT B (comesF r f a l)).step O w w' := by
  have HS0 := Lib.hid (Thing.step_fr h (Fr.refl w))
  have HLL := Lib.hid hl
  have HQQ := Lib.hid hq
  by_cases hd : r.down = true
  · have HC := Lib.hid (comes_down hd f a l)
    obtain ⟨fv, qv, kv, hh⟩ := h
    obtain ⟨_, _, _, c3, _, _⟩ := hh.c
    rw [hd] at c3
    clear hh hr hI hl hq hkl hA
    go_enter Tryd.func74, Tryd.ntmps74
    go_wp2_with fail
    exact bodyPost_ret (v := .tuple #[]) (by simp [results, Tryd.results74, go_sem]) rfl ⟨rfl, by rw [HC.out]; exact HS0.out⟩
  · replace hd : r.down = false := by simpa using hd
    by_cases h0 : r.armed = 0
    · have HC := Lib.hid (show comesF r f a l = r by unfold comesF; rw [if_pos (.inr h0)])
      obtain ⟨fv, qv, kv, hh⟩ := h
      obtain ⟨_, _, _, c3, c4, _⟩ := hh.c
      rw [hd] at c3
      rw [h0] at c4
      clear hh hr hI hl hq hkl hA
      go_enter Tryd.func74, Tryd.ntmps74
      go_wp2_with fail
      exact bodyPost_ret (v := .tuple #[]) (by simp [results, Tryd.results74, go_sem]) rfl ⟨rfl, by rw [HC.out]; exact HS0.out⟩
    · obtain ⟨n, hn⟩ : ∃ n, r.armed = n + 1 := ⟨r.armed - 1, by omega⟩
      obtain ⟨fv, qv, kv, hh⟩ := h
      have ht : (tick r).armed = n := by unfold tick; show r.armed - 1 = n; omega
      have h1 : RfAt (w.setCell ⟨B, 4, none⟩ (.int .i64 (n : Int))) O B fv qv kv (tick r) := hh.scalar 4 (.int .i64 (n : Int)) (tick r) (by rw [ht]; rfl) rfl rfl rfl
      have hs1 : (RfT B (tick r)).step O w (w.setCell ⟨B, 4, none⟩ (.int .i64 (n : Int))) := ⟨O, ⟨fv, qv, kv, h1⟩, fun _ hk => .inl hk, (Own.refl O w).only (OnlyB.setCell w B 4 _) (.inl hh.oB)⟩
      have HW1 := Lib.hid ((Own.refl O w).only (OnlyB.setCell w B 4 (.int .i64 (n : Int))) (.inl hh.oB))
      obtain ⟨_, _, _, c3, c4, _⟩ := hh.c
      rw [hd] at c3
      rw [hn, show ((n + 1 : Nat) : Int) = (n : Int) + 1 from by omega] at c4
      have z4 : w.frozen? ⟨B, 4, none⟩ = false := hh.fz 4
      have d4 : (w.setCell ⟨B, 4, none⟩ (.int .i64 (n : Int))).cell? ⟨B, 4, none⟩ = some (.int .i64 (n : Int)) := by have := h1.c.2.2.2.2.1; rw [ht] at this; exact this
      have hnb : (n : Int) ≤ 9223372036854775806 := by omega
      have hnw : (n : Int) + 1 - 1 = (n : Int) := by omega
      have HH1 := Lib.hid h1
      have HS1 := Lib.hid hs1
      by_cases h2 : 0 < n
      · have HC := Lib.hid (show comesF r f a l = tick r by unfold comesF; rw [if_neg (by rw [hd]; rintro (e | e); exact absurd e (by decide); exact h0 e), if_pos (by omega)])
        have h2' : (0 : Int) < (n : Int) := by omega
        clear hh h1 hs1 hr hI hn ht hl hq hkl hA
        go_enter Tryd.func74, Tryd.ntmps74
        go_wp2_with fail
        exact bodyPost_ret (v := .tuple #[]) (by simp [results, Tryd.results74, go_sem]) rfl ⟨rfl, by rw [HC.out]; exact HS1.out⟩
      · obtain rfl : n = 0 := by omega
        have hrt := rr_tick hr (by rw [← hr.armed]; omega)
        have hIt := inv_calls hI (s.calls - 1)
        have HKL := Lib.hid (show (tick r).keep.length ≤ 17592186044416 from hkl)
        have HRT := Lib.hid hrt
        have HIT := Lib.hid hIt
        obtain ⟨aq, cq, rfl⟩ := row_at hh.keep
        by_cases hv : isF f ∧ fitsB a l.length = true
        · have HC := Lib.hid (show comesF r f a l = crashF (addF (tick r) f.toNat a.toNat l) r.keep by unfold comesF; rw [if_neg (by rw [hd]; rintro (e | e); exact absurd e (by decide); exact h0 e), if_neg (by omega), if_pos hv])
          have hra := rr_wrx hrt hIt f a l
          rw [if_pos hv] at hra
          have HRA := Lib.hid hra
          have HIA := Lib.hid (inv_wr hIt f a l)
          have HV := Lib.hid hv.2
          have hfits := hv.2
          unfold fitsB at hfits
          simp only [Bool.and_eq_true, decide_eq_true_eq] at hfits
          obtain ⟨⟨ha0, _⟩, ha1⟩ := hfits
          obtain ⟨hf0, hf1⟩ := hv.1
          obtain ⟨fn, rfl⟩ : ∃ k : Nat, f = k := ⟨f.toNat, by omega⟩
          obtain ⟨an, rfl⟩ : ∃ k : Nat, a = k := ⟨a.toNat, by omega⟩
          simp only [Int.toNat_natCast] at HC HRA
          have HLN := Lib.hid (rr_len hrt hIt fn (by omega)).1
          have HAQ := Lib.hid (show (addF (tick r) fn an l).q.length ≤ 100000 by have h9 := add_qlen (tick r) fn an l; have h8 : (tick r).q.length = r.q.length := rfl; omega)
          have hf15 : (fn : Int) ≤ 15 := by omega
          clear hh h1 hs1 hr hI hn ht hv hra hrt hIt hl hq hkl hA
          go_enter Tryd.func74, Tryd.ntmps74
          go_upto_region 4 with (go_at_call 82; refine (rfits_any an l _ (by have := HLL.out; omega)).mono ?_; rw [HV.out]; rintro e w2 ⟨rfl, rfl⟩)
          go_upto_region 5 with (go_at_call 83; refine (radd_any ⟨_, _, _, HH1.out⟩ fn an l (by omega) HRT.out.fine (by show r.q.length ≤ _; have := HQQ.out; omega) HLN.out (by omega)).mono ?_; rintro e w3 ⟨rfl, hs3⟩)
          obtain ⟨O3, ⟨fv3, qv3, kv3, hr3⟩, hG3, hW3⟩ := hs3
          have HR3 := Lib.hid hr3
          have HG3 := Lib.hid hG3
          have HW3 := Lib.hid hW3
          have c5 := hr3.c.2.2.2.2.2
          obtain ⟨ak, ck, rfl⟩ := row_at hr3.keep
          clear hr3 hG3 hW3 c3 c4 z4 d4
          go_wp2_with (go_at_call 25; refine (rcrash_own HR3.out HRA.out HIA.out HAQ.out (by rw [(add_scalars _ _ _ _).2.2.1]; exact HKL.out)).mono ?_; rintro e w4 ⟨rfl, hs4⟩)
          rw [(add_scalars (tick r) fn an l).2.2.1] at hs4
          have HS4 := Lib.hid (Thing.step_trans (fun _ hk => .inl hk) HW1.out (Thing.step_trans HG3.out HW3.out hs4))
          go_end0
          exact ⟨rfl, by rw [HC.out]; exact HS4.out⟩
        · have HC := Lib.hid (show comesF r f a l = crashF (tick r) r.keep by unfold comesF; rw [if_neg (by rw [hd]; rintro (e | e); exact absurd e (by decide); exact h0 e), if_neg (by omega), if_neg hv])
          have c5 := h1.c.2.2.2.2.2
          have hcall : ∀ w', w' = w.setCell ⟨B, 4, none⟩ (.int .i64 ((0 : Nat) : Int)) → Calls Tryd.prog 25 #[.pointer (some ⟨B, 0, none⟩), .slice aq r.keep.length cq] w' fun e w'' => e = .returned (.tuple #[]) ∧ (RfT B (crashF (tick r) r.keep)).step O w' w'' := fun w' e => by
            subst e
            exact rcrash_own HH1.out HRT.out HIT.out (by show r.q.length ≤ _; omega) HKL.out
          have HCL := Lib.hid hcall
          by_cases hF : isF f
          · have HV := Lib.hid (show fitsB a l.length = false by cases hb : fitsB a l.length with | false => rfl | true => exact absurd ⟨hF, hb⟩ hv)
            obtain ⟨hf0, hf1⟩ := hF
            have hf15 : f ≤ 15 := by omega
            clear hh h1 hs1 hr hI hn ht hv hrt hIt hcall hl hq hkl hA
            go_enter Tryd.func74, Tryd.ntmps74
            go_wp2_with (first
              | (go_at_call 82; refine (rfits_any a l _ (by have := HLL.out; omega)).mono ?_; rw [HV.out]; rintro e w2 ⟨rfl, rfl⟩)
              | (go_at_call 25; refine (HCL.out _ rfl).mono ?_; rintro e w4 ⟨rfl, hs4⟩))
            have HS4 := Lib.hid (Thing.step_trans (fun _ hk => .inl hk) HW1.out hs4)
            go_end0
            exact ⟨rfl, by rw [HC.out]; exact HS4.out⟩
          · rcases (show f < 0 ∨ (0 ≤ f ∧ ¬ f ≤ 15) by unfold isF at hF; omega) with hf0 | ⟨hf0, hf1⟩
            all_goals
              clear hh h1 hs1 hr hI hn ht hv hrt hIt hcall hF hl hq hkl hA
              go_enter Tryd.func74, Tryd.ntmps74
              go_wp2_with (go_at_call 25; refine (HCL.out _ rfl).mono ?_; rintro e w4 ⟨rfl, hs4⟩)
              have HS4 := Lib.hid (Thing.step_trans (fun _ hk => .inl hk) HW1.out hs4)
              go_end0
              exact ⟨rfl, by rw [HC.out]; exact HS4.out⟩
end Go.Proofs.YtjcajgcfkidbkaaDoor
namespace Go.Proofs.YtjcajgcfkidbkaaDoor
open Go.RowKit

theorem mayE_down {r : FS} (h : r.down = true) (f : Int) : mayE r f = 8 := by unfold mayE; rw [if_pos h]
theorem mayE_no {r : FS} (h : r.down = false) {f : Int} (hf : ¬ isF f) : mayE r f = 1 := by unfold mayE; rw [if_neg (by rw [h]; decide), if_neg hf]
theorem mayE_ok {r : FS} (h : r.down = false) {f : Int} (hf : isF f) : mayE r f = 0 := by unfold mayE; rw [if_neg (by rw [h]; decide), if_pos hf]
set_option maxHeartbeats 2000000 in
set_option maxRecDepth 100000 in
theorem rwrite_any {w : World} {O : Nat → Prop} {B : Nat} {r : FS} {s : RS} (h : (RfT B r).at_ w O) (hr : RR r s) (hI : Inv s) (f a : Int) (l : Txt) (hl : l.length ≤ 1000) (hq : r.q.length ≤ 50000) (hkl : r.keep.length ≤ 17592186044416) (hA : r.armed ≤ 9223372036854775807) :
    Calls Tryd.prog 56 #[.pointer (some ⟨B, 0, none⟩), .int .i64 f, .int .i64 a, .string (S l)] w fun e w' => e = .returned (.int .i64 (writeFE r f a l)) ∧ (RfT B (writeF r f a l)).step O w w' := by
  have HCM := Lib.hid (rcomes_any h hr hI f a l hl hq hkl hA)
  obtain ⟨hr1, hI1⟩ := rr_comes hr hI f a l
  have hq1 := comes_qlen r f a l
  unfold writeF writeFE
  generalize comesF r f a l = r1 at *
  generalize comesS s f a l = s1 at *
  have HLL := Lib.hid hl
  have HR1 := Lib.hid hr1
  have HI1 := Lib.hid hI1
  have HQ1 := Lib.hid (show r1.q.length ≤ 100000 by omega)
  clear h hr hI hl hq hkl hA hq1 hI1
  by_cases hd : r1.down = true
  · have HM := Lib.hid (mayE_down hd f)
    rw [if_pos hd, if_pos (.inl hd)]
    clear hd hr1
    go_enter Tryd.func56, Tryd.ntmps56
    go_wp2_with (first
      | (go_at_call 74; refine HCM.out.mono ?_; rintro e w1 ⟨rfl, hs1⟩; obtain ⟨O1, hT1, hG1, hW1⟩ := hs1; have HT1 := Lib.hid hT1; have HG1 := Lib.hid hG1; have HW1 := Lib.hid hW1; clear hT1 hG1 hW1)
      | (go_at_call 62; refine (rmay_any HT1.out f).mono ?_; rw [HM.out]; rintro e w2 ⟨rfl, rfl⟩))
    go_ret
    exact ⟨rfl, O1, HT1.out, HG1.out, HW1.out⟩
  · have hd0 : r1.down = false := by simpa using hd
    rw [if_neg hd]
    by_cases hf : isF f
    · have HM := Lib.hid (mayE_ok hd0 hf)
      have hnf : ¬ ¬ isF f := fun e => e hf
      rw [if_neg hnf]
      by_cases ha : a < 0
      · have hv : ¬ (isF f ∧ fitsB a l.length = true) := fun e => by have := e.2; unfold fitsB at this; simp only [Bool.and_eq_true, decide_eq_true_eq] at this; omega
        rw [if_pos ha, if_pos (.inr hv)]
        clear hd hd0 hr1 hv hnf hf
        go_enter Tryd.func56, Tryd.ntmps56
        go_wp2_with (first
          | (go_at_call 74; refine HCM.out.mono ?_; rintro e w1 ⟨rfl, hs1⟩; obtain ⟨O1, hT1, hG1, hW1⟩ := hs1; have HT1 := Lib.hid hT1; have HG1 := Lib.hid hG1; have HW1 := Lib.hid hW1; clear hT1 hG1 hW1)
          | (go_at_call 62; refine (rmay_any HT1.out f).mono ?_; rw [HM.out]; rintro e w2 ⟨rfl, rfl⟩))
        go_ret
        exact ⟨rfl, O1, HT1.out, HG1.out, HW1.out⟩
      · rw [if_neg ha]
        by_cases hb : fitsB a l.length = true
        · have hv : isF f ∧ fitsB a l.length = true := ⟨hf, hb⟩
          rw [if_pos hb, if_neg (show ¬ (r1.down = true ∨ ¬ (isF f ∧ fitsB a l.length = true)) from fun e => e.elim hd (fun e => e hv))]
          have HB := Lib.hid hb
          unfold fitsB at hb
          simp only [Bool.and_eq_true, decide_eq_true_eq] at hb
          obtain ⟨⟨ha0, _⟩, ha1⟩ := hb
          obtain ⟨hf0, hf1⟩ := hf
          obtain ⟨fn, rfl⟩ : ∃ k : Nat, f = k := ⟨f.toNat, by omega⟩
          obtain ⟨an, rfl⟩ : ∃ k : Nat, a = k := ⟨a.toNat, by omega⟩
          simp only [Int.toNat_natCast]
          have HF := Lib.hid (show fn < 16 by omega)
          have HAN := Lib.hid (show an + l.length ≤ 16777216 by omega)
          have HLN := Lib.hid (rr_len HR1.out HI1.out fn (by omega)).1
          clear hd hd0 hr1 hv hnf ha1 ha0 hf0 hf1
          go_enter Tryd.func56, Tryd.ntmps56
          go_wp2_with (first
            | (go_at_call 74; refine HCM.out.mono ?_; rintro e w1 ⟨rfl, hs1⟩; obtain ⟨O1, hT1, hG1, hW1⟩ := hs1; have HT1 := Lib.hid hT1; have HG1 := Lib.hid hG1; have HW1 := Lib.hid hW1; clear hT1 hG1 hW1)
            | (go_at_call 62; refine (rmay_any HT1.out _).mono ?_; rw [HM.out]; rintro e w2 ⟨rfl, rfl⟩)
            | (go_at_call 82; refine (rfits_any _ l _ (by have := HLL.out; omega)).mono ?_; rw [HB.out]; rintro e w2 ⟨rfl, rfl⟩)
            | (go_at_call 83; refine (radd_any HT1.out fn an l HF.out HR1.out.fine HQ1.out HLN.out HAN.out).mono ?_; rintro e w3 ⟨rfl, hs3⟩; have HS3 := Lib.hid (Thing.step_trans HG1.out HW1.out hs3); clear hs3))
          go_ret
          exact ⟨rfl, HS3.out⟩
        · have hv : ¬ (isF f ∧ fitsB a l.length = true) := fun e => hb e.2
          rw [if_neg hb, if_pos (.inr hv)]
          have HB := Lib.hid (show fitsB a l.length = false by simpa using hb)
          clear hd hd0 hr1 hv hnf hf hb
          go_enter Tryd.func56, Tryd.ntmps56
          go_wp2_with (first
            | (go_at_call 74; refine HCM.out.mono ?_; rintro e w1 ⟨rfl, hs1⟩; obtain ⟨O1, hT1, hG1, hW1⟩ := hs1; have HT1 := Lib.hid hT1; have HG1 := Lib.hid hG1; have HW1 := Lib.hid hW1; clear hT1 hG1 hW1)
            | (go_at_call 62; refine (rmay_any HT1.out f).mono ?_; rw [HM.out]; rintro e w2 ⟨rfl, rfl⟩)
            | (go_at_call 82; refine (rfits_any _ l _ (by have := HLL.out; omega)).mono ?_; rw [HB.out]; rintro e w2 ⟨rfl, rfl⟩))
          go_ret
          exact ⟨rfl, O1, HT1.out, HG1.out, HW1.out⟩
    · have HM := Lib.hid (mayE_no hd0 hf)
      have hv : ¬ (isF f ∧ fitsB a l.length = true) := fun e => hf e.1
      rw [if_pos hf, if_pos (.inr hv)]
      clear hd hd0 hr1 hv hf
      go_enter Tryd.func56, Tryd.ntmps56
      go_wp2_with (first
        | (go_at_call 74; refine HCM.out.mono ?_; rintro e w1 ⟨rfl, hs1⟩; obtain ⟨O1, hT1, hG1, hW1⟩ := hs1; have HT1 := Lib.hid hT1; have HG1 := Lib.hid hG1; have HW1 := Lib.hid hW1; clear hT1 hG1 hW1)
        | (go_at_call 62; refine (rmay_any HT1.out f).mono ?_; rw [HM.out]; rintro e w2 ⟨rfl, rfl⟩))
      go_ret
      exact ⟨rfl, O1, HT1.out, HG1.out, HW1.out⟩

set_option maxHeartbeats 2000000 in
set_option maxRecDepth 100000 in
theorem rsync_any {w : World} {O : Nat → Prop} {B : Nat} {r : FS} {s : RS} (h : (RfT B r).at_ w O) (hr : RR r s) (hI : Inv s) (f : Int) (hq : r.q.length ≤ 50000) (hkl : r.keep.length ≤ 17592186044416) (hA : r.armed ≤ 9223372036854775807) (hL : r.lost ≤ 9223372036854775807) :
    Calls Tryd.prog 49 #[.pointer (some ⟨B, 0, none⟩), .int .i64 f] w fun e w' => e = .returned (.int .i64 (syncFE r f)) ∧ (RfT B (syncF r f)).step O w w' := by
  have HCM := Lib.hid (rcomes_any h hr hI 0 0 [] (by decide) hq hkl hA)
  obtain ⟨hr1, hI1⟩ := rr_comes hr hI 0 0 []
  have hq1 := comes_qlen r 0 0 []
  have hl1 : (comesF r 0 0 []).lost = r.lost := by
    unfold comesF
    split
    · rfl
    · split
      · rfl
      · unfold crashF
        split
        · split
          · first | rfl | exact (add_scalars _ _ _ _).2.2.2.trans rfl
          · rfl
        · split
          · first | rfl | exact (add_scalars _ _ _ _).2.2.2.trans rfl
          · rfl
  unfold syncF syncFE
  generalize comesF r 0 0 [] = r1 at *
  generalize comesS s 0 0 [] = s1 at *
  have HR1 := Lib.hid hr1
  have HI1 := Lib.hid hI1
  have HQ1 := Lib.hid (show r1.q.length ≤ 100000 by simp at hq1; omega)
  have hlb : (r1.lost : Int) ≤ 9223372036854775807 := by omega
  clear h hr hI hq hkl hA hq1 hI1 hL hl1
  by_cases hd : r1.down = true
  · have HM := Lib.hid (mayE_down hd f)
    rw [if_pos hd, if_pos hd]
    clear hd hr1
    go_enter Tryd.func49, Tryd.ntmps49
    go_wp2_with (first
      | (go_at_call 74; refine HCM.out.mono ?_; rintro e w1 ⟨rfl, hs1⟩; obtain ⟨O1, hT1, hG1, hW1⟩ := hs1; have HT1 := Lib.hid hT1; have HG1 := Lib.hid hG1; have HW1 := Lib.hid hW1; clear hT1 hG1 hW1)
      | (go_at_call 62; refine (rmay_any HT1.out f).mono ?_; rw [HM.out]; rintro e w2 ⟨rfl, rfl⟩))
    go_ret
    exact ⟨rfl, O1, HT1.out, HG1.out, HW1.out⟩
  · have hd0 : r1.down = false := by simpa using hd
    rw [if_neg hd, if_neg hd]
    by_cases hf : isF f
    · have HM := Lib.hid (mayE_ok hd0 hf)
      have hnf : ¬ ¬ isF f := fun e => e hf
      rw [if_neg hnf, if_neg hnf]
      by_cases hlo : 0 < r1.lost
      · rw [if_pos hlo, if_pos hlo]
        obtain ⟨n, hn⟩ : ∃ n, r1.lost = n + 1 := ⟨r1.lost - 1, by omega⟩
        have hnb : (n : Int) ≤ 9223372036854775806 := by omega
        have hnw : (n : Int) + 1 - 1 = (n : Int) := by omega
        have HN := Lib.hid hn
        have hn0 : (0 : Int) < (n : Int) + 1 := by omega
        clear hd hd0 hr1 hnf hf hlo hn hlb
        go_enter Tryd.func49, Tryd.ntmps49
        go_upto_region 5 with (first
          | (go_at_call 74; refine HCM.out.mono ?_; rintro e w1 ⟨rfl, hs1⟩; obtain ⟨O1, hT1, hG1, hW1⟩ := hs1; have HT1 := Lib.hid hT1; have HG1 := Lib.hid hG1; have HW1 := Lib.hid hW1; clear hT1 hG1 hW1)
          | (go_at_call 62; refine (rmay_any HT1.out f).mono ?_; rw [HM.out]; rintro e w2 ⟨rfl, rfl⟩))
        obtain ⟨fv, qv, kv, hh⟩ := HT1.out
        have h1 : RfAt (_root_.Go.World.setCell _ ⟨B, 2, none⟩ (.int .i64 (n : Int))) O1 B fv qv kv { r1 with lost := r1.lost - 1 } := hh.scalar 2 (.int .i64 (n : Int)) { r1 with lost := r1.lost - 1 } (by rw [HN.out]; rfl) rfl rfl rfl
        have HS1 := Lib.hid (Thing.step_trans HG1.out HW1.out (show (RfT B { r1 with lost := r1.lost - 1 }).step O1 _ _ from ⟨O1, ⟨fv, qv, kv, h1⟩, fun _ hk => .inl hk, (Own.refl O1 _).only (OnlyB.setCell _ B 2 _) (.inl hh.oB)⟩))
        have c2 := hh.c.2.2.1
        rw [HN.out, show ((n + 1 : Nat) : Int) = (n : Int) + 1 from by omega] at c2
        have z2 := hh.fz 2
        clear hh h1
        go_wp2_with fail
        go_ret
        exact ⟨rfl, HS1.out⟩
      · rw [if_neg hlo, if_neg hlo]
        obtain ⟨hf0, hf1⟩ := hf
        obtain ⟨fn, rfl⟩ : ∃ k : Nat, f = k := ⟨f.toNat, by omega⟩
        simp only [Int.toNat_natCast]
        have hlo' : r1.lost = 0 := by omega
        have HGT := Lib.hid (getI_nat r1.fl fn)
        have HLO := Lib.hid hlo'
        have HFL := Lib.hid HR1.out.fine.len
        clear hd hd0 hr1 hnf hlo hlo' hlb hf0 hf1
        have HFF := fun w' => fileF1 (fn : Int) (getF r1.fl fn).1 (getF r1.fl fn).2 w'
        go_enter Tryd.func49, Tryd.ntmps49
        go_upto_region 5 with (first
          | (go_at_call 74; refine HCM.out.mono ?_; rintro e w1 ⟨rfl, hs1⟩; obtain ⟨O1, hT1, hG1, hW1⟩ := hs1; have HT1 := Lib.hid hT1; have HG1 := Lib.hid hG1; have HW1 := Lib.hid hW1; clear hT1 hG1 hW1)
          | (go_at_call 62; refine (rmay_any HT1.out _).mono ?_; rw [HM.out]; rintro e w2 ⟨rfl, rfl⟩))
        obtain ⟨fv, qv, kv, hh⟩ := HT1.out
        have c2 := hh.c.2.2.1
        rw [HLO.out] at c2
        clear hh
        go_wp2_with (first
          | (go_at_call 63; refine (rget_any HT1.out fn HFL.out).mono ?_; rw [HGT.out]; unfold fileV; rintro e w4 ⟨rfl, hf4⟩; have HT4 := Lib.hid (Thing.fr _ HT1.out hf4); have HF4 := Lib.hid hf4; clear hf4)
          | (go_at_call 75; refine (rsettle_any HT4.out fn _ HFL.out HQ1.out).mono ?_; rintro e w5 ⟨rfl, hs5⟩; have HS5 := Lib.hid (Thing.step_trans HG1.out HW1.out (Thing.step_left HF4.out hs5)); clear hs5))
        go_ret
        exact ⟨rfl, HS5.out⟩
    · have HM := Lib.hid (mayE_no hd0 hf)
      rw [if_pos hf, if_pos hf]
      clear hd hd0 hr1 hf
      go_enter Tryd.func49, Tryd.ntmps49
      go_wp2_with (first
        | (go_at_call 74; refine HCM.out.mono ?_; rintro e w1 ⟨rfl, hs1⟩; obtain ⟨O1, hT1, hG1, hW1⟩ := hs1; have HT1 := Lib.hid hT1; have HG1 := Lib.hid hG1; have HW1 := Lib.hid hW1; clear hT1 hG1 hW1)
        | (go_at_call 62; refine (rmay_any HT1.out f).mono ?_; rw [HM.out]; rintro e w2 ⟨rfl, rfl⟩))
      go_ret
      exact ⟨rfl, O1, HT1.out, HG1.out, HW1.out⟩
end Go.Proofs.YtjcajgcfkidbkaaDoor
namespace Go.Proofs.YtjcajgcfkidbkaaDoor
open Go.RowKit

set_option maxHeartbeats 2000000 in
set_option maxRecDepth 100000 in
theorem rtrunc_any {w : World} {O : Nat → Prop} {B : Nat} {r : FS} {s : RS} (h : (RfT B r).at_ w O) (hr : RR r s) (hI : Inv s) (f n : Int) (hq : r.q.length ≤ 50000) (hkl : r.keep.length ≤ 17592186044416) (hA : r.armed ≤ 9223372036854775807) :
    Calls Tryd.prog 52 #[.pointer (some ⟨B, 0, none⟩), .int .i64 f, .int .i64 n] w fun e w' => e = .returned (.int .i64 (truncFE r f n)) ∧ (RfT B (truncF r f n)).step O w w' := by
  have HCM := Lib.hid (rcomes_any h hr hI 0 0 [] (by decide) hq hkl hA)
  obtain ⟨hr1, hI1⟩ := rr_comes hr hI 0 0 []
  have hq1 := comes_qlen r 0 0 []
  unfold truncF truncFE
  generalize comesF r 0 0 [] = r1 at *
  generalize comesS s 0 0 [] = s1 at *
  have HR1 := Lib.hid hr1
  have HI1 := Lib.hid hI1
  have HQ1 := Lib.hid (show r1.q.length ≤ 100000 by simp at hq1; omega)
  clear h hr hI hq hkl hA hq1 hI1
  by_cases hd : r1.down = true
  · have HM := Lib.hid (mayE_down hd f)
    rw [if_pos hd, if_pos hd]
    clear hd hr1
    go_enter Tryd.func52, Tryd.ntmps52
    go_wp2_with (first
      | (go_at_call 74; refine HCM.out.mono ?_; rintro e w1 ⟨rfl, hs1⟩; obtain ⟨O1, hT1, hG1, hW1⟩ := hs1; have HT1 := Lib.hid hT1; have HG1 := Lib.hid hG1; have HW1 := Lib.hid hW1; clear hT1 hG1 hW1)
      | (go_at_call 62; refine (rmay_any HT1.out _).mono ?_; rw [HM.out]; rintro e w2 ⟨rfl, rfl⟩))
    go_ret
    exact ⟨rfl, O1, HT1.out, HG1.out, HW1.out⟩
  · have hd0 : r1.down = false := by simpa using hd
    rw [if_neg hd, if_neg hd]
    by_cases hf : isF f
    · have HM := Lib.hid (mayE_ok hd0 hf)
      obtain ⟨hf0, hf1⟩ := id hf
      obtain ⟨fn, rfl⟩ : ∃ k : Nat, f = k := ⟨f.toNat, by omega⟩
      simp only [Int.toNat_natCast]
      have HGT := Lib.hid (getI_nat r1.fl fn)
      have HFL := Lib.hid HR1.out.fine.len
      have HLN := Lib.hid (rr_len HR1.out HI1.out fn (by omega)).1
      have hnf : ¬ ¬ isF (fn : Int) := fun e => e hf
      by_cases hn : 0 ≤ n ∧ n ≤ (getF r1.fl fn).1.length
      · have hv : ¬ ¬ (isF (fn : Int) ∧ 0 ≤ n ∧ n ≤ (getF r1.fl fn).1.length) := fun e => e ⟨hf, hn⟩
        rw [if_neg hv, if_neg hv]
        clear hv
        generalize getF r1.fl fn = x at *
        obtain ⟨x1, x2⟩ := x
        have HFF := fun w' => fileF1 (fn : Int) x1 x2 w'
        obtain ⟨hn0, hn1⟩ := hn
        obtain ⟨m, rfl⟩ : ∃ k : Nat, n = k := ⟨n.toNat, by omega⟩
        simp only [Int.toNat_natCast]
        have hsx : (S x1).extract 0 m = S (x1.take m) := by rw [S_extract]; simp
        have hxl : x1.length ≤ 16777216 := HLN.out
        have hlt : ¬ (m : Int) < 0 := by omega
        have hgt : ¬ (x1.length : Int) < m := by have : (m : Int) ≤ x1.length := hn1; omega
        have hn1 : (m : Int) ≤ x1.length := hn1
        have hm : m ≤ x1.length := by omega
        clear hd hd0 hr1 hnf hf hf0 hf1 hn0 hn1
        go_enter Tryd.func52, Tryd.ntmps52
        go_wp2_with (first
          | (go_at_call 74; refine HCM.out.mono ?_; rintro e w1 ⟨rfl, hs1⟩; obtain ⟨O1, hT1, hG1, hW1⟩ := hs1; have HT1 := Lib.hid hT1; have HG1 := Lib.hid hG1; have HW1 := Lib.hid hW1; clear hT1 hG1 hW1)
          | (go_at_call 62; refine (rmay_any HT1.out _).mono ?_; rw [HM.out]; rintro e w2 ⟨rfl, rfl⟩)
          | (go_at_call 63; refine (rget_any HT1.out fn HFL.out).mono ?_; rw [HGT.out]; unfold fileV; rintro e w4 ⟨rfl, hf4⟩; have HT4 := Lib.hid (Thing.fr _ HT1.out hf4); have HF4 := Lib.hid hf4; clear hf4)
          | (go_at_call 75; refine (rsettle_any HT4.out fn _ HFL.out HQ1.out).mono ?_; rintro e w5 ⟨rfl, hs5⟩; have HS5 := Lib.hid (Thing.step_trans HG1.out HW1.out (Thing.step_left HF4.out hs5)); clear hs5))
        go_ret
        exact ⟨rfl, HS5.out⟩
      · have hv : ¬ (isF (fn : Int) ∧ 0 ≤ n ∧ n ≤ (getF r1.fl fn).1.length) := fun e => hn e.2
        rw [if_pos hv, if_pos hv]
        clear hv
        generalize getF r1.fl fn = x at *
        obtain ⟨x1, x2⟩ := x
        have HFF := fun w' => fileF1 (fn : Int) x1 x2 w'
        have hxl : x1.length ≤ 16777216 := HLN.out
        by_cases hlt : n < 0
        · clear hd hd0 hr1 hnf hf hf0 hf1 hn
          go_enter Tryd.func52, Tryd.ntmps52
          go_wp2_with (first
            | (go_at_call 74; refine HCM.out.mono ?_; rintro e w1 ⟨rfl, hs1⟩; obtain ⟨O1, hT1, hG1, hW1⟩ := hs1; have HT1 := Lib.hid hT1; have HG1 := Lib.hid hG1; have HW1 := Lib.hid hW1; clear hT1 hG1 hW1)
            | (go_at_call 62; refine (rmay_any HT1.out _).mono ?_; rw [HM.out]; rintro e w2 ⟨rfl, rfl⟩)
            | (go_at_call 63; refine (rget_any HT1.out fn HFL.out).mono ?_; rw [HGT.out]; unfold fileV; rintro e w4 ⟨rfl, hf4⟩; have HT4 := Lib.hid (Thing.fr _ HT1.out hf4); have HF4 := Lib.hid hf4; clear hf4))
          go_ret
          exact ⟨rfl, Thing.step_trans HG1.out HW1.out (Thing.step_fr HT1.out HF4.out)⟩
        · have hgt : (x1.length : Int) < n := by have : ¬ (0 ≤ n ∧ n ≤ (x1.length : Int)) := hn; omega
          clear hd hd0 hr1 hnf hf hf0 hf1 hn
          go_enter Tryd.func52, Tryd.ntmps52
          go_wp2_with (first
            | (go_at_call 74; refine HCM.out.mono ?_; rintro e w1 ⟨rfl, hs1⟩; obtain ⟨O1, hT1, hG1, hW1⟩ := hs1; have HT1 := Lib.hid hT1; have HG1 := Lib.hid hG1; have HW1 := Lib.hid hW1; clear hT1 hG1 hW1)
            | (go_at_call 62; refine (rmay_any HT1.out _).mono ?_; rw [HM.out]; rintro e w2 ⟨rfl, rfl⟩)
            | (go_at_call 63; refine (rget_any HT1.out fn HFL.out).mono ?_; rw [HGT.out]; unfold fileV; rintro e w4 ⟨rfl, hf4⟩; have HT4 := Lib.hid (Thing.fr _ HT1.out hf4); have HF4 := Lib.hid hf4; clear hf4))
          go_ret
          exact ⟨rfl, Thing.step_trans HG1.out HW1.out (Thing.step_fr HT1.out HF4.out)⟩
    · have HM := Lib.hid (mayE_no hd0 hf)
      have hv : ¬ (isF f ∧ 0 ≤ n ∧ n ≤ (getF r1.fl f.toNat).1.length) := fun e => hf e.1
      rw [if_pos hv, if_pos hv]
      clear hd hd0 hr1 hf hv
      go_enter Tryd.func52, Tryd.ntmps52
      go_wp2_with (first
        | (go_at_call 74; refine HCM.out.mono ?_; rintro e w1 ⟨rfl, hs1⟩; obtain ⟨O1, hT1, hG1, hW1⟩ := hs1; have HT1 := Lib.hid hT1; have HG1 := Lib.hid hG1; have HW1 := Lib.hid hW1; clear hT1 hG1 hW1)
        | (go_at_call 62; refine (rmay_any HT1.out _).mono ?_; rw [HM.out]; rintro e w2 ⟨rfl, rfl⟩))
      go_ret
      exact ⟨rfl, O1, HT1.out, HG1.out, HW1.out⟩

set_option maxRecDepth 100000 in
theorem rlose_any {w : World} {O : Nat → Prop} {B : Nat} {r : FS} (h : (RfT B r).at_ w O) (n : Int) :
    Calls Tryd.prog 21 #[.pointer (some ⟨B, 0, none⟩), .int .i64 n] w fun e w' => e = .returned (.tuple #[]) ∧ (RfT B { r with lost := n.toNat }).step O w w' := by
  obtain ⟨fv, qv, kv, hh⟩ := h
  have h1 : RfAt (w.setCell ⟨B, 2, none⟩ (.int .i64 (n.toNat : Int))) O B fv qv kv { r with lost := n.toNat } := hh.scalar 2 (.int .i64 (n.toNat : Int)) _ rfl rfl rfl rfl
  have HS1 := Lib.hid (show (RfT B { r with lost := n.toNat }).step O w _ from ⟨O, ⟨fv, qv, kv, h1⟩, fun _ hk => .inl hk, (Own.refl O w).only (OnlyB.setCell _ B 2 _) (.inl hh.oB)⟩)
  have c2 := hh.c.2.2.1
  have z2 := hh.fz 2
  clear hh h1
  rcases Int.lt_or_le n 0 with hneg | hpos
  rotate_left
  · obtain ⟨k, rfl⟩ : ∃ k : Nat, n = k := ⟨n.toNat, by omega⟩
    simp only [Int.toNat_natCast] at HS1 ⊢
    go_enter Tryd.func21, Tryd.ntmps21
    go_wp2_with fail
    go_end0
    exact ⟨rfl, HS1.out⟩
  · have hn0 : n.toNat = 0 := by omega
    rw [hn0] at HS1 ⊢
    clear hn0
    have hmx : max n 0 = 0 := by omega
    go_enter Tryd.func21, Tryd.ntmps21
    go_wp2_with fail
    go_end0
    exact ⟨rfl, HS1.out⟩

set_option maxRecDepth 100000 in
theorem rstart_any {w : World} {O : Nat → Prop} {B : Nat} {r : FS} (h : (RfT B r).at_ w O) :
    Calls Tryd.prog 27 #[.pointer (some ⟨B, 0, none⟩)] w fun e w' => e = .returned (.tuple #[]) ∧ (RfT B { r with down := false }).step O w w' := by
  obtain ⟨fv, qv, kv, hh⟩ := h
  have h1 : RfAt (w.setCell ⟨B, 3, none⟩ (.bool false)) O B fv qv kv { r with down := false } := hh.scalar 3 (.bool false) _ rfl rfl rfl rfl
  have HS1 := Lib.hid (show (RfT B { r with down := false }).step O w _ from ⟨O, ⟨fv, qv, kv, h1⟩, fun _ hk => .inl hk, (Own.refl O w).only (OnlyB.setCell _ B 3 _) (.inl hh.oB)⟩)
  have c3 := hh.c.2.2.2.1
  have z3 := hh.fz 3
  clear hh h1
  go_enter Tryd.func27, Tryd.ntmps27
  go_wp2_with fail
  go_end0
  exact ⟨rfl, HS1.out⟩
end Go.Proofs.YtjcajgcfkidbkaaDoor
namespace Go.Proofs.YtjcajgcfkidbkaaDoor
open Go.RowKit

theorem rr_readE {r : FS} {s : RS} (h : RR r s) (f a n : Int) : readE s f a n = if r.down = true then 8 else if ¬ isF f then 1 else if a < 0 ∨ n < 0 then 1 else 0 := by
  unfold readE
  rw [← h.down]
  by_cases hd : r.down = true
  · rw [if_pos hd, if_pos hd]
  · rw [if_neg hd, if_neg hd]
    by_cases hf : isF f
    · by_cases ha : a < 0 ∨ n < 0
      · rw [if_pos (.inr ha), if_neg (fun e => e hf), if_pos ha]
      · rw [if_neg (fun e => e.elim (fun e => e hf) ha), if_neg (fun e => e hf), if_neg ha]
    · rw [if_pos (.inl hf), if_pos hf]
def rdE (r : FS) (f a n : Int) : Int := if r.down = true then 8 else if ¬ isF f then 1 else if a < 0 ∨ n < 0 then 1 else 0

set_option maxHeartbeats 2000000 in
set_option maxRecDepth 100000 in
theorem rread_any {w : World} {O : Nat → Prop} {B : Nat} {r : FS} {s : RS} (h : (RfT B r).at_ w O) (hr : RR r s) (hI : Inv s) (f a n : Int) (ha0 : a ≤ 9223372036854775807) (hn0 : n ≤ 9223372036854775807) :
    Calls Tryd.prog 32 #[.pointer (some ⟨B, 0, none⟩), .int .i64 f, .int .i64 a, .int .i64 n] w fun e w' => e = .returned (.tuple #[.string (S (readFL r f a n)), .int .i64 (rdE r f a n)]) ∧ Fr w w' := by
  have HT := Lib.hid h
  have HR := Lib.hid hr
  have HI := Lib.hid hI
  clear h hI
  unfold readFL rdE
  by_cases hd : r.down = true
  · have HM := Lib.hid (mayE_down hd f)
    rw [if_pos hd, if_pos (.inl hd)]
    clear hd hr
    go_enter Tryd.func32, Tryd.ntmps32
    go_wp2_with (first
      | (go_at_call 62; refine (rmay_any HT.out _).mono ?_; rw [HM.out]; rintro e w2 ⟨rfl, rfl⟩))
    go_ret2
    exact ⟨rfl, Fr.refl _⟩
  · have hd0 : r.down = false := by simpa using hd
    rw [if_neg hd]
    by_cases hf : isF f
    · have HM := Lib.hid (mayE_ok hd0 hf)
      obtain ⟨hf0, hf1⟩ := id hf
      have hnf : ¬ ¬ isF f := fun e => e hf
      rw [if_neg hnf]
      clear hnf
      by_cases hx : a < 0 ∨ n < 0
      · have hv : r.down = true ∨ ¬ isF f ∨ a < 0 ∨ n < 0 := .inr (.inr hx)
        rw [if_pos hx, if_pos hv]
        by_cases ha : a < 0
        · clear hd hd0 hr hf hf0 hf1 hx hv
          go_enter Tryd.func32, Tryd.ntmps32
          go_wp2_with (first
            | (go_at_call 62; refine (rmay_any HT.out _).mono ?_; rw [HM.out]; rintro e w2 ⟨rfl, rfl⟩))
          go_ret2
          exact ⟨rfl, Fr.refl _⟩
        · have hn : n < 0 := by omega
          clear hd hd0 hr hf hf0 hf1 hx hv
          go_enter Tryd.func32, Tryd.ntmps32
          go_wp2_with (first
            | (go_at_call 62; refine (rmay_any HT.out _).mono ?_; rw [HM.out]; rintro e w2 ⟨rfl, rfl⟩))
          go_ret2
          exact ⟨rfl, Fr.refl _⟩
      · have hv : ¬ (r.down = true ∨ ¬ isF f ∨ a < 0 ∨ n < 0) := fun e => by
          rcases e with e | e | e
          · exact hd e
          · exact e hf
          · exact hx e
        rw [if_neg hx, if_neg hv]
        obtain ⟨fn, rfl⟩ : ∃ k : Nat, f = k := ⟨f.toNat, by omega⟩
        obtain ⟨an, rfl⟩ : ∃ k : Nat, a = k := ⟨a.toNat, by omega⟩
        obtain ⟨nn, rfl⟩ : ∃ k : Nat, n = k := ⟨n.toNat, by omega⟩
        simp only [Int.toNat_natCast]
        have HGT := Lib.hid (getI_nat r.fl fn)
        have HFL := Lib.hid HR.out.fine.len
        have hln := (rr_len HR.out HI.out fn (by omega)).1
        clear hd hd0 hr hf hf0 hf1 hx hv
        generalize getF r.fl fn = x at *
        obtain ⟨x1, x2⟩ := x
        have hln : x1.length ≤ 16777216 := hln
        have HFF := fun w' => fileF1 (fn : Int) x1 x2 w'
        show Calls _ _ _ _ fun e w' => e = Ending.returned (.tuple #[.string (S ((x1.drop an).take nn)), .int .i64 0]) ∧ Fr w w'
        rcases Nat.lt_or_ge an x1.length with hal | hal
        · by_cases hle : nn ≤ x1.length - an
          · have hsx : (S x1).extract an (an + nn) = S ((x1.drop an).take nn) := by rw [S_extract, Nat.add_sub_cancel_left]
            have hmin : min (nn : Int) ((x1.length : Int) - (an : Int)) = (nn : Int) := by omega
            have h1 : (an : Int) + (nn : Int) ≤ 16777216 := by omega
            have h5 : ((an : Int) + (nn : Int)).toNat = an + nn := by omega
            have h2 : an + nn ≤ x1.length := by omega
            have h3 : an ≤ an + nn := by omega
            clear hle
            go_enter Tryd.func32, Tryd.ntmps32
            go_wp2_with (first
              | (go_at_call 62; refine (rmay_any HT.out _).mono ?_; rw [HM.out]; rintro e w2 ⟨rfl, rfl⟩)
              | (go_at_call 63; refine (rget_any HT.out fn HFL.out).mono ?_; rw [HGT.out]; unfold fileV; rintro e w4 ⟨rfl, hf4⟩; have HF4 := Lib.hid hf4; clear hf4))
            go_ret2
            exact ⟨by first | rfl | rw [hsx] | (simp only [hsx]), HF4.out⟩
          · have hsx : (S x1).extract an x1.length = S ((x1.drop an).take nn) := by rw [S_extract, List.take_of_length_le (by simp), List.take_of_length_le (by simp; omega)]
            have hmin : min (nn : Int) ((x1.length : Int) - (an : Int)) = (x1.length : Int) - (an : Int) := by omega
            have h1 : (an : Int) + ((x1.length : Int) - (an : Int)) = (x1.length : Int) := by omega
            have h4 : ¬ (nn : Int) ≤ (x1.length : Int) - (an : Int) := by omega
            go_enter Tryd.func32, Tryd.ntmps32
            go_wp2_with (first
              | (go_at_call 62; refine (rmay_any HT.out _).mono ?_; rw [HM.out]; rintro e w2 ⟨rfl, rfl⟩)
              | (go_at_call 63; refine (rget_any HT.out fn HFL.out).mono ?_; rw [HGT.out]; unfold fileV; rintro e w4 ⟨rfl, hf4⟩; have HF4 := Lib.hid hf4; clear hf4))
            go_ret2
            exact ⟨by first | rfl | rw [hsx] | (simp only [hsx]), HF4.out⟩
        · have hnl : (x1.drop an).take nn = [] := by rw [List.drop_eq_nil_of_le hal, List.take_nil]
          rw [hnl]
          clear hnl
          go_enter Tryd.func32, Tryd.ntmps32
          go_wp2_with (first
            | (go_at_call 62; refine (rmay_any HT.out _).mono ?_; rw [HM.out]; rintro e w2 ⟨rfl, rfl⟩)
            | (go_at_call 63; refine (rget_any HT.out fn HFL.out).mono ?_; rw [HGT.out]; unfold fileV; rintro e w4 ⟨rfl, hf4⟩; have HF4 := Lib.hid hf4; clear hf4))
          go_ret2
          exact ⟨rfl, HF4.out⟩
    · have HM := Lib.hid (mayE_no hd0 hf)
      have hv : r.down = true ∨ ¬ isF f ∨ a < 0 ∨ n < 0 := .inr (.inl hf)
      rw [if_pos hf, if_pos hv]
      clear hd hd0 hr hf hv
      go_enter Tryd.func32, Tryd.ntmps32
      go_wp2_with (first
        | (go_at_call 62; refine (rmay_any HT.out _).mono ?_; rw [HM.out]; rintro e w2 ⟨rfl, rfl⟩))
      go_ret2
      exact ⟨rfl, Fr.refl _⟩
end Go.Proofs.YtjcajgcfkidbkaaDoor
namespace Go.Proofs.YtjcajgcfkidbkaaDoor
open Go.RowKit

/-- Another list at hand. -/
theorem RfAt.setKeep {w w3 : World} {O : Nat → Prop} {B : Nat} {fv qv kv : Value} {r : FS} (h : RfAt w O B fv qv kv r) (hfr : Fr w w3) {v : Value} {ks : List Int} (hown : w3.ownsRow 0 3 1 v ks.length (iCells ks))
    (hb : ∀ p, v.ownBlock = some p → w.heap.size ≤ p) : (RfT B { r with keep := ks }).step O w (w3.setCell ⟨B, 5, none⟩ v) := by
  have hr := h.fr hfr
  have hob := OnlyB.setCell w3 B 5 v
  have hsz : (w3.setCell ⟨B, 5, none⟩ v).heap.size = w3.heap.size := hob.2.2.2.1
  have ho := hob.2.2.2.2
  have hlt : ∀ p, v.ownBlock = some p → p < w3.heap.size := fun p hp => (hown.lt p hp).2
  refine ⟨fun k => O k ∨ v.ownBlock = some k, ⟨fv, qv, v, fun k hk => ?_, .inl h.oB, fun p hp => .inl (h.oF p hp), fun p hp => .inl (h.oQ p hp), fun p hp => .inr hp, heapB hr.heap, ?_, ?_, ?_⟩, fun k hk => ?_, (Own.of_fr hfr).only hob (.inl h.oB)⟩
  · rw [hsz]
    rcases hk with hk | hk
    · exact hr.bound k hk
    · exact hlt k hk
  · exact ownsRow_heap hr.files fun p hp => ho p (rowB_ne hr.files hr.heap (by decide) p hp)
  · exact ownsRow_heap hr.queue fun p hp => ho p (rowB_ne hr.queue hr.heap (by decide) p hp)
  · exact ownsRow_heap hown fun p hp => ho p (rowB_ne hown hr.heap (by decide) p hp)
  · rcases hk with hk | hk
    · exact .inl hk
    · exact .inr ⟨hb k hk, by rw [hsz]; exact hlt k hk⟩

/-- A list appended to an empty one. -/
theorem wpList_ints {w : World} {ops : Array Oper} {rest : List Oper} {o : Oper} {a : Act} {Q : Exit → Act → World → Prop} (hgd : o.guard = none) (s x : Operand)
    (ho : o.op = .call { callee := .builtin .append, args := #[s, x], argTypes := #[36, 36] })
    (hs : a.eval s = .slice (some ⟨w.heap.size, 0, none⟩) 0 0) {v : Value} {ks : List Int} (hk : Ints (w.alloc (.cells #[] 3)) v ks) (hx : a.eval x = v) (hn : ks.length * 8 ≤ 140737488355328)
    (hK : ∀ g m cap w', m = ks.length → w'.ownsRow 0 3 1 (.slice (some ⟨g, 0, none⟩) m cap) ks.length (iCells ks) → Fr w w' → w.heap.size ≤ g → wpList Tryd.prog ops Q rest (a.put o.dst (.slice (some ⟨g, 0, none⟩) m cap)) w') :
    wpList Tryd.prog ops Q (o :: rest) a (w.alloc (.cells #[] 3)) := by
  obtain ⟨i0, hi, hz0, hz1, hz2⟩ := info_parts infoInt
  have hnew := heap_alloc_new w (.cells #[] 3)
  have hrow : (w.alloc (.cells #[] 3)).ownsRow 0 3 1 (.slice (some ⟨w.heap.size, 0, none⟩) 0 0) 0 [] := ⟨rfl, .inr ⟨w.heap.size, 0, #[], rfl, Nat.zero_le _, hnew, Nat.le_refl _, Nat.zero_le _, rfl, rfl⟩⟩
  have empty : ∀ a' c, v = .slice a' 0 c → ks = [] → wpList Tryd.prog ops Q (o :: rest) a (w.alloc (.cells #[] 3)) := fun a' c hv hks => by
    subst hks
    have hsrc : Src Tryd.prog i0.size 36 (.slice a' 0 c) 0 [] (w.alloc (.cells #[] 3)) := by
      cases a' with
      | none => exact Src.ofNil _ Tryd.underlying36 c
      | some ad => exact Src.ofSlice _ Tryd.underlying36 ad 0 c [] (by simp) (fun j u hu => by simp at hu) (fun u hu => by simp at hu)
    have hrun := run_append_room_src (P := Tryd.prog) (w.alloc (.cells #[] 3)) 36 36 o.type 3 i0 Tryd.underlying36 hi w.heap.size 0 0 0 (.slice a' 0 c) 0 [] hsrc (Nat.le_refl _) (fun j hj => by simp at hj) (fun j hj => by simp at hj)
    refine wpList_plain hgd fun K hK' => ?_
    have hx' : a.eval x = .slice a' 0 c := hx.trans hv
    unfold Oper.wp
    simp [execOp, ho, resolve, invoke, builtin, hs, hx', hrun, Result.andThen]
    exact hK' _ _ (hK w.heap.size 0 0 _ rfl hrow (Fr.alloc w _) (Nat.le_refl _))
  rcases hk with ⟨hks, a', c, hv⟩ | ⟨b, off, c, hv, hat⟩
  · exact empty a' c hv hks
  · by_cases hks : ks = []
    · subst hks
      exact empty _ _ hv rfl
    · have hpos : 0 < ks.length := List.length_pos_iff.2 hks
      refine wpList_append_lies _ hgd s x 36 ho 0 3 i0 (.int .i64 0) 1 8 Tryd.underlying36 hi hz0 hz1 hz2 rfl (by decide) _ 0 [] hs hrow ⟨b, off, none⟩ ks.length c (iCells ks) (hx.trans hv) (by rw [iCells_length, Nat.mul_one]) (fun j u hu => ?_) (iCells_one ks) hpos (by unfold maxLen; omega) (by omega) (Nat.zero_le _) _ rfl ?_
      · rw [Addr.add_mid]
        have hj : j < ks.length := by have := (List.getElem?_eq_some_iff.1 hu).1; rw [iCells_length] at this; omega
        rw [hat j hj, ← hu]
        simp [iCells, hj]
      · intro g cap w' hown hgrow hat' hlt
        have hg : w.heap.size ≤ g := by
          rcases hat' with e | e
          · have e : w.heap.size = g := by simpa [Value.ownBlock] using e
            omega
          · rw [e]; simp
        refine hK g (0 + ks.length) cap w' (Nat.zero_add _) ?_ ?_ hg
        · simpa using hown
        · refine (Fr.alloc w (.cells #[] 3)).of_own (O := fun k => k = w.heap.size) (fun k hk => Nat.le_of_eq hk.symm) ?_
          have hpp : ∀ p, (Value.slice (some ⟨w.heap.size, 0, none⟩) 0 0).ownBlock = some p → p = w.heap.size := fun p hp => by
            have : w.heap.size = p := by simpa [Value.ownBlock] using hp
            exact this.symm
          exact (Own.refl _ _).grown hgrow fun p hp => .inl (hpp p hp)

set_option maxHeartbeats 1000000 in
set_option maxRecDepth 100000 in
theorem rarm_any {w : World} {O : Nat → Prop} {B : Nat} {r : FS} (h : (RfT B r).at_ w O) (n : Int) {v : Value} {ks : List Int} (hk : Ints w v ks) (hoff : ∀ p, ks ≠ [] → v.ownBlock = some p → p < w.heap.size ∧ ¬ O p) (hn : ks.length * 8 ≤ 140737488355328) :
    Calls Tryd.prog 23 #[.pointer (some ⟨B, 0, none⟩), .int .i64 n, v] w fun e w' => e = .returned (.tuple #[]) ∧ (RfT B { r with armed := n.toNat, keep := ks }).step O w w' := by
  obtain ⟨fv, qv, kv, hh⟩ := h
  have h1 : RfAt (w.setCell ⟨B, 4, none⟩ (.int .i64 (n.toNat : Int))) O B fv qv kv { r with armed := n.toNat } := hh.scalar 4 (.int .i64 (n.toNat : Int)) _ rfl rfl rfl rfl
  have hW1 : Own O w (w.setCell ⟨B, 4, none⟩ (.int .i64 (n.toNat : Int))) := (Own.refl O w).only (OnlyB.setCell _ B 4 _) (.inl hh.oB)
  have hk1 : Ints (w.setCell ⟨B, 4, none⟩ (.int .i64 (n.toNat : Int))) v ks := hk.frame fun p h0 hp _ => (OnlyB.setCell w B 4 _).2.2.2.2 p fun e => (hoff p h0 hp).2 (e ▸ hh.oB)
  have hk2 : Ints ((w.setCell ⟨B, 4, none⟩ (.int .i64 (n.toNat : Int))).alloc (.cells #[] 3)) v ks := hk1.frame fun p h0 hp hlt => (Fr.alloc _ _).block hlt
  have c4 := hh.c.2.2.2.2.1
  have z4 := hh.fz 4
  obtain ⟨av, mv, cv, rfl⟩ := row_form hh.keep
  have H1 := Lib.hid h1
  have HW1 := Lib.hid hW1
  have HK2 := Lib.hid hk2
  have HN := Lib.hid hn
  clear hh h1 hW1 hk1 hk2 hk hoff hn
  rcases Int.lt_or_le n 0 with hneg | hpos
  · have hn0 : n.toNat = 0 := by omega
    rw [hn0] at H1 HW1 HK2 ⊢
    rw [show ((0 : Nat) : Int) = 0 from rfl] at H1 HW1 HK2
    clear hn0
    have hmx : max n 0 = 0 := by omega
    go_enter Tryd.func23, Tryd.ntmps23
    go_wp2_with (at_builtin; go_loud (refine wpList_ints rfl _ _ rfl (by rw [(OnlyB.setCell _ B 4 _).2.2.2.1]; rfl) HK2.out rfl HN.out ?_; intro g m cap w7 hm hown hfr hge; subst hm; have hr7 := H1.out.fr hfr; have c5 := hr7.c.2.2.2.2.2; have z5 := hr7.fz 5; have HS7 := Lib.hid (Thing.step_trans (fun _ hk => .inl hk) HW1.out (H1.out.setKeep hfr hown (fun p hp => by simp only [Value.ownBlock, Option.some.injEq] at hp; omega))); clear hr7 hown hfr))
    go_end0
    exact ⟨rfl, HS7.out⟩
  · obtain ⟨k, rfl⟩ : ∃ k : Nat, n = k := ⟨n.toNat, by omega⟩
    simp only [Int.toNat_natCast] at H1 HW1 HK2 ⊢
    go_enter Tryd.func23, Tryd.ntmps23
    go_wp2_with (at_builtin; go_loud (refine wpList_ints rfl _ _ rfl (by rw [(OnlyB.setCell _ B 4 _).2.2.2.1]; rfl) HK2.out rfl HN.out ?_; intro g m cap w7 hm hown hfr hge; subst hm; have hr7 := H1.out.fr hfr; have c5 := hr7.c.2.2.2.2.2; have z5 := hr7.fz 5; have HS7 := Lib.hid (Thing.step_trans (fun _ hk => .inl hk) HW1.out (H1.out.setKeep hfr hown (fun p hp => by simp only [Value.ownBlock, Option.some.injEq] at hp; omega))); clear hr7 hown hfr))
    go_end0
    exact ⟨rfl, HS7.out⟩
end Go.Proofs.YtjcajgcfkidbkaaDoor
