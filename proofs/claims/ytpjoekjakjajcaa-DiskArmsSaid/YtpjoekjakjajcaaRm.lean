/-
  Plain mathematics about the state of a disk, for DiskReads.
-/
import Derived.Test.YtpjoekjakjajcaaSm
namespace Go.Proofs.Ytpjoekjakjajcaa
open Go.RowKit

def upS (s : RS) : RS := { s with down := false }
/-! ### A crash in which nothing survives -/
theorem kept_nil (j : Nat) : kept [] j = false := rfl
theorem crK_dz_none (s : RS) (ks : List Int) (hk : ∀ j, kept ks j = false) (k : Nat) (f : Nat) : (crK s ks k).dz f = s.dz f := by
  induction k with
  | zero => rfl
  | succ k ih =>
    unfold crK
    split
    · show (if f = _ ∧ kept ks k = true then _ else (crK s ks k).dz f) = _
      rw [if_neg (fun h => by rw [hk k] at h; exact Bool.false_ne_true h.2), ih]
    · exact ih
theorem crash_none {s : RS} (hI : Inv s) (hd : s.down = false) (ks : List Int) (hk : ∀ j, kept ks j = false) (f i : Nat) : (crashS s ks).now f i = s.dur f i ∧ (crashS s ks).sz f = s.dz f := by
  unfold crashS
  rw [if_neg (by rw [hd]; exact Bool.false_ne_true)]
  refine ⟨?_, crK_dz_none s ks hk _ f⟩
  obtain ⟨n, j, rfl, hj⟩ : ∃ n j, i = 64 * n + j ∧ j < 64 := ⟨i / 64, i % 64, by omega, by omega⟩
  show (crK s ks s.q.length).now f (64 * n + j) = _
  rcases char_any hI ks s.q.length (Nat.le_refl _) f n with ⟨m, hm, _, hq, _, hh⟩ | ⟨hnm, _, hh⟩
  · rw [(hh j hj).1, if_neg (by rw [hk m]; exact Bool.false_ne_true)]
  · rw [(hh j hj).1]
    rw [List.take_length] at hnm
    exact hI.eq f n (by rw [← Bool.not_eq_true]; exact fun h => hnm ((hI.pd f n).1 h)) j hj

/-! ### Lists of bytes -/
theorem bytesOf_length (s : RS) (f a n : Nat) : (bytesOf s f a n).length = n := by simp [bytesOf]
theorem bytesOf_congr {s s' : RS} {f a n : Nat} (h : ∀ i, i < n → s.now f (a + i) = s'.now f (a + i)) : bytesOf s f a n = bytesOf s' f a n := by
  unfold bytesOf
  exact List.map_congr_left (fun i hi => h i (List.mem_range.1 hi))
theorem bytesOf_zero (s : RS) (f a : Nat) : bytesOf s f a 0 = [] := rfl
theorem bytesOf_slice (s : RS) (f n a m : Nat) (h : a + m ≤ n) : ((bytesOf s f 0 n).drop a).take m = bytesOf s f a m := by
  apply List.ext_getElem
  · rw [List.length_take, List.length_drop, bytesOf_length, bytesOf_length]; omega
  · intro i h1 h2
    simp [bytesOf]
theorem readL_ok {s : RS} (hd : s.down = false) (f a : Nat) (n : Int) (hf : f < 16) (hn : 0 ≤ n) : readL s f a n = bytesOf s f a (readN s f a n) := by
  unfold readL isF
  rw [if_neg (by rw [hd]; simp; omega)]
  rfl
theorem readE_ok {s : RS} (hd : s.down = false) (f a : Nat) (n : Int) (hf : f < 16) (hn : 0 ≤ n) : readE s f a n = 0 := by
  unfold readE isF
  rw [if_neg (by rw [hd]; exact Bool.false_ne_true), if_neg (by omega)]

/-! ### DiskReads -/
section
variable {s : RS} (hc : s.calls = 0) (hd : s.down = false) (f at_ : Nat) (l : List UInt8) (hf : f < 16) (ha : at_ ≤ 3000) (hl : l.length ≤ 300)
include hc in
theorem strike_zero : strikeS s = s := if_pos hc
include hf ha hl in
theorem chk_ok : chk f at_ l.length = 0 := by unfold chk; rw [if_neg (by omega), if_neg (by omega)]
include hc hd in
theorem write_off (f at_ : Int) : writeS s f at_ l = wrS s f at_ l ∧ writeE s f at_ l = chk f at_ l.length := by
  have e : strikeS (wrS s f at_ l) = wrS s f at_ l := if_pos (by rw [(wr_calls s f at_ l).1]; exact hc)
  unfold writeS writeE
  rw [e, (wr_calls s f at_ l).2, hd]
  exact ⟨rfl, rfl⟩
include hf ha hl in
theorem wr_sz (hn : l ≠ []) : (wrS s f at_ l).sz f = max (s.sz f) (at_ + l.length) := by
  unfold wrS
  rw [if_pos ⟨chk_ok f at_ l hf ha hl, hn⟩]
  exact if_pos rfl
include hf ha hl in
theorem wr_now (i : Nat) (hi : i < l.length) : (wrS s f at_ l).now f (at_ + i) = l.getD i 0 := by
  unfold wrS
  rw [if_pos ⟨chk_ok f at_ l hf ha hl, fun h => by subst h; simp at hi⟩]
  show (if f = f ∧ at_ ≤ at_ + i ∧ at_ + i < at_ + pos at_ l.length (tot at_ l.length) then l.getD (at_ + i - at_) 0 else _) = _
  rw [pos_tot at_ l.length (by omega), if_pos ⟨rfl, by omega, by omega⟩, Nat.add_sub_cancel_left]
include hc hd hf ha hl in
/-- What was written is read again. -/
theorem read_back : readL (writeS s f at_ l) f at_ l.length = l := by
  rw [(write_off hc hd l f at_).1, readL_ok ((wr_calls s f at_ l).2.trans hd) f at_ _ hf (by omega)]
  by_cases h0 : l = []
  · subst h0; simp [readN, bytesOf]
  · have hn : readN (wrS s f at_ l) f at_ l.length = l.length := by
      unfold readN
      rw [wr_sz f at_ l hf ha hl h0]; omega
    rw [hn]
    apply List.ext_getElem
    · exact bytesOf_length _ _ _ _
    · intro i h1 h2
      simp only [bytesOf, List.getElem_map, List.getElem_range]
      rw [wr_now f at_ l hf ha hl i h2, List.getD_eq_getElem?_getD, List.getElem?_eq_getElem h2]; rfl
end

/-- Truncating, and a crash after it. -/
theorem trunc_off {s : RS} (hc : s.calls = 0) (hd : s.down = false) (f n : Nat) (hf : f < 16) (hn : n ≤ s.sz f) :
    truncE s f n = 0 ∧ truncS s f n = cutS (settleS s f) f n := by
  have e : strikeS s = s := if_pos hc
  have h1 : ¬ ¬ (isF f ∧ (0 : Int) ≤ n ∧ (n : Int) ≤ (s.sz (f : Int).toNat : Nat)) := by
    unfold isF
    rw [show ((f : Int)).toNat = f from rfl]; omega
  unfold truncE truncS
  rw [e, hd, if_neg Bool.false_ne_true, if_neg Bool.false_ne_true, if_neg Bool.false_ne_true, if_neg Bool.false_ne_true, if_neg h1, if_neg h1]
  exact ⟨rfl, rfl⟩
theorem rest_is {s : RS} (hI : Inv s) (hc : s.calls = 0) (hd : s.down = false) (f n : Nat) (hf : f < 16) (hn : n ≤ s.sz f) :
    readL (upS (crashS (truncS s f n) [])) f 0 16777216 = bytesOf s f 0 n := by
  have hI2 : Inv (truncS s f n) := inv_trunc hI f n
  have ht := (trunc_off hc hd f n hf hn).2
  have hd2 : (truncS s f n).down = false := by rw [ht]; exact hd
  have hm := hI.max f
  have hcr := crash_none hI2 hd2 [] kept_nil f
  have hsz : (crashS (truncS s f n) []).sz f = n := by
    rw [(hcr 0).2, ht]; exact if_pos rfl
  refine (readL_ok (s := upS (crashS (truncS s f n) [])) rfl f 0 16777216 hf (by omega)).trans ?_
  have hrn : readN (upS (crashS (truncS s f n) [])) f 0 16777216 = n := by
    unfold readN
    show min _ ((crashS (truncS s f n) []).sz f - 0) = n
    rw [hsz]
    have : n ≤ 16777216 := Nat.le_trans hn hm
    omega
  rw [hrn]
  refine bytesOf_congr (fun i hi => ?_)
  show (crashS (truncS s f n) []).now f (0 + i) = _
  rw [(hcr _).1, ht, Nat.zero_add]
  show (if f = f then (if n ≤ i then 0 else (settleS s f).now f i) else _) = _
  rw [if_pos rfl, if_neg (by omega)]
  rfl
end Go.Proofs.Ytpjoekjakjajcaa
