/-
  Contracts: the reference of layer 6: Text, Read.
-/
import Derived.Test.YthppefkamklakaaDoorRdr2
import Derived.Test.YthppefkamklakaaDoorCx
namespace Go.Proofs.YthppefkamklakaaDoor
open Go.RowKit

theorem neg_parse {v : Int} {rt r' : List UInt8} (hv : Wm.inInt v) (h : 45 :: rt = (Wm.intE 59).f v ++ r') : ∃ u : Nat, 1 ≤ u ∧ u ≤ 9223372036854775808 ∧ v = -(u : Int) ∧ rt = Lib.decDigits u ++ 59 :: r' := by
  rw [Wm.intE_f] at h
  by_cases hneg : v < 0
  · obtain ⟨u, rfl⟩ : ∃ u : Nat, v = -(u : Int) := ⟨v.natAbs, by omega⟩
    rw [Lib.itoa_neg u (by omega)] at h
    refine ⟨u, by omega, by have := hv.1; omega, rfl, by simpa using h⟩
  · obtain ⟨u, rfl⟩ : ∃ u : Nat, v = (u : Int) := ⟨v.toNat, by omega⟩
    rw [Lib.itoa_nonneg] at h
    have h1 := Wm.dec_dig u
    cases hd : Lib.decDigits u with
    | nil => exact absurd hd (Wm.dec_ne u)
    | cons d l =>
      rw [hd] at h h1
      simp only [List.cons_append, List.cons.injEq] at h
      have := h1 d (by simp)
      rw [← h.1] at this
      exact absurd this (by decide)
theorem pos_parse {v : Int} {r r' : List UInt8} (hm : ¬ ∃ rt, r = 45 :: rt) (h : r = (Wm.intE 59).f v ++ r') : 0 ≤ v := by
  by_cases hneg : v < 0
  · obtain ⟨u, rfl⟩ : ∃ u : Nat, v = -(u : Int) := ⟨v.natAbs, by omega⟩
    rw [Wm.intE_f, Lib.itoa_neg u (by omega)] at h
    exact absurd ⟨_, h⟩ hm
  · omega

/-- The number that the reference adds up, as a negative int that wraps. -/
def bk (l : List UInt8) : Int := wrap64 (-(Wm.val l : Int))
theorem bk_in (l : List UInt8) : -9223372036854775808 ≤ bk l ∧ bk l ≤ 9223372036854775807 := by unfold bk wrap64; omega
theorem bk_snoc (l : List UInt8) (c : UInt8) (hc : Wm.isDig c) : wrap64 (wrap64 (10 * bk l) - ((c.toNat : Int) - 48)) = bk (l ++ [c]) := by
  unfold bk
  rw [Wm.val_snoc]
  unfold Wm.isDig at hc
  unfold wrap64
  omega
theorem bk_nil : bk [] = 0 := by simp [bk, wrap64, Wm.val]
/-- What Back finds: the digits t behind a sign (neg) or none. -/
def back (neg : Bool) (t : List UInt8) : Int := if neg then bk t else wrap64 (-(bk t))
theorem back_in (neg : Bool) (t : List UInt8) : Wm.inInt (back neg t) := by
  unfold back Wm.inInt
  have := bk_in t
  split
  · exact this
  · unfold wrap64; omega
theorem back_pos {v : Int} {t : List UInt8} (hv : Wm.inInt v) (h : Lib.itoa v = t) (hm : ¬ ∃ rt, t = 45 :: rt) : back false t = v := by
  have h0 : 0 ≤ v := pos_parse (r := t ++ [59]) (r' := []) (v := v) (fun ⟨rt, e⟩ => by
    cases t with
    | nil => exact Wm.itoa_ne v h
    | cons d l => simp only [List.cons_append, List.cons.injEq] at e; exact hm ⟨l, by rw [e.1]⟩) (by rw [Wm.intE_f, h]; simp)
  obtain ⟨u, rfl⟩ : ∃ u : Nat, v = u := ⟨v.toNat, by omega⟩
  rw [Lib.itoa_nonneg] at h
  have := hv.2
  unfold back bk
  rw [← h, Wm.val_dec]
  simp only [Bool.false_eq_true, if_false]
  unfold wrap64
  omega
theorem back_neg {v : Int} {t : List UInt8} (hv : Wm.inInt v) (h : Lib.itoa v = 45 :: t) : back true t = v ∧ ∃ u : Nat, t = Lib.decDigits u := by
  obtain ⟨u, hu1, hu2, rfl, h4⟩ := neg_parse (v := v) (rt := t ++ [59]) (r' := []) hv (by rw [Wm.intE_f, h]; simp)
  have h5 : t = Lib.decDigits u := by simpa using h4
  refine ⟨?_, u, h5⟩
  unfold back bk
  rw [h5, Wm.val_dec]
  simp only [if_true]
  unfold wrap64
  omega
theorem itoa_pos_dig {v : Int} {t : List UInt8} (hv : Wm.inInt v) (h : Lib.itoa v = t) (hm : ¬ ∃ rt, t = 45 :: rt) : ∀ c ∈ t, Wm.isDig c := by
  intro c hc
  rcases Wm.itoa_num v c (by rw [h]; exact hc) with h1 | h1
  · exact h1
  · subst h1
    have h0 : 0 ≤ v := pos_parse (r := t ++ [59]) (r' := []) (v := v) (fun ⟨rt, e⟩ => by
      cases t with
      | nil => exact Wm.itoa_ne v h
      | cons d l => simp only [List.cons_append, List.cons.injEq] at e; exact hm ⟨l, by rw [e.1]⟩) (by rw [Wm.intE_f, h]; simp)
    obtain ⟨u, rfl⟩ : ∃ u : Nat, v = u := ⟨v.toNat, by omega⟩
    rw [Lib.itoa_nonneg] at h
    exact Wm.dec_dig u _ (by rw [h]; exact hc)

def BackPost (s : List UInt8) (w : World) (e : Ending) (w' : World) : Prop :=
  Fr w w' ∧ ((∃ v, Wm.inInt v ∧ s = Lib.itoa v ∧ e = .returned (.tuple #[.int .i64 v, .bool true])) ∨
    ((∀ v, Wm.inInt v → s ≠ Lib.itoa v) ∧ ∃ n, e = .returned (.tuple #[.int .i64 n, .bool false])))

theorem back_tok {neg : Bool} {s t : List UInt8} (h : ∀ v, Wm.inInt v → s = Lib.itoa v → back neg t = v) (hb : ((Wm.intE 59).f (back neg t) == s ++ [59]) = false) : ∀ v, Wm.inInt v → s ≠ Lib.itoa v := by
  intro v hv e
  have := h v hv e
  rw [this, Wm.intE_f, e] at hb
  simp at hb
theorem back_fit {n : Int} {s : List UInt8} (hb : ((Wm.intE 59).f n == s ++ [59]) = true) : s = Lib.itoa n := by
  have := eq_of_beq hb
  rw [Wm.intE_f] at this
  exact (List.append_cancel_right this).symm


theorem ahead_bad {r : List UInt8} {c : UInt8} {k : Nat} (hk : ∀ (i : Nat) (h : i < r.length), i < k → r[i] ≠ c) (hstop : k = r.length ∨ (k = 21 ∧ ∀ h : 21 < r.length, r[21] ≠ c)) : ∀ v q, Wm.inInt v → r ≠ (Wm.intE c).f v ++ q := by
  intro v q hv e
  rw [Wm.intE_f] at e
  have hl := Lib.itoa_length_le v hv.1 hv.2
  have h1 : (Lib.itoa v).length < r.length := by rw [e]; simp
  have h2 : r[(Lib.itoa v).length] = c := by simp [e]
  rcases hstop with h | ⟨h, h'⟩
  · exact hk _ h1 (by omega) h2
  · rcases Nat.lt_or_ge (Lib.itoa v).length 21 with h3 | h3
    · exact hk _ h1 (by omega) h2
    · have h4 : (Lib.itoa v).length = 21 := by omega
      simp only [h4] at h2
      exact h' (by omega) h2
theorem ahead_at {r : List UInt8} {c : UInt8} {k : Nat} {v : Int} {q : List UInt8} (hc : ¬ Wm.isNum c) (hk : ∀ (i : Nat) (h : i < r.length), i < k → r[i] ≠ c) (hlt : k < r.length) (hr : r[k] = c) (e : r = (Wm.intE c).f v ++ q) : r.take k = Lib.itoa v := by
  rw [Wm.intE_f] at e
  have h1 := Wm.split_take r k hlt
  rw [hr] at h1
  have h2 : ∀ d ∈ r.take k, d ≠ c := by
    intro d hd
    obtain ⟨i, hi, rfl⟩ := List.mem_iff_getElem.1 hd
    rw [List.length_take] at hi
    rw [List.getElem_take]
    exact hk i (by omega) (by omega)
  have h3 : ∀ d ∈ Lib.itoa v, d ≠ c := fun d hd ed => hc (ed ▸ Wm.itoa_num v d hd)
  have h4 : r.take k ++ c :: r.drop (k + 1) = Lib.itoa v ++ c :: q := by rw [← h1, e]; simp
  exact (Wm.split_at (fun d => d ≠ c) h2 h3 (by simp) (by simp) h4).1

end Go.Proofs.YthppefkamklakaaDoor
namespace Go.Proofs.YthppefkamklakaaDoor
open Go.RowKit

/-- A byte that is read. -/
def Shut (T b : Nat) (c : UInt8) (r : List UInt8) (f : Bool) (e : Ending) (w' : World) : Prop :=
  (∃ r', r = c :: r' ∧ e = .returned (.bool true) ∧ Rd T b r' f w') ∨ ((∀ r', r ≠ c :: r') ∧ e = .returned (.bool false) ∧ Rd T b [] true w')

theorem text_good' {r r' q : List UInt8} {u : Nat} (hlt : u < r'.length) (hc : r'.drop u = 44 :: q) (he : r = (Wm.numE 58).f (u : Int) ++ r') : r = Wm.textE.f (r'.take u) ++ q := by
  have h1 : (r'.take u).length = u := by rw [List.length_take]; omega
  have h2 := List.take_append_drop u r'
  rw [hc] at h2
  rw [he, Wm.textE_f, Wm.numE_f, h1]
  conv => lhs; rw [← h2]
  simp
theorem text_bad' {r r' q v : List UInt8} {u : Nat} (he : r = (Wm.numE 58).f (u : Int) ++ r') (e : r = Wm.textE.f v ++ q) : u < r'.length ∧ r'.drop u = 44 :: q := by
  rw [he, Wm.numE_f, Wm.textE_f] at e
  obtain ⟨h1, _, h3⟩ := Wm.itoa_split (e := 58) (f := 58) (r := r') (s := v ++ 44 :: q) (by decide) (by decide) (by simpa using e)
  have h4 : u = v.length := by omega
  subst h4
  subst h3
  exact ⟨by simp, by simp⟩

end Go.Proofs.YthppefkamklakaaDoor
namespace Go.Proofs.YthppefkamklakaaDoor
open Go.RowKit

end Go.Proofs.YthppefkamklakaaDoor
namespace Go.Proofs.YthppefkamklakaaDoor
open Go.RowKit

end Go.Proofs.YthppefkamklakaaDoor
