/-
  The journal's forms: the sum of a record, its form, the records of a string (plain mathematics).
-/
import Derived.Test.YtjcajgcfkidbkaaDoorBase
namespace Go.Proofs.YtjcajgcfkidbkaaDoor.Jm
open Wm

/-- The sum of the first k bytes. -/
def sumTo (l : List UInt8) : Nat → Nat
  | 0 => 0
  | k + 1 => (sumTo l k + (k + 1) * (l.getD k 0).toNat) % 2147483647
/-- The sum of a record. -/
def sum (l : List UInt8) : Nat := sumTo l l.length
theorem sumTo_lt (l : List UInt8) (k : Nat) : sumTo l k < 2147483647 := by
  cases k with
  | zero => exact Nat.zero_lt_succ _
  | succ k => exact Nat.mod_lt _ (by omega)
theorem sum_lt (l : List UInt8) : sum l < 2147483647 := sumTo_lt l _
theorem sum_dom (l : List UInt8) : inNum (sum l : Int) := ⟨by omega, by have := sum_lt l; omega⟩

/-- The form of a record. -/
def formE : Enc (List UInt8) := ⟨fun r => r.length ≤ 20000, fun r => textE.f r ++ (numE 59).f (sum r : Int)⟩
theorem formE_f (r : List UInt8) : formE.f r = textE.f r ++ (numE 59).f (sum r : Int) := rfl
theorem text_dom' {r : List UInt8} (h : r.length ≤ 20000) : textE.dom r := by show r.length ≤ 9223372036854775807; omega
theorem formE_pf : formE.Pf := by
  intro v w r s hv hw h
  rw [formE_f, formE_f, List.append_assoc, List.append_assoc] at h
  obtain ⟨rfl, h2⟩ := textE_pf _ _ _ _ (text_dom' hv) (text_dom' hw) h
  exact ⟨rfl, List.append_cancel_left h2⟩
theorem form_two (r : List UInt8) : 3 ≤ (formE.f r).length := by
  have := dec_pos r.length
  rw [formE_f, textE_f, numE_f, Lib.itoa_nonneg]; simp; omega

theorem num_len (n : Nat) (h : n ≤ 9223372036854775807) : ((numE 59).f (n : Int)).length ≤ 25 := by
  have h1 := Lib.itoa_length_le (n : Int) (by omega) (by omega)
  rw [numE_f, List.length_append, List.length_singleton]; omega
theorem text_len (r : List UInt8) (h : r.length ≤ 1099511627776) : (textE.f r).length ≤ r.length + 26 := by
  have h1 := Lib.itoa_length_le (r.length : Int) (by omega) (by omega)
  rw [textE_f, List.length_append, List.length_cons, List.length_append, List.length_singleton]; omega
theorem form_len (r : List UInt8) (h : r.length ≤ 1099511627776) : (formE.f r).length ≤ r.length + 51 := by
  have h1 := num_len (sum r) (by have := sum_lt r; omega)
  have h2 := text_len r h
  rw [formE_f, List.length_append]; omega

def forms (rs : List (List UInt8)) : List UInt8 := rs.flatMap formE.f
theorem forms_nil : forms [] = [] := rfl
theorem forms_snoc (rs : List (List UInt8)) (r : List UInt8) : forms (rs ++ [r]) = forms rs ++ formE.f r := by simp [forms]
theorem forms_append (rs qs : List (List UInt8)) : forms (rs ++ qs) = forms rs ++ forms qs := by simp [forms]
theorem forms_cons (r : List UInt8) (rs : List (List UInt8)) : forms (r :: rs) = formE.f r ++ forms rs := by simp [forms]
theorem forms_count (rs : List (List UInt8)) : rs.length * 3 ≤ (forms rs).length := by
  induction rs with
  | nil => simp
  | cons r rs ih => have := form_two r; rw [forms_cons]; simp; omega

/-- No form of a record stands at the beginning. -/
def Stops (s : List UInt8) : Prop := ∀ v r, formE.dom v → s ≠ formE.f v ++ r
theorem stops_nil : Stops [] := by
  intro v r _ h
  have h1 := congrArg List.length h
  have h2 := form_two v
  rw [List.length_append, List.length_nil] at h1; omega
def Small (rs : List (List UInt8)) : Prop := ∀ r ∈ rs, r.length ≤ 20000
/-- The records of a string, and what follows them. -/
structure Recs (s : List UInt8) (rs : List (List UInt8)) (rest : List UInt8) : Prop where
  eq : s = forms rs ++ rest
  small : Small rs
  stops : Stops rest
theorem Recs.all {rs : List (List UInt8)} (h : Small rs) : Recs (forms rs) rs [] := ⟨by simp, h, stops_nil⟩
theorem Recs.unique : ∀ {rs qs : List (List UInt8)} {s r q : List UInt8}, Recs s rs r → Recs s qs q → rs = qs ∧ r = q
  | [], [], s, r, q, h, k => ⟨rfl, by have := h.eq; rw [k.eq] at this; simpa [forms] using this.symm⟩
  | [], y :: qs, s, r, q, h, k => by
    have e := k.eq
    rw [h.eq, forms_nil, List.nil_append, forms_cons, List.append_assoc] at e
    exact absurd e (h.stops _ _ (k.small y (by simp)))
  | x :: rs, [], s, r, q, h, k => by
    have e := h.eq
    rw [k.eq, forms_nil, List.nil_append, forms_cons, List.append_assoc] at e
    exact absurd e (k.stops _ _ (h.small x (by simp)))
  | x :: rs, y :: qs, s, r, q, h, k => by
    have e := h.eq
    rw [k.eq, forms_cons, forms_cons, List.append_assoc, List.append_assoc] at e
    obtain ⟨rfl, e2⟩ := formE_pf _ _ _ _ (k.small y (by simp)) (h.small x (by simp)) e
    obtain ⟨rfl, rfl⟩ := Recs.unique (s := forms rs ++ r) ⟨rfl, fun z hz => h.small z (by simp [hz]), h.stops⟩ ⟨e2.symm, fun z hz => k.small z (by simp [hz]), k.stops⟩
    exact ⟨rfl, rfl⟩
/-- The records of a string that goes on with other bytes begin with these. -/
theorem Recs.more {rs : List (List UInt8)} {r : List UInt8} {qs : List (List UInt8)} {q : List UInt8} (h : Small rs) (k : Recs (forms rs ++ r) qs q) : ∃ ps, qs = rs ++ ps ∧ Recs r ps q := by
  induction rs generalizing qs with
  | nil => exact ⟨qs, rfl, by simpa [forms] using k⟩
  | cons x rs ih =>
    cases qs with
    | nil =>
      have e := k.eq
      rw [forms_nil, List.nil_append, forms_cons, List.append_assoc] at e
      exact absurd e.symm (k.stops _ _ (h x (by simp)))
    | cons y qs =>
      have e := k.eq
      rw [forms_cons, forms_cons, List.append_assoc, List.append_assoc] at e
      obtain ⟨rfl, e2⟩ := formE_pf _ _ _ _ (h x (by simp)) (k.small y (by simp)) e
      obtain ⟨ps, rfl, hp⟩ := ih (qs := qs) (fun z hz => h z (by simp [hz])) ⟨e2, fun z hz => k.small z (by simp [hz]), k.stops⟩
      exact ⟨ps, rfl, hp⟩
theorem stops_text {s : List UInt8} (h : ∀ v r, textE.dom v → s ≠ textE.f v ++ r) : Stops s := by
  intro v r hv e
  rw [formE_f, List.append_assoc] at e
  exact h _ _ (text_dom' hv) e
theorem stops_num {s x r2 : List UInt8} (he : s = textE.f x ++ r2) (hx : textE.dom x) (h : ∀ n r, inNum n → r2 ≠ (numE 59).f n ++ r) : Stops s := by
  intro v r hv e
  rw [formE_f, List.append_assoc, he] at e
  obtain ⟨rfl, e2⟩ := textE_pf _ _ _ _ hx (text_dom' hv) e
  exact h _ _ (sum_dom _) e2
theorem stops_sum {s x r2 r3 : List UInt8} {n : Int} (he : s = textE.f x ++ r2) (hx : textE.dom x) (he2 : r2 = (numE 59).f n ++ r3) (hn : inNum n) (h : 20000 < x.length ∨ n ≠ (sum x : Int)) : Stops s := by
  intro v r hv e
  rw [formE_f, List.append_assoc, he] at e
  obtain ⟨rfl, e2⟩ := textE_pf _ _ _ _ hx (text_dom' hv) e
  rw [he2] at e2
  obtain ⟨h3, _⟩ := numE_pf num59 _ _ _ _ hn (sum_dom _) e2
  rcases h with h | h
  · have : x.length ≤ 20000 := hv
    omega
  · exact h h3
theorem goes {s x r2 r3 : List UInt8} {n : Int} (he : s = textE.f x ++ r2) (he2 : r2 = (numE 59).f n ++ r3) (h : n = (sum x : Int)) : s = formE.f x ++ r3 := by
  rw [he, he2, h, formE_f, List.append_assoc]
end Go.Proofs.YtjcajgcfkidbkaaDoor.Jm
