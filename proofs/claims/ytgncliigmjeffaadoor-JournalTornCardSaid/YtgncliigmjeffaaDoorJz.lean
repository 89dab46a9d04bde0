/-
  Strings of which some bytes have become 0, or the end is missing: no other record stands in them (plain mathematics).
-/
import Derived.Test.YtgncliigmjeffaaDoorJm
namespace Go.Proofs.YtgncliigmjeffaaDoor.Jm
open Wm

/-- T is what is left of L: some bytes have become 0, and the end may be missing. -/
inductive Zd : List UInt8 → List UInt8 → Prop
  | nil (L : List UInt8) : Zd L []
  | cons (x : UInt8) {L T : List UInt8} (h : Zd L T) : Zd (x :: L) (x :: T)
  | zero (x : UInt8) {L T : List UInt8} (h : Zd L T) : Zd (x :: L) (0 :: T)
theorem Zd.refl : ∀ L : List UInt8, Zd L L
  | [] => .nil _
  | x :: L => .cons x (Zd.refl L)
theorem Zd.of_get : ∀ {L T : List UInt8}, T.length ≤ L.length → (∀ i (h : i < T.length) (h' : i < L.length), T[i] = 0 ∨ T[i] = L[i]) → Zd L T
  | L, [], _, _ => .nil L
  | [], y :: T, h, _ => by simp at h
  | x :: L, y :: T, h, hg => by
    have h0 := hg 0 (by simp) (by simp)
    have ih := Zd.of_get (L := L) (T := T) (by simpa using h) (fun i a b => by have := hg (i + 1) (by simpa using a) (by simpa using b); rw [List.getElem_cons_succ, List.getElem_cons_succ] at this; exact this)
    simp only [List.getElem_cons_zero] at h0
    rcases h0 with rfl | rfl
    · exact .zero x ih
    · exact .cons y ih
theorem Zd.len {L T : List UInt8} (h : Zd L T) : T.length ≤ L.length := by
  induction h with
  | nil => simp
  | cons x h ih => simpa using ih
  | zero x h ih => simpa using ih
/-- What has no 0 is as it was. -/
theorem Zd.pre : ∀ {a T L : List UInt8}, Zd L (a ++ T) → (∀ c ∈ a, c ≠ 0) → ∃ L', L = a ++ L' ∧ Zd L' T
  | [], _, L, h, _ => ⟨L, rfl, h⟩
  | c :: a, T, L, h, hc => by
    cases h with
    | cons x h =>
      obtain ⟨L', e, h'⟩ := Zd.pre h (fun d hd => hc d (by simp [hd]))
      exact ⟨L', by rw [e]; rfl, h'⟩
    | zero x h => exact absurd rfl (hc 0 (by simp))
theorem Zd.split : ∀ {x y L T : List UInt8}, x.length = y.length → Zd (x ++ L) (y ++ T) → Zd x y ∧ Zd L T
  | [], [], _, _, _, h => ⟨.nil _, h⟩
  | [], y :: ys, _, _, e, _ => by simp at e
  | x :: xs, [], _, _, e, _ => by simp at e
  | x :: xs, y :: ys, L, T, e, h => by
    cases h with
    | cons _ h => obtain ⟨h1, h2⟩ := Zd.split (by simpa using e) h; exact ⟨.cons x h1, h2⟩
    | zero _ h => obtain ⟨h1, h2⟩ := Zd.split (by simpa using e) h; exact ⟨.zero x h1, h2⟩
theorem Zd.short {x : List UInt8} (L : List UInt8) : ∀ {y : List UInt8}, Zd x y → Zd (x ++ L) y := by
  intro y h
  induction h with
  | nil => exact .nil _
  | cons x h ih => exact .cons x ih
  | zero x h ih => exact .zero x ih

/-- The sum, not reduced. -/
def raw : List UInt8 → Nat → Nat
  | [], _ => 0
  | a :: l, p => p * a.toNat + raw l (p + 1)
theorem raw_snoc (l : List UInt8) (a : UInt8) (p : Nat) : raw (l ++ [a]) p = raw l p + (p + l.length) * a.toNat := by
  induction l generalizing p with
  | nil => simp [raw]
  | cons b l ih => simp only [List.cons_append, raw, ih, List.length_cons]; rw [show p + 1 + l.length = p + (l.length + 1) by omega]; omega
theorem raw_le (l : List UInt8) (p : Nat) : raw l p ≤ 255 * ((p + l.length) * l.length) := by
  induction l generalizing p with
  | nil => simp [raw]
  | cons b l ih =>
    have h1 := ih (p + 1)
    have h2 : b.toNat ≤ 255 := Nat.le_of_lt_succ (UInt8.toNat_lt _)
    have h3 : p * b.toNat ≤ p * 255 := Nat.mul_le_mul_left _ h2
    simp only [raw, List.length_cons]
    have h4 : (p + (l.length + 1)) * (l.length + 1) = (p + 1 + l.length) * l.length + (p + (l.length + 1)) := by rw [Nat.mul_succ, show p + (l.length + 1) = p + 1 + l.length by omega]
    rw [h4]; omega
theorem sum_raw (l : List UInt8) : sum l = raw l 1 % 2147483647 := by
  have h : ∀ k, k ≤ l.length → sumTo l k = raw (l.take k) 1 % 2147483647 := by
    intro k
    induction k with
    | zero => intro _; simp [sumTo, raw]
    | succ k ih =>
      intro hk
      have hlt : k < l.length := by omega
      rw [sumTo, ih (by omega), take_succ l k hlt, raw_snoc, List.length_take, Nat.min_eq_left (by omega), List.getD_eq_getElem?_getD, List.getElem?_eq_getElem hlt, Option.getD_some, Nat.mod_add_mod, Nat.add_comm k 1]
  have := h l.length (Nat.le_refl _)
  rw [List.take_length] at this
  exact this
theorem Zd.raw_le {x y : List UInt8} (h : Zd x y) : ∀ p, raw y p ≤ raw x p := by
  induction h with
  | nil L => intro p; simp [raw]
  | cons a h ih => intro p; have := ih (p + 1); simp only [raw]; omega
  | zero a h ih => intro p; have := ih (p + 1); simp only [raw]; simp; omega
theorem Zd.raw_eq {x y : List UInt8} (h : Zd x y) : ∀ p, 0 < p → x.length = y.length → raw y p = raw x p → x = y := by
  induction h with
  | nil L => intro p _ e _; exact List.length_eq_zero_iff.1 (by simpa using e)
  | cons a h ih => intro p hp e hr; simp only [raw] at hr; rw [ih (p + 1) (by omega) (by simpa using e) (by omega)]
  | zero a h ih =>
    intro p hp e hr
    have h1 := h.raw_le (p + 1)
    simp only [raw] at hr
    have h2 : p * a.toNat = 0 := by simp at hr; omega
    have h3 : a.toNat = 0 := by
      rcases Nat.mul_eq_zero.1 h2 with h | h
      · omega
      · exact h
    have h4 : a = 0 := UInt8.toNat_inj.1 h3
    rw [ih (p + 1) (by omega) (by simpa using e) (by simp at hr; omega), h4]
theorem Zd.sum_eq {x y : List UInt8} (h : Zd x y) (hl : x.length = y.length) (hm : x.length ≤ 2000) (hs : sum x = sum y) : x = y := by
  have b : ∀ z : List UInt8, z.length ≤ 2000 → raw z 1 < 2147483647 := fun z hz => by
    have h1 := Jm.raw_le z 1
    have h2 : (1 + z.length) * z.length ≤ 2001 * 2000 := Nat.mul_le_mul (by omega) hz
    omega
  rw [sum_raw, sum_raw, Nat.mod_eq_of_lt (b x hm), Nat.mod_eq_of_lt (b y (by omega))] at hs
  exact h.raw_eq 1 (by omega) hl hs.symm
theorem dec_nz (u : Nat) : ∀ c ∈ Lib.decDigits u, c ≠ 0 := fun c hc e => by
  have := (dec_dig u c hc).1
  rw [e] at this; simp at this
theorem num_nz (n : Nat) {e : UInt8} (he : e ≠ 0) : ∀ c ∈ (numE e).f (n : Int), c ≠ 0 := fun c hc => by
  rw [numE_f, Lib.itoa_nonneg, List.mem_append] at hc
  rcases hc with hc | hc
  · exact dec_nz n c hc
  · rw [List.mem_singleton.1 hc]; exact he
/-- A record that stands in what is left of another one is that one. -/
theorem Zd.form {x y L T : List UInt8} (h : Zd (formE.f x ++ L) (formE.f y ++ T)) (hx : x.length ≤ 2000) (hy : y.length ≤ 20000) : y = x ∧ Zd L T := by
  have ex : ∀ z : List UInt8, ∀ R : List UInt8, formE.f z ++ R = (numE 58).f (z.length : Int) ++ (z ++ (44 :: ((numE 59).f (sum z : Int) ++ R))) := fun z R => by
    simp only [formE_f, textE_f, numE_f]; simp
  rw [ex x L, ex y T] at h
  obtain ⟨L1, e1, h1⟩ := h.pre (num_nz _ (by decide))
  obtain ⟨e2, e3⟩ := numE_pf num58 _ _ _ _ ⟨by omega, by omega⟩ ⟨by omega, by omega⟩ e1
  have hl : x.length = y.length := by omega
  subst e3
  obtain ⟨h2, h3⟩ := h1.split hl
  obtain ⟨L2, e4, h4⟩ := Zd.pre (a := [44]) h3 (by intro c hc; simp at hc; subst hc; decide)
  simp only [List.singleton_append, List.cons.injEq, true_and] at e4
  subst e4
  obtain ⟨L3, e5, h5⟩ := h4.pre (num_nz _ (by decide))
  obtain ⟨e6, e7⟩ := numE_pf num59 _ _ _ _ (sum_dom x) (sum_dom y) e5
  subst e7
  exact ⟨(h2.sum_eq hl hx (by omega)).symm, h5⟩
/-- The records of what is left are a beginning of those that were there. -/
theorem Zd.recs : ∀ {rs qs : List (List UInt8)} {T q : List UInt8}, Zd (forms rs) T → (∀ r ∈ rs, r.length ≤ 2000) → Recs T qs q → ∃ ps, rs = qs ++ ps ∧ Zd (forms ps) q
  | rs, [], T, q, h, hr, k => ⟨rs, rfl, by have e := k.eq; rw [forms_nil, List.nil_append] at e; rw [← e]; exact h⟩
  | [], y :: qs, T, q, h, hr, k => by
    have e := congrArg List.length k.eq
    have h1 := h.len
    have h2 := form_two y
    rw [forms_cons, List.length_append, List.length_append] at e
    rw [forms_nil, List.length_nil] at h1
    omega
  | x :: rs, y :: qs, T, q, h, hr, k => by
    have e := k.eq
    rw [forms_cons, List.append_assoc] at e
    rw [e, forms_cons] at h
    obtain ⟨rfl, h2⟩ := h.form (hr x (by simp)) (k.small y (by simp))
    obtain ⟨ps, rfl, hp⟩ := Zd.recs h2 (fun z hz => hr z (by simp [hz])) ⟨rfl, fun z hz => k.small z (by simp [hz]), k.stops⟩
    exact ⟨ps, rfl, hp⟩
end Go.Proofs.YtgncliigmjeffaaDoor.Jm
