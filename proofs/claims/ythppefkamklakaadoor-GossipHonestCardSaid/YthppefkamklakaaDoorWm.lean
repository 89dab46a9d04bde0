/-
  Plain mathematics of layer 1 (wire): the encodings as lists of bytes, that no encoding is a prefix of another one, and what the readers' loops compute. No program stands here.
-/
import Derived.Lib.ItoaNum
import Derived.Lib.ItoaLen
namespace Go.Proofs.YthppefkamklakaaDoor.Wm
open Go

def isDig (c : UInt8) : Prop := 48 ≤ c.toNat ∧ c.toNat ≤ 57
instance (c : UInt8) : Decidable (isDig c) := inferInstanceAs (Decidable (_ ∧ _))
def isNum (c : UInt8) : Prop := isDig c ∨ c = 45
instance (c : UInt8) : Decidable (isNum c) := inferInstanceAs (Decidable (_ ∨ _))

/-- The number that a list of digits stands for. -/
def val (l : List UInt8) : Nat := l.foldl (fun n c => n * 10 + (c.toNat - 48)) 0
theorem val_nil : val [] = 0 := rfl
theorem val_snoc (l : List UInt8) (c : UInt8) : val (l ++ [c]) = val l * 10 + (c.toNat - 48) := by simp [val]
theorem val_le_snoc (l : List UInt8) (c : UInt8) : val l ≤ val (l ++ [c]) := by rw [val_snoc]; omega
theorem val_le_append (l m : List UInt8) : val l ≤ val (l ++ m) := by
  induction m generalizing l with
  | nil => simp
  | cons c m ih => have h := ih (l ++ [c]); simp only [List.append_assoc, List.singleton_append] at h; exact Nat.le_trans (val_le_snoc l c) h
theorem val_take_le (l : List UInt8) (i : Nat) : val (l.take i) ≤ val l := by
  have := val_le_append (l.take i) (l.drop i); rwa [List.take_append_drop] at this

theorem ofNat_dig {k : Nat} (h : k < 10) : (UInt8.ofNat (48 + k)).toNat = 48 + k := by
  simp; omega
theorem dig_of {k : Nat} (h : k < 10) : isDig (UInt8.ofNat (48 + k)) := by
  unfold isDig; rw [ofNat_dig h]; omega

theorem val_dec (u : Nat) : val (Lib.decDigits u) = u := by
  induction u using Nat.strongRecOn with
  | _ u ih =>
    by_cases h : u < 10
    · rw [Lib.decDigits, dif_pos h]; simp only [val, List.foldl_cons, List.foldl_nil]; rw [ofNat_dig h]; omega
    · rw [Lib.decDigits, dif_neg h, val_snoc, ih (u / 10) (by omega), ofNat_dig (by omega)]; omega
theorem dec_dig (u : Nat) : ∀ c ∈ Lib.decDigits u, isDig c := by
  induction u using Nat.strongRecOn with
  | _ u ih =>
    by_cases h : u < 10
    · rw [Lib.decDigits, dif_pos h]; intro c hc; simp only [List.mem_singleton] at hc; subst hc; exact dig_of h
    · rw [Lib.decDigits, dif_neg h]; intro c hc
      rcases List.mem_append.1 hc with hc | hc
      · exact ih (u / 10) (by omega) c hc
      · simp only [List.mem_singleton] at hc; subst hc; exact dig_of (by omega)
theorem dec_ne (u : Nat) : Lib.decDigits u ≠ [] := by
  rw [Lib.decDigits]; split <;> simp
theorem dec_pos (u : Nat) : 1 ≤ (Lib.decDigits u).length := List.length_pos_iff.2 (dec_ne u)
theorem dec_head {u : Nat} (h : 1 ≤ u) : (Lib.decDigits u).head? ≠ some 48 := by
  induction u using Nat.strongRecOn with
  | _ u ih =>
    by_cases h1 : u < 10
    · rw [Lib.decDigits, dif_pos h1]; simp only [List.head?_cons, ne_eq, Option.some.injEq]
      intro e; have := congrArg UInt8.toNat e; rw [ofNat_dig h1] at this; simp at this; omega
    · rw [Lib.decDigits, dif_neg h1, List.head?_append]
      have := ih (u / 10) (by omega) (by omega)
      cases hh : (Lib.decDigits (u / 10)).head? with
      | none => exact absurd (List.head?_eq_none_iff.1 hh) (dec_ne _)
      | some c => rw [hh] at this; simpa using this
theorem dec_two {u : Nat} (h : 1 < (Lib.decDigits u).length) : (Lib.decDigits u).head? ≠ some 48 := by
  by_cases h1 : 1 ≤ u
  · exact dec_head h1
  · obtain rfl : u = 0 := by omega
    rw [Lib.decDigits, dif_pos (by omega)] at h; simp at h

theorem val_pos {l : List UInt8} (hd : ∀ c ∈ l, isDig c) (hne : l ≠ []) (h0 : l.head? ≠ some 48) : 1 ≤ val l := by
  cases l with
  | nil => exact absurd rfl hne
  | cons c r =>
    have h1 : isDig c := hd c (by simp)
    have h2 : c ≠ 48 := by intro e; exact h0 (by simp [e])
    have h3 : c.toNat ≠ 48 := by intro e; exact h2 (UInt8.toNat_inj.1 (by simpa using e))
    have := val_le_append [c] r
    unfold isDig at h1
    have h4 : val [c] = c.toNat - 48 := by simp [val]
    simp only [List.singleton_append] at this
    omega

/-- Digits without a 0 in front are the digits of their number. -/
theorem dec_val (l : List UInt8) : (∀ c ∈ l, isDig c) → l ≠ [] → (1 < l.length → l.head? ≠ some 48) → Lib.decDigits (val l) = l := by
  generalize hn : l.length = n
  induction n generalizing l with
  | zero => intro _ h; exact absurd (List.length_eq_zero_iff.1 hn) h
  | succ n ih =>
    intro hd hne h0
    obtain ⟨l', c, rfl⟩ : ∃ l' c, l = l' ++ [c] := ⟨l.dropLast, l.getLast hne, (List.dropLast_concat_getLast hne).symm⟩
    have hc : isDig c := hd c (by simp)
    have hk : c.toNat - 48 < 10 := by unfold isDig at hc; omega
    have hcc : UInt8.ofNat (48 + (c.toNat - 48)) = c := by
      refine UInt8.toNat_inj.1 ?_
      rw [ofNat_dig hk]; unfold isDig at hc; omega
    rw [val_snoc]
    simp only [List.length_append, List.length_cons, List.length_nil, Nat.zero_add] at hn
    by_cases hl : l' = []
    · subst hl; rw [val_nil, Lib.decDigits, dif_pos (by omega)]; simpa using hcc
    · have hpos : 1 ≤ l'.length := List.length_pos_iff.2 hl
      have hh : l'.head? ≠ some 48 := by
        have := h0 (by simp at hn; omega)
        rw [List.head?_append] at this
        cases e : l'.head? with
        | none => simp
        | some d => rw [e] at this; simpa using this
      have hv : 1 ≤ val l' := val_pos (fun c h => hd c (by simp [h])) hl hh
      rw [Lib.decDigits, dif_neg (by omega), show (val l' * 10 + (c.toNat - 48)) / 10 = val l' by omega, show (val l' * 10 + (c.toNat - 48)) % 10 = c.toNat - 48 by omega, hcc,
        ih l' (by omega) (fun c h => hd c (by simp [h])) hl (fun _ => hh)]

theorem itoa_num (n : Int) : ∀ c ∈ Lib.itoa n, isNum c := by
  intro c hc
  unfold Lib.itoa at hc
  split at hc
  · rcases List.mem_cons.1 hc with h | h
    · exact .inr h
    · exact .inl (dec_dig _ c h)
  · exact .inl (dec_dig _ c hc)
theorem itoa_ne (n : Int) : Lib.itoa n ≠ [] := by
  unfold Lib.itoa; split
  · simp
  · exact dec_ne _
theorem dec_inj {u v : Nat} (h : Lib.decDigits u = Lib.decDigits v) : u = v := by rw [← val_dec u, h, val_dec]
theorem itoa_inj {a b : Int} (h : Lib.itoa a = Lib.itoa b) : a = b := by
  have key : ∀ u v : Nat, 45 :: Lib.decDigits u ≠ Lib.decDigits v := by
    intro u v e
    have := dec_dig v 45 (by rw [← e]; simp)
    unfold isDig at this; simp at this
  unfold Lib.itoa at h
  split at h <;> split at h
  · have := dec_inj (List.cons.inj h).2; omega
  · exact absurd h (key _ _)
  · exact absurd h.symm (key _ _)
  · have := dec_inj h; omega

/-- What stands before the first byte that is not of a kind is the same. -/
theorem split_at (p : UInt8 → Prop) [DecidablePred p] {l m r s : List UInt8} {e f : UInt8} (hl : ∀ c ∈ l, p c) (hm : ∀ c ∈ m, p c) (he : ¬ p e) (hf : ¬ p f) (h : l ++ e :: r = m ++ f :: s) : l = m ∧ e = f ∧ r = s := by
  induction l generalizing m with
  | nil =>
    cases m with
    | nil => simpa using h
    | cons c m => simp only [List.nil_append, List.cons_append, List.cons.injEq] at h; exact absurd (h.1 ▸ hm c (by simp)) he
  | cons c l ih =>
    cases m with
    | nil => simp only [List.nil_append, List.cons_append, List.cons.injEq] at h; exact absurd (h.1 ▸ hl c (by simp)) hf
    | cons d m =>
      simp only [List.cons_append, List.cons.injEq] at h
      obtain ⟨a, b, c⟩ := ih (m := m) (fun c hc => hl c (by simp [hc])) (fun c hc => hm c (by simp [hc])) h.2
      exact ⟨by rw [h.1, a], b, c⟩
theorem itoa_split {a b : Int} {e f : UInt8} {r s : List UInt8} (he : ¬ isNum e) (hf : ¬ isNum f) (h : Lib.itoa a ++ e :: r = Lib.itoa b ++ f :: s) : a = b ∧ e = f ∧ r = s := by
  obtain ⟨h1, h2, h3⟩ := split_at isNum (itoa_num a) (itoa_num b) he hf h
  exact ⟨itoa_inj h1, h2, h3⟩

/-! ### Encodings -/

structure Enc (α : Type) where
  dom : α → Prop
  f : α → List UInt8

def Enc.Pf {α : Type} (E : Enc α) : Prop := ∀ v w r s, E.dom v → E.dom w → E.f v ++ r = E.f w ++ s → v = w ∧ r = s

def inInt (n : Int) : Prop := -9223372036854775808 ≤ n ∧ n ≤ 9223372036854775807
def inNum (n : Int) : Prop := 0 ≤ n ∧ n ≤ 9223372036854775807
theorem inNum.int {n : Int} (h : inNum n) : inInt n := ⟨by have := h.1; omega, h.2⟩

/-- A number, and a byte behind it. -/
def numE (e : UInt8) : Enc Int := ⟨inNum, fun n => Lib.itoa n ++ [e]⟩
def intE (e : UInt8) : Enc Int := ⟨inInt, fun n => Lib.itoa n ++ [e]⟩
def textE : Enc (List UInt8) := ⟨fun s => s.length ≤ 9223372036854775807, fun s => Lib.itoa s.length ++ 58 :: (s ++ [44])⟩
def listE {α : Type} (E : Enc α) : Enc (List α) := ⟨fun l => l.length ≤ 9223372036854775807 ∧ ∀ x ∈ l, E.dom x, fun l => Lib.itoa l.length ++ 91 :: (l.flatMap E.f ++ [93])⟩

theorem numE_f (e : UInt8) (n : Int) : (numE e).f n = Lib.itoa n ++ [e] := rfl
theorem intE_f (e : UInt8) (n : Int) : (intE e).f n = Lib.itoa n ++ [e] := rfl
theorem textE_f (s : List UInt8) : textE.f s = Lib.itoa s.length ++ 58 :: (s ++ [44]) := rfl
theorem listE_f {α : Type} (E : Enc α) (l : List α) : (listE E).f l = Lib.itoa l.length ++ 91 :: (l.flatMap E.f ++ [93]) := rfl
theorem numE_pf {e : UInt8} (he : ¬ isNum e) : (numE e).Pf := by
  intro v w r s _ _ h
  simp only [numE, List.append_assoc, List.singleton_append] at h
  obtain ⟨h1, _, h3⟩ := itoa_split he he h
  exact ⟨h1, h3⟩
theorem intE_pf {e : UInt8} (he : ¬ isNum e) : (intE e).Pf := by
  intro v w r s _ _ h
  simp only [intE, List.append_assoc, List.singleton_append] at h
  obtain ⟨h1, _, h3⟩ := itoa_split he he h
  exact ⟨h1, h3⟩
theorem textE_pf : textE.Pf := by
  intro v w r s _ _ h
  simp only [textE, List.append_assoc, List.cons_append, List.nil_append] at h
  obtain ⟨h1, _, h3⟩ := itoa_split (by decide) (by decide) h
  have h4 : v.length = w.length := by omega
  obtain ⟨h5, h6⟩ := List.append_inj h3 h4
  exact ⟨h5, by simpa using h6⟩
theorem flat_pf {α : Type} {E : Enc α} (hE : E.Pf) : ∀ (l m : List α) (r s : List UInt8), l.length = m.length → (∀ x ∈ l, E.dom x) → (∀ x ∈ m, E.dom x) → l.flatMap E.f ++ r = m.flatMap E.f ++ s → l = m ∧ r = s
  | [], [], r, s, _, _, _, h => ⟨rfl, by simpa using h⟩
  | [], _ :: _, _, _, hl, _, _, _ => by simp at hl
  | _ :: _, [], _, _, hl, _, _, _ => by simp at hl
  | x :: l, y :: m, r, s, hl, hx, hy, h => by
    simp only [List.flatMap_cons, List.append_assoc] at h
    obtain ⟨h1, h2⟩ := hE _ _ _ _ (hx x (by simp)) (hy y (by simp)) h
    obtain ⟨h3, h4⟩ := flat_pf hE l m r s (by simpa using hl) (fun z hz => hx z (by simp [hz])) (fun z hz => hy z (by simp [hz])) h2
    exact ⟨by rw [h1, h3], h4⟩
theorem listE_pf {α : Type} {E : Enc α} (hE : E.Pf) : (listE E).Pf := by
  intro v w r s hv hw h
  simp only [listE, List.append_assoc, List.cons_append, List.nil_append] at h
  obtain ⟨h1, _, h3⟩ := itoa_split (by decide) (by decide) h
  obtain ⟨h4, h5⟩ := flat_pf hE v w _ _ (by omega) hv.2 hw.2 h3
  exact ⟨h4, by simpa using h5⟩
theorem num59 : ¬ isNum 59 := by decide
theorem num58 : ¬ isNum 58 := by decide
theorem num91 : ¬ isNum 91 := by decide

/-! ### Reading -/

/-- What stands at the beginning of s, if a value of the kind does. -/
noncomputable def parse {α : Type} (E : Enc α) (s : List UInt8) : Option (α × List UInt8) :=
  open Classical in if h : ∃ p : α × List UInt8, E.dom p.1 ∧ s = E.f p.1 ++ p.2 then some h.choose else none
theorem parse_some {α : Type} {E : Enc α} {s : List UInt8} {v : α} {r : List UInt8} (h : parse E s = some (v, r)) : E.dom v ∧ s = E.f v ++ r := by
  unfold parse at h
  split at h
  · rename_i hp
    have := hp.choose_spec
    simp only [Option.some.injEq] at h
    rw [h] at this
    exact this
  · cases h
theorem parse_none {α : Type} {E : Enc α} {s : List UInt8} (h : ∀ v r, E.dom v → s ≠ E.f v ++ r) : parse E s = none := by
  unfold parse
  split
  · rename_i hp
    obtain ⟨p, h1, h2⟩ := hp
    exact absurd h2 (h _ _ h1)
  · rfl
theorem of_parse_none {α : Type} {E : Enc α} {s : List UInt8} (h : parse E s = none) : ∀ v r, E.dom v → s ≠ E.f v ++ r := by
  intro v r hv e
  unfold parse at h
  rw [dif_pos ⟨(v, r), hv, e⟩] at h
  cases h
theorem parse_eq {α : Type} {E : Enc α} (hE : E.Pf) {v : α} (r : List UInt8) (hv : E.dom v) : parse E (E.f v ++ r) = some (v, r) := by
  cases hp : parse E (E.f v ++ r) with
  | none => exact absurd rfl (of_parse_none hp v r hv)
  | some p =>
    obtain ⟨h1, h2⟩ := parse_some (v := p.1) (r := p.2) hp
    obtain ⟨h3, h4⟩ := hE _ _ _ _ hv h1 h2
    rw [h3, h4]

/-! ### What the loops over digits find -/

theorem take_succ {α : Type} (l : List α) (k : Nat) (h : k < l.length) : l.take (k + 1) = l.take k ++ [l[k]] := by
  rw [List.take_add_one, List.getElem?_eq_getElem h]; rfl
theorem split_take {α : Type} (l : List α) (k : Nat) (h : k < l.length) : l = l.take k ++ l[k] :: l.drop (k + 1) := by
  have := List.take_append_drop k l
  rw [List.drop_eq_getElem_cons h] at this
  exact this.symm

theorem dig_end {r r' : List UInt8} {u k : Nat} {c : UInt8} (hc : ¬ isDig c) (h : r = Lib.decDigits u ++ c :: r') (hd : ∀ d ∈ r.take k, isDig d) (hk : k ≤ r.length) (he : ∀ h : k < r.length, ¬ isDig r[k]) :
    ∃ h : k < r.length, r.take k = Lib.decDigits u ∧ r[k] = c ∧ r.drop (k + 1) = r' := by
  by_cases hlt : k < r.length
  · refine ⟨hlt, ?_⟩
    have h1 := split_take r k hlt
    have h2 := h
    rw [h1] at h2
    exact split_at isDig hd (dec_dig u) (he hlt) hc h2
  · rw [List.take_of_length_le (by omega)] at hd
    exact absurd (hd c (by rw [h]; simp)) hc
theorem dig_over {r r' : List UInt8} {u k most : Nat} {c : UInt8} (hc : ¬ isDig c) (h : r = Lib.decDigits u ++ c :: r') (hlt : k < r.length) (hd : ∀ d ∈ r.take k, isDig d) (hk : isDig r[k]) (hm : most < val (r.take k) * 10 + (r[k].toNat - 48)) : ¬ u ≤ most := by
  intro hu
  have hd' : ∀ d ∈ r.take (k + 1), isDig d := by
    rw [take_succ r k hlt]; intro d hd1
    rcases List.mem_append.1 hd1 with h1 | h1
    · exact hd d h1
    · simp only [List.mem_singleton] at h1; subst h1; exact hk
  have hv : val (r.take (k + 1)) = val (r.take k) * 10 + (r[k].toNat - 48) := by rw [take_succ r k hlt, val_snoc]
  have hl : k + 1 ≤ (Lib.decDigits u).length := by
    rcases Nat.lt_or_ge (Lib.decDigits u).length (k + 1) with h1 | h1
    · exact absurd (hd' c (by rw [h, List.take_append]; rw [show k + 1 - (Lib.decDigits u).length = (k - (Lib.decDigits u).length) + 1 by omega]; simp)) hc
    · exact h1
  have ht : r.take (k + 1) = (Lib.decDigits u).take (k + 1) := by rw [h, List.take_append_of_le_length hl]
  have := val_take_le (Lib.decDigits u) (k + 1)
  rw [← ht, hv, val_dec] at this
  omega
/-- The digits that were read are a number's, if there is one and no 0 stands in front. -/
theorem dig_good {r : List UInt8} {k : Nat} (hd : ∀ d ∈ r.take k, isDig d) (hk0 : 1 ≤ k) (hk : k < r.length) (hp : 1 < k → r[0] ≠ 48) : Lib.decDigits (val (r.take k)) = r.take k := by
  refine dec_val _ hd ?_ ?_
  · intro e; have := congrArg List.length e; rw [List.length_take, List.length_nil] at this; omega
  · intro h1
    rw [List.length_take] at h1
    have h2 := hp (by omega)
    rw [List.head?_take, if_neg (by omega), List.head?_eq_getElem?, List.getElem?_eq_getElem (by omega)]
    simpa using h2
theorem dig_zero {r : List UInt8} {u : Nat} (h : r.take 0 = Lib.decDigits u) : False := by
  have := dec_pos u; rw [← h] at this; simp at this
theorem dig_pad {r : List UInt8} {u k : Nat} (h : r.take k = Lib.decDigits u) (h1 : 1 < k) (hk : k ≤ r.length) (h0 : r[0]'(by omega) = 48) : False := by
  have h2 : 1 < (Lib.decDigits u).length := by rw [← h, List.length_take]; omega
  have h3 := dec_two h2
  rw [← h, List.head?_take, if_neg (by omega), List.head?_eq_getElem?, List.getElem?_eq_getElem (by omega)] at h3
  exact h3 (by rw [h0])
end Go.Proofs.YthppefkamklakaaDoor.Wm
