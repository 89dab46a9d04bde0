/-
  Skeletons of strings, right names, what looks alike, what is held and what is free: plain mathematics.
-/
import Derived.Lib.Strings
import Derived.Lib.IndexMore
namespace Go.Proofs.Ytfhbgfoebppbaaa

abbrev Txt := List UInt8
/-- What one byte gives to the skeleton. -/
def one (c : UInt8) : Txt := if c.toNat = 45 then [] else if c.toNat = 48 then [111] else if c.toNat = 49 then [108] else if c.toNat = 105 then [108] else [c]
/-- What the beginning of a string gives to the skeleton. -/
def part (s : Txt) : Txt := if Lib.hasPrefix s [114, 110] then [109] else if Lib.hasPrefix s [118, 118] then [119] else match s with | [] => [] | c :: _ => one c
/-- How many bytes that uses up. -/
def used (s : Txt) : Nat := if Lib.hasPrefix s [114, 110] then 2 else if Lib.hasPrefix s [118, 118] then 2 else 1
def skF : Nat → Txt → Txt
  | 0, _ => []
  | n + 1, s => match s with | [] => [] | _ :: _ => part s ++ skF n (s.drop (used s))
/-- The skeleton. -/
def sk (s : Txt) : Txt := skF s.length s
theorem used_pos (s : Txt) : 0 < used s := by unfold used; split <;> (try split) <;> omega
theorem skF_enough : ∀ (n m : Nat) (s : Txt), s.length ≤ n → s.length ≤ m → skF n s = skF m s
  | 0, 0, _, _, _ => rfl
  | 0, m + 1, s, h, _ => by
    have : s = [] := List.length_eq_zero_iff.1 (by omega)
    subst this; rfl
  | n + 1, 0, s, _, h => by
    have : s = [] := List.length_eq_zero_iff.1 (by omega)
    subst this; rfl
  | n + 1, m + 1, s, h1, h2 => by
    cases s with
    | nil => rfl
    | cons c r =>
      have hu := used_pos (c :: r)
      show part (c :: r) ++ skF n _ = part (c :: r) ++ skF m _
      rw [skF_enough n m _ (by rw [List.length_drop]; omega) (by rw [List.length_drop]; omega)]
theorem sk_nil : sk [] = [] := rfl
theorem sk_step {s : Txt} (h : s ≠ []) : sk s = part s ++ sk (s.drop (used s)) := by
  cases s with
  | nil => exact absurd rfl h
  | cons c r =>
    have hu := used_pos (c :: r)
    show part (c :: r) ++ skF r.length _ = _
    rw [skF_enough r.length (((c :: r).drop (used (c :: r))).length) _ (by simp only [List.length_drop, List.length_cons]; omega) (Nat.le_refl _)]
    rfl
theorem used_le {s : Txt} (h : s ≠ []) : used s ≤ s.length := by
  have h0 : 0 < s.length := List.length_pos_iff.2 h
  unfold used
  split
  · rename_i h1
    have := List.IsPrefix.length_le (List.isPrefixOf_iff_prefix.1 h1)
    simpa using this
  · split
    · rename_i h1
      have := List.IsPrefix.length_le (List.isPrefixOf_iff_prefix.1 h1)
      simpa using this
    · exact h0
theorem part_len (s : Txt) : (part s).length ≤ 1 := by
  unfold part one
  repeat' (split <;> try simp)
theorem part_used (s : Txt) : (part s).length ≤ used s := Nat.le_trans (part_len s) (used_pos s)
theorem sk_len (s : Txt) : (sk s).length ≤ s.length := by
  have key : ∀ n (s : Txt), s.length ≤ n → (sk s).length ≤ s.length := by
    intro n
    induction n with
    | zero => intro s h; have : s = [] := List.length_eq_zero_iff.1 (by omega); subst this; simp [sk_nil]
    | succ n ih =>
      intro s h
      by_cases hs : s = []
      · subst hs; simp [sk_nil]
      · rw [sk_step hs, List.length_append]
        have h1 := part_used s
        have h2 := used_le hs
        have h3 := used_pos s
        have := ih (s.drop (used s)) (by rw [List.length_drop]; omega)
        rw [List.length_drop] at this
        omega
  exact key s.length s (Nat.le_refl _)

/-! ### What a byte in the middle does -/
theorem hp2 (a b c : UInt8) (r : Txt) : Lib.hasPrefix (c :: r) [a, b] = (decide (c = a) && (match r with | [] => false | d :: _ => decide (d = b))) := by
  unfold Lib.hasPrefix
  cases r with
  | nil => simp [List.isPrefixOf]
  | cons d r =>
    have e : ∀ x y : UInt8, (x == y) = decide (y = x) := fun x y => by
      by_cases h : y = x
      · subst h; simp
      · rw [decide_eq_false h]; exact beq_false_of_ne (fun e => h e.symm)
    simp only [List.isPrefixOf, Bool.and_true]
    rw [e, e]
theorem sk_one {c : UInt8} (r : Txt) (h1 : c ≠ 114) (h2 : c ≠ 118) : sk (c :: r) = one c ++ sk r := by
  have e1 : Lib.hasPrefix (c :: r) [114, 110] = false := by rw [hp2, decide_eq_false h1]; rfl
  have e2 : Lib.hasPrefix (c :: r) [118, 118] = false := by rw [hp2, decide_eq_false h2]; rfl
  rw [sk_step (by simp)]
  unfold part used
  rw [e1, e2]
  rfl
theorem sk_rn (r : Txt) : sk (114 :: 110 :: r) = 109 :: sk r := by
  rw [sk_step (by simp)]
  have e1 : Lib.hasPrefix (114 :: 110 :: r) [114, 110] = true := by rw [hp2]; rfl
  unfold part used
  rw [e1]
  rfl
/-- A byte that is neither n nor v ends what comes before it. -/
theorem sk_cut {c : UInt8} (t : Txt) (h1 : c ≠ 110) (h2 : c ≠ 118) : ∀ a : Txt, sk (a ++ c :: t) = sk a ++ sk (c :: t) := by
  have key : ∀ n (a : Txt), a.length ≤ n → sk (a ++ c :: t) = sk a ++ sk (c :: t) := by
    intro n
    induction n with
    | zero => intro a h; have : a = [] := List.length_eq_zero_iff.1 (by omega); subst this; rfl
    | succ n ih =>
      intro a h
      cases a with
      | nil => rfl
      | cons d a =>
        have e1 : ∀ x y : UInt8, y = 110 ∨ y = 118 → Lib.hasPrefix (d :: a ++ c :: t) [x, y] = Lib.hasPrefix (d :: a) [x, y] := by
          intro x y hy
          rw [List.cons_append, hp2, hp2]
          cases a with
          | nil =>
            have : c ≠ y := by rintro rfl; rcases hy with h | h; exact h1 h; exact h2 h
            simp [this]
          | cons e a => rfl
        have eu : used (d :: a ++ c :: t) = used (d :: a) := by unfold used; rw [e1 _ _ (.inl rfl), e1 _ _ (.inr rfl)]
        have ep : part (d :: a ++ c :: t) = part (d :: a) := by unfold part; rw [e1 _ _ (.inl rfl), e1 _ _ (.inr rfl)]; rfl
        have hu := used_le (s := d :: a) (by simp)
        have hp := used_pos (d :: a)
        rw [sk_step (s := d :: a ++ c :: t) (by simp), sk_step (s := d :: a) (by simp), eu, ep, List.drop_append_of_le_length hu, ih _ (by rw [List.length_drop]; omega), List.append_assoc]
  exact fun a => key a.length a (Nat.le_refl _)
/-- What the five replacements come to: the same skeleton. -/
theorem alike_one {c d : UInt8} (a b : Txt) (hc : c ≠ 110 ∧ c ≠ 118 ∧ c ≠ 114) (hd : d ≠ 110 ∧ d ≠ 118 ∧ d ≠ 114) (h : one c = one d) : sk (a ++ [c] ++ b) = sk (a ++ [d] ++ b) := by
  simp only [List.append_assoc, List.singleton_append]
  rw [sk_cut _ hc.1 hc.2.1, sk_cut _ hd.1 hd.2.1, sk_one _ hc.2.2 hc.2.1, sk_one _ hd.2.2 hd.2.1, h]
theorem alike_rn (a b : Txt) : sk (a ++ [114, 110] ++ b) = sk (a ++ [109] ++ b) := by
  simp only [List.append_assoc, List.cons_append, List.nil_append]
  rw [sk_cut _ (by decide) (by decide), sk_cut _ (by decide) (by decide), sk_rn, sk_one _ (by decide) (by decide)]
  rfl

/-! ### Right names -/
def lt (c : UInt8) : Bool := decide (97 ≤ c.toNat) && decide (c.toNat ≤ 122)
def pt (c : UInt8) : Bool := lt c || (decide (48 ≤ c.toNat) && decide (c.toNat ≤ 57)) || decide (c.toNat = 45)
def okN (s : Txt) : Bool := !s.isEmpty && decide (s.length ≤ 20) && lt (s.headD 0) && !Lib.hasSuffix s [45] && !Lib.contains s [45, 45] && s.all pt
theorem okN_len {s : Txt} (h : okN s = true) : s.length ≤ 20 := by
  unfold okN at h
  simp only [Bool.and_eq_true, decide_eq_true_eq] at h
  exact h.1.1.1.1.2

/-! ### Names that are taken, and holds -/
abbrev Hd := Txt × Int
def cf (a b : Txt) : Bool := decide (sk a = sk b)
theorem cf_refl (a : Txt) : cf a a = true := decide_eq_true rfl
theorem cf_comm (a b : Txt) : cf a b = cf b a := by unfold cf; rw [Bool.eq_iff_iff]; simp only [decide_eq_true_eq]; exact ⟨Eq.symm, Eq.symm⟩
theorem cf_trans {a b : Txt} (h : cf a b = true) (c : Txt) : cf a c = cf b c := by unfold cf at *; rw [of_decide_eq_true h]
def gd (l : List Txt) (s : Txt) : Option Txt := l.find? fun t => cf t s
def hld (h : List Hd) (s : Txt) (now : Int) : Bool := h.any fun x => decide (now < x.2) && cf x.1 s
def fre (l : List Txt) (h : List Hd) (s : Txt) (now : Int) : Int :=
  if okN s = false then 12 else if s ∈ l then 5 else if (gd l s).isSome then 27 else if hld h s now then 31 else 0
/-- A hold of this name becomes at least as long. -/
def upd (h : List Hd) (s : Txt) (u : Int) : List Hd :=
  match h with
  | [] => [(s, u)]
  | x :: r => if x.1 = s then (x.1, max x.2 u) :: r else x :: upd r s u
def drE (s : Txt) (u : Int) : Int := if okN s = false then 12 else if u < 0 ∨ 1073741824 < u then 1 else 0
def drp (h : List Hd) (s : Txt) (u : Int) : List Hd := if drE s u = 0 then upd h s u else []
theorem gd_iff (l : List Txt) (s : Txt) : (gd l s).isSome = l.any fun t => cf t s := by
  unfold gd
  rw [Bool.eq_iff_iff, List.find?_isSome, List.any_eq_true]
theorem gd_some {l : List Txt} {s g : Txt} (h : gd l s = some g) : cf g s = true := by
  exact (List.find?_eq_some_iff_append.1 h).1
theorem fre_ok (l : List Txt) (h : List Hd) (s : Txt) (now : Int) : fre l h s now = 0 ↔ okN s = true ∧ (∀ t ∈ l, cf t s = false) ∧ hld h s now = false := by
  unfold fre
  by_cases h1 : okN s = false
  · simp [h1]
  · rw [if_neg h1]
    have h1' : okN s = true := by simpa using h1
    by_cases h2 : s ∈ l
    · rw [if_pos h2]
      constructor
      · intro h; omega
      · rintro ⟨_, h, _⟩; have := h s h2; rw [cf_refl] at this; cases this
    · rw [if_neg h2]
      by_cases h3 : (gd l s).isSome = true
      · rw [if_pos h3]
        constructor
        · intro h; omega
        · rintro ⟨_, h, _⟩
          rw [gd_iff, List.any_eq_true] at h3
          obtain ⟨t, ht, hc⟩ := h3
          rw [h t ht] at hc; cases hc
      · rw [if_neg h3]
        have h3' : ∀ t ∈ l, cf t s = false := by
          intro t ht
          rw [gd_iff] at h3
          cases hc : cf t s with
          | false => rfl
          | true => exact absurd (List.any_eq_true.2 ⟨t, ht, hc⟩) h3
        by_cases h4 : hld h s now = true
        · rw [if_pos h4]; simp [h4]
        · rw [if_neg h4]
          exact ⟨fun _ => ⟨h1', h3', by simpa using h4⟩, fun _ => rfl⟩
theorem fre_twice (l : List Txt) (h : List Hd) (s : Txt) (now : Int) : fre l h s now = 5 ↔ okN s = true ∧ s ∈ l := by
  unfold fre
  by_cases h1 : okN s = false
  · simp [h1]
  · rw [if_neg h1]
    have h1' : okN s = true := by simpa using h1
    by_cases h2 : s ∈ l
    · simp [h2, h1']
    · rw [if_neg h2]
      simp only [h2, and_false, iff_false]
      split
      · omega
      · split <;> omega
/-- The order of the names does not matter. -/
theorem fre_turn {l m : List Txt} (hm : ∀ t, t ∈ l ↔ t ∈ m) (h : List Hd) (s : Txt) (now : Int) : fre l h s now = fre m h s now := by
  have e : (gd l s).isSome = (gd m s).isSome := by
    rw [gd_iff, gd_iff, Bool.eq_iff_iff, List.any_eq_true, List.any_eq_true]
    exact ⟨fun ⟨t, ht, hc⟩ => ⟨t, (hm t).1 ht, hc⟩, fun ⟨t, ht, hc⟩ => ⟨t, (hm t).2 ht, hc⟩⟩
  unfold fre
  rw [e]
  simp only [hm]
theorem hld_earlier {h : List Hd} {s : Txt} {now : Int} (hh : hld h s now = true) : hld h s (now - 1) = true := by
  unfold hld at *
  rw [List.any_eq_true] at *
  obtain ⟨x, hx, hc⟩ := hh
  simp only [Bool.and_eq_true, decide_eq_true_eq] at hc
  exact ⟨x, hx, by simp only [Bool.and_eq_true, decide_eq_true_eq]; exact ⟨by omega, hc.2⟩⟩
theorem upd_held {h : List Hd} {b : Txt} {now : Int} (s : Txt) (u : Int) (hh : hld h b now = true) : hld (upd h s u) b now = true := by
  induction h with
  | nil => simp [hld] at hh
  | cons x r ih =>
    unfold upd
    simp only [hld, List.any_cons, Bool.or_eq_true, Bool.and_eq_true, decide_eq_true_eq] at hh ih ⊢
    split
    · simp only [List.any_cons, Bool.or_eq_true, Bool.and_eq_true, decide_eq_true_eq]
      rcases hh with h1 | h1
      · exact .inl ⟨by omega, h1.2⟩
      · exact .inr h1
    · simp only [List.any_cons, Bool.or_eq_true, Bool.and_eq_true, decide_eq_true_eq]
      rcases hh with h1 | h1
      · exact .inl h1
      · exact .inr (ih h1)
theorem upd_holds (h : List Hd) {s b : Txt} {u now : Int} (hc : cf s b = true) (hn : now < u) : hld (upd h s u) b now = true := by
  induction h with
  | nil => simp [upd, hld, hc, hn]
  | cons x r ih =>
    unfold upd
    split
    · rename_i e
      simp only [hld, List.any_cons, Bool.or_eq_true, Bool.and_eq_true, decide_eq_true_eq]
      exact .inl ⟨by omega, by rw [e]; exact hc⟩
    · simp only [hld, List.any_cons, Bool.or_eq_true, Bool.and_eq_true, decide_eq_true_eq] at ih ⊢
      exact .inr ih
theorem upd_len (h : List Hd) (s : Txt) (u : Int) : h.length ≤ (upd h s u).length ∧ (upd h s u).length ≤ h.length + 1 := by
  induction h with
  | nil => simp [upd]
  | cons x r ih =>
    unfold upd
    split <;> simp <;> omega
/-- The place of the first hold of this very name. -/
def ixH (h : List Hd) (s : Txt) : Nat := h.findIdx fun x => decide (x.1 = s)
theorem upd_none {h : List Hd} {s : Txt} (u : Int) (hn : ∀ x ∈ h, x.1 ≠ s) : upd h s u = h ++ [(s, u)] := by
  induction h with
  | nil => rfl
  | cons x r ih => unfold upd; rw [if_neg (hn x (by simp)), ih (fun y hy => hn y (by simp [hy]))]; rfl
theorem upd_at {h : List Hd} {s : Txt} (u : Int) (k : Nat) (hk : k < h.length) (he : h[k].1 = s) (hb : ∀ (j : Nat) (hj : j < k), (h[j]'(by omega)).1 ≠ s) : upd h s u = h.set k (s, max h[k].2 u) := by
  induction h generalizing k with
  | nil => simp at hk
  | cons x r ih =>
    cases k with
    | zero =>
      simp only [List.getElem_cons_zero] at he
      unfold upd
      rw [if_pos he]
      simp [he]
    | succ k =>
      have h0 := hb 0 (by omega)
      simp only [List.getElem_cons_zero] at h0
      unfold upd
      rw [if_neg h0]
      simp only [List.set_cons_succ, List.getElem_cons_succ, List.cons.injEq, true_and]
      exact ih k (by simpa using hk) (by simpa using he) (fun j hj => by have := hb (j + 1) (by omega); simpa using this)
end Go.Proofs.Ytfhbgfoebppbaaa
