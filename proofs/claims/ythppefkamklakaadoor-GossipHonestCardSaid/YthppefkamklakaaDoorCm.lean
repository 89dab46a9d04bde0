/-
  Plain mathematics of layer 6 (claim): claims, which are valid (okB), their texts (textC), reading them (readC), and which contradict each other (contra). No program stands here.
-/
import Derived.Test.YthppefkamklakaaDoorWm
namespace Go.Proofs.YthppefkamklakaaDoor
open Go

abbrev Txt := List UInt8

/-- The key of a text. -/
noncomputable def key (s : Txt) : Option Txt := (Wm.parse Wm.textE s).map (·.1)
theorem key_some {s k : Txt} (h : key s = some k) : ∃ q, Wm.textE.dom k ∧ s = Wm.textE.f k ++ q := by
  unfold key at h
  cases hp : Wm.parse Wm.textE s with
  | none => rw [hp] at h; cases h
  | some p =>
    rw [hp] at h
    obtain ⟨h1, h2⟩ := Wm.parse_some (v := p.1) (r := p.2) hp
    obtain rfl : p.1 = k := by simpa using h
    exact ⟨p.2, h1, h2⟩
theorem key_eq {k : Txt} (q : Txt) (hk : Wm.textE.dom k) : key (Wm.textE.f k ++ q) = some k := by
  unfold key; rw [Wm.parse_eq Wm.textE_pf q hk]; rfl
theorem key_none {s : Txt} (h : ∀ k q, Wm.textE.dom k → s ≠ Wm.textE.f k ++ q) : key s = none := by
  unfold key; rw [Wm.parse_none h]; rfl
theorem key_len {s k : Txt} (h : key s = some k) : k.length ≤ s.length := by
  obtain ⟨q, _, rfl⟩ := key_some h
  rw [Wm.textE_f]; simp only [List.length_append, List.length_cons]; omega

/-- A claim. -/
structure C where
  k : Int
  n : Int
  t : Int
  s : Txt
theorem C.ext' {a b : C} (h1 : a.k = b.k) (h2 : a.n = b.n) (h3 : a.t = b.t) (h4 : a.s = b.s) : a = b := by cases a; cases b; simp_all
theorem C.eq_iff (a b : C) : a = b ↔ a.k = b.k ∧ a.n = b.n ∧ a.t = b.t ∧ a.s = b.s :=
  ⟨fun h => by subst h; exact ⟨rfl, rfl, rfl, rfl⟩, fun ⟨h1, h2, h3, h4⟩ => C.ext' h1 h2 h3 h4⟩
instance : DecidableEq C := fun a b => decidable_of_iff _ (C.eq_iff a b).symm
/-- What its ints and its text can be, as a value of the program. -/
def C.fits (c : C) : Prop := Wm.inInt c.k ∧ Wm.inInt c.n ∧ Wm.inInt c.t ∧ c.s.length ≤ 9223372036854775807
def zeroC : C := ⟨0, 0, 0, []⟩

/-- The limits of a kind. -/
def limN (k : Int) : Int := if k = 0 then 199999 else if k = 1 then 200000 else if k = 2 then 200000 else if k = 3 then 1073741824 else if k = 4 then 1073741824 else -1
def limT (k : Int) : Int := if k = 1 then 1073741824 else if k = 4 then 1073741824 else if k = 0 then 0 else if k = 2 then 0 else if k = 3 then 0 else -1
def limS (k : Int) : Int := if k = 1 then 0 else if k = 0 then 20000 else if k = 2 then 20000 else if k = 3 then 20000 else if k = 4 then 20000 else -1
/-- A claim is valid. -/
noncomputable def okB (c : C) : Bool := decide (0 ≤ c.n) && decide (c.n ≤ limN c.k) && decide (0 ≤ c.t) && decide (c.t ≤ limT c.k) && decide ((c.s.length : Int) ≤ limS c.k) && (decide (c.k ≠ 0) || (key c.s).isSome)
theorem okB_iff (c : C) : okB c = true ↔ 0 ≤ c.n ∧ c.n ≤ limN c.k ∧ 0 ≤ c.t ∧ c.t ≤ limT c.k ∧ (c.s.length : Int) ≤ limS c.k ∧ (c.k ≠ 0 ∨ (key c.s).isSome = true) := by
  unfold okB
  simp only [Bool.and_eq_true, Bool.or_eq_true, decide_eq_true_eq, and_assoc]
theorem lim_kind {k : Int} (h : 0 ≤ limN k) : 0 ≤ k ∧ k ≤ 4 := by
  unfold limN at h
  repeat' split at h
  all_goals omega
theorem limN_le (k : Int) : limN k ≤ 1073741824 := by unfold limN; repeat' split <;> omega
theorem limT_le (k : Int) : limT k ≤ 1073741824 := by unfold limT; repeat' split <;> omega
theorem limS_le (k : Int) : limS k ≤ 20000 := by unfold limS; repeat' split <;> omega
theorem lim_ge (k : Int) : -1 ≤ limN k ∧ -1 ≤ limT k ∧ -1 ≤ limS k := by unfold limN limT limS; refine ⟨?_, ?_, ?_⟩ <;> repeat' split <;> omega
/-- What a valid claim is known to be. -/
theorem ok_bounds {c : C} (h : okB c = true) : 0 ≤ c.k ∧ c.k ≤ 4 ∧ 0 ≤ c.n ∧ c.n ≤ 1073741824 ∧ 0 ≤ c.t ∧ c.t ≤ 1073741824 ∧ c.s.length ≤ 20000 := by
  obtain ⟨h1, h2, h3, h4, h5, _⟩ := (okB_iff c).1 h
  have a := lim_kind (Int.le_trans h1 h2)
  have := limN_le c.k; have := limT_le c.k; have := limS_le c.k
  refine ⟨a.1, a.2, h1, by omega, h3, by omega, by omega⟩
theorem ok_kind {c : C} (h : c.k < 0 ∨ 4 < c.k) : okB c = false := by
  cases hb : okB c with
  | false => rfl
  | true => have := ok_bounds hb; omega

/-- The text of a claim. -/
def textC (c : C) : Txt := (Wm.numE 59).f c.k ++ (Wm.numE 59).f c.n ++ (Wm.numE 59).f c.t ++ Wm.textE.f c.s
def C.dom (c : C) : Prop := Wm.inNum c.k ∧ Wm.inNum c.n ∧ Wm.inNum c.t ∧ Wm.textE.dom c.s
theorem ok_dom {c : C} (h : okB c = true) : c.dom := by
  obtain ⟨h1, h2, h3, h4, h5, h6, h7⟩ := ok_bounds h
  exact ⟨⟨h1, by omega⟩, ⟨h3, by omega⟩, ⟨h5, by omega⟩, show c.s.length ≤ 9223372036854775807 by omega⟩
theorem textC_pf {a b : C} {r s : Txt} (ha : a.dom) (hb : b.dom) (h : textC a ++ r = textC b ++ s) : a = b ∧ r = s := by
  unfold textC at h
  simp only [List.append_assoc] at h
  have hp := Wm.numE_pf (e := 59) (by decide)
  obtain ⟨e1, h⟩ := hp _ _ _ _ ha.1 hb.1 h
  obtain ⟨e2, h⟩ := hp _ _ _ _ ha.2.1 hb.2.1 h
  obtain ⟨e3, h⟩ := hp _ _ _ _ ha.2.2.1 hb.2.2.1 h
  obtain ⟨e4, h⟩ := Wm.textE_pf _ _ _ _ ha.2.2.2 hb.2.2.2 h
  exact ⟨C.ext' e1 e2 e3 e4, h⟩
theorem textC_ne (c : C) : textC c ≠ [] := by unfold textC; rw [Wm.textE_f]; simp
theorem textC_len {c : C} (h : okB c = true) : (textC c).length ≤ 20100 := by
  obtain ⟨h1, h2, h3, h4, h5, h6, h7⟩ := ok_bounds h
  have a := Lib.itoa_length_le c.k (by omega) (by omega)
  have b := Lib.itoa_length_le c.n (by omega) (by omega)
  have d := Lib.itoa_length_le c.t (by omega) (by omega)
  have e := Lib.itoa_length_le (c.s.length : Int) (by omega) (by omega)
  unfold textC
  rw [Wm.numE_f, Wm.numE_f, Wm.numE_f, Wm.textE_f]
  simp only [List.length_append, List.length_cons, List.length_nil]
  omega
/-- What Text returns. -/
noncomputable def textR (c : C) : Txt := if okB c then textC c else []

/-! ### Reading -/
/-- One read of a reader at which r is left: the value, what is left, has it failed. -/
noncomputable def rdV {α : Type} (E : Wm.Enc α) (z : α) (r : Txt) : α := ((Wm.parse E r).map (·.1)).getD z
noncomputable def rdR {α : Type} (E : Wm.Enc α) (r : Txt) : Txt := ((Wm.parse E r).map (·.2)).getD []
noncomputable def rdF {α : Type} (E : Wm.Enc α) (r : Txt) (f : Bool) : Bool := (Wm.parse E r).elim true (fun _ => f)
theorem rd_len {α : Type} (E : Wm.Enc α) (r : Txt) : (rdR E r).length ≤ r.length := by
  unfold rdR
  cases h : Wm.parse E r with
  | none => simp
  | some p =>
    obtain ⟨_, h2⟩ := Wm.parse_some (v := p.1) (r := p.2) h
    simp only [Option.map_some, Option.getD_some]
    rw [h2, List.length_append]; omega
theorem rd_good {α : Type} {E : Wm.Enc α} (z : α) (hE : E.Pf) {v : α} {r : Txt} (hv : E.dom v) (f : Bool) : rdV E z (E.f v ++ r) = v ∧ rdR E (E.f v ++ r) = r ∧ rdF E (E.f v ++ r) f = f := by
  unfold rdV rdR rdF
  rw [Wm.parse_eq hE r hv]
  exact ⟨rfl, rfl, rfl⟩
theorem rd_bad {α : Type} {E : Wm.Enc α} (z : α) {r : Txt} (h : ∀ v q, E.dom v → r ≠ E.f v ++ q) (f : Bool) : rdV E z r = z ∧ rdR E r = [] ∧ rdF E r f = true := by
  unfold rdV rdR rdF
  rw [Wm.parse_none h]
  exact ⟨rfl, rfl, rfl⟩
theorem rd_ok {α : Type} {E : Wm.Enc α} {z : α} {r : Txt} {f : Bool} (h : rdF E r f = false) : f = false ∧ E.dom (rdV E z r) ∧ r = E.f (rdV E z r) ++ rdR E r := by
  unfold rdV rdR rdF at *
  cases hp : Wm.parse E r with
  | none => rw [hp] at h; cases h
  | some p =>
    rw [hp] at h
    obtain ⟨h1, h2⟩ := Wm.parse_some (v := p.1) (r := p.2) hp
    exact ⟨h, h1, h2⟩
theorem rd_in (r : Txt) : Wm.inNum (rdV (Wm.numE 59) 0 r) := by
  unfold rdV
  cases hp : Wm.parse (Wm.numE 59) r with
  | none => exact ⟨by decide, by decide⟩
  | some p => exact (Wm.parse_some (v := p.1) (r := p.2) hp).1
theorem rd_txt (r : Txt) : (rdV Wm.textE [] r).length ≤ r.length := by
  unfold rdV
  cases hp : Wm.parse Wm.textE r with
  | none => simp
  | some p =>
    obtain ⟨_, h2⟩ := Wm.parse_some (v := p.1) (r := p.2) hp
    simp only [Option.map_some, Option.getD_some]
    rw [h2, Wm.textE_f]; simp only [List.length_append, List.length_cons]; omega

/-- What stands in s, read as a claim, valid or not; and whether all was read. -/
noncomputable def rd1 (s : Txt) : Txt := rdR (Wm.numE 59) s
noncomputable def rd2 (s : Txt) : Txt := rdR (Wm.numE 59) (rd1 s)
noncomputable def rd3 (s : Txt) : Txt := rdR (Wm.numE 59) (rd2 s)
noncomputable def rd4 (s : Txt) : Txt := rdR Wm.textE (rd3 s)
noncomputable def rdC (s : Txt) : C := ⟨rdV (Wm.numE 59) 0 s, rdV (Wm.numE 59) 0 (rd1 s), rdV (Wm.numE 59) 0 (rd2 s), rdV Wm.textE [] (rd3 s)⟩
noncomputable def rdB (s : Txt) : Bool := rdF Wm.textE (rd3 s) (rdF (Wm.numE 59) (rd2 s) (rdF (Wm.numE 59) (rd1 s) (rdF (Wm.numE 59) s false)))
noncomputable def rdD (s : Txt) : Bool := !rdB s && decide (rd4 s = [])
noncomputable def readC (s : Txt) : Option C := if rdD s && okB (rdC s) then some (rdC s) else none
theorem rdD_text {s : Txt} (h : rdD s = true) : s = textC (rdC s) ∧ (rdC s).dom := by
  unfold rdD at h
  rw [Bool.and_eq_true, Bool.not_eq_true', decide_eq_true_eq] at h
  obtain ⟨h, h0⟩ := h
  unfold rdB at h
  obtain ⟨h, d4, e4⟩ := rd_ok (z := []) h
  obtain ⟨h, d3, e3⟩ := rd_ok (z := 0) h
  obtain ⟨h, d2, e2⟩ := rd_ok (z := 0) h
  obtain ⟨_, d1, e1⟩ := rd_ok (z := 0) h
  refine ⟨?_, d1, d2, d3, d4⟩
  have h4 : rdR Wm.textE (rd3 s) = [] := h0
  rw [h4, List.append_nil] at e4
  show s = (Wm.numE 59).f (rdV (Wm.numE 59) 0 s) ++ (Wm.numE 59).f (rdV (Wm.numE 59) 0 (rd1 s)) ++ (Wm.numE 59).f (rdV (Wm.numE 59) 0 (rd2 s)) ++ Wm.textE.f (rdV Wm.textE [] (rd3 s))
  rw [← e4, List.append_assoc, List.append_assoc]
  conv => lhs; rw [e1]
  congr 1
  conv => lhs; rw [show rdR (Wm.numE 59) s = rd1 s from rfl, e2]
  congr 1
theorem text_rdD {c : C} (h : c.dom) : rdD (textC c) = true ∧ rdC (textC c) = c := by
  have hp := Wm.numE_pf (e := 59) (by decide)
  obtain ⟨k, n, t, s⟩ := c
  obtain ⟨d1, d2, d3, d4⟩ := h
  simp only at d1 d2 d3 d4
  have e : textC ⟨k, n, t, s⟩ = (Wm.numE 59).f k ++ ((Wm.numE 59).f n ++ ((Wm.numE 59).f t ++ (Wm.textE.f s ++ []))) := by unfold textC; simp
  have g1 := rd_good 0 hp (r := (Wm.numE 59).f n ++ ((Wm.numE 59).f t ++ (Wm.textE.f s ++ []))) d1 false
  have g2 := rd_good 0 hp (r := (Wm.numE 59).f t ++ (Wm.textE.f s ++ [])) d2 false
  have g3 := rd_good 0 hp (r := Wm.textE.f s ++ []) d3 false
  have g4 := rd_good [] Wm.textE_pf (r := []) d4 false
  have r1 : rd1 (textC ⟨k, n, t, s⟩) = (Wm.numE 59).f n ++ ((Wm.numE 59).f t ++ (Wm.textE.f s ++ [])) := by unfold rd1; rw [e]; exact g1.2.1
  have r2 : rd2 (textC ⟨k, n, t, s⟩) = (Wm.numE 59).f t ++ (Wm.textE.f s ++ []) := by unfold rd2; rw [r1]; exact g2.2.1
  have r3 : rd3 (textC ⟨k, n, t, s⟩) = Wm.textE.f s ++ [] := by unfold rd3; rw [r2]; exact g3.2.1
  have r4 : rd4 (textC ⟨k, n, t, s⟩) = [] := by unfold rd4; rw [r3]; exact g4.2.1
  refine ⟨?_, ?_⟩
  · unfold rdD rdB
    rw [r4, r3, r2, r1, e, g1.2.2, g2.2.2, g3.2.2, g4.2.2]; rfl
  · unfold rdC
    rw [r3, r2, r1, e, g1.1, g2.1, g3.1, g4.1]
theorem readC_some {s : Txt} {c : C} : readC s = some c ↔ okB c = true ∧ s = textC c := by
  unfold readC
  constructor
  · intro h
    split at h
    · rename_i hb
      rw [Bool.and_eq_true] at hb
      obtain rfl := Option.some.inj h
      exact ⟨hb.2, (rdD_text hb.1).1⟩
    · cases h
  · rintro ⟨h, rfl⟩
    obtain ⟨h1, h2⟩ := text_rdD (ok_dom h)
    rw [h1, h2, h]; rfl
theorem readC_text {c : C} (h : okB c = true) : readC (textC c) = some c := readC_some.2 ⟨h, rfl⟩
theorem readC_more {c : C} (h : okB c = true) {q : Txt} (hq : q ≠ []) : readC (textC c ++ q) = none := by
  cases hr : readC (textC c ++ q) with
  | none => rfl
  | some d =>
    obtain ⟨hd, he⟩ := readC_some.1 hr
    have := textC_pf (r := q) (s := []) (ok_dom h) (ok_dom hd) (by simpa using he)
    exact absurd this.2 hq
theorem readC_less {c : C} (h : okB c = true) {p q : Txt} (he : textC c = p ++ q) (hq : q ≠ []) : readC p = none := by
  cases hr : readC p with
  | none => rfl
  | some d =>
    obtain ⟨hd, rfl⟩ := readC_some.1 hr
    have := textC_pf (r := []) (s := q) (ok_dom h) (ok_dom hd) (by simpa using he)
    exact absurd this.2.symm hq

/-! ### Contradictions -/
/-- a says that a key is absent from entries of which b is one that has it. -/
noncomputable def den (a b : C) : Bool := decide (a.k = 2) && decide (b.k = 0) && decide (b.n < a.n) && decide (key b.s = some a.s)
/-- Two sizes cannot both have been. -/
def szs (a b : C) : Bool := decide (a.t = b.t ∧ a.n ≠ b.n) || decide (a.t < b.t ∧ b.n < a.n) || decide (b.t < a.t ∧ a.n < b.n)
/-- Two claims of one kind. -/
def alike (a b : C) : Bool :=
  if a.k = 0 then decide (a.n = b.n ∧ a.s ≠ b.s) else if a.k = 1 then szs a b else if a.k = 3 then decide (a.s = b.s ∧ a.n ≠ b.n) else if a.k = 4 then decide (a.n = b.n ∧ a.t = b.t ∧ a.s ≠ b.s) else false
noncomputable def contra (a b : C) : Bool := okB a && okB b && (if a.k = b.k then alike a b else den a b || den b a)
theorem szs_comm (a b : C) : szs a b = szs b a := by
  unfold szs
  rw [Bool.eq_iff_iff]
  simp only [Bool.or_eq_true, decide_eq_true_eq]
  constructor <;> intro h <;> omega
theorem alike_comm {a b : C} (h : a.k = b.k) : alike a b = alike b a := by
  unfold alike
  rw [h, szs_comm a b]
  congr 1
  · rw [Bool.eq_iff_iff]; simp only [decide_eq_true_eq]; exact ⟨fun ⟨x, y⟩ => ⟨x.symm, fun e => y e.symm⟩, fun ⟨x, y⟩ => ⟨x.symm, fun e => y e.symm⟩⟩
  · congr 1
    congr 1
    · rw [Bool.eq_iff_iff]; simp only [decide_eq_true_eq]; exact ⟨fun ⟨x, y⟩ => ⟨x.symm, fun e => y e.symm⟩, fun ⟨x, y⟩ => ⟨x.symm, fun e => y e.symm⟩⟩
    · congr 1
      rw [Bool.eq_iff_iff]; simp only [decide_eq_true_eq]; exact ⟨fun ⟨x, y, z⟩ => ⟨x.symm, y.symm, fun e => z e.symm⟩, fun ⟨x, y, z⟩ => ⟨x.symm, y.symm, fun e => z e.symm⟩⟩
theorem contra_comm (a b : C) : contra a b = contra b a := by
  unfold contra
  rw [Bool.and_comm (okB a) (okB b)]
  congr 1
  by_cases h : a.k = b.k
  · rw [if_pos h, if_pos h.symm, alike_comm h]
  · rw [if_neg h, if_neg (fun e => h e.symm), Bool.or_comm]
theorem contra_self (a : C) : contra a a = false := by
  unfold contra alike szs
  simp
theorem contra_ok {a b : C} (h : contra a b = true) : okB a = true ∧ okB b = true := by
  unfold contra at h
  rw [Bool.and_eq_true, Bool.and_eq_true] at h
  exact h.1
theorem contra_ne {a b : C} (h : contra a b = true) : a ≠ b := by
  rintro rfl; rw [contra_self] at h; cases h
theorem contra_kinds {a b : C} (h : contra a b = true) : (a.k = b.k ∧ a.k ≠ 2) ∨ (a.k = 0 ∧ b.k = 2) ∨ (a.k = 2 ∧ b.k = 0) := by
  unfold contra at h
  rw [Bool.and_eq_true] at h
  obtain ⟨_, h⟩ := h
  by_cases e : a.k = b.k
  · rw [if_pos e] at h
    refine .inl ⟨e, fun e2 => ?_⟩
    unfold alike at h
    rw [e2] at h
    simp at h
  · rw [if_neg e] at h
    unfold den at h
    simp only [Bool.or_eq_true, Bool.and_eq_true, decide_eq_true_eq] at h
    rcases h with h | h
    · exact .inr (.inr ⟨h.1.1.1, h.1.1.2⟩)
    · exact .inr (.inl ⟨h.1.1.2, h.1.1.1⟩)
end Go.Proofs.YthppefkamklakaaDoor
