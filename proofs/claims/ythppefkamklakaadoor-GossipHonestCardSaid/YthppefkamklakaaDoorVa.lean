/-
  Plain mathematics of layer 8 (view): what follows from the accepted claims, as the program keeps it (VD, lrn, dny), and what that says of the claims themselves.
-/
import Derived.Test.YthppefkamklakaaDoorBa
namespace Go.Proofs.YthppefkamklakaaDoor

/-- The claim with a text; a zero claim, if it is none. -/
noncomputable def clm (t : Txt) : C := (readC t).getD zeroC
structure VD where
  mm : Int → Bool
  en : Int → Option Txt
  fi : Txt → Option Int
  ab : Txt → Option Int
  hd : List C
def vd0 : VD := ⟨fun _ => false, fun _ => none, fun _ => none, fun _ => none, []⟩
/-- The place of a moment in a list of heads. -/
def plc (t : Int) : List C → Nat
  | [] => 0
  | h :: l => if h.t < t then plc t l + 1 else 0
def ins (l : List C) (i : Nat) (c : C) : List C := l.take i ++ c :: l.drop i
noncomputable def fiN (d : VD) (c : C) : Bool :=
  match d.fi (keyT c.s) with
  | none => true
  | some n => decide (c.n < n)
noncomputable def lrn (d : VD) (c : C) : VD :=
  if c.k = 0 then { d with en := fun i => if i = c.n then some c.s else d.en i, fi := if fiN d c then (fun t => if t = keyT c.s then some c.n else d.fi t) else d.fi }
  else if c.k = 1 then { d with hd := ins d.hd (plc c.t d.hd) c }
  else if c.k = 2 then { d with ab := fun t => if t = c.s then some (max ((d.ab c.s).getD 0) c.n) else d.ab t }
  else d
noncomputable def vst (d : VD) (s : Sg) : VD := { lrn d (clm s.2.1) with mm := fun m => if m = s.2.2 then true else d.mm m }
noncomputable def vd (l : List Sg) : VD := l.foldl vst vd0
theorem vd_nil : vd [] = vd0 := rfl
theorem vd_snoc (l : List Sg) (s : Sg) : vd (l ++ [s]) = vst (vd l) s := by unfold vd; rw [List.foldl_append]; rfl
def near (l : List C) (i : Nat) : List C := (l.take (i + 1)).drop (i - 1)
noncomputable def enB (d : VD) (c : C) : Bool :=
  match d.en c.n with
  | some t => t != c.s
  | none => false
noncomputable def dny (d : VD) (c : C) : Bool :=
  if c.k = 0 then enB d c || decide (c.n < (d.ab (keyT c.s)).getD 0)
  else if c.k = 1 then (near d.hd (plc c.t d.hd)).any fun h => contra h c
  else if c.k = 2 then (match d.fi c.s with | some n => decide (n < c.n) | none => false)
  else false

/-! ### Places -/
theorem plc_le (t : Int) (l : List C) : plc t l ≤ l.length := by
  induction l with
  | nil => exact Nat.le_refl _
  | cons h l ih =>
    unfold plc
    split
    · simp only [List.length_cons]; omega
    · exact Nat.zero_le _
theorem plc_lt {t : Int} {l : List C} {j : Nat} (h : j < l.length) (hj : j < plc t l) : l[j].t < t := by
  induction l generalizing j with
  | nil => simp at h
  | cons x l ih =>
    unfold plc at hj
    split at hj
    · rename_i hx
      cases j with
      | zero => exact hx
      | succ j => exact ih (by simpa using h) (by omega)
    · omega
theorem plc_at {t : Int} {l : List C} (h : plc t l < l.length) : t ≤ l[plc t l].t := by
  induction l with
  | nil => simp at h
  | cons x l ih =>
    by_cases hx : x.t < t
    · have e : plc t (x :: l) = plc t l + 1 := by rw [plc, if_pos hx]
      simp only [e, List.getElem_cons_succ] at h ⊢
      exact ih (by simpa using h)
    · have e : plc t (x :: l) = 0 := by rw [plc, if_neg hx]
      simp only [e, List.getElem_cons_zero]
      omega
/-- The place is where the moments begin that are not lesser. -/
theorem plc_eq {t : Int} {l : List C} {i : Nat} (hi : i ≤ l.length) (h1 : ∀ (j : Nat) (h : j < l.length), j < i → l[j].t < t) (h2 : ∀ (h : i < l.length), t ≤ l[i].t) : plc t l = i := by
  induction l generalizing i with
  | nil => simp at hi; rw [hi]; rfl
  | cons x l ih =>
    cases i with
    | zero =>
      have := h2 (by simp)
      simp only [List.getElem_cons_zero] at this
      rw [plc, if_neg (by omega)]
    | succ i =>
      have hx := h1 0 (by simp) (by omega)
      simp only [List.getElem_cons_zero] at hx
      rw [plc, if_pos hx, ih (i := i) (by simpa using hi) (fun j h hj => h1 (j + 1) (by simpa using h) (by omega)) (fun h => h2 (by simpa using h))]
theorem mem_ins {l : List C} {i : Nat} {c x : C} : x ∈ ins l i c ↔ x ∈ l ∨ x = c := by
  unfold ins
  rw [List.mem_append, List.mem_cons]
  constructor
  · rintro (h | h | h)
    · exact .inl (List.mem_of_mem_take h)
    · exact .inr h
    · exact .inl (List.mem_of_mem_drop h)
  · rintro (h | h)
    · rw [← List.take_append_drop i l, List.mem_append] at h
      exact h.imp id .inr
    · exact .inr (.inl h)
theorem ins_len {l : List C} {i : Nat} {c : C} : (ins l i c).length = l.length + 1 := by
  unfold ins
  simp only [List.length_append, List.length_cons, List.length_take, List.length_drop]; omega
/-- Heads in order. -/
def Srt (l : List C) : Prop := l.Pairwise fun a b => a.t < b.t ∧ a.n ≤ b.n
theorem Srt.get {l : List C} (h : Srt l) {i j : Nat} (hi : i < j) (hj : j < l.length) : l[i].t < l[j].t ∧ l[i].n ≤ l[j].n := (List.pairwise_iff_getElem.1 h) i j (by omega) hj hi
theorem near_mem {l : List C} {i m : Nat} (h1 : i - 1 ≤ m) (h2 : m < i + 1) (hm : m < l.length) : l[m] ∈ near l i := by
  unfold near
  refine List.mem_iff_getElem.2 ⟨m - (i - 1), ?_, ?_⟩
  · simp only [List.length_drop, List.length_take]; omega
  · rw [List.getElem_drop, List.getElem_take]
    congr 1; omega
theorem near_sub {l : List C} {i : Nat} {x : C} (h : x ∈ near l i) : x ∈ l := List.mem_of_mem_take (List.mem_of_mem_drop h)

/-! ### Consistent claims of a log -/
structure COk (l : List C) : Prop where
  ok : ∀ c ∈ l, okB c = true
  kd : ∀ c ∈ l, 0 ≤ c.k ∧ c.k ≤ 2
  nd : l.Nodup
  con : ∀ a ∈ l, ∀ b ∈ l, contra a b = false
theorem COk.nil : COk [] := ⟨by simp, by simp, List.nodup_nil, by simp⟩
theorem COk.left {l m : List C} (h : COk (l ++ m)) : COk l :=
  ⟨fun c hc => h.ok c (List.mem_append_left _ hc), fun c hc => h.kd c (List.mem_append_left _ hc), (List.nodup_append.1 h.nd).1, fun a ha b hb => h.con a (List.mem_append_left _ ha) b (List.mem_append_left _ hb)⟩
noncomputable def ld (l : List C) : VD := l.foldl lrn vd0
theorem ld_snoc (l : List C) (c : C) : ld (l ++ [c]) = lrn (ld l) c := by unfold ld; rw [List.foldl_append]; rfl
theorem lrn_0 {d : VD} {c : C} (h : c.k = 0) : lrn d c = { d with en := fun i => if i = c.n then some c.s else d.en i, fi := if fiN d c then (fun t => if t = keyT c.s then some c.n else d.fi t) else d.fi } := by unfold lrn; rw [if_pos h]
theorem lrn_1 {d : VD} {c : C} (h : c.k = 1) : lrn d c = { d with hd := ins d.hd (plc c.t d.hd) c } := by unfold lrn; rw [if_neg (by omega), if_pos h]
theorem lrn_2 {d : VD} {c : C} (h : c.k = 2) : lrn d c = { d with ab := fun t => if t = c.s then some (max ((d.ab c.s).getD 0) c.n) else d.ab t } := by unfold lrn; rw [if_neg (by omega), if_neg (by omega), if_pos h]
/-- What is known of a valid claim of a log. -/
theorem ok_0 {c : C} (h : okB c = true) (hk : c.k = 0) : c = ⟨0, c.n, 0, c.s⟩ ∧ key c.s = some (keyT c.s) := by
  obtain ⟨h1, h2, h3, h4, h5, h6⟩ := (okB_iff c).1 h
  rw [hk] at h4
  rw [show limT 0 = 0 by decide] at h4
  refine ⟨C.ext' hk rfl (by show c.t = 0; omega) rfl, ?_⟩
  rcases h6 with h6 | h6
  · exact absurd hk h6
  · obtain ⟨k, e⟩ := Option.isSome_iff_exists.1 h6
    unfold keyT; rw [e]; rfl
theorem ok_1 {c : C} (h : okB c = true) (hk : c.k = 1) : c.s = [] := by
  obtain ⟨h1, h2, h3, h4, h5, h6⟩ := (okB_iff c).1 h
  rw [hk, show limS 1 = 0 by decide] at h5
  exact List.length_eq_zero_iff.1 (by omega)
theorem ok_2 {c : C} (h : okB c = true) (hk : c.k = 2) : c = ⟨2, c.n, 0, c.s⟩ := by
  obtain ⟨h1, h2, h3, h4, h5, h6⟩ := (okB_iff c).1 h
  rw [hk, show limT 2 = 0 by decide] at h4
  exact C.ext' hk rfl (by show c.t = 0; omega) rfl
theorem contra_00 {a c : C} (ha : okB a = true) (hc : okB c = true) (h1 : a.k = 0) (h2 : c.k = 0) : contra a c = decide (a.n = c.n ∧ a.s ≠ c.s) := by
  unfold contra alike; rw [ha, hc, h1, h2]; simp
theorem contra_11 {a c : C} (ha : okB a = true) (hc : okB c = true) (h1 : a.k = 1) (h2 : c.k = 1) : contra a c = szs a c := by
  unfold contra alike; rw [ha, hc, h1, h2]; simp
theorem contra_20 {a c : C} (ha : okB a = true) (hc : okB c = true) (h1 : a.k = 2) (h2 : c.k = 0) : contra a c = decide (c.n < a.n ∧ keyT c.s = a.s) := by
  have hk := (ok_0 hc h2).2
  unfold contra den; rw [ha, hc, h1, h2, hk]; simp
theorem contra_02 {a c : C} (ha : okB a = true) (hc : okB c = true) (h1 : a.k = 0) (h2 : c.k = 2) : contra a c = decide (a.n < c.n ∧ keyT a.s = c.s) := by
  rw [contra_comm]; exact contra_20 hc ha h2 h1
theorem snoc_ind {α : Type} {p : List α → Prop} (h0 : p []) (h1 : ∀ l x, p l → p (l ++ [x])) (l : List α) : p l := by
  rw [← l.reverse_reverse]
  induction l.reverse with
  | nil => exact h0
  | cons x r ih => rw [List.reverse_cons]; exact h1 _ _ ih
theorem ld_en (l : List C) : COk l → ∀ (i : Int) (t : Txt), (ld l).en i = some t ↔ (⟨0, i, 0, t⟩ : C) ∈ l := by
  refine snoc_ind (p := fun l => COk l → ∀ (i : Int) (t : Txt), (ld l).en i = some t ↔ (⟨0, i, 0, t⟩ : C) ∈ l) (fun _ i t => by simp [ld, vd0]) (fun l c ih h i t => ?_) l
  have hl := h.left
  have hc := h.ok c (by simp)
  rw [ld_snoc, List.mem_append, List.mem_singleton, ← ih hl i t]
  by_cases h0 : c.k = 0
  · rw [lrn_0 h0]
    show (if i = c.n then some c.s else (ld l).en i) = some t ↔ _
    by_cases hi : i = c.n
    · rw [if_pos hi, Option.some.injEq]
      constructor
      · intro e; subst e; subst hi; exact .inr (ok_0 hc h0).1.symm
      · rintro (e | e)
        · have hm := (ih hl i t).1 e
          have hx := h.con _ (List.mem_append_left _ hm) c (by simp)
          rw [contra_00 (h.ok _ (List.mem_append_left _ hm)) hc rfl h0, decide_eq_false_iff_not] at hx
          exact (Classical.not_not.1 fun hn => hx ⟨hi, hn⟩).symm
        · rw [← e]
    · rw [if_neg hi]
      constructor
      · exact .inl
      · rintro (e | e)
        · exact e
        · exact absurd (by rw [← e]) hi
  · have he : (lrn (ld l) c).en = (ld l).en := by unfold lrn; rw [if_neg h0]; split; rfl; split <;> rfl
    rw [he]
    constructor
    · exact .inl
    · rintro (e | e)
      · exact e
      · exact absurd (by rw [← e]) h0
/-- What the least known numbers say. -/
def FiP (l : List C) (key : Txt) : Option Int → Prop
  | none => ∀ c ∈ l, c.k = 0 → keyT c.s ≠ key
  | some n => (∃ c ∈ l, c.k = 0 ∧ keyT c.s = key ∧ c.n = n) ∧ ∀ c ∈ l, c.k = 0 → keyT c.s = key → n ≤ c.n
theorem FiP.more {l : List C} {key : Txt} {o : Option Int} (h : FiP l key o) {c : C} (hc : c.k = 0 → keyT c.s ≠ key) : FiP (l ++ [c]) key o := by
  cases o with
  | none =>
    intro a ha h0
    rcases List.mem_append.1 ha with ha | ha
    · exact h a ha h0
    · rw [List.mem_singleton.1 ha] at h0 ⊢; exact hc h0
  | some n =>
    obtain ⟨⟨a, h1, h2⟩, h3⟩ := h
    refine ⟨⟨a, List.mem_append_left _ h1, h2⟩, fun b hb h0 hk => ?_⟩
    rcases List.mem_append.1 hb with hb | hb
    · exact h3 b hb h0 hk
    · rw [List.mem_singleton.1 hb] at h0 hk; exact absurd hk (hc h0)
theorem ld_fi (l : List C) : ∀ key, FiP l key ((ld l).fi key) := by
  refine snoc_ind (p := fun l => ∀ key, FiP l key ((ld l).fi key)) (fun key => by intro c hc; simp at hc) (fun l c ih key => ?_) l
  rw [ld_snoc]
  by_cases h0 : c.k = 0
  · rw [lrn_0 h0]
    show FiP (l ++ [c]) key ((if fiN (ld l) c then (fun t => if t = keyT c.s then some c.n else (ld l).fi t) else (ld l).fi) key)
    have h1 := ih (keyT c.s)
    unfold fiN
    by_cases hk : key = keyT c.s
    · subst hk
      cases ho : (ld l).fi (keyT c.s) with
      | none =>
        rw [ho] at h1
        simp only [if_true]
        refine ⟨⟨c, by simp, h0, rfl, rfl⟩, fun b hb hb0 hbk => ?_⟩
        rcases List.mem_append.1 hb with hb | hb
        · exact absurd hbk (h1 b hb hb0)
        · rw [List.mem_singleton.1 hb]; exact Int.le_refl _
      | some n =>
        rw [ho] at h1
        obtain ⟨⟨a, a1, a2⟩, a3⟩ := h1
        by_cases hn : c.n < n
        · simp only [hn, decide_true, if_true]
          refine ⟨⟨c, by simp, h0, rfl, rfl⟩, fun b hb hb0 hbk => ?_⟩
          rcases List.mem_append.1 hb with hb | hb
          · have := a3 b hb hb0 hbk; omega
          · rw [List.mem_singleton.1 hb]; exact Int.le_refl _
        · simp only [hn, decide_false, Bool.false_eq_true, if_false, ho]
          refine ⟨⟨a, List.mem_append_left _ a1, a2⟩, fun b hb hb0 hbk => ?_⟩
          rcases List.mem_append.1 hb with hb | hb
          · exact a3 b hb hb0 hbk
          · rw [List.mem_singleton.1 hb]; omega
    · have h2 : ∀ b : Bool, (if b = true then (fun t => if t = keyT c.s then some c.n else (ld l).fi t) else (ld l).fi) key = (ld l).fi key := fun b => by
        cases b
        · rfl
        · simp only [if_true, if_neg hk]
      rw [h2]
      exact (ih key).more fun _ e => hk e.symm
  · have he : (lrn (ld l) c).fi = (ld l).fi := by unfold lrn; rw [if_neg h0]; split; rfl; split <;> rfl
    rw [he]
    exact (ih key).more fun e => absurd e h0
/-- What is known of absent keys. -/
def AbP (l : List C) (key : Txt) : Option Int → Prop
  | none => ∀ c ∈ l, c.k = 2 → c.s ≠ key
  | some n => (∃ c ∈ l, c.k = 2 ∧ c.s = key ∧ c.n = n) ∧ ∀ c ∈ l, c.k = 2 → c.s = key → c.n ≤ n
theorem AbP.more {l : List C} {key : Txt} {o : Option Int} (h : AbP l key o) {c : C} (hc : c.k = 2 → c.s ≠ key) : AbP (l ++ [c]) key o := by
  cases o with
  | none =>
    intro a ha h0
    rcases List.mem_append.1 ha with ha | ha
    · exact h a ha h0
    · rw [List.mem_singleton.1 ha] at h0 ⊢; exact hc h0
  | some n =>
    obtain ⟨⟨a, h1, h2⟩, h3⟩ := h
    refine ⟨⟨a, List.mem_append_left _ h1, h2⟩, fun b hb h0 hk => ?_⟩
    rcases List.mem_append.1 hb with hb | hb
    · exact h3 b hb h0 hk
    · rw [List.mem_singleton.1 hb] at h0 hk; exact absurd hk (hc h0)
theorem ld_ab (l : List C) : (∀ c ∈ l, 0 ≤ c.n) → ∀ key, AbP l key ((ld l).ab key) := by
  refine snoc_ind (p := fun l => (∀ c ∈ l, 0 ≤ c.n) → ∀ key, AbP l key ((ld l).ab key)) (fun _ key => by intro c hc; simp at hc) (fun l c ih hp key => ?_) l
  have hl : ∀ c ∈ l, 0 ≤ c.n := fun c hc => hp c (List.mem_append_left _ hc)
  have hc0 : 0 ≤ c.n := hp c (by simp)
  rw [ld_snoc]
  by_cases h0 : c.k = 2
  · rw [lrn_2 h0]
    show AbP (l ++ [c]) key (if key = c.s then some (max (((ld l).ab c.s).getD 0) c.n) else (ld l).ab key)
    have h1 := ih hl c.s
    by_cases hk : key = c.s
    · subst hk
      rw [if_pos rfl]
      cases ho : (ld l).ab c.s with
      | none =>
        rw [ho] at h1
        simp only [Option.getD_none]
        refine ⟨⟨c, by simp, h0, rfl, by omega⟩, fun b hb hb0 hbk => ?_⟩
        rcases List.mem_append.1 hb with hb | hb
        · exact absurd hbk (h1 b hb hb0)
        · rw [List.mem_singleton.1 hb]; omega
      | some n =>
        rw [ho] at h1
        simp only [Option.getD_some]
        obtain ⟨⟨a, a1, a2, a3, a4⟩, a5⟩ := h1
        refine ⟨?_, fun b hb hb0 hbk => ?_⟩
        · rcases Int.le_total n c.n with h | h
          · exact ⟨c, by simp, h0, rfl, by omega⟩
          · exact ⟨a, List.mem_append_left _ a1, a2, a3, by omega⟩
        · rcases List.mem_append.1 hb with hb | hb
          · have := a5 b hb hb0 hbk; omega
          · rw [List.mem_singleton.1 hb]; omega
    · rw [if_neg hk]
      exact (ih hl key).more fun _ e => hk e.symm
  · have he : (lrn (ld l) c).ab = (ld l).ab := by unfold lrn; repeat' split
                                                  all_goals first | rfl | exact absurd ‹_› h0
    rw [he]
    exact (ih hl key).more fun e => absurd e h0
theorem ld_hd (l : List C) : COk l → (∀ c, c ∈ (ld l).hd ↔ c ∈ l ∧ c.k = 1) ∧ Srt (ld l).hd := by
  refine snoc_ind (p := fun l => COk l → (∀ c, c ∈ (ld l).hd ↔ c ∈ l ∧ c.k = 1) ∧ Srt (ld l).hd) (fun _ => ⟨fun c => by simp [ld, vd0], List.Pairwise.nil⟩) (fun l c ih h => ?_) l
  have hl := h.left
  obtain ⟨ih1, ih2⟩ := ih hl
  have hc := h.ok c (by simp)
  rw [ld_snoc]
  by_cases h0 : c.k = 1
  · rw [lrn_1 h0]
    refine ⟨fun x => ?_, ?_⟩
    · show x ∈ ins (ld l).hd _ c ↔ _
      rw [mem_ins, ih1, List.mem_append, List.mem_singleton]
      constructor
      · rintro (⟨h1, h2⟩ | h1)
        · exact ⟨.inl h1, h2⟩
        · exact ⟨.inr h1, by rw [h1]; exact h0⟩
      · rintro ⟨h1 | h1, h2⟩
        · exact .inl ⟨h1, h2⟩
        · exact .inr h1
    · show Srt (ins (ld l).hd (plc c.t (ld l).hd) c)
      -- how another head stands to c
      have hx : ∀ x ∈ (ld l).hd, (x.t < c.t → x.n ≤ c.n) ∧ (c.t < x.t → c.n ≤ x.n) ∧ x.t ≠ c.t := by
        intro x hx
        obtain ⟨hm, hk⟩ := (ih1 x).1 hx
        have h1 := h.con x (List.mem_append_left _ hm) c (by simp)
        rw [contra_11 (hl.ok x hm) hc hk h0] at h1
        unfold szs at h1
        simp only [Bool.or_eq_false_iff, decide_eq_false_iff_not] at h1
        obtain ⟨⟨h2, h3⟩, h4⟩ := h1
        refine ⟨fun hlt => by omega, fun hlt => by omega, fun e => ?_⟩
        have hn : x.n = c.n := Classical.not_not.1 fun hn => h2 ⟨e, hn⟩
        have he : x = c := C.ext' (by rw [hk, h0]) hn e (by rw [ok_1 (hl.ok x hm) hk, ok_1 hc h0])
        exact (List.nodup_append.1 h.nd).2.2 x hm c (by simp) he
      have hle := plc_le c.t (ld l).hd
      unfold ins Srt
      rw [List.pairwise_append]
      refine ⟨ih2.sublist (List.take_sublist _ _), List.pairwise_cons.2 ⟨fun x hx' => ?_, ih2.sublist (List.drop_sublist _ _)⟩, fun a ha b hb => ?_⟩
      · obtain ⟨j, hj, rfl⟩ := List.getElem_of_mem hx'
        rw [List.length_drop] at hj
        have hm : (ld l).hd[plc c.t (ld l).hd + j] ∈ (ld l).hd := List.getElem_mem _
        rw [List.getElem_drop]
        have hat : c.t ≤ (ld l).hd[plc c.t (ld l).hd + j].t := by
          have h1 := plc_at (t := c.t) (l := (ld l).hd) (by omega)
          cases j with
          | zero => simpa using h1
          | succ j => have := (ih2.get (i := plc c.t (ld l).hd) (j := plc c.t (ld l).hd + (j + 1)) (by omega) (by omega)).1; omega
        have h2 := hx _ hm
        have hlt : c.t < (ld l).hd[plc c.t (ld l).hd + j].t := by have := h2.2.2; omega
        exact ⟨hlt, h2.2.1 hlt⟩
      · have ha' := List.mem_of_mem_take ha
        obtain ⟨j, hj, rfl⟩ := List.getElem_of_mem ha
        rw [List.length_take] at hj
        rw [List.getElem_take] at ha' ⊢
        have hlt := plc_lt (t := c.t) (l := (ld l).hd) (j := j) (by omega) (by omega)
        have hn := (hx _ ha').1 hlt
        rcases List.mem_cons.1 hb with rfl | hb
        · exact ⟨hlt, hn⟩
        · obtain ⟨m, hm, rfl⟩ := List.getElem_of_mem hb
          rw [List.length_drop] at hm
          rw [List.getElem_drop]
          exact ih2.get (by omega) (by omega)
  · have he : (lrn (ld l) c).hd = (ld l).hd := by unfold lrn; repeat' split
                                                  all_goals first | rfl | exact absurd ‹_› h0
    rw [he]
    refine ⟨fun x => (ih1 x).trans ?_, ih2⟩
    rw [List.mem_append, List.mem_singleton]
    constructor
    · rintro ⟨h1, h2⟩; exact ⟨.inl h1, h2⟩
    · rintro ⟨h1 | h1, h2⟩
      · exact ⟨h1, h2⟩
      · rw [h1] at h2; exact absurd h2 h0
/-- The heads next to a place suffice. -/
theorem near_any {l : List C} (hs : Srt l) (ho : ∀ h ∈ l, okB h = true ∧ h.k = 1) {c : C} (hc : okB c = true) (hk : c.k = 1) : ((near l (plc c.t l)).any fun h => contra h c) = l.any fun h => contra h c := by
  rw [Bool.eq_iff_iff, List.any_eq_true, List.any_eq_true]
  constructor
  · rintro ⟨x, h1, h2⟩; exact ⟨x, near_sub h1, h2⟩
  · rintro ⟨x, h1, h2⟩
    have hcx : ∀ y ∈ l, contra y c = szs y c := fun y hy => contra_11 (ho y hy).1 hc (ho y hy).2 hk
    rw [hcx x h1] at h2
    obtain ⟨j, hj, rfl⟩ := List.getElem_of_mem h1
    unfold szs at h2
    simp only [Bool.or_eq_true, decide_eq_true_eq] at h2
    have hle := plc_le c.t l
    have fin : ∀ (m : Nat) (hm : m < l.length), plc c.t l - 1 ≤ m → m < plc c.t l + 1 → szs l[m] c = true → ∃ y, y ∈ near l (plc c.t l) ∧ contra y c = true := fun m hm m1 m2 hy => ⟨l[m], near_mem m1 m2 hm, by rw [hcx _ (List.getElem_mem hm)]; exact hy⟩
    by_cases hlt : j < plc c.t l
    · have ht := plc_lt hj hlt
      have hn : c.n < l[j].n := by omega
      have hm : plc c.t l - 1 < l.length := by omega
      have ht' := plc_lt (t := c.t) hm (by omega)
      have hn' : l[j].n ≤ l[plc c.t l - 1].n := by
        rcases Nat.lt_or_ge j (plc c.t l - 1) with h | h
        · exact (hs.get h hm).2
        · obtain rfl : j = plc c.t l - 1 := by omega
          exact Int.le_refl _
      refine fin _ hm (Nat.le_refl _) (by omega) ?_
      unfold szs
      simp only [Bool.or_eq_true, decide_eq_true_eq]
      exact .inl (.inr ⟨ht', by omega⟩)
    · have hm : plc c.t l < l.length := by omega
      have hat := plc_at (t := c.t) (l := l) hm
      have hj' : l[plc c.t l].t ≤ l[j].t ∧ l[plc c.t l].n ≤ l[j].n ∧ (l[plc c.t l].t = l[j].t → l[plc c.t l].n = l[j].n) := by
        rcases Nat.lt_or_ge (plc c.t l) j with h | h
        · have := hs.get h hj; exact ⟨by omega, this.2, fun e => by omega⟩
        · obtain rfl : j = plc c.t l := by omega
          exact ⟨Int.le_refl _, Int.le_refl _, fun _ => rfl⟩
      refine fin _ hm (by omega) (by omega) ?_
      unfold szs
      simp only [Bool.or_eq_true, decide_eq_true_eq]
      omega
/-- What the maps and heads deny is what some claim contradicts. -/
theorem dny_any {l : List C} (h : COk l) {c : C} (hc : okB c = true) : dny (ld l) c = l.any fun a => contra a c := by
  have hpos : ∀ c ∈ l, 0 ≤ c.n := fun c hc => (ok_bounds (h.ok c hc)).2.2.1
  have hb := ok_bounds hc
  rw [Bool.eq_iff_iff, List.any_eq_true]
  unfold dny
  by_cases h0 : c.k = 0
  · rw [if_pos h0, Bool.or_eq_true, decide_eq_true_eq]
    constructor
    · rintro (he | ha)
      · unfold enB at he
        cases ho : (ld l).en c.n with
        | none => rw [ho] at he; cases he
        | some t =>
          rw [ho] at he
          have hm := (ld_en l h c.n t).1 ho
          refine ⟨_, hm, ?_⟩
          rw [contra_00 (h.ok _ hm) hc rfl h0, decide_eq_true_eq]
          exact ⟨rfl, by simpa using he⟩
      · have hA := ld_ab l hpos (keyT c.s)
        cases ho : (ld l).ab (keyT c.s) with
        | none => rw [ho] at ha; simp only [Option.getD_none] at ha; omega
        | some n =>
          rw [ho] at ha hA
          obtain ⟨⟨a, a1, a2, a3, a4⟩, _⟩ := hA
          simp only [Option.getD_some] at ha
          refine ⟨a, a1, ?_⟩
          rw [contra_20 (h.ok a a1) hc a2 h0, decide_eq_true_eq]
          exact ⟨by omega, a3.symm⟩
    · rintro ⟨a, a1, a2⟩
      rcases contra_kinds a2 with ⟨e, _⟩ | ⟨_, e⟩ | ⟨e, _⟩
      · rw [contra_00 (h.ok a a1) hc (e.trans h0) h0, decide_eq_true_eq] at a2
        left
        have hm : (⟨0, c.n, 0, a.s⟩ : C) ∈ l := by
          have := (ok_0 (h.ok a a1) (e.trans h0)).1
          rw [← a2.1, ← this]; exact a1
        unfold enB
        rw [(ld_en l h c.n a.s).2 hm]
        simpa using a2.2
      · omega
      · rw [contra_20 (h.ok a a1) hc e h0, decide_eq_true_eq] at a2
        right
        have hA := ld_ab l hpos (keyT c.s)
        cases ho : (ld l).ab (keyT c.s) with
        | none => rw [ho] at hA; exact absurd a2.2.symm (hA a a1 e)
        | some n =>
          rw [ho] at hA
          have := hA.2 a a1 e a2.2.symm
          simp only [Option.getD_some]; omega
  · rw [if_neg h0]
    by_cases h1 : c.k = 1
    · rw [if_pos h1]
      obtain ⟨hm, hs⟩ := ld_hd l h
      rw [near_any hs (fun x hx => ⟨h.ok x ((hm x).1 hx).1, ((hm x).1 hx).2⟩) hc h1, List.any_eq_true]
      constructor
      · rintro ⟨x, x1, x2⟩; exact ⟨x, ((hm x).1 x1).1, x2⟩
      · rintro ⟨x, x1, x2⟩
        refine ⟨x, (hm x).2 ⟨x1, ?_⟩, x2⟩
        rcases contra_kinds x2 with ⟨e, _⟩ | ⟨_, e⟩ | ⟨_, e⟩ <;> omega
    · rw [if_neg h1]
      by_cases h2 : c.k = 2
      · rw [if_pos h2]
        have hF := ld_fi l c.s
        constructor
        · intro hn
          cases ho : (ld l).fi c.s with
          | none => rw [ho] at hn; cases hn
          | some n =>
            rw [ho] at hn hF
            obtain ⟨⟨a, a1, a2, a3, a4⟩, _⟩ := hF
            refine ⟨a, a1, ?_⟩
            rw [contra_02 (h.ok a a1) hc a2 h2, decide_eq_true_eq]
            have hn := of_decide_eq_true hn
            exact ⟨by omega, a3⟩
        · rintro ⟨a, a1, a2⟩
          have hak : a.k = 0 := by
            rcases contra_kinds a2 with ⟨e, n⟩ | ⟨e, _⟩ | ⟨_, e⟩
            · omega
            · exact e
            · omega
          rw [contra_02 (h.ok a a1) hc hak h2, decide_eq_true_eq] at a2
          cases ho : (ld l).fi c.s with
          | none => rw [ho] at hF; exact absurd a2.2 (hF a a1 hak)
          | some n =>
            rw [ho] at hF
            have := hF.2 a a1 hak a2.2
            exact decide_eq_true (by omega)
      · rw [if_neg h2]
        constructor
        · intro hh; cases hh
        · rintro ⟨a, a1, a2⟩
          have := h.kd a a1
          rcases contra_kinds a2 with ⟨e, n⟩ | ⟨_, e⟩ | ⟨_, e⟩ <;> omega
end Go.Proofs.YthppefkamklakaaDoor
