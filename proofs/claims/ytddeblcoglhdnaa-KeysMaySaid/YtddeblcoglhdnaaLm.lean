/-
  The laws' plain mathematics.
-/
import Derived.Test.YtddeblcoglhdnaaKm
namespace Go.Proofs.Ytddeblcoglhdnaa

/-- What is known of the facts that came in. -/
structure LR (l : List Ft) : Prop where
  rng : ∀ f ∈ l, ∀ x ∈ f.keys, -9223372036854775808 ≤ x ∧ x ≤ 9223372036854775807
  nlen : ∀ f ∈ l, (nm f).length ≤ 9223372036854775807

theorem sgn_mono {f : Ft} {q q' : List Int} (h : ∀ x ∈ q, x ∈ q') (hs : sgn f q = true) : sgn f q' = true := by
  unfold sgn at hs ⊢
  rw [decide_eq_true_eq] at hs ⊢
  have := cnt_le_of (ks := f.keys) (ks' := f.keys) (q := q) (q' := q') fun x h1 h2 => ⟨h1, h x h2⟩
  omega
theorem dsg_mono {d : Option Ft} {n : Nat} {f : Ft} {q q' : List Int} (h : ∀ x ∈ q, x ∈ q') (hs : dsg d n f q = true) : dsg d n f q' = true := by
  cases d with
  | none => exact hs
  | some g =>
    simp only [dsg, Bool.and_eq_true] at hs ⊢
    exact ⟨hs.1, sgn_mono h hs.2⟩
theorem anyR_mono {reg q q' : List Int} (h : ∀ x ∈ q, x ∈ q') (hs : anyR reg q = true) : anyR reg q' = true := by
  unfold anyR at hs ⊢
  rw [List.any_eq_true] at hs ⊢
  obtain ⟨x, h1, h2⟩ := hs
  exact ⟨x, h x h1, h2⟩
theorem myE_mono {o d : Option Ft} {n : Nat} {reg : List Int} {f : Ft} {q q' : List Int} (h : ∀ x ∈ q, x ∈ q') (h0 : myE o d n reg f q = 0) : myE o d n reg f q' = 0 := by
  unfold myE at h0 ⊢
  split at h0
  · cases h0
  · rename_i h1
    rw [if_neg h1]
    split at h0
    · rename_i h2
      rw [if_pos h2]
      split at h0
      · rename_i h3; rw [if_pos (anyR_mono h h3)]
      · cases h0
    · rename_i h2
      rw [if_neg h2]
      split at h0
      · cases h0
      · rename_i h3
        rw [if_neg h3]
        split at h0
        · rename_i h4
          rw [if_pos (h4.imp (sgn_mono h) (dsg_mono h))]
        · cases h0
theorem may_mono {l : List Ft} {reg : List Int} {f : Ft} {q q' : List Int} (h : ∀ x ∈ q, x ∈ q') (h0 : may l reg f q = 0) : may l reg f q' = 0 := myE_mono h h0
theorem bool_ext {a b : Bool} (h1 : a = true → b = true) (h2 : b = true → a = true) : a = b := Bool.eq_iff_iff.2 ⟨h1, h2⟩
theorem may_congr {l : List Ft} {reg : List Int} {f : Ft} {q q' : List Int} (h : ∀ x, x ∈ q ↔ x ∈ q') : may l reg f q = may l reg f q' := by
  have h1 : anyR reg q = anyR reg q' := bool_ext (anyR_mono fun x => (h x).1) (anyR_mono fun x => (h x).2)
  have h2 : ∀ g, sgn g q = sgn g q' := fun g => bool_ext (sgn_mono fun x => (h x).1) (sgn_mono fun x => (h x).2)
  have h3 : ∀ d n, dsg d n f q = dsg d n f q' := fun d n => bool_ext (dsg_mono fun x => (h x).1) (dsg_mono fun x => (h x).2)
  unfold may myE
  simp only [h1, h2, h3]
theorem may_rev (l : List Ft) (reg : List Int) (f : Ft) (q : List Int) : may l reg f (q.reverse ++ q) = may l reg f q := may_congr fun x => by simp
/-- What the answers for no signers, for some and for more can be. -/
theorem may_law (l : List Ft) (reg : List Int) (f : Ft) (q m : List Int) :
    (may l reg f q = 1 ∧ may l reg f (q ++ m) = 1 ∧ may l reg f [] = 1)
    ∨ (may l reg f q = 24 ∧ may l reg f (q ++ m) = 24 ∧ may l reg f [] = 24 ∧ own l (nm f) = none ∧ f.kind ≠ 5)
    ∨ (may l reg f q = 22 ∧ (may l reg f (q ++ m) = 0 ∨ may l reg f (q ++ m) = 22) ∧ may l reg f [] = 22 ∧ (f.kind = 3 ∨ f.kind = 7))
    ∨ (may l reg f q = 23 ∧ (may l reg f (q ++ m) = 0 ∨ may l reg f (q ++ m) = 23) ∧ may l reg f [] = 23)
    ∨ (may l reg f q = 0 ∧ may l reg f (q ++ m) = 0 ∧ (may l reg f [] = 0 ∨ may l reg f [] = 22 ∨ may l reg f [] = 23)) := by
  have m1 : may l reg f q = 0 → may l reg f (q ++ m) = 0 := may_mono (by simp +contextual)
  have m2 : may l reg f [] = 0 → may l reg f q = 0 := may_mono (by simp)
  have hx : ∀ q, may l reg f q = myE (own l (nm f)) (dlg l (nm f)) l.length reg f q := fun _ => rfl
  generalize may l reg f = E at *
  unfold myE at hx
  by_cases h1 : rgt f = false
  · simp only [if_pos h1] at hx
    exact .inl ⟨hx _, hx _, hx _⟩
  simp only [if_neg h1] at hx
  by_cases h2 : f.kind = 3 ∨ f.kind = 7
  · simp only [if_pos h2] at hx
    have hv : ∀ q, E q = 0 ∨ E q = 22 := fun q => by rw [hx]; split <;> simp
    rcases hv q with h | h
    · exact .inr (.inr (.inr (.inr ⟨h, m1 h, (hv []).imp id .inl⟩)))
    · refine .inr (.inr (.inl ⟨h, hv _, ?_, h2⟩))
      rcases hv [] with h0 | h0
      · rw [m2 h0] at h; cases h
      · exact h0
  simp only [if_neg h2] at hx
  by_cases h3 : (own l (nm f)).isNone = true ∧ f.kind ≠ 5
  · simp only [if_pos h3] at hx
    exact .inr (.inl ⟨hx _, hx _, hx _, by simpa using h3.1, h3.2⟩)
  simp only [if_neg h3] at hx
  have hv : ∀ q, E q = 0 ∨ E q = 23 := fun q => by rw [hx]; split <;> simp
  rcases hv q with h | h
  · exact .inr (.inr (.inr (.inr ⟨h, m1 h, (hv []).imp id .inr⟩)))
  · refine .inr (.inr (.inr (.inl ⟨h, hv _, ?_⟩)))
    rcases hv [] with h0 | h0
    · rw [m2 h0] at h; cases h
    · exact h0

/-! ### What holds till the next fact of a name -/
theorem std_same {l : List Ft} {k : Nat} (h : k < l.length) (n : Txt) (hk : nm l[k] ≠ n ∨ l[k].kind = 3 ∨ l[k].kind = 7) : std (l.take (k + 1)) n = std (l.take k) n := by
  rw [std_succ h]
  unfold stp
  by_cases h1 : nm l[k] = n
  · rw [if_pos h1]
    unfold aft
    rcases hk with h2 | h2 | h2
    · exact absurd h1 h2
    · rw [h2]; rfl
    · rw [h2]; rfl
  · rw [if_neg h1]
/-- A fact that is added is signed by more than those who are too few. -/
theorem few_sign {l : List Ft} {reg : List Int} {x g : Ft} {q bad : List Int} (h0 : may l reg x q = 0) (h37 : ¬ (x.kind = 3 ∨ x.kind = 7)) (ho : own l (nm x) = some g) (hc : (cnt g.keys bad : Int) < g.need)
    (hd : ∀ d, dlg l (nm x) = some d → d.need < 1 ∨ (cnt d.keys bad : Int) < d.need) (hq : ∀ y ∈ q, y ∈ bad) : False := by
  unfold may myE at h0
  split at h0
  · cases h0
  rw [if_neg (by rw [ho]; simp), ho] at h0
  have hle : ∀ f : Ft, cnt f.keys q ≤ cnt f.keys bad := fun f => cnt_le_of fun y h1 h2 => ⟨h1, hq y h2⟩
  split at h0
  · rename_i h1
    rcases h1 with h1 | h1
    · simp only [Option.getD_some, sgn, decide_eq_true_eq] at h1
      have := hle g
      omega
    · cases hx : dlg l (nm x) with
      | none => rw [hx] at h1; cases h1
      | some d =>
        rw [hx] at h1
        simp only [dsg, sgn, Bool.and_eq_true, decide_eq_true_eq] at h1
        have := hle d
        have := hd d hx
        omega
  · cases h0

/-! ### A delegation to another key -/
theorem cnt_pair {a b : Int} (h : a ≠ b) : cnt [a, b] [b, a] = 2 := by
  have h' : b ≠ a := fun e => h e.symm
  simp [cnt, dst, dstF, h, h']
theorem cnt_pair3 {a b c : Int} (h : a ≠ b) (h1 : c ≠ a) (h2 : c ≠ b) : cnt [a, b] [a, c, b] = 2 := by
  have h' : b ≠ a := fun e => h e.symm
  simp [cnt, dst, dstF, h', h1, h2]
theorem cnt_twice (a b : Int) : cnt [a, b] [a, a] = 1 := by simp [cnt, dst, dstF]
theorem cnt_other {a b c : Int} (h1 : c ≠ a) (h2 : c ≠ b) : cnt [a, b] [c] = 0 := by simp [cnt, dst, dstF, h1, h2]
theorem cnt_one (a : Int) : cnt [a] [a] = 1 := by simp [cnt, dst, dstF]
theorem isS_one {a : Int} (h1 : 0 ≤ a) (h2 : a < 200) : isS [a] = true := by
  simp [isS, asc, h2]
  omega
/-- The answer where a name has an owner, of a fact that is right and no advice. -/
theorem may_own {l : List Ft} {reg : List Int} {f g : Ft} {q : List Int} (hr : rgt f = true) (h37 : ¬ (f.kind = 3 ∨ f.kind = 7)) (ho : own l (nm f) = some g) :
    may l reg f q = if sgn g q = true ∨ dsg (dlg l (nm f)) l.length f q = true then 0 else 23 := by
  unfold may myE
  rw [hr, ho]
  simp [h37]
theorem own_add (l : List Ft) {f : Ft} {n : Txt} (h : isO f n = true) : own (l ++ [f]) n = some f := by rw [own_snoc, if_pos h]
theorem own_pass (l : List Ft) {f : Ft} {n : Txt} (h : isO f n = false) : own (l ++ [f]) n = own l n := by rw [own_snoc, if_neg (by rw [h]; decide)]
theorem isO_k {f : Ft} {n : Txt} (h : f.kind = 5 ∨ f.kind = 4) (hn : f.name = n) : isO f n = true := by
  unfold isO; rw [hn]; rcases h with h | h <;> simp [h]
theorem isO_not {f : Ft} {n : Txt} (h5 : f.kind ≠ 5) (h4 : f.kind ≠ 4) : isO f n = false := by unfold isO; simp [h5, h4]
theorem dlg_add (l : List Ft) {f : Ft} {n : Txt} (h : f.kind = 6) (hn : f.name = n) : dlg (l ++ [f]) n = some f := by
  rw [dlg_snoc, if_neg (by omega), if_pos ⟨h, hn⟩]
theorem dlg_drop (l : List Ft) {f : Ft} {n : Txt} (h : f.kind = 5) (hn : f.name = n) : dlg (l ++ [f]) n = none := by
  rw [dlg_snoc, if_pos ⟨h, hn⟩]
theorem dlg_pass (l : List Ft) {f : Ft} {n : Txt} (h5 : f.kind ≠ 5) (h6 : f.kind ≠ 6) : dlg (l ++ [f]) n = dlg l n := by
  rw [dlg_snoc, if_neg (by omega), if_neg (by omega)]
end Go.Proofs.Ytddeblcoglhdnaa
