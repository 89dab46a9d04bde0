/-
  ViewBook: the walk.
-/
import Derived.Test.YthppefkamklakaaDoorVt
import Derived.Test.YthppefkamklakaaDoorBe
namespace Go.Proofs.YthppefkamklakaaDoor
open Go.RowKit Go.MapKept Go.Maps Go.WideMaps

/-- An operation: its kind, its number and its string. -/
abbrev Op3 := Int × Int × Txt
/-- What is signed by an operation, if anything; the error; the number; the book then. -/
noncomputable def opO (s : BS) (o : Op3) : Option Sd :=
  if o.1 = 0 then none else if o.1 = 1 then enO s o.2.1 else if o.1 = 2 then hdO s o.2.1 else if o.1 = 3 then abO s o.2.2 o.2.1 else if o.2.1 = s.k then none else some (o.2.1, o.2.2)
noncomputable def opE (s : BS) (o : Op3) : Int :=
  if o.1 = 0 then apE o.2.2 else if o.1 = 1 then enE s o.2.1 else if o.1 = 2 then hdE s o.2.1 else if o.1 = 3 then abE s o.2.2 o.2.1 else 0
noncomputable def opN (s : BS) (o : Op3) : Int := if o.1 = 0 then apN s o.2.2 else 0
noncomputable def opB (s : BS) (o : Op3) : BS := if o.1 = 0 then apS s o.2.2 else if o.1 = 2 then hdS s o.2.1 else s
theorem signL_len (q : List Sd) (e : Sd) : (signL q e).length ≤ q.length + 1 := by
  unfold signL
  split
  · exact (addL_len q e).2
  · omega

theorem enO_none {s : BS} {i : Int} (h : txtO s i = none) : enO s i = none ∧ enE s i = 4 := by unfold enO enE; rw [h]; exact ⟨rfl, rfl⟩
theorem enO_some {s : BS} {i : Int} {t : Txt} (h : txtO s i = some t) : enO s i = some (s.k, textR ⟨0, i, 0, t⟩) ∧ enE s i = 0 := by unfold enO enE; rw [h]; exact ⟨rfl, rfl⟩
theorem ks_get {es : List Txt} {i : Nat} (h : i < es.length) : (ks es)[i]? = some (keyT es[i]) := by simp [ks, h]
theorem pm_first {es : List Txt} {k : Txt} {n : Nat} (h : pm 0 (ks es) k = some n) : ∃ hn : n < es.length, keyT es[n] = k := by
  have h1 := pm_get h
  have h2 := pm_lt h
  rw [ks_len] at h2
  rw [ks_get h2] at h1
  exact ⟨h2, Option.some.inj h1⟩
theorem pm_before {l : List Txt} {k : Txt} {n : Nat} (h : pm 0 l k = some n) : k ∉ l.take n := by
  intro hm
  have h2 := pm_lt h
  obtain ⟨m, hm2⟩ := pm_mem (i := 0) hm
  have h3 := pm_lt hm2
  have h4 : pm 0 (l.take n ++ l.drop n) k = some m := by rw [pm_pre hm]; exact hm2
  rw [List.take_append_drop, h] at h4
  cases h4
  rw [List.length_take] at h3
  omega
theorem signL_old {q : List Sd} {e : Sd} (h : e ∈ q) : signL q e = q := by
  unfold signL
  split
  · exact addL_old h
  · rfl
theorem signL_mem {q : List Sd} {e : Sd} (h : IsKey e.1) : e ∈ signL q e := by
  unfold signL; rw [if_pos h]
  exact mem_addL.2 (.inr rfl)
theorem signL_cut (q : List Sd) (e : Sd) : ∃ m, signL q e = q ++ m := by
  unfold signL
  split
  · exact addL_cut q e
  · exact ⟨[], by simp⟩
theorem signR_again {q : List Sd} {e : Sd} (m : List Sd) : signR (signL q e ++ m) e = signR q e := by
  unfold signR
  by_cases h : IsKey e.1
  · rw [if_pos h, if_pos h]
    have h1 : pm 0 (signL q e) e = some (addN q e) := by
      unfold signL; rw [if_pos h]; exact addN_spec q e
    have h2 : pm 0 (signL q e ++ m) e = some (addN q e) := by rw [pm_pre (signL_mem h)]; exact h1
    rw [addN_old h2]
  · rw [if_neg h, if_neg h]
theorem holds_sign {q : List Sd} {e : Sd} (h : IsKey e.1) (m : List Sd) : holds (signL q e ++ m) (signR q e) = true := by
  unfold holds signR
  rw [if_pos h]
  refine decide_eq_true ⟨Int.natCast_nonneg _, ?_⟩
  have h1 : (signL q e)[addN q e]? = some e := by unfold signL; rw [if_pos h]; exact addN_get q e
  simp only [Int.toNat_natCast]
  rw [List.getElem?_append_left (List.getElem?_eq_some_iff.1 h1).1, h1]

noncomputable def stepS (p : BS × List Sd) (o : Op3) : BS × List Sd := (opB p.1 o, qO p.2 (opO p.1 o))
noncomputable def runS (p : BS × List Sd) (l : List Op3) : BS × List Sd := l.foldl stepS p
theorem runS_take (p : BS × List Sd) (l : List Op3) (k : Nat) (h : k < l.length) : runS p (l.take (k + 1)) = stepS (runS p (l.take k)) l[k] := by
  unfold runS
  rw [List.take_succ_eq_append_getElem h, List.foldl_append]; rfl
theorem opB_key (s : BS) (o : Op3) : (opB s o).k = s.k := by
  unfold opB
  split
  · unfold apS; split <;> rfl
  · split
    · unfold hdS; split <;> rfl
    · rfl
theorem opB_es (s : BS) (o : Op3) : (opB s o).es = s.es ∨ (apB o.2.2 = true ∧ (opB s o).es = s.es ++ [o.2.2]) := by
  unfold opB
  split
  · unfold apS
    split
    · next h => exact .inr ⟨h, rfl⟩
    · exact .inl rfl
  · split
    · unfold hdS; split <;> exact .inl rfl
    · exact .inl rfl
theorem qO_len (q : List Sd) (x : Option Sd) : (qO q x).length ≤ q.length + 1 := by
  unfold qO
  split
  · omega
  · exact signL_len _ _
/-- What holds of the state after k operations. -/
structure StOk (key : Int) (k : Nat) (p : BS × List Sd) : Prop where
  key : p.1.k = key
  len : p.1.es.length ≤ k
  txt : ∀ t ∈ p.1.es, t.length ≤ 20000
  ring : p.2.length ≤ k
theorem StOk.step {key : Int} {k : Nat} {p : BS × List Sd} (h : StOk key k p) (o : Op3) : StOk key (k + 1) (stepS p o) := by
  refine ⟨(opB_key _ _).trans h.key, ?_, ?_, Nat.le_trans (qO_len _ _) (Nat.succ_le_succ h.ring)⟩
  · show (opB p.1 o).es.length ≤ k + 1
    rcases opB_es p.1 o with e | ⟨_, e⟩ <;> rw [e]
    · have := h.len; omega
    · rw [List.length_append]; have := h.len; simp; omega
  · show ∀ t ∈ (opB p.1 o).es, t.length ≤ 20000
    rcases opB_es p.1 o with e | ⟨ha, e⟩ <;> rw [e]
    · exact h.txt
    · intro t ht
      rcases List.mem_append.1 ht with ht | ht
      · exact h.txt t ht
      · rw [List.mem_singleton.1 ht]
        unfold apB at ha
        rw [Bool.and_eq_true] at ha
        exact of_decide_eq_true ha.2
theorem StOk.run {key : Int} {n : Nat} {p : BS × List Sd} (h : StOk key n p) (l : List Op3) : StOk key (n + l.length) (runS p l) := by
  induction l generalizing n p with
  | nil => exact h
  | cons o l ih =>
    have := ih (h.step o)
    rw [List.length_cons]
    rw [show n + (l.length + 1) = n + 1 + l.length by omega]
    exact this
theorem StOk.start (key : Int) : StOk key 0 (⟨key, [], 0, -1⟩, []) := ⟨rfl, Nat.le_refl _, by simp, Nat.le_refl _⟩
theorem StOk.ok {key : Int} {k : Nat} {p : BS × List Sd} (h : StOk key k p) (hk : k ≤ 1000) : p.1.ok := ⟨Nat.le_trans h.len hk, h.txt⟩
noncomputable def st (key : Int) (l : List Op3) (k : Nat) : BS × List Sd := runS (⟨key, [], 0, -1⟩, []) (l.take k)
theorem st_zero (key : Int) (l : List Op3) : st key l 0 = (⟨key, [], 0, -1⟩, []) := rfl
theorem st_succ (key : Int) (l : List Op3) (k : Nat) (h : k < l.length) : st key l (k + 1) = stepS (st key l k) l[k] := runS_take _ l k h
theorem st_ok (key : Int) (l : List Op3) (k : Nat) : StOk key k (st key l k) := by
  have h := (StOk.start key).run (l.take k)
  rw [Nat.zero_add] at h
  have hl : (l.take k).length ≤ k := by rw [List.length_take]; omega
  exact ⟨h.key, Nat.le_trans h.len hl, h.txt, Nat.le_trans h.ring hl⟩

/-! ### What an honest book signs -/
def TrueC (s : BS) (c : C) : Prop :=
  (∃ (i : Nat) (h : i < s.es.length), c = ⟨0, i, 0, s.es[i]⟩) ∨
  (c.k = 1 ∧ c.n ≤ s.n ∧ c.t ≤ s.t ∧ (c.t = s.t → c.n = s.n)) ∨
  (∃ (n : Int) (k : Txt), c = ⟨2, n, 0, k⟩ ∧ n ≤ s.es.length ∧ ∀ (i : Nat) (h : i < s.es.length), (i : Int) < n → keyT s.es[i] ≠ k)
structure Hon (s : BS) (q : List Sd) : Prop where
  ent : ∀ t ∈ s.es, (key t).isSome = true ∧ t.length ≤ 20000
  last : s.n ≤ s.es.length
  all : ∀ e ∈ q, e.1 = s.k → ∃ c, okB c = true ∧ e.2 = textC c
  tru : ∀ c, okB c = true → (s.k, textC c) ∈ q → TrueC s c
  siz : ∀ c d, okB c = true → okB d = true → (s.k, textC c) ∈ q → (s.k, textC d) ∈ q → c.k = 1 → d.k = 1 → (c.t = d.t → c.n = d.n) ∧ (c.t < d.t → c.n ≤ d.n)
theorem textC_inj {a b : C} (ha : okB a = true) (hb : okB b = true) (h : textC a = textC b) : a = b :=
  (textC_pf (r := []) (s := []) (ok_dom ha) (ok_dom hb) (by rw [h])).1
theorem key_of {t : Txt} (h : (key t).isSome = true) : key t = some (keyT t) := by
  obtain ⟨k, hk⟩ := Option.isSome_iff_exists.1 h
  rw [keyT_of hk]; exact hk
theorem Hon.start (key : Int) : Hon ⟨key, [], 0, -1⟩ [] := ⟨by simp, by simp, by simp, by simp, by simp⟩
/-- Nothing that was signed contradicts anything else that was. -/
theorem Hon.contra {s : BS} {q : List Sd} (h : Hon s q) {c d : C} (hc : okB c = true) (hd : okB d = true) (hcq : (s.k, textC c) ∈ q) (hdq : (s.k, textC d) ∈ q) : contra c d = false := by
  cases hx : Go.Proofs.YthppefkamklakaaDoor.contra c d with
  | false => rfl
  | true =>
    exfalso
    have hkinds := contra_kinds hx
    have hu : (okB c && okB d && (if c.k = d.k then alike c d else den c d || den d c)) = true := hx
    rw [hc, hd] at hu
    simp only [Bool.and_self, Bool.true_and] at hu
    have tc := h.tru c hc hcq
    have td := h.tru d hd hdq
    have absent_entry : ∀ (a b : C), TrueC s a → TrueC s b → a.k = 2 → b.k = 0 → den a b = true → False := by
      intro a b ta tb ha hb hden
      rcases ta with ⟨i, hi, rfl⟩ | ⟨h1, _⟩ | ⟨n, k, rfl, hn, hk⟩
      · exact absurd ha (show ¬ ((0 : Int) = 2) by decide)
      · rw [ha] at h1; exact absurd h1 (by decide)
      · rcases tb with ⟨i, hi, rfl⟩ | ⟨h1, _⟩ | ⟨n', k', rfl, _⟩
        · unfold den at hden
          simp only [Bool.and_eq_true, decide_eq_true_eq] at hden
          obtain ⟨⟨_, h2⟩, h3⟩ := hden
          have h4 := key_of (h.ent _ (List.getElem_mem hi)).1
          rw [h4] at h3
          exact hk i hi h2 (Option.some.inj h3)
        · rw [hb] at h1; exact absurd h1 (by decide)
        · exact absurd hb (show ¬ ((2 : Int) = 0) by decide)
    rcases hkinds with ⟨he, hne⟩ | ⟨h0, h2⟩ | ⟨h2, h0⟩
    · rw [if_pos he] at hu
      rcases tc with ⟨i, hi, rfl⟩ | ⟨h1, _⟩ | ⟨n, k, rfl, _⟩
      · rcases td with ⟨j, hj, rfl⟩ | ⟨h1, _⟩ | ⟨n, k, rfl, _⟩
        · unfold alike at hu
          simp only [if_true, decide_eq_true_eq] at hu
          have : i = j := by have := hu.1; omega
          subst this
          exact hu.2 rfl
        · rw [h1] at he; exact absurd he (show ¬ ((0 : Int) = 1) by decide)
        · exact absurd he (show ¬ ((0 : Int) = 2) by decide)
      · have hd1 : d.k = 1 := by rw [← he]; exact h1
        have s1 := h.siz c d hc hd hcq hdq h1 hd1
        have s2 := h.siz d c hd hc hdq hcq hd1 h1
        unfold alike szs at hu
        rw [if_neg (by rw [h1]; decide), if_pos h1] at hu
        simp only [Bool.or_eq_true, decide_eq_true_eq] at hu
        rcases hu with (⟨e, ne⟩ | ⟨l, g⟩) | ⟨l, g⟩
        · exact ne (s1.1 e)
        · have := s1.2 l; omega
        · have := s2.2 l; omega
      · exact hne rfl
    · rw [if_neg (by rw [h0, h2]; decide)] at hu
      rw [Bool.or_eq_true] at hu
      rcases hu with hu | hu
      · unfold den at hu
        simp only [Bool.and_eq_true, decide_eq_true_eq] at hu
        rw [h0] at hu
        exact absurd hu.1.1.1 (by decide)
      · exact absent_entry d c td tc h2 h0 hu
    · rw [if_neg (by rw [h0, h2]; decide)] at hu
      rw [Bool.or_eq_true] at hu
      rcases hu with hu | hu
      · exact absent_entry c d tc td h2 h0 hu
      · unfold den at hu
        simp only [Bool.and_eq_true, decide_eq_true_eq] at hu
        rw [h0] at hu
        exact absurd hu.1.1.1 (by decide)
theorem mem_signL {q : List Sd} {e x : Sd} (h : x ∈ signL q e) : x ∈ q ∨ x = e := by
  unfold signL at h
  split at h
  · exact mem_addL.1 h
  · exact .inl h
theorem Hon.other {s : BS} {q : List Sd} (h : Hon s q) (e : Sd) (he : e.1 ≠ s.k) : Hon s (signL q e) := by
  have hm : ∀ x, x ∈ signL q e → x.1 = s.k → x ∈ q := fun x hx hk => by
    rcases mem_signL hx with h1 | rfl
    · exact h1
    · exact absurd hk he
  exact ⟨h.ent, h.last, fun x hx hk => h.all x (hm x hx hk) hk, fun c hc hx => h.tru c hc (hm _ hx rfl), fun c d hc hd hx hy => h.siz c d hc hd (hm _ hx rfl) (hm _ hy rfl)⟩
theorem Hon.add {s : BS} {q : List Sd} (h : Hon s q) (c : C) (hc : okB c = true) (ht : TrueC s c)
    (hs : c.k = 1 → ∀ d, okB d = true → (s.k, textC d) ∈ q → d.k = 1 → ((c.t = d.t → c.n = d.n) ∧ (c.t < d.t → c.n ≤ d.n)) ∧ ((d.t = c.t → d.n = c.n) ∧ (d.t < c.t → d.n ≤ c.n))) : Hon s (signL q (s.k, textC c)) := by
  have hm : ∀ d, okB d = true → (s.k, textC d) ∈ signL q (s.k, textC c) → (s.k, textC d) ∈ q ∨ d = c := fun d hd hx => by
    rcases mem_signL hx with h1 | h1
    · exact .inl h1
    · exact .inr (textC_inj hd hc (congrArg Prod.snd h1))
  refine ⟨h.ent, h.last, fun x hx hk => ?_, fun d hd hx => ?_, fun d e hd he hx hy hdk hek => ?_⟩
  · rcases mem_signL hx with h1 | rfl
    · exact h.all x h1 hk
    · exact ⟨c, hc, rfl⟩
  · rcases hm d hd hx with h1 | rfl
    · exact h.tru d hd h1
    · exact ht
  · rcases hm d hd hx with h1 | rfl
    · rcases hm e he hy with h2 | rfl
      · exact h.siz d e hd he h1 h2 hdk hek
      · exact (hs hek d hd h1 hdk).2
    · rcases hm e he hy with h2 | rfl
      · exact (hs hdk e he h2 hek).1
      · exact ⟨fun _ => rfl, fun hlt => absurd hlt (by omega)⟩
theorem TrueC.push {s : BS} {c : C} (h : TrueC s c) (t : Txt) : TrueC { s with es := s.es ++ [t] } c := by
  rcases h with ⟨i, hi, rfl⟩ | h | ⟨n, k, rfl, hn, hk⟩
  · have hi2 : i < (s.es ++ [t]).length := by rw [List.length_append]; omega
    refine .inl ⟨i, hi2, ?_⟩
    show _ = C.mk 0 i 0 ((s.es ++ [t])[i]'hi2)
    rw [List.getElem_append_left hi]
  · exact .inr (.inl h)
  · refine .inr (.inr ⟨n, k, rfl, ?_, fun i hi hlt => ?_⟩)
    · show n ≤ ((s.es ++ [t]).length : Int)
      rw [List.length_append]; omega
    · have hil : i < s.es.length := by omega
      show keyT (s.es ++ [t])[i] ≠ k
      rw [List.getElem_append_left hil]
      exact hk i hil hlt
theorem Hon.push {s : BS} {q : List Sd} (h : Hon s q) (t : Txt) (ht : apB t = true) : Hon { s with es := s.es ++ [t] } q := by
  unfold apB at ht
  rw [Bool.and_eq_true] at ht
  refine ⟨fun u hu => ?_, ?_, h.all, fun c hc hx => (h.tru c hc hx).push t, h.siz⟩
  · rcases List.mem_append.1 hu with hu | hu
    · exact h.ent u hu
    · rw [List.mem_singleton.1 hu]; exact ⟨ht.1, of_decide_eq_true ht.2⟩
  · show s.n ≤ ((s.es ++ [t]).length : Int)
    have := h.last
    rw [List.length_append]; omega
theorem Hon.told {s : BS} {q : List Sd} (h : Hon s q) (now : Int) (h1 : ¬ (now < s.t ∨ (now = s.t ∧ (s.es.length : Int) ≠ s.n))) : Hon { s with n := s.es.length, t := now } q := by
  refine ⟨h.ent, Int.le_refl _, h.all, fun c hc hx => ?_, h.siz⟩
  rcases h.tru c hc hx with h2 | ⟨hk, hn, ht, he⟩ | h2
  · exact .inl h2
  · refine .inr (.inl ⟨hk, ?_, ?_, ?_⟩)
    · show c.n ≤ (s.es.length : Int)
      have := h.last; omega
    · show c.t ≤ now
      omega
    · intro e
      show c.n = (s.es.length : Int)
      have e : c.t = now := e
      have := he (by omega)
      omega
  · exact .inr (.inr h2)
theorem txtO_at {s : BS} {i : Int} {t : Txt} (h : txtO s i = some t) : ∃ (j : Nat) (hj : j < s.es.length), i = j ∧ s.es[j] = t := by
  obtain ⟨h0, h1, h2⟩ := txtO_yes h
  exact ⟨i.toNat, h1, by omega, h2⟩
theorem Hon.entry {s : BS} {q : List Sd} (h : Hon s q) (hlen : s.es.length ≤ 1000) (i : Int) : Hon s (qO q (enO s i)) := by
  cases ho : txtO s i with
  | none => rw [(enO_none ho).1]; exact h
  | some t =>
    rw [(enO_some ho).1]
    obtain ⟨j, hj, rfl, rfl⟩ := txtO_at ho
    have hb := h.ent _ (List.getElem_mem hj)
    have hok : okB ⟨0, j, 0, s.es[j]⟩ = true := (okB_iff _).2 ⟨Int.natCast_nonneg _, by show (j : Int) ≤ 199999; omega, by show (0 : Int) ≤ 0; omega, by show (0 : Int) ≤ 0; omega, by show (s.es[j].length : Int) ≤ 20000; omega, .inr hb.1⟩
    show Hon s (signL q (s.k, textR ⟨0, j, 0, s.es[j]⟩))
    unfold textR
    rw [if_pos hok]
    exact h.add _ hok (.inl ⟨j, hj, rfl⟩) (fun hk => absurd hk (show ¬ ((0 : Int) = 1) by decide))
theorem Hon.absent {s : BS} {q : List Sd} (h : Hon s q) (hlen : s.es.length ≤ 1000) (k : Txt) (n : Int) : Hon s (qO q (abO s k n)) := by
  by_cases hx : n < 0 ∨ (s.es.length : Int) < n ∨ 20000 < k.length
  · rw [(ab_arg hx).2]; exact h
  · have key : (∀ (i : Nat) (hi : i < s.es.length), (i : Int) < n → keyT s.es[i] ≠ k) → abO s k n = some (s.k, textR ⟨2, n, 0, k⟩) → Hon s (qO q (abO s k n)) := by
      intro hno he
      rw [he]
      have hok : okB ⟨2, n, 0, k⟩ = true := (okB_iff _).2 ⟨by show 0 ≤ n; omega, by show n ≤ 200000; omega, by show (0 : Int) ≤ 0; omega, by show (0 : Int) ≤ 0; omega, by show (k.length : Int) ≤ 20000; omega, .inl (by show (2 : Int) ≠ 0; decide)⟩
      show Hon s (signL q (s.k, textR ⟨2, n, 0, k⟩))
      unfold textR
      rw [if_pos hok]
      exact h.add _ hok (.inr (.inr ⟨n, k, rfl, by omega, hno⟩)) (fun hk => absurd hk (show ¬ ((2 : Int) = 1) by decide))
    cases hp : pm 0 (ks s.es) k with
    | none =>
      refine key (fun i hi _ e => pm_none.1 hp ?_) (ab_none hx hp).2
      exact List.mem_of_getElem? (i := i) (by rw [ks_get hi, e])
    | some j =>
      by_cases hj : (j : Int) < n
      · rw [(ab_there hx hp hj).2]; exact h
      · refine key (fun i hi hlt e => pm_before hp ?_) (ab_later hx hp hj).2
        exact List.mem_of_getElem? (i := i) (by rw [List.getElem?_take, if_pos (by omega), ks_get hi, e])
theorem Hon.head {s : BS} {q : List Sd} (h : Hon s q) (hlen : s.es.length ≤ 1000) (now : Int) : Hon (hdS s now) (qO q (hdO s now)) := by
  by_cases hx : now < 0 ∨ 1073741824 < now
  · obtain ⟨_, h2, h3⟩ := hd_arg (s := s) hx
    rw [h2, h3]; exact h
  · by_cases h2 : now < s.t ∨ (now = s.t ∧ (s.es.length : Int) ≠ s.n)
    · obtain ⟨_, h4, h5⟩ := hd_state hx h2
      rw [h4, h5]; exact h
    · obtain ⟨_, h4, h5⟩ := hd_ok hx h2
      rw [h4, h5]
      have hok : okB ⟨1, s.es.length, now, []⟩ = true := (okB_iff _).2 ⟨Int.natCast_nonneg _, by show (s.es.length : Int) ≤ 200000; omega, by show 0 ≤ now; omega, by show now ≤ 1073741824; omega, by show (0 : Int) ≤ 0; omega, .inl (by show (1 : Int) ≠ 0; decide)⟩
      show Hon { s with n := s.es.length, t := now } (signL q (s.k, textR ⟨1, s.es.length, now, []⟩))
      unfold textR
      rw [if_pos hok]
      have hT := h.told now h2
      refine Hon.add hT ⟨1, s.es.length, now, []⟩ hok (.inr (.inl ⟨rfl, Int.le_refl _, Int.le_refl _, fun _ => rfl⟩)) fun _ d hd hdq hdk => ?_
      rcases hT.tru d hd hdq with ⟨i, hi, rfl⟩ | ⟨_, hn, ht, he⟩ | ⟨n', k', rfl, _⟩
      · exact absurd hdk (show ¬ ((0 : Int) = 1) by decide)
      · have hn : d.n ≤ (s.es.length : Int) := hn
        have ht : d.t ≤ now := ht
        have he : d.t = now → d.n = (s.es.length : Int) := he
        refine ⟨⟨fun e => ?_, fun hlt => ?_⟩, ⟨fun e => he e, fun _ => hn⟩⟩
        · have e : now = d.t := e
          exact (he e.symm).symm
        · have hlt : now < d.t := hlt
          omega
      · exact absurd hdk (show ¬ ((2 : Int) = 1) by decide)
theorem Hon.step {s : BS} {q : List Sd} (h : Hon s q) (hlen : s.es.length ≤ 1000) (o : Op3) : Hon (opB s o) (qO q (opO s o)) := by
  unfold opB opO
  by_cases h0 : o.1 = 0
  · rw [if_pos h0, if_pos h0]
    show Hon (apS s o.2.2) q
    unfold apS
    split
    · next ha => exact h.push _ ha
    · exact h
  · rw [if_neg h0, if_neg h0]
    by_cases h1 : o.1 = 1
    · rw [if_pos h1, if_neg (by omega)]
      exact h.entry hlen _
    · rw [if_neg h1]
      by_cases h2 : o.1 = 2
      · rw [if_pos h2, if_pos h2]
        exact h.head hlen _
      · rw [if_neg h2, if_neg h2]
        by_cases h3 : o.1 = 3
        · rw [if_pos h3]
          exact h.absent hlen _ _
        · rw [if_neg h3]
          by_cases h4 : o.2.1 = s.k
          · rw [if_pos h4]; exact h
          · rw [if_neg h4]; exact h.other _ h4
theorem st_hon (key : Int) (l : List Op3) (k : Nat) (hk : k ≤ l.length) (h1 : l.length ≤ 1000) : Hon (st key l k).1 (st key l k).2 := by
  induction k with
  | zero => exact Hon.start key
  | succ k ih =>
    rw [st_succ key l k (by omega)]
    exact (ih (by omega)).step (by have := (st_ok key l k).len; omega) _
/-- What an operation of the book itself signs, if it makes no error. -/
theorem op_good (s : BS) (o : Op3) (h1 : 1 ≤ o.1) (h3 : o.1 ≤ 3) (he : opE s o = 0) : ∃ t, opO s o = some (s.k, t) := by
  unfold opE at he
  unfold opO
  rw [if_neg (show ¬ o.1 = 0 by omega)] at he ⊢
  by_cases e1 : o.1 = 1
  · rw [if_pos e1] at he ⊢
    cases ho : txtO s o.2.1 with
    | none => rw [(enO_none ho).2] at he; exact absurd he (by decide)
    | some t => exact ⟨_, (enO_some ho).1⟩
  · rw [if_neg e1] at he ⊢
    by_cases e2 : o.1 = 2
    · rw [if_pos e2] at he ⊢
      unfold hdO; rw [if_pos he]; exact ⟨_, rfl⟩
    · rw [if_neg e2] at he ⊢
      have e3 : o.1 = 3 := by omega
      rw [if_pos e3] at he ⊢
      unfold abO; rw [if_pos he]; exact ⟨_, rfl⟩
theorem op_valid {s : BS} {q : List Sd} (hk : IsKey s.k) (o : Op3) (h1 : 1 ≤ o.1) (h3 : o.1 ≤ 3) (he : opE s o = 0) : (sgO q (opO s o)).1 = s.k ∧ holds (qO q (opO s o)) (sgO q (opO s o)) = true := by
  obtain ⟨t, ht⟩ := op_good s o h1 h3 he
  rw [ht]
  refine ⟨?_, ?_⟩
  · show (signR q (s.k, t)).1 = s.k
    unfold signR; rw [if_pos (by exact hk)]
  · have := holds_sign (q := q) (e := (s.k, t)) hk []
    rw [List.append_nil] at this
    exact this
end Go.Proofs.YthppefkamklakaaDoor
namespace Go.Proofs.YthppefkamklakaaDoor
open Go.RowKit Go.MapKept Go.Maps Go.WideMaps

/-- A turn: its kind, its name, its text, its number. -/
abbrev Tu := Int × Txt × Txt × Int
def Tu.ok (u : Tu) : Prop := Wm.inInt u.1 ∧ u.2.1.length ≤ 9223372036854775807 ∧ u.2.2.1.length ≤ 9223372036854775807 ∧ Wm.inInt u.2.2.2
/-- The operation of a book that a turn is. -/
def tuO (key : Int) (u : Tu) : Op3 := if u.1 = 0 then (0, 0, Wm.textE.f u.2.1 ++ u.2.2.1) else if 1 ≤ u.1 ∧ u.1 ≤ 3 then (u.1, u.2.2.2, u.2.1) else (4, key, [])
/-- What is made in a turn: a signature, if there is one. -/
noncomputable def tuM (key : Int) (p : BS × List Sd) (u : Tu) : Option Sg := if 1 ≤ u.1 ∧ u.1 ≤ 3 ∧ opE p.1 (tuO key u) = 0 then some (sgO p.2 (opO p.1 (tuO key u))) else none
noncomputable def tst (key : Int) (l : List Tu) (k : Nat) : BS × List Sd := st key (l.map (tuO key)) k
noncomputable def tmd (key : Int) (l : List Tu) : Nat → List Sg
  | 0 => []
  | k + 1 => tmd key l k ++ (match l[k]? with | none => [] | some u => (tuM key (tst key l k) u).toList)
theorem tst_zero (key : Int) (l : List Tu) : tst key l 0 = (⟨key, [], 0, -1⟩, []) := rfl
theorem tst_succ (key : Int) (l : List Tu) (k : Nat) (h : k < l.length) : tst key l (k + 1) = stepS (tst key l k) (tuO key l[k]) := by
  unfold tst
  rw [st_succ _ _ _ (by simpa using h), List.getElem_map]
theorem tst_ok (key : Int) (l : List Tu) (k : Nat) : StOk key k (tst key l k) := st_ok key _ k
theorem tst_hon (key : Int) (l : List Tu) (k : Nat) (hk : k ≤ l.length) (h1 : l.length ≤ 1000) : Hon (tst key l k).1 (tst key l k).2 := st_hon key _ k (by simpa using hk) (by simpa using h1)
theorem tmd_succ (key : Int) (l : List Tu) (k : Nat) (h : k < l.length) : tmd key l (k + 1) = tmd key l k ++ (tuM key (tst key l k) l[k]).toList := by
  show tmd key l k ++ (match l[k]? with | none => [] | some u => (tuM key (tst key l k) u).toList) = _
  rw [List.getElem?_eq_getElem h]
theorem tmd_len (key : Int) (l : List Tu) (k : Nat) : (tmd key l k).length ≤ k := by
  induction k with
  | zero => simp [tmd]
  | succ k ih =>
    show (tmd key l k ++ (match l[k]? with | none => [] | some u => (tuM key (tst key l k) u).toList)).length ≤ k + 1
    rw [List.length_append]
    have : ((match l[k]? with | none => [] | some u => (tuM key (tst key l k) u).toList) : List Sg).length ≤ 1 := by
      cases l[k]? with
      | none => simp
      | some u =>
        show ((tuM key (tst key l k) u).toList).length ≤ 1
        cases tuM key (tst key l k) u <;> simp
    omega
theorem qO_cut (q : List Sd) (x : Option Sd) : ∃ m, qO q x = q ++ m := by
  cases x with
  | none => exact ⟨[], by simp [qO]⟩
  | some e => exact signL_cut q e
/-- All that was made holds, and is of the key. -/
theorem tmd_holds (key : Int) (hk : IsKey key) (l : List Tu) : ∀ k, k ≤ l.length → ∀ g ∈ tmd key l k, holds (tst key l k).2 g = true ∧ g.1 = key := by
  intro k
  induction k with
  | zero => intro _ g hg; simp [tmd] at hg
  | succ k ih =>
    intro h g hg
    rw [tmd_succ key l k (by omega)] at hg
    rw [tst_succ key l k (by omega)]
    obtain ⟨m, hm⟩ := qO_cut (tst key l k).2 (opO (tst key l k).1 (tuO key (l[k]'(by omega))))
    rcases List.mem_append.1 hg with hg | hg
    · obtain ⟨h1, h2⟩ := ih (by omega) g hg
      refine ⟨?_, h2⟩
      show holds (qO (tst key l k).2 (opO (tst key l k).1 (tuO key (l[k]'(by omega))))) g = true
      rw [hm]; exact holds_more m h1
    · have hkey := (tst_ok key l k).key
      unfold tuM at hg
      split at hg
      · rename_i hc
        obtain ⟨h1, h3, he⟩ := hc
        rw [Option.toList_some, List.mem_singleton] at hg
        subst hg
        have ho : (tuO key (l[k]'(by omega))).1 = (l[k]'(by omega)).1 := by unfold tuO; rw [if_neg (by omega), if_pos ⟨h1, h3⟩]
        have := op_valid (s := (tst key l k).1) (q := (tst key l k).2) (by rw [hkey]; exact hk) (tuO key (l[k]'(by omega))) (by rw [ho]; exact h1) (by rw [ho]; exact h3) he
        exact ⟨this.2, this.1.trans hkey⟩
      · simp at hg
section
variable {s : BS} {q : List Sd} {key : Int} {L : List Sg}
theorem TrueC.kind {c : C} (h : TrueC s c) : c.k ≤ 2 := by
  rcases h with ⟨i, hi, rfl⟩ | ⟨h, _⟩ | ⟨n, k, rfl, _⟩
  · show (0 : Int) ≤ 2; decide
  · omega
  · show (2 : Int) ≤ 2; decide
theorem hon_claim (h : Hon s q) (hs : s.k = key) {g : Sg} (hh : holds q g = true) (hg : g.1 = key) : ∃ c, okB c = true ∧ g.2.1 = textC c ∧ (s.k, textC c) ∈ q := by
  have h1 := List.mem_of_getElem? (holds_get hh).2
  obtain ⟨c, hc, he⟩ := h.all _ h1 (by rw [hs]; exact hg)
  refine ⟨c, hc, he, ?_⟩
  have he : g.2.1 = textC c := he
  rw [← he, hs, ← hg]; exact h1
theorem hon_good (h : Hon s q) (hs : s.k = key) (hl : LOk q key L) {g : Sg} (hh : holds q g = true) (hg : g.1 = key) : Good q key L g := by
  obtain ⟨c, hc, he, hq⟩ := hon_claim h hs hh hg
  have hr : readC g.2.1 = some c := readC_some.2 ⟨hc, he⟩
  refine ⟨hh, hg, ⟨c, hr, (h.tru c hc hq).kind⟩, fun a ha => ?_⟩
  obtain ⟨d, hd, hde, hdq⟩ := hon_claim h hs (hl.val a ha) (hl.key a ha)
  have hda : readC a.2.1 = some d := readC_some.2 ⟨hd, hde⟩
  rw [readC_clm hr, readC_clm hda]
  exact h.contra hd hc hdq hq
/-- What is known by the view is true of the book. -/
theorem hon_true (h : Hon s q) (hs : s.k = key) (hl : LOk q key L) {c : C} (hc : c ∈ cs L) : TrueC s c := by
  obtain ⟨a, ha, rfl⟩ := List.mem_map.1 hc
  obtain ⟨d, hd, hde, hdq⟩ := hon_claim h hs (hl.val a ha) (hl.key a ha)
  rw [readC_clm (readC_some.2 ⟨hd, hde⟩)]
  exact h.tru d hd hdq
theorem hon_size (h : Hon s q) (hs : s.k = key) (hl : LOk q key L) (hq : q.Nodup) : szN (vd L) ≤ s.es.length := by
  unfold szN
  cases ho : (vd L).hd.getLast? with
  | none => exact Int.natCast_nonneg _
  | some c =>
    have h1 := List.mem_of_getLast? ho
    rw [vd_hd] at h1
    obtain ⟨h2, h3⟩ := ((ld_hd (cs L) (hl.cok hq)).1 c).1 h1
    rcases hon_true h hs hl h2 with ⟨i, hi, rfl⟩ | ⟨_, hn, _⟩ | ⟨n, k, rfl, _⟩
    · exact absurd h3 (show ¬ ((0 : Int) = 1) by decide)
    · have := h.last
      show c.n ≤ s.es.length
      omega
    · exact absurd h3 (show ¬ ((2 : Int) = 1) by decide)
theorem hon_text (h : Hon s q) (hs : s.k = key) (hl : LOk q key L) (hq : q.Nodup) {i : Int} {t : Txt} (ht : (vd L).en i = some t) : txtO s i = some t := by
  rw [vd_en] at ht
  have h1 := (ld_en (cs L) (hl.cok hq) i t).1 ht
  rcases hon_true h hs hl h1 with ⟨j, hj, he⟩ | ⟨h2, _⟩ | ⟨n, k, he, _⟩
  · have e1 : i = (j : Int) := congrArg C.n he
    have e2 : t = s.es[j] := congrArg C.s he
    subst e1; subst e2
    unfold txtO
    rw [if_pos (Int.natCast_nonneg _), Int.toNat_natCast, List.getElem?_eq_getElem hj]
  · exact absurd h2 (show ¬ ((0 : Int) = 1) by decide)
  · exact absurd (congrArg C.k he) (show ¬ ((0 : Int) = 2) by decide)
theorem hon_absent (h : Hon s q) (hs : s.k = key) (hl : LOk q key L) (hq : q.Nodup) {name : Txt} {m : Int} (hm : (vd L).ab name = some m) : m ≤ s.es.length ∧ ∀ (i : Nat) (hi : i < s.es.length), (i : Int) < m → keyT s.es[i] ≠ name := by
  rw [vd_ab] at hm
  have h1 := ld_ab (cs L) (fun c hc => (ok_bounds ((hl.cok hq).ok c hc)).2.2.1) name
  rw [hm] at h1
  obtain ⟨⟨c, hc, h2, h3, h4⟩, _⟩ := h1
  rcases hon_true h hs hl hc with ⟨j, hj, rfl⟩ | ⟨h5, _⟩ | ⟨n, k, rfl, hn, hk⟩
  · exact absurd h2 (show ¬ ((0 : Int) = 2) by decide)
  · rw [h5] at h2; exact absurd h2 (by decide)
  · have h3 : k = name := h3
    have h4 : n = m := h4
    subst h3; subst h4
    exact ⟨hn, hk⟩
end
end Go.Proofs.YthppefkamklakaaDoor
namespace Go.Proofs.YthppefkamklakaaDoor
open Go.RowKit Go.MapKept Go.Maps Go.WideMaps

/-! ### A slice of turns -/
structure TuIn (w : World) (b i : Nat) (x : Tu) : Prop where
  c0 : w.cell? ⟨b, i, none⟩ = some (.int .i64 x.1)
  c1 : w.cell? ⟨b, i + 1, none⟩ = some (.string (S x.2.1))
  c2 : w.cell? ⟨b, i + 2, none⟩ = some (.string (S x.2.2.1))
  c3 : w.cell? ⟨b, i + 3, none⟩ = some (.int .i64 x.2.2.2)
theorem TuIn.fr {w w' : World} {b i : Nat} {x : Tu} (h : TuIn w b i x) (hf : Fr w w') : TuIn w' b i x := ⟨hf.cell h.c0, hf.cell h.c1, hf.cell h.c2, hf.cell h.c3⟩
def TuAt (w : World) (b o : Nat) (l : List Tu) : Prop := ∀ (i : Nat) (h : i < l.length), TuIn w b (o + i * 4) l[i]
theorem TuAt.fr {w w' : World} {b o : Nat} {l : List Tu} (h : TuAt w b o l) (hf : Fr w w') : TuAt w' b o l := fun i hi => (h i hi).fr hf
def TuSl (w : World) (v : Value) (l : List Tu) : Prop := (l = [] ∧ ∃ a c, v = .slice a 0 c) ∨ ∃ b o c, v = .slice (some ⟨b, o, none⟩) l.length c ∧ TuAt w b o l
theorem TuSl.fr {w w' : World} {v : Value} {l : List Tu} (h : TuSl w v l) (hf : Fr w w') : TuSl w' v l := by
  rcases h with h | ⟨b, o, c, hv, hc⟩
  · exact .inl h
  · exact .inr ⟨b, o, c, hv, hc.fr hf⟩
theorem TuSl.len {w : World} {v : Value} {l : List Tu} (h : TuSl w v l) : ∃ a c, v = .slice a l.length c := by
  rcases h with ⟨rfl, a, c, rfl⟩ | ⟨b, o, c, rfl, _⟩
  · exact ⟨a, c, rfl⟩
  · exact ⟨_, _, rfl⟩
theorem TuSl.get {w : World} {v : Value} {l : List Tu} (h : TuSl w v l) (h0 : 0 < l.length) : ∃ b o c, v = .slice (some ⟨b, o, none⟩) l.length c ∧ TuAt w b o l := by
  rcases h with ⟨rfl, _⟩ | h
  · exact absurd h0 (by decide)
  · exact h
/-- What is known of the arguments. -/
def TArg (l : List Tu) : Prop := l.length ≤ 9223372036854775807 ∧ ∀ x ∈ l, x.ok
def FewT (l : List Tu) : Prop := l.length ≤ 20 ∧ ∀ x ∈ l, x.2.1.length ≤ 100 ∧ x.2.2.1.length ≤ 100
instance (l : List Tu) : Decidable (FewT l) := by unfold FewT; exact inferInstance

/-! ### A slice of numbers -/
def IAt (w : World) (b o : Nat) (l : List Int) : Prop := ∀ (i : Nat) (h : i < l.length), w.cell? ⟨b, o + i, none⟩ = some (.int .i64 l[i])
def ISl (w : World) (v : Value) (l : List Int) : Prop := (l = [] ∧ ∃ a c, v = .slice a 0 c) ∨ ∃ b o c, v = .slice (some ⟨b, o, none⟩) l.length c ∧ IAt w b o l
theorem ISl.fr {w w' : World} {v : Value} {l : List Int} (h : ISl w v l) (hf : Fr w w') : ISl w' v l := by
  rcases h with h | ⟨b, o, c, hv, hc⟩
  · exact .inl h
  · exact .inr ⟨b, o, c, hv, fun i hi => hf.cell (hc i hi)⟩
theorem ISl.len {w : World} {v : Value} {l : List Int} (h : ISl w v l) : ∃ a c, v = .slice a l.length c := by
  rcases h with ⟨rfl, a, c, rfl⟩ | ⟨b, o, c, rfl, _⟩
  · exact ⟨a, c, rfl⟩
  · exact ⟨_, _, rfl⟩
theorem ISl.get {w : World} {v : Value} {l : List Int} (h : ISl w v l) (h0 : 0 < l.length) : ∃ b o c, v = .slice (some ⟨b, o, none⟩) l.length c ∧ IAt w b o l := by
  rcases h with ⟨rfl, _⟩ | h
  · exact absurd h0 (by decide)
  · exact h
def IArg (l : List Int) : Prop := l.length ≤ 9223372036854775807 ∧ ∀ x ∈ l, Wm.inInt x
set_option maxRecDepth 100000 in
theorem fewT_at (b o c : Nat) (l : List Tu) (w : World) (hc : TuAt w b o l) (hn : l.length ≤ 9223372036854775807) (hs : ∀ x ∈ l, x.2.1.length ≤ 9223372036854775807 ∧ x.2.2.1.length ≤ 9223372036854775807) :
    Calls Tryd.prog 5 #[.slice (some ⟨b, o, none⟩) l.length c, .int .i64 20] w fun e w' => e = .returned (.bool (decide (FewT l))) ∧ w' = w := by
  have HC := Lib.hid hc
  have HS := Lib.hid hs
  clear hc hs
  go_enter Tryd.func5, Tryd.ntmps5
  go_wp2_with fail
  go_loopw [5] (fun i wr => ∃ k : Nat, k ≤ l.length ∧ k ≤ 21 ∧ i = .int .i64 k ∧ wr = w ∧ Hid (∀ (j : Nat) (h : j < k) (h' : j < l.length), l[j].2.1.length ≤ 100 ∧ l[j].2.2.1.length ≤ 100)) (fun i _ => l.length - (intOf i).toNat)
  case atStart => exact ⟨0, Nat.zero_le _, by omega, rfl, rfl, Lib.hid (fun j h => by omega)⟩
  case round =>
    obtain ⟨k, hk, hk2, rfl, rfl, hA⟩ := hrel
    by_cases hlt : k < l.length
    · by_cases h26 : k < 21
      · have c1 := (HC.out k hlt).c1
        have c2 := (HC.out k hlt).c2
        have hsl := HS.out _ (List.getElem_mem hlt)
        have HN := Lib.hid (show ¬ (l[k].2.1.length ≤ 100 ∧ l[k].2.2.1.length ≤ 100) → decide (FewT l) = false from fun hb => decide_eq_false (fun h => hb (h.2 _ (List.getElem_mem hlt))))
        have HY := Lib.hid (show (l[k].2.1.length ≤ 100 ∧ l[k].2.2.1.length ≤ 100) → ∀ (j : Nat) (h : j < k + 1) (h' : j < l.length), l[j].2.1.length ≤ 100 ∧ l[j].2.2.1.length ≤ 100 from fun hb j h h' => by
          rcases Nat.lt_or_ge j k with hj | hj
          · exact hA.out j hj h'
          · obtain rfl : j = k := by omega
            exact hb)
        clear hA
        generalize l[k].2.1 = x at *
        generalize l[k].2.2.1 = y at *
        obtain ⟨hs1, hs2⟩ := hsl
        by_cases hb : x.length ≤ 100
        · by_cases hb2 : y.length ≤ 100
          · have HA := Lib.hid (HY.out ⟨hb, hb2⟩)
            clear HY HN
            go_wp2_with fail
            go_roundw
            case rel => exact ⟨k + 1, by omega, by omega, by go_num, trivial, HA⟩
            case measure => simp [intOf]; omega
          · have HD := Lib.hid (HN.out (fun h => hb2 h.2))
            clear HY HN
            go_wp2_with fail
            go_ret
            exact ⟨by rw [HD.out]; rfl, rfl⟩
        · have HD := Lib.hid (HN.out (fun h => hb h.1))
          clear HY HN
          go_wp2_with fail
          go_ret
          exact ⟨by rw [HD.out]; rfl, rfl⟩
      · have HD := Lib.hid (show decide (FewT l) = false from decide_eq_false (fun h => by have := h.1; omega))
        clear hA
        go_wp2_with fail
        go_ret
        refine ⟨?_, rfl⟩
        rw [HD.out]
        have : ¬ ((l.length : Int) ≤ 20) := by omega
        simp [this]
    · have HD := Lib.hid (show decide (FewT l) = decide ((l.length : Int) ≤ 20) by
        rw [Bool.eq_iff_iff]
        simp only [decide_eq_true_eq]
        constructor
        · intro h; have := h.1; omega
        · intro h
          refine ⟨by omega, fun s hs => ?_⟩
          obtain ⟨j, hj, rfl⟩ := List.getElem_of_mem hs
          exact hA.out j (by omega) hj)
      clear hA
      go_wp2_with fail
      go_ret
      exact ⟨by rw [HD.out]; rfl, rfl⟩
set_option maxRecDepth 100000 in
theorem fewT_nil (a : Option Addr) (c : Nat) (w : World) :
    Calls Tryd.prog 5 #[.slice a 0 c, .int .i64 20] w fun e w' => e = .returned (.bool true) ∧ w' = w := by
  go_enter Tryd.func5, Tryd.ntmps5
  go_wp2_with fail
  go_loopw [5] (fun i wr => i = .int .i64 0 ∧ wr = w) (fun _ _ => 0)
  case atStart => exact ⟨rfl, rfl⟩
  case round =>
    obtain ⟨rfl, rfl⟩ := hrel
    go_wp2_with fail
    go_ret
    exact ⟨rfl, rfl⟩
theorem fewT_any {v : Value} {l : List Tu} (w : World) (h : TuSl w v l) (ha : TArg l) :
    Calls Tryd.prog 5 #[v, .int .i64 20] w fun e w' => e = .returned (.bool (decide (FewT l))) ∧ w' = w := by
  rcases h with ⟨rfl, a, c, rfl⟩ | ⟨b, o, c, rfl, hc⟩
  · exact fewT_nil a c w
  · exact fewT_at b o c l w hc ha.1 fun x hx => ⟨(ha.2 x hx).2.1, (ha.2 x hx).2.2.1⟩


/-- The index that an order is. -/
theorem order_ix (x : Int) (n : Nat) (hn : 0 < n) (_hx : Wm.inInt x) (hN : n ≤ 1000) : ∃ j : Nat, j < n ∧ (x.tmod n + n).tmod n = (j : Int) ∧ (-1000 ≤ x.tmod n ∧ x.tmod n ≤ 1000) := by
  have h1 : -(n : Int) < x.tmod n ∧ x.tmod n < n := by
    have a := Int.tmod_lt_of_pos x (show (0 : Int) < n by omega)
    have b := Int.lt_tmod_of_pos x (show (0 : Int) < n by omega)
    exact ⟨b, a⟩
  have h2 : 0 ≤ x.tmod n + n := by omega
  have h3 := Int.tmod_lt_of_pos (x.tmod n + n) (show (0 : Int) < n by omega)
  have h4 := Int.tmod_nonneg (n : Int) h2
  exact ⟨((x.tmod n + n).tmod n).toNat, by omega, by omega, by omega, by omega⟩
end Go.Proofs.YthppefkamklakaaDoor
namespace Go.Proofs.YthppefkamklakaaDoor
open Go.RowKit Go.MapKept Go.Maps Go.WideMaps

theorem notKeyB {key : Int} (hk : ¬ IsKey key) : key < 0 ∨ (¬ key < 0 ∧ 200 ≤ key) := by
  rcases Int.lt_or_le key 0 with h | h
  · exact .inl h
  · exact .inr ⟨by omega, Int.not_lt.1 fun h' => hk ⟨h, h'⟩⟩
/-! ### A view beside a book, upon one ring -/
theorem qO_nodup {q : List Sd} (h : q.Nodup) (x : Option Sd) : (qO q x).Nodup := by
  unfold qO
  split
  · exact h
  · unfold signL
    split
    · exact addL_nodup h
    · exact h
theorem tst_nd (key : Int) (l : List Tu) : ∀ k, k ≤ l.length → (tst key l k).2.Nodup := by
  intro k
  induction k with
  | zero => intro _; exact List.nodup_nil
  | succ k ih =>
    intro h
    rw [tst_succ key l k (by omega)]
    exact qO_nodup (ih (by omega)) _
theorem Has.bacc {W w : World} {B R V : Nat} {s : BS} {q : List Sd} {k : Int} {L : List Sg} {U : Thing} (h : Has W w ((BookT B R s q).sep ((ViewT V R k L (vd L)).sep U))) (hl : LOk q k L) (hn : q.Nodup) (hq : q.length ≤ 1000000) (hll : L.length ≤ 100000) (g : Sg) (hg : GOk g) :
    Calls Tryd.prog 12 #[.pointer (some ⟨V, 0, none⟩), sgV g] w fun e w' => e = .returned (.int .i64 (aE q k L g)) ∧ Has W w' ((BookT B R s q).sep ((ViewT V R k (acl q k L g) (vd (acl q k L g))).sep U)) := by
  obtain ⟨M, ev, m, hb⟩ := h.bopen
  have hb' : Has W w ((ViewT V R k L (vd L)).sep ((RingT R q).sep _)) := Has.map hb fun _ h => sp5 h
  refine (vacc hb' hl hn hq hll g hg).mono ?_
  rintro e w' ⟨rfl, h1⟩
  exact ⟨rfl, BP.close (h1.map fun _ h => ps5 h)⟩
/-- Whatever the book has signed is accepted. -/
theorem hon_acc {s : BS} {q : List Sd} {key : Int} {L : List Sg} {g : Sg} (h : Hon s q) (hs : s.k = key) (hl : LOk q key L) (hq : q.Nodup) (hh : holds q g = true) (hg : g.1 = key) : aE q key L g = 0 := (aE_zero hl hq g).2 (hon_good h hs hl hh hg)
end Go.Proofs.YthppefkamklakaaDoor
