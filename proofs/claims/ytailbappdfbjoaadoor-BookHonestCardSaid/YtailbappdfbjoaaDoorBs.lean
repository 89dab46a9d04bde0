/-
  What BookHonest wants: rows of claims; what an honest book signs does not contradict itself.
-/
import Derived.Test.YtailbappdfbjoaaDoorBm
namespace Go.Proofs.YtailbappdfbjoaaDoor
open Go.RowKit Go.MapKept Go.Maps Go.WideMaps

/-! ### Rows of claims -/
def cC (l : List C) : List Value := l.flatMap fun c => [.int .i64 c.k, .int .i64 c.n, .int .i64 c.t, .string (S c.s)]
theorem cC_cons (c : C) (l : List C) : cC (c :: l) = .int .i64 c.k :: .int .i64 c.n :: .int .i64 c.t :: .string (S c.s) :: cC l := by simp [cC]
theorem cC_length (l : List C) : (cC l).length = l.length * 4 := by
  induction l with
  | nil => rfl
  | cons a l ih => rw [cC_cons]; simp only [List.length_cons, ih]; omega
theorem cC_append (l m : List C) : cC (l ++ m) = cC l ++ cC m := by simp [cC]
theorem cC_one (l : List C) : ∀ v ∈ cC l, v.oneCell' = true := by
  intro v hv
  simp only [cC, List.mem_flatMap, List.mem_cons, List.not_mem_nil, or_false] at hv
  obtain ⟨_, _, rfl | rfl | rfl | rfl⟩ := hv <;> rfl
theorem cC_get (l : List C) (i : Nat) (h : i < l.length) : (cC l)[4 * i]? = some (.int .i64 l[i].k) ∧ (cC l)[4 * i + 1]? = some (.int .i64 l[i].n) ∧ (cC l)[4 * i + 2]? = some (.int .i64 l[i].t) ∧ (cC l)[4 * i + 3]? = some (.string (S l[i].s)) := by
  induction l generalizing i with
  | nil => simp at h
  | cons a l ih =>
    rw [cC_cons]
    cases i with
    | zero => simp
    | succ i =>
      have := ih i (by simpa using h)
      rw [show 4 * (i + 1) = 4 * i + 1 + 1 + 1 + 1 by omega]
      simp only [List.getElem?_cons_succ]
      simpa using this
theorem infoC : (Tryd.prog.info? 58).map (fun i => (i.zero, i.size, i.bytes)) = some (some (.agg #[.int .i64 0, .int .i64 0, .int .i64 0, .string (S [])]), 4, 40) := by kernel_rfl
/-- Element i of a row of claims lies at g. -/
def CIn (w : World) (g i : Nat) (c : C) : Prop := w.cell? ⟨g, i, none⟩ = some (.int .i64 c.k) ∧ w.cell? ⟨g, i + 1, none⟩ = some (.int .i64 c.n) ∧ w.cell? ⟨g, i + 2, none⟩ = some (.int .i64 c.t) ∧ w.cell? ⟨g, i + 3, none⟩ = some (.string (S c.s))
theorem CIn.fr {w w' : World} {g i : Nat} {c : C} (h : CIn w g i c) (hf : Fr w w') : CIn w' g i c := ⟨hf.cell h.1, hf.cell h.2.1, hf.cell h.2.2.1, hf.cell h.2.2.2⟩
theorem crow_at {w : World} {base n : Nat} {v : Value} {l : List C} (h : w.ownsRow base 58 4 v n (cC l)) (hl : n = l.length) (h0 : 0 < l.length) :
    ∃ g cap, v = .slice (some ⟨g, 0, none⟩) l.length cap ∧ l.length ≤ cap ∧ ∀ (i : Nat) (h : i < l.length), CIn w g (i * 4) l[i] := by
  subst hl
  rcases h.2 with ⟨rfl, h1⟩ | ⟨g, cap, cur, rfl, hB, hg, hc, _, hs, ht⟩
  · omega
  · refine ⟨g, cap, rfl, hc, fun i hi => ?_⟩
    have hget : ∀ j u, j < l.length * 4 → (cC l)[j]? = some u → w.cell? ⟨g, j, none⟩ = some u := fun j u hj hu => by
      rw [Lib.cell_of_heap hg]
      rw [← ht, List.getElem?_take, if_pos hj] at hu
      simpa using hu
    have hc := cC_get l i hi
    exact ⟨hget _ _ (by omega) (by rw [Nat.mul_comm]; exact hc.1), hget _ _ (by omega) (by rw [Nat.mul_comm]; exact hc.2.1), hget _ _ (by omega) (by rw [Nat.mul_comm]; exact hc.2.2.1), hget _ _ (by omega) (by rw [Nat.mul_comm]; exact hc.2.2.2)⟩


/-! ### What an honest book signs -/
def TrueC (s : BS) (c : C) : Prop :=
  (∃ (i : Nat) (h : i < s.es.length), c = ⟨0, i, 0, s.es[i]⟩) ∨
  (c.k = 1 ∧ c.n ≤ s.n ∧ c.t ≤ s.t ∧ (c.t = s.t → c.n = s.n)) ∨
  (∃ (n : Int) (k : Txt), c = ⟨2, n, 0, k⟩ ∧ n ≤ s.es.length ∧ ∀ (i : Nat) (h : i < s.es.length), (i : Int) < n → keyT s.es[i] ≠ k)
structure Hon (s : BS) (q : List Sd) : Prop where
  ent : ∀ t ∈ s.es, (key t).isSome = true ∧ t.length ≤ 20000
  last : s.n ≤ s.es.length
  all : ∀ e ∈ q, e.1 = s.k → ∃ c, okB c = true ∧ e.2 = textC c
  tru : ∀ c, okB c = true → (s.k, textC c) ∈ q → TrueC s c
  siz : ∀ c d, okB c = true → okB d = true → (s.k, textC c) ∈ q → (s.k, textC d) ∈ q → c.k = 1 → d.k = 1 → (c.t = d.t → c.n = d.n) ∧ (c.t < d.t → c.n ≤ d.n)
theorem textC_inj {a b : C} (ha : okB a = true) (hb : okB b = true) (h : textC a = textC b) : a = b :=
  (textC_pf (r := []) (s := []) (ok_dom ha) (ok_dom hb) (by rw [h])).1
theorem key_of {t : Txt} (h : (key t).isSome = true) : key t = some (keyT t) := by
  obtain ⟨k, hk⟩ := Option.isSome_iff_exists.1 h
  rw [keyT_of hk]; exact hk
theorem Hon.start (key : Int) : Hon ⟨key, [], 0, -1⟩ [] := ⟨by simp, by simp, by simp, by simp, by simp⟩
/-- Nothing that was signed contradicts anything else that was. -/
theorem Hon.contra {s : BS} {q : List Sd} (h : Hon s q) {c d : C} (hc : okB c = true) (hd : okB d = true) (hcq : (s.k, textC c) ∈ q) (hdq : (s.k, textC d) ∈ q) : contra c d = false := by
  cases hx : Go.Proofs.YtailbappdfbjoaaDoor.contra c d with
  | false => rfl
  | true =>
    exfalso
    have hkinds := contra_kinds hx
    have hu : (okB c && okB d && (if c.k = d.k then alike c d else den c d || den d c)) = true := hx
    rw [hc, hd] at hu
    simp only [Bool.and_self, Bool.true_and] at hu
    have tc := h.tru c hc hcq
    have td := h.tru d hd hdq
    have absent_entry : ∀ (a b : C), TrueC s a → TrueC s b → a.k = 2 → b.k = 0 → den a b = true → False := by
      intro a b ta tb ha hb hden
      rcases ta with ⟨i, hi, rfl⟩ | ⟨h1, _⟩ | ⟨n, k, rfl, hn, hk⟩
      · exact absurd ha (show ¬ ((0 : Int) = 2) by decide)
      · rw [ha] at h1; exact absurd h1 (by decide)
      · rcases tb with ⟨i, hi, rfl⟩ | ⟨h1, _⟩ | ⟨n', k', rfl, _⟩
        · unfold den at hden
          simp only [Bool.and_eq_true, decide_eq_true_eq] at hden
          obtain ⟨⟨_, h2⟩, h3⟩ := hden
          have h4 := key_of (h.ent _ (List.getElem_mem hi)).1
          rw [h4] at h3
          exact hk i hi h2 (Option.some.inj h3)
        · rw [hb] at h1; exact absurd h1 (by decide)
        · exact absurd hb (show ¬ ((2 : Int) = 0) by decide)
    rcases hkinds with ⟨he, hne⟩ | ⟨h0, h2⟩ | ⟨h2, h0⟩
    · rw [if_pos he] at hu
      rcases tc with ⟨i, hi, rfl⟩ | ⟨h1, _⟩ | ⟨n, k, rfl, _⟩
      · rcases td with ⟨j, hj, rfl⟩ | ⟨h1, _⟩ | ⟨n, k, rfl, _⟩
        · unfold alike at hu
          simp only [if_true, decide_eq_true_eq] at hu
          have : i = j := by have := hu.1; omega
          subst this
          exact hu.2 rfl
        · rw [h1] at he; exact absurd he (show ¬ ((0 : Int) = 1) by decide)
        · exact absurd he (show ¬ ((0 : Int) = 2) by decide)
      · have hd1 : d.k = 1 := by rw [← he]; exact h1
        have s1 := h.siz c d hc hd hcq hdq h1 hd1
        have s2 := h.siz d c hd hc hdq hcq hd1 h1
        unfold alike szs at hu
        rw [if_neg (by rw [h1]; decide), if_pos h1] at hu
        simp only [Bool.or_eq_true, decide_eq_true_eq] at hu
        rcases hu with (⟨e, ne⟩ | ⟨l, g⟩) | ⟨l, g⟩
        · exact ne (s1.1 e)
        · have := s1.2 l; omega
        · have := s2.2 l; omega
      · exact hne rfl
    · rw [if_neg (by rw [h0, h2]; decide)] at hu
      rw [Bool.or_eq_true] at hu
      rcases hu with hu | hu
      · unfold den at hu
        simp only [Bool.and_eq_true, decide_eq_true_eq] at hu
        rw [h0] at hu
        exact absurd hu.1.1.1 (by decide)
      · exact absent_entry d c td tc h2 h0 hu
    · rw [if_neg (by rw [h0, h2]; decide)] at hu
      rw [Bool.or_eq_true] at hu
      rcases hu with hu | hu
      · exact absent_entry c d tc td h2 h0 hu
      · unfold den at hu
        simp only [Bool.and_eq_true, decide_eq_true_eq] at hu
        rw [h0] at hu
        exact absurd hu.1.1.1 (by decide)
theorem mem_signL {q : List Sd} {e x : Sd} (h : x ∈ signL q e) : x ∈ q ∨ x = e := by
  unfold signL at h
  split at h
  · exact mem_addL.1 h
  · exact .inl h
theorem Hon.other {s : BS} {q : List Sd} (h : Hon s q) (e : Sd) (he : e.1 ≠ s.k) : Hon s (signL q e) := by
  have hm : ∀ x, x ∈ signL q e → x.1 = s.k → x ∈ q := fun x hx hk => by
    rcases mem_signL hx with h1 | rfl
    · exact h1
    · exact absurd hk he
  exact ⟨h.ent, h.last, fun x hx hk => h.all x (hm x hx hk) hk, fun c hc hx => h.tru c hc (hm _ hx rfl), fun c d hc hd hx hy => h.siz c d hc hd (hm _ hx rfl) (hm _ hy rfl)⟩
theorem Hon.add {s : BS} {q : List Sd} (h : Hon s q) (c : C) (hc : okB c = true) (ht : TrueC s c)
    (hs : c.k = 1 → ∀ d, okB d = true → (s.k, textC d) ∈ q → d.k = 1 → ((c.t = d.t → c.n = d.n) ∧ (c.t < d.t → c.n ≤ d.n)) ∧ ((d.t = c.t → d.n = c.n) ∧ (d.t < c.t → d.n ≤ c.n))) : Hon s (signL q (s.k, textC c)) := by
  have hm : ∀ d, okB d = true → (s.k, textC d) ∈ signL q (s.k, textC c) → (s.k, textC d) ∈ q ∨ d = c := fun d hd hx => by
    rcases mem_signL hx with h1 | h1
    · exact .inl h1
    · exact .inr (textC_inj hd hc (congrArg Prod.snd h1))
  refine ⟨h.ent, h.last, fun x hx hk => ?_, fun d hd hx => ?_, fun d e hd he hx hy hdk hek => ?_⟩
  · rcases mem_signL hx with h1 | rfl
    · exact h.all x h1 hk
    · exact ⟨c, hc, rfl⟩
  · rcases hm d hd hx with h1 | rfl
    · exact h.tru d hd h1
    · exact ht
  · rcases hm d hd hx with h1 | rfl
    · rcases hm e he hy with h2 | rfl
      · exact h.siz d e hd he h1 h2 hdk hek
      · exact (hs hek d hd h1 hdk).2
    · rcases hm e he hy with h2 | rfl
      · exact (hs hdk e he h2 hek).1
      · exact ⟨fun _ => rfl, fun hlt => absurd hlt (by omega)⟩
theorem TrueC.push {s : BS} {c : C} (h : TrueC s c) (t : Txt) : TrueC { s with es := s.es ++ [t] } c := by
  rcases h with ⟨i, hi, rfl⟩ | h | ⟨n, k, rfl, hn, hk⟩
  · have hi2 : i < (s.es ++ [t]).length := by rw [List.length_append]; omega
    refine .inl ⟨i, hi2, ?_⟩
    show _ = C.mk 0 i 0 ((s.es ++ [t])[i]'hi2)
    rw [List.getElem_append_left hi]
  · exact .inr (.inl h)
  · refine .inr (.inr ⟨n, k, rfl, ?_, fun i hi hlt => ?_⟩)
    · show n ≤ ((s.es ++ [t]).length : Int)
      rw [List.length_append]; omega
    · have hil : i < s.es.length := by omega
      show keyT (s.es ++ [t])[i] ≠ k
      rw [List.getElem_append_left hil]
      exact hk i hil hlt
theorem Hon.push {s : BS} {q : List Sd} (h : Hon s q) (t : Txt) (ht : apB t = true) : Hon { s with es := s.es ++ [t] } q := by
  unfold apB at ht
  rw [Bool.and_eq_true] at ht
  refine ⟨fun u hu => ?_, ?_, h.all, fun c hc hx => (h.tru c hc hx).push t, h.siz⟩
  · rcases List.mem_append.1 hu with hu | hu
    · exact h.ent u hu
    · rw [List.mem_singleton.1 hu]; exact ⟨ht.1, of_decide_eq_true ht.2⟩
  · show s.n ≤ ((s.es ++ [t]).length : Int)
    have := h.last
    rw [List.length_append]; omega
theorem Hon.told {s : BS} {q : List Sd} (h : Hon s q) (now : Int) (h1 : ¬ (now < s.t ∨ (now = s.t ∧ (s.es.length : Int) ≠ s.n))) : Hon { s with n := s.es.length, t := now } q := by
  refine ⟨h.ent, Int.le_refl _, h.all, fun c hc hx => ?_, h.siz⟩
  rcases h.tru c hc hx with h2 | ⟨hk, hn, ht, he⟩ | h2
  · exact .inl h2
  · refine .inr (.inl ⟨hk, ?_, ?_, ?_⟩)
    · show c.n ≤ (s.es.length : Int)
      have := h.last; omega
    · show c.t ≤ now
      omega
    · intro e
      show c.n = (s.es.length : Int)
      have e : c.t = now := e
      have := he (by omega)
      omega
  · exact .inr (.inr h2)
theorem txtO_at {s : BS} {i : Int} {t : Txt} (h : txtO s i = some t) : ∃ (j : Nat) (hj : j < s.es.length), i = j ∧ s.es[j] = t := by
  obtain ⟨h0, h1, h2⟩ := txtO_yes h
  exact ⟨i.toNat, h1, by omega, h2⟩
theorem Hon.entry {s : BS} {q : List Sd} (h : Hon s q) (hlen : s.es.length ≤ 1000) (i : Int) : Hon s (qO q (enO s i)) := by
  cases ho : txtO s i with
  | none => rw [(enO_none ho).1]; exact h
  | some t =>
    rw [(enO_some ho).1]
    obtain ⟨j, hj, rfl, rfl⟩ := txtO_at ho
    have hb := h.ent _ (List.getElem_mem hj)
    have hok : okB ⟨0, j, 0, s.es[j]⟩ = true := (okB_iff _).2 ⟨Int.natCast_nonneg _, by show (j : Int) ≤ 199999; omega, by show (0 : Int) ≤ 0; omega, by show (0 : Int) ≤ 0; omega, by show (s.es[j].length : Int) ≤ 20000; omega, .inr hb.1⟩
    show Hon s (signL q (s.k, textR ⟨0, j, 0, s.es[j]⟩))
    unfold textR
    rw [if_pos hok]
    exact h.add _ hok (.inl ⟨j, hj, rfl⟩) (fun hk => absurd hk (show ¬ ((0 : Int) = 1) by decide))
theorem Hon.absent {s : BS} {q : List Sd} (h : Hon s q) (hlen : s.es.length ≤ 1000) (k : Txt) (n : Int) : Hon s (qO q (abO s k n)) := by
  by_cases hx : n < 0 ∨ (s.es.length : Int) < n ∨ 20000 < k.length
  · rw [(ab_arg hx).2]; exact h
  · have key : (∀ (i : Nat) (hi : i < s.es.length), (i : Int) < n → keyT s.es[i] ≠ k) → abO s k n = some (s.k, textR ⟨2, n, 0, k⟩) → Hon s (qO q (abO s k n)) := by
      intro hno he
      rw [he]
      have hok : okB ⟨2, n, 0, k⟩ = true := (okB_iff _).2 ⟨by show 0 ≤ n; omega, by show n ≤ 200000; omega, by show (0 : Int) ≤ 0; omega, by show (0 : Int) ≤ 0; omega, by show (k.length : Int) ≤ 20000; omega, .inl (by show (2 : Int) ≠ 0; decide)⟩
      show Hon s (signL q (s.k, textR ⟨2, n, 0, k⟩))
      unfold textR
      rw [if_pos hok]
      exact h.add _ hok (.inr (.inr ⟨n, k, rfl, by omega, hno⟩)) (fun hk => absurd hk (show ¬ ((2 : Int) = 1) by decide))
    cases hp : pm 0 (ks s.es) k with
    | none =>
      refine key (fun i hi _ e => pm_none.1 hp ?_) (ab_none hx hp).2
      exact List.mem_of_getElem? (i := i) (by rw [ks_get hi, e])
    | some j =>
      by_cases hj : (j : Int) < n
      · rw [(ab_there hx hp hj).2]; exact h
      · refine key (fun i hi hlt e => pm_before hp ?_) (ab_later hx hp hj).2
        exact List.mem_of_getElem? (i := i) (by rw [List.getElem?_take, if_pos (by omega), ks_get hi, e])
theorem Hon.head {s : BS} {q : List Sd} (h : Hon s q) (hlen : s.es.length ≤ 1000) (now : Int) : Hon (hdS s now) (qO q (hdO s now)) := by
  by_cases hx : now < 0 ∨ 1073741824 < now
  · obtain ⟨_, h2, h3⟩ := hd_arg (s := s) hx
    rw [h2, h3]; exact h
  · by_cases h2 : now < s.t ∨ (now = s.t ∧ (s.es.length : Int) ≠ s.n)
    · obtain ⟨_, h4, h5⟩ := hd_state hx h2
      rw [h4, h5]; exact h
    · obtain ⟨_, h4, h5⟩ := hd_ok hx h2
      rw [h4, h5]
      have hok : okB ⟨1, s.es.length, now, []⟩ = true := (okB_iff _).2 ⟨Int.natCast_nonneg _, by show (s.es.length : Int) ≤ 200000; omega, by show 0 ≤ now; omega, by show now ≤ 1073741824; omega, by show (0 : Int) ≤ 0; omega, .inl (by show (1 : Int) ≠ 0; decide)⟩
      show Hon { s with n := s.es.length, t := now } (signL q (s.k, textR ⟨1, s.es.length, now, []⟩))
      unfold textR
      rw [if_pos hok]
      have hT := h.told now h2
      refine Hon.add hT ⟨1, s.es.length, now, []⟩ hok (.inr (.inl ⟨rfl, Int.le_refl _, Int.le_refl _, fun _ => rfl⟩)) fun _ d hd hdq hdk => ?_
      rcases hT.tru d hd hdq with ⟨i, hi, rfl⟩ | ⟨_, hn, ht, he⟩ | ⟨n', k', rfl, _⟩
      · exact absurd hdk (show ¬ ((0 : Int) = 1) by decide)
      · have hn : d.n ≤ (s.es.length : Int) := hn
        have ht : d.t ≤ now := ht
        have he : d.t = now → d.n = (s.es.length : Int) := he
        refine ⟨⟨fun e => ?_, fun hlt => ?_⟩, ⟨fun e => he e, fun _ => hn⟩⟩
        · have e : now = d.t := e
          exact (he e.symm).symm
        · have hlt : now < d.t := hlt
          omega
      · exact absurd hdk (show ¬ ((2 : Int) = 1) by decide)
theorem Hon.step {s : BS} {q : List Sd} (h : Hon s q) (hlen : s.es.length ≤ 1000) (o : Op3) : Hon (opB s o) (qO q (opO s o)) := by
  unfold opB opO
  by_cases h0 : o.1 = 0
  · rw [if_pos h0, if_pos h0]
    show Hon (apS s o.2.2) q
    unfold apS
    split
    · next ha => exact h.push _ ha
    · exact h
  · rw [if_neg h0, if_neg h0]
    by_cases h1 : o.1 = 1
    · rw [if_pos h1, if_neg (by omega)]
      exact h.entry hlen _
    · rw [if_neg h1]
      by_cases h2 : o.1 = 2
      · rw [if_pos h2, if_pos h2]
        exact h.head hlen _
      · rw [if_neg h2, if_neg h2]
        by_cases h3 : o.1 = 3
        · rw [if_pos h3]
          exact h.absent hlen _ _
        · rw [if_neg h3]
          by_cases h4 : o.2.1 = s.k
          · rw [if_pos h4]; exact h
          · rw [if_neg h4]; exact h.other _ h4
theorem st_hon (key : Int) (l : List Op3) (k : Nat) (hk : k ≤ l.length) (h1 : l.length ≤ 1000) : Hon (st key l k).1 (st key l k).2 := by
  induction k with
  | zero => exact Hon.start key
  | succ k ih =>
    rw [st_succ key l k (by omega)]
    exact (ih (by omega)).step (by have := (st_ok key l k).len; omega) _
/-- What an operation of the book itself signs, if it makes no error. -/
theorem op_good (s : BS) (o : Op3) (h1 : 1 ≤ o.1) (h3 : o.1 ≤ 3) (he : opE s o = 0) : ∃ t, opO s o = some (s.k, t) := by
  unfold opE at he
  unfold opO
  rw [if_neg (show ¬ o.1 = 0 by omega)] at he ⊢
  by_cases e1 : o.1 = 1
  · rw [if_pos e1] at he ⊢
    cases ho : txtO s o.2.1 with
    | none => rw [(enO_none ho).2] at he; exact absurd he (by decide)
    | some t => exact ⟨_, (enO_some ho).1⟩
  · rw [if_neg e1] at he ⊢
    by_cases e2 : o.1 = 2
    · rw [if_pos e2] at he ⊢
      unfold hdO; rw [if_pos he]; exact ⟨_, rfl⟩
    · rw [if_neg e2] at he ⊢
      have e3 : o.1 = 3 := by omega
      rw [if_pos e3] at he ⊢
      unfold abO; rw [if_pos he]; exact ⟨_, rfl⟩
theorem op_valid {s : BS} {q : List Sd} (hk : IsKey s.k) (o : Op3) (h1 : 1 ≤ o.1) (h3 : o.1 ≤ 3) (he : opE s o = 0) : (sgO q (opO s o)).1 = s.k ∧ holds (qO q (opO s o)) (sgO q (opO s o)) = true := by
  obtain ⟨t, ht⟩ := op_good s o h1 h3 he
  rw [ht]
  refine ⟨?_, ?_⟩
  · show (signR q (s.k, t)).1 = s.k
    unfold signR; rw [if_pos (by exact hk)]
  · have := holds_sign (q := q) (e := (s.k, t)) hk []
    rw [List.append_nil] at this
    exact this
end Go.Proofs.YtailbappdfbjoaaDoor
