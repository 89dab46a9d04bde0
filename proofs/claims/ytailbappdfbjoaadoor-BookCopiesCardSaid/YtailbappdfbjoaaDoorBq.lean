/-
  What BookSays wants.
-/
import Derived.Test.YtailbappdfbjoaaDoorBm
namespace Go.Proofs.YtailbappdfbjoaaDoor
open Go.RowKit Go.MapKept Go.Maps Go.WideMaps

/-! ### A slice of strings -/
def SAt (w : World) (b o : Nat) (l : List Txt) : Prop := ∀ (i : Nat) (h : i < l.length), w.cell? ⟨b, o + i, none⟩ = some (.string (S l[i]))
def SSl (w : World) (v : Value) (l : List Txt) : Prop := (l = [] ∧ ∃ a c, v = .slice a 0 c) ∨ ∃ b o c, v = .slice (some ⟨b, o, none⟩) l.length c ∧ SAt w b o l
theorem SSl.len {w : World} {v : Value} {l : List Txt} (h : SSl w v l) : ∃ a c, v = .slice a l.length c := by
  rcases h with ⟨rfl, a, c, rfl⟩ | ⟨b, o, c, rfl, _⟩
  · exact ⟨a, c, rfl⟩
  · exact ⟨_, _, rfl⟩
theorem SSl.get {w : World} {v : Value} {l : List Txt} (h : SSl w v l) (h0 : 0 < l.length) : ∃ b o c, v = .slice (some ⟨b, o, none⟩) l.length c ∧ SAt w b o l := by
  rcases h with ⟨rfl, _⟩ | h
  · exact absurd h0 (by decide)
  · exact h
def SArg (l : List Txt) : Prop := l.length ≤ 9223372036854775807 ∧ ∀ t ∈ l, t.length ≤ 9223372036854775807
/-- The texts with a key, of the first k. -/
noncomputable def kp (l : List Txt) (k : Nat) : List Txt := (l.take k).filter fun t => (key t).isSome
theorem kp_zero (l : List Txt) : kp l 0 = [] := rfl
theorem kp_succ {l : List Txt} {k : Nat} (h : k < l.length) : kp l (k + 1) = if (key l[k]).isSome = true then kp l k ++ [l[k]] else kp l k := by
  unfold kp
  rw [List.take_succ_eq_append_getElem h, List.filter_append]
  by_cases hk : (key l[k]).isSome = true
  · rw [if_pos hk, List.filter_cons_of_pos (by exact hk), List.filter_nil]
  · rw [if_neg hk, List.filter_cons_of_neg (by exact hk), List.filter_nil, List.append_nil]
theorem kp_len (l : List Txt) (k : Nat) : (kp l k).length ≤ k := by
  unfold kp
  refine Nat.le_trans (List.length_filter_le _ _) ?_
  rw [List.length_take]; omega
/-- Texts that were kept. -/
def Kept (E : List Txt) : Prop := E.length ≤ 25 ∧ ∀ t ∈ E, t.length ≤ 300 ∧ (key t).isSome = true
theorem kp_kept {l : List Txt} (hl : l.length ≤ 25) (h : ∀ t ∈ l, t.length ≤ 300) : Kept (kp l l.length) := by
  refine ⟨Nat.le_trans (kp_len _ _) hl, fun t ht => ?_⟩
  unfold kp at ht
  obtain ⟨h1, h2⟩ := List.mem_filter.1 ht
  exact ⟨h t (List.mem_of_mem_take h1), h2⟩
def sE (E : List Txt) : BS := ⟨0, E, 0, -1⟩
theorem Kept.ok {E : List Txt} (h : Kept E) : (sE E).ok := ⟨Nat.le_trans h.1 (by decide), fun t ht => Nat.le_trans (h.2 t ht).1 (by decide)⟩

/-! ### What is said -/
theorem abB_take (E : List Txt) (k : Txt) (n : Nat) : abB (sE E) k n = decide (k ∈ (ks E).take n) := by
  unfold abB
  show (match pm 0 (ks E) k with | some i => decide ((i : Int) < n) | none => false) = _
  cases hp : pm 0 (ks E) k with
  | none =>
    exact (decide_eq_false fun h => pm_none.1 hp (List.mem_of_mem_take h)).symm
  | some i =>
    rw [Bool.eq_iff_iff]
    simp only [decide_eq_true_eq]
    constructor
    · intro h
      have h1 := pm_get hp
      exact List.mem_of_getElem? (i := i) (by rw [List.getElem?_take, if_pos (by omega)]; exact h1)
    · intro h
      rcases Nat.lt_or_ge i n with h1 | h1
      · omega
      · exfalso
        have h2 := pm_before hp
        refine h2 ?_
        have h3 : (ks E).take n = ((ks E).take i).take n := by rw [List.take_take, Nat.min_eq_left h1]
        rw [h3] at h
        exact List.mem_of_mem_take h
theorem ab_says (E : List Txt) (k : Txt) (n : Nat) (hn : n ≤ E.length) (hk : k.length ≤ 300) : abE (sE E) k n = if k ∈ (ks E).take n then 5 else 0 := by
  have hneg : ¬ ((n : Int) < 0 ∨ ((sE E).es.length : Int) < n ∨ 20000 < k.length) := by
    rintro (h | h | h)
    · omega
    · have : ((sE E).es.length : Int) = E.length := rfl
      omega
    · omega
  unfold abE
  rw [if_neg hneg, abB_take]
  by_cases h : k ∈ (ks E).take n <;> simp [h]
theorem signR_key {q : List Sd} {t : Txt} : signR q (0, t) = (0, t, (addN q (0, t) : Int)) := by
  unfold signR; rw [if_pos (by show IsKey 0; decide)]
theorem okAbs {k : Txt} {n : Nat} (hn : n ≤ 25) (hk : k.length ≤ 300) : okB ⟨2, n, 0, k⟩ = true :=
  (okB_iff _).2 ⟨Int.natCast_nonneg _, by show (n : Int) ≤ 200000; omega, by show (0 : Int) ≤ 0; omega, by show (0 : Int) ≤ 0; omega, by show (k.length : Int) ≤ 20000; omega, .inl (by show (2 : Int) ≠ 0; decide)⟩
theorem okEnt {t : Txt} {n : Nat} (hn : n ≤ 25) (ht : t.length ≤ 300) (hk : (key t).isSome = true) : okB ⟨0, n, 0, t⟩ = true :=
  (okB_iff _).2 ⟨Int.natCast_nonneg _, by show (n : Int) ≤ 199999; omega, by show (0 : Int) ≤ 0; omega, by show (0 : Int) ≤ 0; omega, by show (t.length : Int) ≤ 20000; omega, .inr hk⟩
theorem read_says (c : C) (hc : okB c = true) (w : World) :
    Calls Tryd.prog 22 #[.string (S (textR c))] w fun e w' => e = .returned (.tuple #[.agg #[.int .i64 c.k, .int .i64 c.n, .int .i64 c.t, .string (S c.s)], .int .i64 0]) ∧ Fr w w' := by
  refine (read_any (textR c) w (by have := textR_len c; omega)).mono ?_
  rintro e w' ⟨rfl, hf⟩
  refine ⟨?_, hf⟩
  have : readC (textR c) = some c := by unfold textR; rw [if_pos hc]; exact readC_text hc
  rw [this]; rfl
theorem read_empty (w : World) :
    Calls Tryd.prog 22 #[.string ⟨#[]⟩] w fun e w' => e = .returned (.tuple #[.agg #[.int .i64 0, .int .i64 0, .int .i64 0, .string (S [])], .int .i64 2]) ∧ Fr w w' := by
  refine (read_any [] w (by decide)).mono ?_
  rintro e w' ⟨rfl, hf⟩
  refine ⟨?_, hf⟩
  have : readC [] = none := by
    cases h : readC [] with
    | none => rfl
    | some c => exact absurd (readC_some.1 h).2.symm (textC_ne c)
  rw [this]; rfl
theorem absent_there {W w : World} {B R : Nat} {E : List Txt} {q : List Sd} {U : Thing} (h : Has W w ((BookT B R (sE E) q).sep U)) (hT : Tab W) (k : Txt) (n : Nat) (hE : Kept E) (hq : q.length ≤ 1000000) (hn : n ≤ E.length) (hk : k.length ≤ 300) (hm : k ∈ (ks E).take n) :
    Calls Tryd.prog 27 #[.pointer (some ⟨B, 0, none⟩), .string (S k), .int .i64 n] w fun e w' => e = .returned (.tuple #[.agg #[.int .i64 0, .string ⟨#[]⟩, .int .i64 0], .int .i64 5]) ∧ Has W w' ((BookT B R (sE E) q).sep U) := by
  have h1 := babsent h hT k n hE.ok hq
  have h2 := ab_says E k n hn hk
  rw [if_pos hm] at h2
  have h3 : abO (sE E) k n = none := by unfold abO; rw [h2, if_neg (by decide)]
  rw [h2, h3] at h1
  exact h1
theorem absent_not {W w : World} {B R : Nat} {E : List Txt} {q : List Sd} {U : Thing} (h : Has W w ((BookT B R (sE E) q).sep U)) (hT : Tab W) (k : Txt) (n : Nat) (hE : Kept E) (hq : q.length ≤ 1000000) (hn : n ≤ E.length) (hk : k.length ≤ 300) (hm : k ∉ (ks E).take n) :
    Calls Tryd.prog 27 #[.pointer (some ⟨B, 0, none⟩), .string (S k), .int .i64 n] w fun e w' => ∃ (m : Int) (q' : List Sd), e = .returned (.tuple #[.agg #[.int .i64 0, .string (S (textR ⟨2, n, 0, k⟩)), .int .i64 m], .int .i64 0]) ∧ Has W w' ((BookT B R (sE E) q').sep U) ∧ q'.length ≤ q.length + 1 := by
  have h1 := babsent h hT k n hE.ok hq
  have h2 := ab_says E k n hn hk
  rw [if_neg hm] at h2
  have h3 : abO (sE E) k n = some (0, textR ⟨2, n, 0, k⟩) := by unfold abO; rw [h2, if_pos rfl]; rfl
  rw [h2, h3] at h1
  refine h1.mono ?_
  rintro e w' ⟨rfl, h4⟩
  refine ⟨(addN q (0, textR ⟨2, n, 0, k⟩) : Int), _, ?_, h4, qO_len _ _⟩
  show Ending.returned (.tuple #[sgV (signR q (0, textR ⟨2, n, 0, k⟩)), .int .i64 0]) = _
  rw [signR_key]; rfl
theorem entry_says {W w : World} {B R : Nat} {E : List Txt} {q : List Sd} {U : Thing} (h : Has W w ((BookT B R (sE E) q).sep U)) (hT : Tab W) (n : Nat) (hE : Kept E) (hq : q.length ≤ 1000000) (hn : n < E.length) :
    Calls Tryd.prog 28 #[.pointer (some ⟨B, 0, none⟩), .int .i64 n] w fun e w' => ∃ (m : Int) (q' : List Sd), e = .returned (.tuple #[.agg #[.int .i64 0, .string (S (textR ⟨0, n, 0, E[n]⟩)), .int .i64 m], .int .i64 0]) ∧ Has W w' ((BookT B R (sE E) q').sep U) ∧ q'.length ≤ q.length + 1 ∧
      signR q' (0, textR ⟨0, n, 0, E[n]⟩) = (0, textR ⟨0, n, 0, E[n]⟩, m) ∧ signL q' (0, textR ⟨0, n, 0, E[n]⟩) = q' := by
  have h0 : txtO (sE E) n = some E[n] := by
    unfold txtO
    rw [if_pos (Int.natCast_nonneg _), Int.toNat_natCast]
    show E[n]? = _
    rw [List.getElem?_eq_getElem hn]
  obtain ⟨h1, h2⟩ := enO_some h0
  have hl := hE.1
  have h3 := bentry h hT n ⟨by omega, by omega⟩ hE.ok hq
  rw [h1, h2] at h3
  refine h3.mono ?_
  rintro e w' ⟨rfl, h4⟩
  have hk : IsKey ((0, textR ⟨0, n, 0, E[n]⟩) : Sd).1 := by show IsKey 0; decide
  refine ⟨(addN q (0, textR ⟨0, n, 0, E[n]⟩) : Int), _, ?_, h4, qO_len _ _, ?_, signL_old (signL_mem hk)⟩
  · show Ending.returned (.tuple #[sgV (signR q (0, textR ⟨0, n, 0, E[n]⟩)), .int .i64 0]) = _
    rw [signR_key]; rfl
  · have := signR_again (q := q) (e := (0, textR ⟨0, n, 0, E[n]⟩)) []
    rw [List.append_nil] at this
    show signR (signL q (0, textR ⟨0, n, 0, E[n]⟩)) _ = _
    rw [this, signR_key]
theorem entry_again {W w : World} {B R : Nat} {E : List Txt} {q : List Sd} {U : Thing} (h : Has W w ((BookT B R (sE E) q).sep U)) (hT : Tab W) (n : Nat) (hE : Kept E) (hq : q.length ≤ 1000000) (hn : n < E.length) (m : Int)
    (h1 : signR q (0, textR ⟨0, n, 0, E[n]⟩) = (0, textR ⟨0, n, 0, E[n]⟩, m)) (h2 : signL q (0, textR ⟨0, n, 0, E[n]⟩) = q) :
    Calls Tryd.prog 28 #[.pointer (some ⟨B, 0, none⟩), .int .i64 n] w fun e w' => e = .returned (.tuple #[.agg #[.int .i64 0, .string (S (textR ⟨0, n, 0, E[n]⟩)), .int .i64 m], .int .i64 0]) ∧ Has W w' ((BookT B R (sE E) q).sep U) := by
  have h0 : txtO (sE E) n = some E[n] := by
    unfold txtO
    rw [if_pos (Int.natCast_nonneg _), Int.toNat_natCast]
    show E[n]? = _
    rw [List.getElem?_eq_getElem hn]
  obtain ⟨h3, h4⟩ := enO_some h0
  have hl := hE.1
  have h5 := bentry h hT n ⟨by omega, by omega⟩ hE.ok hq
  rw [h3, h4] at h5
  refine h5.mono ?_
  rintro e w' ⟨rfl, h6⟩
  have h7 : qO q (some ((sE E).k, textR ⟨0, n, 0, E[n]⟩)) = q := h2
  rw [h7] at h6
  refine ⟨?_, h6⟩
  show Ending.returned (.tuple #[sgV (signR q (0, textR ⟨0, n, 0, E[n]⟩)), .int .i64 0]) = _
  rw [h1]; rfl
theorem entry_end {W w : World} {B R : Nat} {E : List Txt} {q : List Sd} {U : Thing} (h : Has W w ((BookT B R (sE E) q).sep U)) (hT : Tab W) (hE : Kept E) (hq : q.length ≤ 1000000) :
    Calls Tryd.prog 28 #[.pointer (some ⟨B, 0, none⟩), .int .i64 E.length] w fun e w' => e = .returned (.tuple #[.agg #[.int .i64 0, .string ⟨#[]⟩, .int .i64 0], .int .i64 4]) ∧ Has W w' ((BookT B R (sE E) q).sep U) := by
  have h0 : txtO (sE E) E.length = none := by
    unfold txtO
    rw [if_pos (Int.natCast_nonneg _), Int.toNat_natCast]
    show E[E.length]? = none
    exact List.getElem?_eq_none (Nat.le_refl _)
  obtain ⟨h1, h2⟩ := enO_none h0
  have hl := hE.1
  have h3 := bentry h hT E.length ⟨by omega, by omega⟩ hE.ok hq
  rw [h1, h2] at h3
  exact h3
theorem absent_end {W w : World} {B R : Nat} {E : List Txt} {q : List Sd} {U : Thing} (h : Has W w ((BookT B R (sE E) q).sep U)) (hT : Tab W) (k : Txt) (hE : Kept E) (hq : q.length ≤ 1000000) (n : Int) (hn : n = (E.length : Int) + 1) :
    Calls Tryd.prog 27 #[.pointer (some ⟨B, 0, none⟩), .string (S k), .int .i64 n] w fun e w' => e = .returned (.tuple #[.agg #[.int .i64 0, .string ⟨#[]⟩, .int .i64 0], .int .i64 1]) ∧ Has W w' ((BookT B R (sE E) q).sep U) := by
  have h1 := babsent h hT k n hE.ok hq
  obtain ⟨h2, h3⟩ := ab_arg (s := sE E) (k := k) (n := n) (.inr (.inl (by show (E.length : Int) < n; omega)))
  rw [h2, h3] at h1
  exact h1
theorem text_says {W w : World} {B R : Nat} {E : List Txt} {q : List Sd} {U : Thing} (h : Has W w ((BookT B R (sE E) q).sep U)) (n : Nat) (hE : Kept E) (hn : n < E.length) :
    Calls Tryd.prog 15 #[.pointer (some ⟨B, 0, none⟩), .int .i64 n] w fun e w' => e = .returned (.tuple #[.string (S E[n]), .bool true]) ∧ Fr w w' := by
  have h0 : txtO (sE E) n = some E[n] := by
    unfold txtO
    rw [if_pos (Int.natCast_nonneg _), Int.toNat_natCast]
    show E[n]? = _
    rw [List.getElem?_eq_getElem hn]
  have hl := hE.1
  have h1 := btext h n (by show E.length ≤ _; omega)
  rw [h0] at h1
  exact h1
end Go.Proofs.YtailbappdfbjoaaDoor
