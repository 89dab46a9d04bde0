/-
  View: plain mathematics of the laws' lists.
-/
import Derived.Test.YthppefkamklakaaDoorVnr
namespace Go.Proofs.YthppefkamklakaaDoor
open Go.RowKit Go.MapKept Go.Maps Go.WideMaps

/-- What has been accepted of the first n of a list. -/
noncomputable def lv (q : List Sd) (k : Int) (ss : List Sg) (n : Nat) : List Sg := (ss.take n).foldl (acl q k) []
theorem lv_zero (q : List Sd) (k : Int) (ss : List Sg) : lv q k ss 0 = [] := rfl
theorem lv_succ (q : List Sd) (k : Int) {ss : List Sg} {n : Nat} (h : n < ss.length) : lv q k ss (n + 1) = acl q k (lv q k ss n) ss[n] := by
  unfold lv
  rw [List.take_succ_eq_append_getElem h, List.foldl_append]; rfl
theorem lv_ok {q : List Sd} (k : Int) (hq : q.Nodup) (ss : List Sg) : ∀ n, n ≤ ss.length → LOk q k (lv q k ss n) ∧ (lv q k ss n).length ≤ n := by
  intro n
  induction n with
  | zero => intro _; exact ⟨LOk.nil _ _, Nat.le_refl _⟩
  | succ n ih =>
    intro h
    obtain ⟨h1, h2⟩ := ih (by omega)
    rw [lv_succ q k (by omega)]
    have := h1.acl hq ss[n]
    exact ⟨this.1, by omega⟩
theorem sl_bounds {l : List Sy} (hf : FewY l) : ∀ s ∈ sl l, (0 ≤ s.1 ∧ s.1 ≤ 1000000001) ∧ s.2.1.length ≤ 1000000001 ∧ (0 ≤ s.2.2 ∧ s.2.2 ≤ 1000000001) := by
  intro s hs
  unfold sl at hs
  obtain ⟨x, hx, rfl⟩ := List.mem_map.1 hs
  have hw := wo_len (hf.2 x hx).1
  have hb : (0 ≤ (zz (l.map sdOf) (sdOf x)).1 ∧ (zz (l.map sdOf) (sdOf x)).1 ≤ 1000000000) ∧ (zz (l.map sdOf) (sdOf x)).2.1.length ≤ 1000000000 ∧ (0 ≤ (zz (l.map sdOf) (sdOf x)).2.2 ∧ (zz (l.map sdOf) (sdOf x)).2.2 ≤ 1000000000) := by
    unfold zz
    split
    · rename_i h
      have h1 := h.1
      have h2 := h.2
      have h3 := px_le (l.map sdOf) (sdOf x)
      rw [List.length_map] at h3
      have h4 := hf.1
      unfold sgOf
      simp only
      refine ⟨⟨h1, by omega⟩, ?_, by omega, by omega⟩
      show (wo x).length ≤ _
      omega
    · simp
  generalize zz (l.map sdOf) (sdOf x) = z at *
  obtain ⟨a, t, m⟩ := z
  simp only at hb
  unfold tn
  repeat' split
  all_goals simp only [List.length_append, List.length_cons, List.length_nil]; omega
theorem sl_gok {l : List Sy} (hf : FewY l) {s : Sg} (hs : s ∈ sl l) : GOk s := by
  have := sl_bounds hf s hs
  refine ⟨⟨by omega, by omega⟩, by omega, ⟨by omega, by omega⟩⟩
theorem sl_len (l : List Sy) : (sl l).length = l.length := by unfold sl; rw [List.length_map]
theorem qs_nd (l : List Sy) : (qs l).Nodup := SL_nodup _
theorem qs_len (l : List Sy) : (qs l).length ≤ l.length := by have := SL_len (l.map sdOf); rw [List.length_map] at this; exact this

def rdF' (o : Option C) : Int := if o.isSome then 0 else 2
theorem rdF'_some (c : C) : rdF' (some c) = 0 := rfl
theorem readV_eq (o : Option C) : readV o = .tuple #[.agg #[.int .i64 (o.getD zeroC).k, .int .i64 (o.getD zeroC).n, .int .i64 (o.getD zeroC).t, .string (S (o.getD zeroC).s)], .int .i64 (rdF' o)] := by
  cases o <;> rfl
theorem clV_eq (o : Option Sg) : clV o = .tuple #[.agg #[.int .i64 (o.getD (0, [], 0)).1, .string (S (o.getD (0, [], 0)).2.1), .int .i64 (o.getD (0, [], 0)).2.2], .bool o.isSome] := by
  cases o <;> rfl
/-- A claim of a log, signed by the key. -/
noncomputable def mnB (q : List Sd) (k : Int) (s : Sg) : Bool := holds q s && decide (s.1 = k) && (match readC s.2.1 with | none => false | some c => decide (c.k ≤ 2))
section
variable {q : List Sd} {k : Int} {l : List Sg} {s : Sg}
theorem clR_some {x : Sg} (h : clR l s = some x) : x ∈ l ∧ ∃ c, readC s.2.1 = some c ∧ contra (clm x.2.1) c = true := by
  unfold clR at h
  cases hr : readC s.2.1 with
  | none => rw [hr] at h; exact absurd h (by simp)
  | some c =>
    rw [hr] at h
    simp only at h
    unfold clO at h
    exact ⟨List.mem_of_find?_eq_some h, c, rfl, by simpa using List.find?_some h⟩
theorem mn_yes (h : LOk q k l) (hq : q.Nodup) (hm : mnB q k s = true) : (aE q k l s = 0 ∧ clR l s = none) ∨ (aE q k l s = 21 ∧ acl q k l s = l ∧ ∃ x, clR l s = some x) := by
  unfold mnB at hm
  simp only [Bool.and_eq_true, decide_eq_true_eq] at hm
  obtain ⟨⟨h1, h2⟩, h3⟩ := hm
  cases hr : readC s.2.1 with
  | none => rw [hr] at h3; exact absurd h3 (by simp)
  | some c =>
    rw [hr] at h3
    have h4 : c.k ≤ 2 := by simpa using h3
    have hcl := readC_clm hr
    cases hb : (l.any fun a => contra (clm a.2.1) c) with
    | false =>
      refine .inl ⟨(aE_zero h hq s).2 ⟨h1, h2, ⟨c, hr, h4⟩, fun a ha => ?_⟩, ?_⟩
      · rw [hcl]
        rw [List.any_eq_false] at hb
        simpa using hb a ha
      · unfold clR; rw [hr]; exact clO_none hb
    | true =>
      have he := aE_split h hq h1 h2 hr h4 hb
      refine .inr ⟨he, acl_bad h hq (fun hg => ?_), ?_⟩
      · rw [(aE_zero h hq s).2 hg] at he; exact absurd he (by decide)
      · unfold clR; rw [hr]
        cases ho : clO l c with
        | some x => exact ⟨x, ho⟩
        | none =>
          unfold clO at ho
          rw [List.find?_eq_none] at ho
          obtain ⟨a, ha, hc⟩ := List.any_eq_true.1 hb
          exact absurd hc (ho a ha)
theorem mn_no (h : LOk q k l) (hq : q.Nodup) (hm : mnB q k s = false) : aE q k l s ≠ 0 ∧ aE q k l s ≠ 21 ∧ acl q k l s = l := by
  have hg : ¬ Good q k l s := fun ⟨h1, h2, ⟨c, h3, h4⟩, _⟩ => by
    unfold mnB at hm
    rw [h1, decide_eq_true h2, h3] at hm
    simp only [Bool.true_and, decide_eq_false_iff_not] at hm
    exact hm h4
  refine ⟨fun e => hg ((aE_zero h hq s).1 e), ?_, acl_bad h hq hg⟩
  unfold mnB at hm
  unfold aE accE
  cases hh : holds q s with
  | false => simp
  | true =>
    rw [hh] at hm
    by_cases hk : s.1 = k
    · cases hr : readC s.2.1 with
      | none => simp [hk]
      | some c =>
        rw [hr, decide_eq_true hk] at hm
        have h4 : ¬ c.k ≤ 2 := by simpa using hm
        simp [hk, h4]
    · simp [hk]
end
end Go.Proofs.YthppefkamklakaaDoor
