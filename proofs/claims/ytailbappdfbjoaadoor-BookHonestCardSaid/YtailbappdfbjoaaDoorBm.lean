/-
  The state after the first operations of a list; what the laws' loops want.
-/
import Derived.Test.YtailbappdfbjoaaDoorBl
namespace Go.Proofs.YtailbappdfbjoaaDoor
open Go.RowKit Go.MapKept Go.Maps Go.WideMaps

noncomputable def stepS (p : BS × List Sd) (o : Op3) : BS × List Sd := (opB p.1 o, qO p.2 (opO p.1 o))
noncomputable def runS (p : BS × List Sd) (l : List Op3) : BS × List Sd := l.foldl stepS p
theorem runS_take (p : BS × List Sd) (l : List Op3) (k : Nat) (h : k < l.length) : runS p (l.take (k + 1)) = stepS (runS p (l.take k)) l[k] := by
  unfold runS
  rw [List.take_succ_eq_append_getElem h, List.foldl_append]; rfl
theorem opB_key (s : BS) (o : Op3) : (opB s o).k = s.k := by
  unfold opB
  split
  · unfold apS; split <;> rfl
  · split
    · unfold hdS; split <;> rfl
    · rfl
theorem opB_es (s : BS) (o : Op3) : (opB s o).es = s.es ∨ (apB o.2.2 = true ∧ (opB s o).es = s.es ++ [o.2.2]) := by
  unfold opB
  split
  · unfold apS
    split
    · next h => exact .inr ⟨h, rfl⟩
    · exact .inl rfl
  · split
    · unfold hdS; split <;> exact .inl rfl
    · exact .inl rfl
theorem qO_len (q : List Sd) (x : Option Sd) : (qO q x).length ≤ q.length + 1 := by
  unfold qO
  split
  · omega
  · exact signL_len _ _
/-- What holds of the state after k operations. -/
structure StOk (key : Int) (k : Nat) (p : BS × List Sd) : Prop where
  key : p.1.k = key
  len : p.1.es.length ≤ k
  txt : ∀ t ∈ p.1.es, t.length ≤ 20000
  ring : p.2.length ≤ k
theorem StOk.step {key : Int} {k : Nat} {p : BS × List Sd} (h : StOk key k p) (o : Op3) : StOk key (k + 1) (stepS p o) := by
  refine ⟨(opB_key _ _).trans h.key, ?_, ?_, Nat.le_trans (qO_len _ _) (Nat.succ_le_succ h.ring)⟩
  · show (opB p.1 o).es.length ≤ k + 1
    rcases opB_es p.1 o with e | ⟨_, e⟩ <;> rw [e]
    · have := h.len; omega
    · rw [List.length_append]; have := h.len; simp; omega
  · show ∀ t ∈ (opB p.1 o).es, t.length ≤ 20000
    rcases opB_es p.1 o with e | ⟨ha, e⟩ <;> rw [e]
    · exact h.txt
    · intro t ht
      rcases List.mem_append.1 ht with ht | ht
      · exact h.txt t ht
      · rw [List.mem_singleton.1 ht]
        unfold apB at ha
        rw [Bool.and_eq_true] at ha
        exact of_decide_eq_true ha.2
theorem StOk.run {key : Int} {n : Nat} {p : BS × List Sd} (h : StOk key n p) (l : List Op3) : StOk key (n + l.length) (runS p l) := by
  induction l generalizing n p with
  | nil => exact h
  | cons o l ih =>
    have := ih (h.step o)
    rw [List.length_cons]
    rw [show n + (l.length + 1) = n + 1 + l.length by omega]
    exact this
theorem StOk.start (key : Int) : StOk key 0 (⟨key, [], 0, -1⟩, []) := ⟨rfl, Nat.le_refl _, by simp, Nat.le_refl _⟩
theorem StOk.ok {key : Int} {k : Nat} {p : BS × List Sd} (h : StOk key k p) (hk : k ≤ 1000) : p.1.ok := ⟨Nat.le_trans h.len hk, h.txt⟩
noncomputable def st (key : Int) (l : List Op3) (k : Nat) : BS × List Sd := runS (⟨key, [], 0, -1⟩, []) (l.take k)
theorem st_zero (key : Int) (l : List Op3) : st key l 0 = (⟨key, [], 0, -1⟩, []) := rfl
theorem st_succ (key : Int) (l : List Op3) (k : Nat) (h : k < l.length) : st key l (k + 1) = stepS (st key l k) l[k] := runS_take _ l k h
theorem st_ok (key : Int) (l : List Op3) (k : Nat) : StOk key k (st key l k) := by
  have h := (StOk.start key).run (l.take k)
  rw [Nat.zero_add] at h
  have hl : (l.take k).length ≤ k := by rw [List.length_take]; omega
  exact ⟨h.key, Nat.le_trans h.len hl, h.txt, Nat.le_trans h.ring hl⟩

/-! ### The steps of the laws -/
theorem do_key {W w : World} {B R : Nat} {s : BS} {q : List Sd} {U : Thing} (h : Has W w ((BookT B R s q).sep U)) (hT : Tab W) (hs : s.ok) (hq : q.length ≤ 1000000) (o : Op3) (ho : o.ok) (key : Int) (hk : s.k = key) :
    Calls Tryd.prog 13 #[.pointer (some ⟨B, 0, none⟩), .pointer (some ⟨R, 0, none⟩), .int .i64 key, .agg #[.int .i64 o.1, .int .i64 o.2.1, .string (S o.2.2)]] w fun e w' => e = .returned (.tuple #[sgV (sgO q (opO s o)), .int .i64 (opN s o), .int .i64 (opE s o)]) ∧ Has W w' ((BookT B R (opB s o) (qO q (opO s o))).sep U) := by
  subst hk
  exact do_any h hT hs hq o ho
theorem txtV_form (x : Option Txt) : ∃ (z : Txt) (b : Bool), txtV x = .tuple #[.string (S z), .bool b] := by
  cases x with
  | none => exact ⟨[], false, rfl⟩
  | some t => exact ⟨t, true, rfl⟩
theorem Has.ball {W w : World} {B R : Nat} {s : BS} {q : List Sd} {U : Thing} (h : Has W w ((BookT B R s q).sep U)) (hq : q.length ≤ 1000000) :
    Calls Tryd.prog 19 #[.pointer (some ⟨R, 0, none⟩)] w (CloneP q w) := by
  obtain ⟨M, ev, m, hb⟩ := h.bopen
  exact Has.all hb hq
theorem Has.rball {W w : World} {B R : Nat} {s : BS} {q : List Sd} {U : Thing} (h : Has W w ((RBookT B R s q).sep U)) (hq : q.length ≤ 1000000) :
    Calls Tryd.prog 20 #[.pointer (some ⟨R, 0, none⟩)] w (CloneP q w) := by
  obtain ⟨ev, hb⟩ := h.ropen
  exact Has.rall hb hq
theorem rb_len {W w : World} {B R : Nat} {s : BS} {q : List Sd} {U : Thing} (h : Has W w ((RBookT B R s q).sep U)) : ∃ a c, w.cell? ⟨B, 2, none⟩ = some (.slice a s.es.length c) := by
  obtain ⟨ev, hb⟩ := h.ropen
  obtain ⟨a, c, rfl⟩ := row_form hb.row
  exact ⟨a, c, cellOf hb.heap rfl⟩
end Go.Proofs.YtailbappdfbjoaaDoor
