/-
  What the laws' walks share.
-/
import Derived.Test.YtddeblcoglhdnaaLb
import Derived.Test.YtddeblcoglhdnaaLm
namespace Go.Proofs.Ytddeblcoglhdnaa
open Go.RowKit Mb Go.BigFrame

theorem LR.lb {l : List Ft} (h : LR l) (h1 : l.length ≤ 100) (h2 : ∀ f ∈ l, f.keys.length ≤ 20) : LB l :=
  ⟨by omega, fun f hf => ⟨⟨by have := h2 f hf; omega, h.rng f hf⟩, h.nlen f hf⟩⟩
theorem chF_mem {l : List Ft} {n : Txt} {f : Ft} (h : f ∈ chF l n) : f ∈ l := (List.mem_filter.1 h).1
theorem chF_len (l : List Ft) (n : Txt) : (chF l n).length = (chn l n).length := by
  unfold chn; rw [List.length_map]; exact (chF_get l n).1.symm
theorem chn_get (l : List Ft) (n : Txt) (j : Nat) (h : j < (chn l n).length) : ∃ (i : Nat) (hi : i < l.length) (h2 : j < (chF l n).length), (chn l n)[j] = (i : Int) ∧ l[i] = (chF l n)[j] := by
  have h1 : j < (chN l n l.length).length := by unfold chn at h; simpa using h
  have h2 : j < (chF l n).length := by rw [chF_len]; exact h
  obtain ⟨hi, he⟩ := (chF_get l n).2 j h1 h2
  exact ⟨_, hi, h2, by simp [chn], he⟩
theorem LB.ofChain {l : List Ft} (h : LB l) (n : Txt) : LB (chF l n) := ⟨by have := h.len; have := List.length_filter_le (fun f => isO f n) l; unfold chF; omega, fun f hf => h.mem f (chF_mem hf)⟩
theorem chn_len (l : List Ft) (n : Txt) : (chn l n).length ≤ l.length := chI_len l n l.length
theorem ownMem {l : List Ft} {n : Txt} (hl : LB l) {g : Ft} (h : own l n = some g) : FB g := by
  rcases chN_last l n l.length (Nat.le_refl _) with ⟨_, h2⟩ | ⟨p, i, hi, _, h2⟩
  · rw [List.take_length, h] at h2; cases h2
  · rw [List.take_length, h] at h2; cases h2; exact hl.get hi
theorem drop1 (c : List Int) (i : Nat) (hi : i < c.length) : c.take i ++ c.drop (i + 1) ≠ c := by
  intro h
  have := congrArg List.length h
  rw [List.length_append, List.length_take, List.length_drop] at this
  omega
theorem Sl.drop {w : World} {g o n c : Nat} {l : List Int} (h : Sl w (.slice (some ⟨g, o, none⟩) n c) l) (k : Nat) (hk : k ≤ l.length) : Sl w (.slice (if c = k then some ⟨g, o, none⟩ else some ⟨g, o + k, none⟩) (l.length - k) (c - k)) (l.drop k) := by
  rcases h with ⟨rfl, a, c', hv⟩ | ⟨g', o', c', hv, hc, hl⟩
  · have : k = 0 := by simpa using hk
    subst this
    cases hv
    exact .inl ⟨rfl, _, _, rfl⟩
  · cases hv
    by_cases hce : c = k
    · exact .inl ⟨List.drop_eq_nil_of_le (by omega), _, c - k, by rw [show l.length - k = 0 by omega]⟩
    · rw [if_neg hce]
      refine .inr ⟨g, o + k, c - k, by rw [List.length_drop], fun i hi => ?_, by rw [List.length_drop]; omega⟩
      rw [List.length_drop] at hi
      have := hc (k + i) (by omega)
      rw [List.getElem_drop, Nat.add_assoc]
      exact this
theorem more1 (c : List Int) (x : Int) : c ++ [x] ≠ c := by
  intro h
  have := congrArg List.length h
  simp at this
theorem wkX_self (l : List Ft) (n : Txt) : wkX l n (chn l n) = own l n := by unfold wkX; rw [if_pos rfl]
theorem wkE_self (l : List Ft) (n : Txt) : wkE l n (chn l n) = if chn l n = [] then 24 else 0 := by unfold wkE; rw [if_pos rfl]
theorem wk_ne {l : List Ft} {n : Txt} {c : List Int} (h : c ≠ chn l n) : wkX l n c = none ∧ wkE l n c = 19 := by unfold wkX wkE; rw [if_neg h, if_neg h]; exact ⟨rfl, rfl⟩
section
variable {ops : Array Oper} {rest : List Oper} {op : Oper} {a : Act} {w : World} {Q : Exit → Act → World → Prop} {K : Act → World → Prop} {E : Prop}
theorem wpList_build_fact1 (hg : op.guard = none) (x : Operand) (ho : op.op = .buildSlice 22 1 #[(0, x)]) (f : Ft) (hx : a.eval x = f.v) (hok : ∀ g ∈ [f], FtOk w g)
    (h : wpList Try.prog ops Q rest (a.put op.dst (.slice (some ⟨w.heap.size, 0, none⟩) 1 1)) (w.alloc (.cells (fcs [f]).toArray 39))) : wpList Try.prog ops Q (op :: rest) a w :=
  wpList_build_facts hg 1 _ ho [f] rfl (by simp [hx]) hok (by decide) (by decide) h
theorem wpList_build_fact2 (hg : op.guard = none) (x y : Operand) (ho : op.op = .buildSlice 22 2 #[(0, x), (1, y)]) (f g : Ft) (hx : a.eval x = f.v) (hy : a.eval y = g.v) (hok : ∀ h ∈ [f, g], FtOk w h)
    (h : wpList Try.prog ops Q rest (a.put op.dst (.slice (some ⟨w.heap.size, 0, none⟩) 2 2)) (w.alloc (.cells (fcs [f, g]).toArray 39))) : wpList Try.prog ops Q (op :: rest) a w :=
  wpList_build_facts hg 2 _ ho [f, g] rfl (by simp [hx, hy]) hok (by decide) (by decide) h
theorem step_build_fact1 (hg : op.guard = none) (x : Operand) (ho : op.op = .buildSlice 22 1 #[(0, x)]) (f : Ft) (hx : a.eval x = f.v) (hok : ∀ g ∈ [f], FtOk w g)
    (h : K (a.put op.dst (.slice (some ⟨w.heap.size, 0, none⟩) 1 1)) (w.alloc (.cells (fcs [f]).toArray 39))) : if Region.wanted op (yielded ops a.tmps) = true then Oper.wp Try.prog op a w K Q else E :=
  step_build_facts hg 1 _ ho [f] rfl (by simp [hx]) hok (by decide) (by decide) h
theorem step_build_fact2 (hg : op.guard = none) (x y : Operand) (ho : op.op = .buildSlice 22 2 #[(0, x), (1, y)]) (f g : Ft) (hx : a.eval x = f.v) (hy : a.eval y = g.v) (hok : ∀ h ∈ [f, g], FtOk w h)
    (h : K (a.put op.dst (.slice (some ⟨w.heap.size, 0, none⟩) 2 2)) (w.alloc (.cells (fcs [f, g]).toArray 39))) : if Region.wanted op (yielded ops a.tmps) = true then Oper.wp Try.prog op a w K Q else E :=
  step_build_facts hg 2 _ ho [f, g] rfl (by simp [hx, hy]) hok (by decide) (by decide) h
end
def wkS (l : List Ft) (n : Txt) : Int := if chn l n = [] then 24 else 0
theorem WkP_self (l : List Ft) (n : Txt) (w : World) : WkP l n (chn l n) w = fun e w' => ∃ kv, e = .returned (.tuple #[kv, .int .i64 (ndO (own l n)), .int .i64 (wkS l n)]) ∧ Sl w' kv (kyO (own l n)) ∧ Fr w w' := by
  funext e w'
  unfold WkP
  rw [wkX_self, wkE_self]
  rfl
theorem WkP_ne {l : List Ft} {n : Txt} {c : List Int} (h : c ≠ chn l n) (w : World) : WkP l n c w = fun e w' => ∃ kv, e = .returned (.tuple #[kv, .int .i64 0, .int .i64 19]) ∧ Sl w' kv [] ∧ Fr w w' := by
  funext e w'
  unfold WkP
  rw [(wk_ne h).1, (wk_ne h).2]
  rfl
theorem dec_self {α : Type} [DecidableEq α] (a : α) : decide (a = a) = true := decide_eq_true rfl

theorem ss_lit3 {w : World} {v1 v2 v3 : Value} {a b c : List Int} (h1 : Sl w v1 a) (h2 : Sl w v2 b) (h3 : Sl w v3 c) : SsSl (w.alloc (.cells #[v1, v2, v3] 23)) (.slice (some ⟨w.heap.size, 0, none⟩) 3 3) [a, b, c] := by
  have hb := (MapKept.heap_alloc w (.cells #[v1, v2, v3] 23)).1
  refine .inr ⟨_, 0, 3, rfl, fun i hi => ?_, by simp⟩
  rcases i with _ | _ | _ | i
  · exact ⟨_, cellOf hb (i := 0 + 0) rfl, h1.fr (Fr.alloc _ _)⟩
  · exact ⟨_, cellOf hb (i := 0 + 1) rfl, h2.fr (Fr.alloc _ _)⟩
  · exact ⟨_, cellOf hb (i := 0 + 2) rfl, h3.fr (Fr.alloc _ _)⟩
  · simp at hi; omega

/-! ### Regions that draw, an operation at a time -/
section
variable {ops : Array Oper} {Q : Exit → Act → World → Prop} {md : Region.Mode} {R : World → Prop} {oi : Oper} {fuel : Nat} {listed : Array Bool} {a : Act} {w : World}
theorem any_move (i : Nat) (x : Operand) (v : Value) (hi : ops[i]? = some oi) (hg : oi.guard = none) (ho : oi.op = .move x) (hs : Region.noSelect ops = true) (hf : Region.free md ops listed i = true) (hr : (Region.ready md ops listed).contains i = true)
    (hQ : ∀ c a w, Q (.panic c) (a.put oi.dst v) w → Q (.panic c) a w) (hx : a.eval x = v) (hR : R w) (h : wpAnyH Try.prog md ops Q R fuel (listed.setIfInBounds i true) (a.put oi.dst v) w) : wpAnyH Try.prog md ops Q R (fuel + 1) listed a w :=
  wpAnyH_take hi hs hf hr hQ (.inl ⟨by simp [Region.wanted, hg], fun w _ => by rw [← hx]; unfold execOp; simp only [ho]; rfl⟩) hR h
theorem any_assign (i : Nat) (x : Operand) (v : Value) (hi : ops[i]? = some oi) (hg : oi.guard = none) (ho : oi.op = .assign x) (hs : Region.noSelect ops = true) (hf : Region.free md ops listed i = true) (hr : (Region.ready md ops listed).contains i = true)
    (hQ : ∀ c a w, Q (.panic c) (a.put oi.dst v) w → Q (.panic c) a w) (hx : a.eval x = v) (hR : R w) (h : wpAnyH Try.prog md ops Q R fuel (listed.setIfInBounds i true) (a.put oi.dst v) w) : wpAnyH Try.prog md ops Q R (fuel + 1) listed a w :=
  wpAnyH_take hi hs hf hr hQ (.inl ⟨by simp [Region.wanted, hg], fun w _ => by rw [← hx]; unfold execOp; simp only [ho]; rfl⟩) hR h
theorem any_load_fact (i : Nat) (x : Operand) (b o : Nat) (f : Ft) (hi : ops[i]? = some oi) (hg : oi.guard = none) (ho : oi.op = .load 39 x) (hs : Region.noSelect ops = true) (hf : Region.free md ops listed i = true) (hr : (Region.ready md ops listed).contains i = true)
    (hQ : ∀ c a w, Q (.panic c) (a.put oi.dst f.v) w → Q (.panic c) a w) (hx : a.eval x = .pointer (some ⟨b, o, none⟩)) (hat : ∀ w, R w → FtAt w b o f) (hR : R w) (h : wpAnyH Try.prog md ops Q R fuel (listed.setIfInBounds i true) (a.put oi.dst f.v) w) : wpAnyH Try.prog md ops Q R (fuel + 1) listed a w :=
  wpAnyH_take hi hs hf hr hQ (.inl ⟨by simp [Region.wanted, hg], fun w hw => by
    have hl := load_fact (hat w hw)
    unfold execOp
    simp only [ho, hx, Instr.loadAt, Instr.sureAddr, Sem.run_bind, Sem.run_pure, Result.andThen_ok, hl]⟩) hR h
end
end Go.Proofs.Ytddeblcoglhdnaa
