/-
  An append to an empty slice that was written out: only new memory.
-/
import Derived.Test.YtddeblcoglhdnaaLq
namespace Go.Proofs.Ytddeblcoglhdnaa
open Go.RowKit Mb Go.BigFrame

section
variable {ops : Array Oper} {rest : List Oper} {op : Oper} {a : Act} {w : World} {Q : Exit → Act → World → Prop} {K : Act → World → Prop} {E : Prop}
theorem wp_append0 (s x : Operand) (t : TypeId)
    (hop : op.op = .call { callee := .builtin .append, args := #[s, x], argTypes := #[t, t] }) (base : Nat) (e : TypeId) (i : TypeInfo) (z : Value) (size bytes : Nat) (h1 : Try.prog.underlying t = some (.slice e)) (h2 : Try.prog.info? e = some i) (h3 : i.zero = some z) (h4 : i.size = size) (h5 : i.bytes = bytes) (h6 : z.cells.size = size) (h7 : 0 < size)
    (B0 : Nat) (hs : a.eval s = .slice (some ⟨B0, 0, none⟩) 0 0) (hrow : w.ownsRow base e size (.slice (some ⟨B0, 0, none⟩) 0 0) 0 []) (xv : Value) (m : Nat) (news : List Value) (hx : a.eval x = xv) (hsrc : Src w xv m news) (hl : news.length = m * size) (hone : ∀ u ∈ news, u.oneCell' = true)
    (b1 : m ≤ maxLen) (b2 : m * bytes ≤ 140737488355328) (hb : base ≤ w.heap.size) (hK : ∀ v' w', w'.ownsRow base e size v' m news → Fr w w' → K (a.put op.dst v') w') :
    Oper.wp Try.prog op a w K Q := by
  rcases hsrc with ⟨rfl, rfl, c, rfl⟩ | ⟨ad, c, rfl, hc⟩
  · have hrun := run_append_nil (w := w) base t op.type e i size h1 h2 _ 0 [] hrow c
    have hk := hK _ w hrow (Fr.refl w)
    unfold Oper.wp
    simp [execOp, hop, resolve, invoke, builtin, hs, hx, hrun, Result.andThen]
    exact hk
  · rcases Nat.eq_zero_or_pos m with rfl | hm
    · obtain rfl : news = [] := List.length_eq_zero_iff.1 (by simpa using hl)
      have hrun : (Builtin.append_ #[t, t] op.type #[.slice (some ⟨B0, 0, none⟩) 0 0, .slice (some ad) 0 c]).run Try.prog w = .ok (.slice (some ⟨B0, 0, none⟩) 0 0) w := by
        simp [Builtin.append_, run_underlying h1, sizeOf, typeInfo, h2, Builtin.lenOf, Builtin.firstCells, loadCells, loadCellsFrom, storeCells]
      have hk := hK _ w hrow (Fr.refl w)
      unfold Oper.wp
      simp [execOp, hop, resolve, invoke, builtin, hs, hx, hrun, Result.andThen]
      exact hk
    · have hg := run_append_grow (P := Try.prog) w t op.type e i z h1 h2 h3 ⟨B0, 0, none⟩ 0 0 [] (by simp) (by simp) ad m c news (by rw [hl, h4]) hc (by omega) (by unfold maxLen at b1; omega) (by
        have : Builtin.nextslicecap (0 + m) 0 = m := by simp [Builtin.nextslicecap]; omega
        rw [this, h5]; omega)
      obtain ⟨v', w', hr, hown, _⟩ := run_append_own (P := Try.prog) w base t op.type e i z size bytes h1 h2 h3 h4 h5 h6 h7 _ 0 [] hrow ad m c news hl hc hone (by simpa using b1) (by simpa using b2) hb
      rw [hg] at hr
      have hv : v' = _ := (Result.ok.inj hr).1.symm
      have hw : w' = _ := (Result.ok.inj hr).2.symm
      subst hv hw
      rw [Nat.zero_add, List.nil_append] at hown
      have hk := hK _ _ hown ((Fr.drew w).trans (Fr.alloc _ _))
      unfold Oper.wp
      simp only [execOp, hop]
      simp [resolve, invoke, builtin, hs, hx, hg, Result.andThen]
      simp at hk
      exact hk
theorem wp_append0_facts (s x : Operand) (hop : op.op = .call { callee := .builtin .append, args := #[s, x], argTypes := #[22, 22] }) (base B0 : Nat)
    (hs : a.eval s = .slice (some ⟨B0, 0, none⟩) 0 0) (hrow : w.ownsRow base 39 29 (.slice (some ⟨B0, 0, none⟩) 0 0) 0 (fcs [])) (xv : Value) (l : List Ft) (hx : a.eval x = xv) (hsl : FSl w xv l)
    (b2 : l.length * 408 ≤ 140737488355328) (hb : base ≤ w.heap.size) (hK : ∀ v' w', w'.ownsRow base 39 29 v' l.length (fcs l) → Fr w w' → K (a.put op.dst v') w') :
    Oper.wp Try.prog op a w K Q := by
  obtain ⟨i0, hi, hz0, hz1, hz2⟩ := info_parts infoF
  have hok := hsl.oks
  exact wp_append0 s x 22 hop base 39 i0 _ 29 408 Try.underlying22 hi hz0 hz1 hz2 rfl (by decide) B0 hs hrow xv l.length (fcs l) hx hsl.src (fcs_len fun f hf => (hok f hf).len) (fcs_one hok) (by unfold maxLen; omega) b2 hb hK
theorem wpList_append0_facts (hg : op.guard = none) (s x : Operand) (hop : op.op = .call { callee := .builtin .append, args := #[s, x], argTypes := #[22, 22] }) (base B0 : Nat)
    (hs : a.eval s = .slice (some ⟨B0, 0, none⟩) 0 0) (hrow : w.ownsRow base 39 29 (.slice (some ⟨B0, 0, none⟩) 0 0) 0 (fcs [])) (xv : Value) (l : List Ft) (hx : a.eval x = xv) (hsl : FSl w xv l)
    (b2 : l.length * 408 ≤ 140737488355328) (hb : base ≤ w.heap.size) (hK : ∀ v' w', w'.ownsRow base 39 29 v' l.length (fcs l) → Fr w w' → wpList Try.prog ops Q rest (a.put op.dst v') w') :
    wpList Try.prog ops Q (op :: rest) a w :=
  wpList_plain hg fun _ hK' => wp_append0_facts s x hop base B0 hs hrow xv l hx hsl b2 hb fun v' w' r1 r2 => hK' _ _ (hK v' w' r1 r2)
theorem step_append0_facts (hg : op.guard = none) (s x : Operand) (hop : op.op = .call { callee := .builtin .append, args := #[s, x], argTypes := #[22, 22] }) (base B0 : Nat)
    (hs : a.eval s = .slice (some ⟨B0, 0, none⟩) 0 0) (hrow : w.ownsRow base 39 29 (.slice (some ⟨B0, 0, none⟩) 0 0) 0 (fcs [])) (xv : Value) (l : List Ft) (hx : a.eval x = xv) (hsl : FSl w xv l)
    (b2 : l.length * 408 ≤ 140737488355328) (hb : base ≤ w.heap.size) (hK : ∀ v' w', w'.ownsRow base 39 29 v' l.length (fcs l) → Fr w w' → K (a.put op.dst v') w') :
    if Region.wanted op (yielded ops a.tmps) = true then Oper.wp Try.prog op a w K Q else E := by
  have hw : Region.wanted op (yielded ops a.tmps) = true := by simp [Region.wanted, hg]
  rw [if_pos hw]
  exact wp_append0_facts s x hop base B0 hs hrow xv l hx hsl b2 hb hK
/-- A fact is written out of its kind, name, keys and need. -/
theorem wpList_build_fx4 (hg : op.guard = none) (x0 x1 x5 x6 : Operand) (ho : op.op = .build 39 #[(0, x0), (1, x1), (5, x5), (6, x6)]) (k nd : Int) (n : Txt) (sa : Option Addr) (sn sc : Nat) (ks : List Int)
    (h0 : a.eval x0 = .int .i64 k) (h1 : a.eval x1 = .string (S n)) (h5 : a.eval x5 = .slice sa sn sc) (h6 : a.eval x6 = .int .i64 nd)
    (h : wpList Try.prog ops Q rest (a.put op.dst (mkF k n [] ks (.slice sa sn sc) nd 0).v) w) : wpList Try.prog ops Q (op :: rest) a w :=
  wpList_plain hg fun _ hK => by
    have hr := run_build_op4 (a := a) (oi := op) k nd x0 x1 x5 x6 n sa sn sc ks ho h0 h1 h5 h6 w
    have hk := hK _ _ h
    unfold Oper.wp
    rw [hr]
    exact hk
/-- A slice of one fact is written out. -/
theorem wpList_lit_fact1 (hg : op.guard = none) (x : Operand) (ho : op.op = .buildSlice 22 1 #[(0, x)]) (f : Ft) (hx : a.eval x = f.v) (hok : FtOk w f)
    (hK : ∀ v' w', FSl w' v' [f] → Fr w w' → wpList Try.prog ops Q rest (a.put op.dst v') w') : wpList Try.prog ops Q (op :: rest) a w := by
  have h1 : ∀ g ∈ [f], FtOk w g := by intro g hg'; rw [List.mem_singleton] at hg'; subst hg'; exact hok
  exact wpList_build_fact1 hg x ho f hx h1 (hK _ _ (FSl.own (rowF w [f] h1 (by show 1 ≤ 1000; decide)) rfl (fun g hg' => (h1 g hg').fr (Fr.alloc _ _))) (Fr.alloc w _))
/-- A fact is stored into a variable that has just been made. -/
theorem wpList_store_fact (hg : op.guard = none) (x y : Operand) (ho : op.op = .store 39 x y) (b : Nat) (f : Ft) (z : Array Value) (hb : w.heap.size = b) (hx : a.eval x = .pointer (some ⟨b, 0, none⟩)) (hy : a.eval y = f.v) (hz : z.size = 29) (hok : FtOk w f)
    (h : ∀ w', FtAt w' b 0 f → Fr w w' → wpList Try.prog ops Q rest (a.put op.dst undef) w') : wpList Try.prog ops Q (op :: rest) a (w.alloc (.cells z 39)) := by
  subst hb
  have hs : f.cs.toArray.size = 29 := by simpa using hok.len
  refine wpList_store_row hg 39 x y ho w.heap.size f.cs.toArray hx hy 39 z (heap_alloc_last _ _) (by rw [hs]; exact infoF1) (by rw [hz, hs]) hok.all ?_
  rw [World.setRow_alloc_new]
  exact h _ (FtAt.new hok _) (Fr.alloc _ _)
end
end Go.Proofs.Ytddeblcoglhdnaa
