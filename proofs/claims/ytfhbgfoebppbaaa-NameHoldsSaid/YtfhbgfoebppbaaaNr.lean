/-
  Steps of a region that draws its order and appends to a slice of its own.
-/
import Derived.Test.YtfhbgfoebppbaaaNn
import Derived.Great.Frames
namespace Go.Proofs.Ytfhbgfoebppbaaa
open Go.RowKit

theorem infoStr : (Try.prog.info? 9).map (fun i => (i.zero, i.size, i.bytes)) = some (some (.string (S [])), 1, 16) := by kernel_rfl
theorem step_append_own {P : Program} {ops : Array Oper} {op : Oper} {a : Act} {w : World} {K : Act → World → Prop} {Q : Exit → Act → World → Prop} {E : Prop} (hg : op.guard = none) (s x : Operand) (t : TypeId)
    (hop : op.op = .call { callee := .builtin .append, args := #[s, x], argTypes := #[t, t] }) (base : Nat) (e : TypeId) (i : TypeInfo) (z : Value) (size bytes : Nat) (h1 : P.underlying t = some (.slice e)) (h2 : P.info? e = some i) (h3 : i.zero = some z) (h4 : i.size = size) (h5 : i.bytes = bytes) (h6 : z.cells.size = size) (h7 : 0 < size)
    (v : Value) (n : Nat) (xs : List Value) (hs : a.eval s = v) (hrow : w.ownsRow base e size v n xs) (ad : Addr) (m c : Nat) (news : List Value) (hx : a.eval x = .slice (some ad) m c) (hl : news.length = m * size) (hn : ∀ j u, news[j]? = some u → w.cell? (ad.add j) = some u) (hone : ∀ u ∈ news, u.oneCell' = true)
    (b1 : n + m ≤ maxLen) (b2 : (n + m) * bytes ≤ 140737488355328) (hb : base ≤ w.heap.size) (hK : ∀ v' w', w'.ownsRow base e size v' (n + m) (xs ++ news) → w.grownBy w' v.ownBlock → K (a.put op.dst v') w') :
    if Region.wanted op (yielded ops a.tmps) = true then Oper.wp P op a w K Q else E := by
  have hw : Region.wanted op (yielded ops a.tmps) = true := by simp [Region.wanted, hg]
  rw [if_pos hw]
  exact wp_append_own w s x t hop base e i z size bytes h1 h2 h3 h4 h5 h6 h7 v n xs hs hrow ad m c news hx hl hn hone b1 b2 hb (fun v' w' r1 r2 _ => hK v' w' r1 r2)

theorem step_append_none {P : Program} {ops : Array Oper} {op : Oper} {a : Act} {w : World} {K : Act → World → Prop} {Q : Exit → Act → World → Prop} {E : Prop} (hg : op.guard = none) (s x : Operand) (t : TypeId)
    (hop : op.op = .call { callee := .builtin .append, args := #[s, x], argTypes := #[t, t] }) (base : Nat) (e : TypeId) (i : TypeInfo) (size : Nat) (h1 : P.underlying t = some (.slice e)) (h2 : P.info? e = some i)
    (v : Value) (n : Nat) (xs : List Value) (hs : a.eval s = v) (hrow : w.ownsRow base e size v n xs) (hx : a.eval x = .slice none 0 0) (hK : K (a.put op.dst v) w) :
    if Region.wanted op (yielded ops a.tmps) = true then Oper.wp P op a w K Q else E := by
  have hw : Region.wanted op (yielded ops a.tmps) = true := by simp [Region.wanted, hg]
  rw [if_pos hw]
  have hrun := run_append_owned_none (P := P) (w := w) base t op.type e i size h1 h2 v n xs hrow
  unfold Oper.wp
  simp [execOp, hop, resolve, invoke, builtin, hs, hx, hrun, Result.andThen]
  exact hK
theorem run_build0 (w : World) : (Instr.buildSlice 22 0 #[]).run Try.prog w = .ok (.slice (some ⟨w.heap.size, 0, none⟩) 0 0) (w.alloc (.cells #[] 9)) := by kernel_rfl
theorem step_build0 {ops : Array Oper} {op : Oper} {a : Act} {w : World} {K : Act → World → Prop} {Q : Exit → Act → World → Prop} {E : Prop} (hg : op.guard = none)
    (hop : op.op = .buildSlice 22 0 #[]) (hK : K (a.put op.dst (.slice (some ⟨w.heap.size, 0, none⟩) 0 0)) (w.alloc (.cells #[] 9))) :
    if Region.wanted op (yielded ops a.tmps) = true then Oper.wp Try.prog op a w K Q else E := by
  have hw : Region.wanted op (yielded ops a.tmps) = true := by simp [Region.wanted, hg]
  rw [if_pos hw]
  have hrun := run_build0 w
  unfold Oper.wp
  simp [execOp, hop, hrun, Result.andThen]
  exact hK
theorem own_empty (w : World) : ((w.alloc (.cells #[] 9)).drew).ownsRow w.heap.size 9 1 (.slice (some ⟨w.heap.size, 0, none⟩) 0 0) 0 [] :=
  own_fr (World.ownsRow_lit (base := w.heap.size) (e := 9) (size := 1) w #[] 0 (Nat.le_refl _) (Nat.zero_le _) rfl) (Fr.drew _)
theorem fr_row {w w1 w2 : World} {v : Value} {base n : Nat} {xs : List Value} (h : Fr w w1) (hr : w1.ownsRow base 9 1 v n xs) (hb : w.heap.size ≤ base) (hg : w1.grownBy w2 v.ownBlock) : Fr w w2 :=
  Fr.growO h hg (fun k hk => Nat.le_trans hb (hr.lt k hk).1)

/-! ### Steps of a region that draws its order, without its state laid open -/
theorem exec_from {a : Act} {o : Oper} {x y : Operand} {ad ad2 : Addr} {len cap n : Nat} (ho : o.op = .slice 22 x (some y) none none) (hx : a.eval x = .slice (some ad) len cap) (hy : a.eval y = .int .i64 n) (h1 : n ≤ len) (_h2 : len ≤ cap) (h3 : ad2 = if cap = n then ad else ad.add n) :
    ∀ w, (execOp a.eval o).run Try.prog w = .ok (.value (.slice (some ad2) (len - n) (cap - n))) w := by
  intro w
  subst h3
  have g1 : (n : Int) ≤ (len : Int) := by omega
  simp only [execOp, ho, Option.map_some, Option.map_none, hx, hy]
  go_simp
  split <;> rfl
theorem exec_to {a : Act} {o : Oper} {x y : Operand} {ad : Addr} {len cap n : Nat} (ho : o.op = .slice 22 x none (some y) none) (hx : a.eval x = .slice (some ad) len cap) (hy : a.eval y = .int .i64 n) (h1 : n ≤ cap) :
    ∀ w, (execOp a.eval o).run Try.prog w = .ok (.value (.slice (some ad) n cap)) w := by
  intro w
  have g1 : (n : Int) ≤ (cap : Int) := by omega
  simp only [execOp, ho, Option.map_some, Option.map_none, hx, hy]
  go_simp
theorem exec_from_nil {a : Act} {o : Oper} {x y : Operand} (ho : o.op = .slice 22 x (some y) none none) (hx : a.eval x = .slice none 0 0) (hy : a.eval y = .int .i64 0) :
    ∀ w, (execOp a.eval o).run Try.prog w = .ok (.value (.slice none 0 0)) w := by
  intro w
  simp only [execOp, ho, Option.map_some, Option.map_none, hx, hy]
  go_simp
theorem exec_to_nil {a : Act} {o : Oper} {x y : Operand} (ho : o.op = .slice 22 x none (some y) none) (hx : a.eval x = .slice none 0 0) (hy : a.eval y = .int .i64 0) :
    ∀ w, (execOp a.eval o).run Try.prog w = .ok (.value (.slice none 0 0)) w := by
  intro w
  simp only [execOp, ho, Option.map_some, Option.map_none, hx, hy]
  go_simp
theorem exec_move {a : Act} {o : Oper} {x : Operand} {v : Value} (ho : o.op = .move x ∨ o.op = .assign x) (hv : a.eval x = v) :
    ∀ w, (execOp a.eval o).run Try.prog w = .ok (.value v) w := by
  intro w
  subst hv
  rcases ho with ho | ho
  · simp only [execOp, ho]; go_simp
  · simp only [execOp, ho]; go_simp

theorem strs_one (l : List Txt) : ∀ u ∈ strs l, u.oneCell' = true := fun u hu => by
  obtain ⟨z, _, rfl⟩ := List.mem_map.1 hu
  rfl
theorem add_none (b o k : Nat) : (⟨b, o, none⟩ : Addr).add k = ⟨b, o + k, none⟩ := by unfold Addr.add; split <;> simp_all
theorem At.piece {w : World} {b o : Nat} {l : List Txt} (h : At w b o l) (n : Nat) (_P : Txt → Prop) (m : List Txt) (hm : ∀ (j : Nat) (hj : j < m.length), ∃ hl : n + j < l.length, l[n + j] = m[j]) (a : Addr) (ha : 0 < m.length → a = ⟨b, o + n, none⟩) : ∀ j u, (strs m)[j]? = some u → w.cell? (a.add j) = some u := by
  intro j u hu
  have hj : j < m.length := by have := (List.getElem?_eq_some_iff.1 hu).1; rwa [strs_len] at this
  obtain ⟨hl, he⟩ := hm j hj
  rw [ha (by omega), add_none, Nat.add_assoc, h _ hl, he]
  unfold strs at hu
  rw [List.getElem?_map, List.getElem?_eq_getElem hj] at hu
  exact hu
theorem wp_gen {P : Program} {c : Code} {Q : Exit → Act → World → Prop} {a : Act} {w : World} (h : ∀ a0, a0 = a → Code.wp P c Q a0 w) : Code.wp P c Q a w := h a rfl
end Go.Proofs.Ytfhbgfoebppbaaa
