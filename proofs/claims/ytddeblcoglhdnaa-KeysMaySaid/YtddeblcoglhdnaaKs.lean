/-
  Appends of slices of ints, of facts and of slices, whatever the address: laws for plain regions and for regions that draw.
-/
import Derived.Test.YtddeblcoglhdnaaKq
import Derived.Test.YtddeblcoglhdnaaKo
namespace Go.Proofs.Ytddeblcoglhdnaa
open Go.RowKit Mb Go.BigFrame

theorem run_append_nil {w : World} (base t ty e : Nat) (i : TypeInfo) (size : Nat) (ht : Try.prog.underlying t = some (.slice e)) (hi : Try.prog.info? e = some i)
    (v : Value) (n : Nat) (xs : List Value) (hown : w.ownsRow base e size v n xs) (c : Nat) :
    (Builtin.append_ #[t, t] ty #[v, .slice none 0 c]).run Try.prog w = .ok v w := by
  rcases hown.2 with ⟨rfl, rfl⟩ | ⟨g, cap, cur, rfl, _, _, hnc, _⟩
  · simp [Builtin.append_, run_underlying ht, sizeOf, typeInfo, hi, Builtin.lenOf, Builtin.firstCells]
  · simp [Builtin.append_, run_underlying ht, sizeOf, typeInfo, hi, Builtin.lenOf, Builtin.firstCells, hnc, storeCells]
/-- A slice of m elements whose cells are news; nothing is known of the address of an empty one. -/
def Src (w : World) (xv : Value) (m : Nat) (news : List Value) : Prop := (m = 0 ∧ news = [] ∧ ∃ c, xv = .slice none 0 c) ∨ ∃ ad c, xv = .slice (some ad) m c ∧ ∀ j u, news[j]? = some u → w.cell? (ad.add j) = some u
theorem Src.fr {w w' : World} {xv : Value} {m : Nat} {news : List Value} (h : Src w xv m news) (hf : Fr w w') : Src w' xv m news := by
  rcases h with h | ⟨ad, c, h1, h2⟩
  · exact .inl h
  · exact .inr ⟨ad, c, h1, fun j u hu => hf.cell (h2 j u hu)⟩
section
variable {ops : Array Oper} {rest : List Oper} {op : Oper} {a : Act} {w : World} {Q : Exit → Act → World → Prop} {K : Act → World → Prop} {E : Prop}
theorem wp_append_src (s x : Operand) (t : TypeId)
    (hop : op.op = .call { callee := .builtin .append, args := #[s, x], argTypes := #[t, t] }) (base : Nat) (e : TypeId) (i : TypeInfo) (z : Value) (size bytes : Nat) (h1 : Try.prog.underlying t = some (.slice e)) (h2 : Try.prog.info? e = some i) (h3 : i.zero = some z) (h4 : i.size = size) (h5 : i.bytes = bytes) (h6 : z.cells.size = size) (h7 : 0 < size)
    (v : Value) (n : Nat) (xs : List Value) (hs : a.eval s = v) (hrow : w.ownsRow base e size v n xs) (xv : Value) (m : Nat) (news : List Value) (hx : a.eval x = xv) (hsrc : Src w xv m news) (hl : news.length = m * size) (hone : ∀ u ∈ news, u.oneCell' = true)
    (b1 : n + m ≤ maxLen) (b2 : (n + m) * bytes ≤ 140737488355328) (hb : base ≤ w.heap.size) (hK : ∀ v' w', w'.ownsRow base e size v' (n + m) (xs ++ news) → w.grownBy w' v.ownBlock → K (a.put op.dst v') w') :
    Oper.wp Try.prog op a w K Q := by
  rcases hsrc with ⟨rfl, rfl, c, rfl⟩ | ⟨ad, c, rfl, hc⟩
  · have hrun := run_append_nil (w := w) base t op.type e i size h1 h2 v n xs hrow c
    have hk := hK v w (by simpa using hrow) (World.grownBy.refl w v.ownBlock)
    unfold Oper.wp
    simp [execOp, hop, resolve, invoke, builtin, hs, hx, hrun, Result.andThen]
    exact hk
  · exact wp_append_own w s x t hop base e i z size bytes h1 h2 h3 h4 h5 h6 h7 v n xs hs hrow ad m c news hx hl hc hone b1 b2 hb (fun v' w' r1 r2 _ => hK v' w' r1 r2)
end
theorem intsOne (l : List Int) : ∀ u ∈ ints l, u.oneCell' = true := by
  intro u hu
  obtain ⟨z, _, rfl⟩ := List.mem_map.1 hu
  rfl
theorem Sl.src {w : World} {v : Value} {l : List Int} (h : Sl w v l) : Src w v l.length (ints l) := by
  rcases h.cases with ⟨rfl, a, c, rfl⟩ | ⟨g, o, c, rfl, hc⟩
  · cases a with
    | none => exact .inl ⟨rfl, rfl, c, rfl⟩
    | some ad => exact .inr ⟨ad, c, rfl, fun j u hu => by simp [ints] at hu⟩
  · refine .inr ⟨_, c, rfl, fun j u hu => ?_⟩
    have hj : j < l.length := by have := (List.getElem?_eq_some_iff.1 hu).1; rwa [ints_len] at this
    rw [Addr.add_mid, hc j hj]
    simp only [ints, List.getElem?_map, List.getElem?_eq_getElem hj, Option.map_some, Option.some.injEq] at hu
    rw [hu]
section
variable {ops : Array Oper} {rest : List Oper} {op : Oper} {a : Act} {w : World} {Q : Exit → Act → World → Prop} {K : Act → World → Prop} {E : Prop}
/-- A slice of ints is appended to a row of ints. -/
theorem wp_append_ints (s x : Operand) (hop : op.op = .call { callee := .builtin .append, args := #[s, x], argTypes := #[23, 23] }) (base : Nat)
    (v : Value) (n : Nat) (xs : List Int) (hs : a.eval s = v) (hrow : w.ownsRow base 3 1 v n (ints xs)) (xv : Value) (l : List Int) (hx : a.eval x = xv) (hsl : Sl w xv l)
    (b1 : n + l.length ≤ 100000000) (hb : base ≤ w.heap.size) (hK : ∀ v' w', w'.ownsRow base 3 1 v' (n + l.length) (ints (xs ++ l)) → w.grownBy w' v.ownBlock → K (a.put op.dst v') w') :
    Oper.wp Try.prog op a w K Q := by
  obtain ⟨i0, hi, hz0, hz1, hz2⟩ := info_parts infoInt
  exact wp_append_src s x 23 hop base 3 i0 (.int .i64 0) 1 8 Try.underlying23 hi hz0 hz1 hz2 rfl (by decide) v n (ints xs) hs hrow xv l.length (ints l) hx hsl.src (by rw [ints_len]; omega) (intsOne l) (by unfold maxLen; omega) (by omega) hb
    (fun v' w' r1 r2 => hK v' w' (by rw [ints_app]; exact r1) r2)
theorem wpList_append_ints (hg : op.guard = none) (s x : Operand) (hop : op.op = .call { callee := .builtin .append, args := #[s, x], argTypes := #[23, 23] }) (base : Nat)
    (v : Value) (n : Nat) (xs : List Int) (hs : a.eval s = v) (hrow : w.ownsRow base 3 1 v n (ints xs)) (xv : Value) (l : List Int) (hx : a.eval x = xv) (hsl : Sl w xv l)
    (b1 : n + l.length ≤ 100000000) (hb : base ≤ w.heap.size) (hK : ∀ v' w', w'.ownsRow base 3 1 v' (n + l.length) (ints (xs ++ l)) → w.grownBy w' v.ownBlock → wpList Try.prog ops Q rest (a.put op.dst v') w') :
    wpList Try.prog ops Q (op :: rest) a w :=
  wpList_plain hg fun _ hK' => wp_append_ints s x hop base v n xs hs hrow xv l hx hsl b1 hb fun v' w' r1 r2 => hK' _ _ (hK v' w' r1 r2)
theorem step_append_ints (hg : op.guard = none) (s x : Operand) (hop : op.op = .call { callee := .builtin .append, args := #[s, x], argTypes := #[23, 23] }) (base : Nat)
    (v : Value) (n : Nat) (xs : List Int) (hs : a.eval s = v) (hrow : w.ownsRow base 3 1 v n (ints xs)) (xv : Value) (l : List Int) (hx : a.eval x = xv) (hsl : Sl w xv l)
    (b1 : n + l.length ≤ 100000000) (hb : base ≤ w.heap.size) (hK : ∀ v' w', w'.ownsRow base 3 1 v' (n + l.length) (ints (xs ++ l)) → w.grownBy w' v.ownBlock → K (a.put op.dst v') w') :
    if Region.wanted op (yielded ops a.tmps) = true then Oper.wp Try.prog op a w K Q else E := by
  have hw : Region.wanted op (yielded ops a.tmps) = true := by simp [Region.wanted, hg]
  rw [if_pos hw]
  exact wp_append_ints s x hop base v n xs hs hrow xv l hx hsl b1 hb hK
end
/-- An empty row that has just been made. -/
theorem row0 (w : World) (e size : Nat) : (w.alloc (.cells #[] e)).ownsRow w.heap.size e size (.slice (some ⟨w.heap.size, 0, none⟩) 0 0) 0 [] :=
  World.ownsRow_lit (base := w.heap.size) (e := e) (size := size) w #[] 0 (Nat.le_refl _) (Nat.zero_le _) (by simp)
theorem row0i (w : World) : (w.alloc (.cells #[] 3)).ownsRow w.heap.size 3 1 (.slice (some ⟨w.heap.size, 0, none⟩) 0 0) 0 (ints []) := row0 w 3 1
end Go.Proofs.Ytddeblcoglhdnaa
