/-
  A sector's cells in a block of their own: clearing, copying, loading and storing parts; the worlds in which one block alone has changed.
-/
import Derived.Test.YtjcajgcfkidbkaaDoorD2
import Derived.Laws.CopyOwn
import Derived.Deep.RegionLaw
import Derived.Deep.AppendLies
namespace Go.Proofs.YtjcajgcfkidbkaaDoor
open Go.RowKit

/-- What holds of every disk between calls. -/
structure Inv (s : RS) : Prop where
  nodup : s.q.Nodup
  inQ : ∀ p ∈ s.q, p.1 < 16 ∧ 64 * p.2 < s.sz p.1
  pd : ∀ f n, s.pd f n = true ↔ (f, n) ∈ s.q
  nz : ∀ f i, s.sz f ≤ i → s.now f i = 0
  dz0 : ∀ f i, s.dz f ≤ i → s.dur f i = 0
  le : ∀ f, s.dz f ≤ s.sz f
  max : ∀ f, s.sz f ≤ 16777216
  eq : ∀ f n, s.pd f n = false → ∀ j, j < 64 → s.now f (64 * n + j) = s.dur f (64 * n + j)

theorem OnlyB.refl (T : Nat) (w : World) : OnlyB T w w := ⟨rfl, rfl, rfl, rfl, fun _ _ => rfl⟩
theorem OnlyB.trans {T : Nat} {a b c : World} (h : OnlyB T a b) (k : OnlyB T b c) : OnlyB T a c := ⟨k.1.trans h.1, k.2.1.trans h.2.1, k.2.2.1.trans h.2.2.1, k.2.2.2.1.trans h.2.2.2.1, fun i hi => (k.2.2.2.2 i hi).trans (h.2.2.2.2 i hi)⟩
theorem OnlyB.size {T : Nat} {a b : World} (h : OnlyB T a b) : b.heap.size = a.heap.size := h.2.2.2.1
theorem OnlyB.block {T : Nat} {a b : World} (h : OnlyB T a b) {k : Nat} (hk : k ≠ T) : b.heap[k]? = a.heap[k]? := h.2.2.2.2 k hk
theorem OnlyB.setRow (w : World) (T : Nat) (cs : Array Value) : OnlyB T w (w.setRow T cs) := ⟨rfl, rfl, rfl, size_setRow w T cs, fun k hk => setRow_other w T k cs hk⟩
theorem OnlyB.setCell (w : World) (T i : Nat) (v : Value) : OnlyB T w (w.setCell ⟨T, i, none⟩ v) := ⟨rfl, rfl, rfl, by simp, fun k hk => heap_setCell_other w ⟨T, i, none⟩ k v hk⟩
theorem OnlyB.drew {T : Nat} {a b : World} (h : OnlyB T a b) : OnlyB T a b.drew := h
theorem OnlyB.drew_left {T : Nat} {a b : World} (h : OnlyB T a.drew b) : OnlyB T a b := h
theorem DkAt.only {w w' : World} {O : Nat → Prop} {B M : Nat} {C : Array Value} {pv kv : Value} {s : RS} (h : DkAt w O B M C pv kv s) {T : Nat} (ho : OnlyB T w w') (hn : ¬ O T) : DkAt w' O B M C pv kv s :=
  h.frame (Nat.le_of_eq ho.size.symm) (fun _k hk => ho.block (fun e => hn (e ▸ hk)))
theorem Own.only {O : Nat → Prop} {w w1 w2 : World} (h : Own O w w1) {T : Nat} (ho : OnlyB T w1 w2) (hT : O T ∨ w.heap.size ≤ T) : Own O w w2 :=
  ⟨ho.1.trans h.os, ho.2.1.trans h.tape, ho.2.2.1.trans h.output, by rw [ho.size]; exact h.size, fun k hk hn => by
    rw [ho.block (fun e => by subst e; rcases hT with h1 | h1; exact hn h1; omega)]
    exact h.block k hk hn⟩
theorem Own.fr {O : Nat → Prop} {w w1 w2 : World} (h : Own O w w1) (hf : Fr w1 w2) : Own O w w2 := h.trans (O1 := fun _ => False) (fun _ h => h.elim) (Own.of_fr hf)

/-- The map changes alone, into the sectors of s'. -/
theorem DkAt.setM {w w' : World} {O : Nat → Prop} {B M : Nat} {C : Array Value} {pv kv : Value} {s s' : RS} (h : DkAt w O B M C pv kv s) (ho : OnlyB M w w') (hS : Secs w' M s')
    (hb : Blk C M pv kv s') (hq : s'.q = s.q) (hk : s'.keep = s.keep) : DkAt w' O B M C pv kv s' :=
  ⟨fun k hk => by rw [ho.size]; exact h.bound k hk, h.oB, h.oM, h.oP, h.oK, by rw [ho.block h.mb.symm]; exact h.heap, hb, hS,
    by rw [hq]; exact ownsRow_heap h.pend (fun p hp => ho.block (row_ne_map h.pend h.secs p hp)),
    by rw [hk]; exact ownsRow_heap h.keep (fun p hp => ho.block (row_ne_map h.keep h.secs p hp))⟩

/-! ### Lists -/
theorem splice_get (L cs : List Value) (o i : Nat) (h : o + cs.length ≤ L.length) : (splice L o cs)[i]? = if o ≤ i ∧ i < o + cs.length then cs[i - o]? else L[i]? := by
  unfold splice
  by_cases c1 : i < o
  · rw [List.getElem?_append_left (by simp; omega), List.getElem?_take, if_pos c1, if_neg (by omega)]
  · rw [List.getElem?_append_right (by simp; omega), List.length_take, Nat.min_eq_left (by omega)]
    by_cases c2 : i < o + cs.length
    · rw [List.getElem?_append_left (by omega), if_pos (by omega)]
    · rw [List.getElem?_append_right (by omega), if_neg (by omega), List.getElem?_drop]
      congr 1; omega
theorem secL_clear (a b : Nat → UInt8) (p : Bool) (o : Nat) (h : o ≤ 64) : splice (secL a b p) o (List.replicate (64 - o) (Value.int .u8 0)) = secL (fun j => if j < o then a j else 0) b p := by
  have hl := secL_length a b p
  have hsp : o + (List.replicate (64 - o) (Value.int .u8 0)).length ≤ (secL a b p).length := by simp; omega
  refine secL_ext (by rw [length_splice _ _ _ hsp]; exact hl) (fun i hi => ?_) (fun i hi => ?_) ?_ <;> rw [splice_get _ _ _ _ hsp, List.length_replicate]
  · by_cases c : i < o
    · rw [if_neg (by omega), secL_now _ _ _ _ hi]; simp [c]
    · rw [if_pos (by omega), List.getElem?_replicate, if_pos (by omega)]; simp [c, u8]
  · rw [if_neg (by omega), secL_dur _ _ _ _ hi]
  · rw [if_neg (by omega), secL_pend]
theorem take_now (a b : Nat → UInt8) (p : Bool) : (secL a b p).take 64 = (List.range 64).map (fun j => u8 (a j)) := by
  unfold secL; rw [List.take_append_of_le_length (by simp), List.take_of_length_le (by simp)]
theorem take_dur (a b : Nat → UInt8) (p : Bool) : ((secL a b p).drop 64).take 64 = (List.range 64).map (fun j => u8 (b j)) := by
  unfold secL; rw [List.drop_append_of_le_length (by simp), List.drop_of_length_le (by simp), List.nil_append, List.take_append_of_le_length (by simp), List.take_of_length_le (by simp)]
theorem secL_dup (a b : Nat → UInt8) (p : Bool) : splice (secL a b p) 64 ((List.range 64).map (fun j => u8 (a j))) = secL a a p := by
  have hl := secL_length a b p
  have hsp : 64 + ((List.range 64).map (fun j => u8 (a j))).length ≤ (secL a b p).length := by simp; omega
  have hsz : ((List.range 64).map (fun j => u8 (a j))).length = 64 := by simp
  refine secL_ext (by rw [length_splice _ _ _ hsp]; exact hl) (fun i hi => ?_) (fun i hi => ?_) ?_ <;> rw [splice_get _ _ _ _ hsp, hsz]
  · rw [if_neg (by omega), secL_now _ _ _ _ hi]
  · rw [if_pos (by omega), show 64 + i - 64 = i by omega]; simp [hi]
  · rw [if_neg (by omega), secL_pend]
theorem secL_undup (a b : Nat → UInt8) (p : Bool) : splice (secL a b p) 0 ((List.range 64).map (fun j => u8 (b j))) = secL b b p := by
  have hl := secL_length a b p
  have hsp : 0 + ((List.range 64).map (fun j => u8 (b j))).length ≤ (secL a b p).length := by simp; omega
  have hsz : ((List.range 64).map (fun j => u8 (b j))).length = 64 := by simp
  refine secL_ext (by rw [length_splice _ _ _ hsp]; exact hl) (fun i hi => ?_) (fun i hi => ?_) ?_ <;> rw [splice_get _ _ _ _ hsp, hsz]
  · rw [if_pos (by omega), Nat.sub_zero]; simp [hi]
  · rw [if_neg (by omega), secL_dur _ _ _ _ hi]
  · rw [if_neg (by omega), secL_pend]
theorem secL_copy (a b : Nat → UInt8) (p : Bool) (o : Nat) (l : List UInt8) (h : o + l.length ≤ 64) : splice (secL a b p) o (l.map u8) = secL (fun j => if o ≤ j ∧ j < o + l.length then l.getD (j - o) 0 else a j) b p := by
  have hl := secL_length a b p
  have hsp : o + (l.map u8).length ≤ (secL a b p).length := by simp; omega
  refine secL_ext (by rw [length_splice _ _ _ hsp]; exact hl) (fun i hi => ?_) (fun i hi => ?_) ?_ <;> rw [splice_get _ _ _ _ hsp, List.length_map]
  · by_cases c : o ≤ i ∧ i < o + l.length
    · have hj : i - o < l.length := by omega
      rw [if_pos c]; simp [hj, c]
    · rw [if_neg c, secL_now _ _ _ _ hi]; simp only [if_neg c]
  · rw [if_neg (by omega), secL_dur _ _ _ _ hi]
  · rw [if_neg (by omega), secL_pend]
theorem secL_set (a b : Nat → UInt8) (p q : Bool) : (secL a b p).toArray.setIfInBounds 128 (.bool q) = (secL a b q).toArray := by
  have hl := secL_length a b p
  rw [List.setIfInBounds_toArray]
  refine congrArg List.toArray ?_
  refine secL_ext (by simpa using hl) (fun i hi => ?_) (fun i hi => ?_) ?_
  · rw [List.getElem?_set_ne (by omega), secL_now _ _ _ _ hi]
  · rw [List.getElem?_set_ne (by omega), secL_dur _ _ _ _ hi]
  · rw [List.getElem?_set_self (by omega)]

/-! ### Operations -/
theorem infoSec : (Tryd.prog.info? 90).map (·.size) = some 129 := by kernel_rfl
theorem run_store_new {P : Program} (w : World) (X Z : List Value) (t : TypeId) (hi : (P.info? t).map (·.size) = some 129) (hX : X.length = 129) (hZ : Z.length = 129) (h1 : ∀ v ∈ X, v.oneCell' = true) :
    (storeCells ⟨w.heap.size, 0, none⟩ X).run P (w.alloc (.cells Z.toArray t)).drew = .ok () (w.alloc (.cells X.toArray t)).drew := by
  have := run_storeCells_new (P := P) w.drew t Z.toArray X.toArray (by simpa [hX] using hi) (by simp [hX, hZ]) (all_oneCell_toArray h1)
  exact this

set_option maxRecDepth 100000 in
theorem arrLen64 : Tryd.prog.arrayLen 88 = 64 := by kernel_rfl
theorem slice_arr (T o : Nat) (ho : o < 64) (w : World) : (Instr.sliceAt 88 (.pointer (some ⟨T, 0, none⟩)) (some (.int .i64 o)) none none).run Tryd.prog w = .ok (.slice (some ⟨T, o, none⟩) (64 - o) (64 - o)) w := by
  have hl : Tryd.prog.elem 88 = 5 := by kernel_rfl
  have hu : Tryd.prog.underlying 88 = some (.array (Tryd.prog.arrayLen 88) (Tryd.prog.elem 88)) := by kernel_rfl
  have hz : (sizeOf 5).run Tryd.prog w = .ok 1 w := by kernel_rfl
  rw [run_sliceAt_array_l w _ _ hu _ _ (by omega) (by rw [arrLen64]; omega), hl, hz, arrLen64]
  have h2 : ¬ (64 = o) := by omega
  have h3 : ¬ (o = 64) := by omega
  simp only [Result.andThen, slicedAt, if_neg h2, Int.toNat_natCast, Addr.add]
  simp
  omega
theorem slice_mod (T x : Nat) (w : World) : (Instr.sliceAt 88 (.pointer (some ⟨T, 0, none⟩)) (some (.int .i64 ((x : Int) % 64))) none none).run Tryd.prog w = .ok (.slice (some ⟨T, x % 64, none⟩) (64 - x % 64) (64 - x % 64)) w := by
  rw [show ((x : Int) % 64) = ((x % 64 : Nat) : Int) by omega]
  exact slice_arr T (x % 64) (by omega) w

theorem zeroCells_u8 (n : Nat) : (Builtin.zeroCells #[Value.int .u8 0] n).toList = List.replicate n (Value.int .u8 0) := by
  apply List.ext_getElem?
  intro i
  unfold Builtin.zeroCells
  by_cases h : i < n
  · simp [h, Nat.mod_one]
  · rw [List.getElem?_eq_none (by simp; omega), List.getElem?_eq_none (by simp; omega)]

theorem run_clear (T o n c : Nat) (L : List Value) (t : TypeId) (ty : TypeId) (w : World) (hn : n ≠ 0) (hT : w.heap[T]? = some (.cells L.toArray t (0, 0))) (hl : o + n ≤ L.length) :
    (Builtin.clear_ #[65] ty #[.slice (some ⟨T, o, none⟩) n c]).run Tryd.prog w = .ok (.tuple #[]) (w.setRow T (splice L o (List.replicate n (Value.int .u8 0))).toArray) := by
  have hz : (zeroValue 5).run Tryd.prog w = .ok (.int .u8 0) w := by kernel_rfl
  have hst := run_storeCells_at (P := Tryd.prog) T o t (List.replicate n (Value.int .u8 0)) 0 L.toArray w hT (by simpa using hl) (by intro v hv; rw [List.mem_replicate] at hv; rw [hv.2]; rfl)
  obtain ⟨k, rfl⟩ : ∃ k, n = k + 1 := ⟨n - 1, by omega⟩
  simp only [Nat.add_zero, List.append_assoc] at hst
  have hc : (Value.int .u8 0).cells = #[Value.int .u8 0] := rfl
  simp only [Builtin.clear_, List.getElem?_toArray, List.getElem?_cons_zero, Sem.run_bind, run_underlying Tryd.underlying65, Result.andThen, hz, hc, zeroCells_u8, hst]
  rfl
/-- An open world behind a clear. -/
theorem clear_open (T o n c : Nat) (L : List Value) (t : TypeId) (w : World) (hn : n ≠ 0) (hT : w.heap[T]? = some (.cells L.toArray t (0, 0))) (hl : o + n ≤ L.length) :
    ∃ w', (∀ ty, (Builtin.clear_ #[65] ty #[.slice (some ⟨T, o, none⟩) n c]).run Tryd.prog w = .ok (.tuple #[]) w') ∧ w'.heap[T]? = some (.cells (splice L o (List.replicate n (Value.int .u8 0))).toArray t (0, 0)) ∧ OnlyB T w w' :=
  ⟨_, fun ty => run_clear T o n c L t ty w hn hT hl, setRow_heap w T _ _ t _ hT, OnlyB.setRow w T _⟩

set_option maxRecDepth 100000 in
theorem info64 : (Tryd.prog.info? 88).map (·.size) = some 64 := by kernel_rfl
/-- A half of a sector is read. -/
theorem wpList_load_half {ops : Array Oper} {rest : List Oper} {op : Oper} {a : Act} {w : World} {Q : Exit → Act → World → Prop} (hgd : op.guard = none) (x : Operand) (ho : op.op = .load 88 x)
    (b o : Nat) (hx : a.eval x = .pointer (some ⟨b, o, none⟩)) (L cs : List Value) (t : TypeId) (hT : w.heap[b]? = some (.cells L.toArray t (0, 0))) (hc : (L.drop o).take 64 = cs) (hl : cs.length = 64)
    (h : wpList Tryd.prog ops Q rest (a.put op.dst (.agg cs.toArray)) w) : wpList Tryd.prog ops Q (op :: rest) a w :=
  wpList_load_mid hgd 88 x ho b o hx cs _ (fun j v hv => by
    rw [cell_of_row w b (o + j) L.toArray t (0, 0) hT, ← hv, ← hc, List.getElem?_take, if_pos (by have := (List.getElem?_eq_some_iff.1 hv).1; omega), List.getElem?_drop]; simp) Tryd.underlying88 rfl (by rw [hl]; exact info64) h
/-- A part of a block is stored; the world behind it is open. -/
theorem wpList_store_part {P : Program} {ops : Array Oper} {rest : List Oper} {op : Oper} {a : Act} {w : World} {Q : Exit → Act → World → Prop} (hgd : op.guard = none) (ty : TypeId) (x y : Operand) (ho : op.op = .store ty x y)
    (b o : Nat) (cs : List Value) (hx : a.eval x = .pointer (some ⟨b, o, none⟩)) (hy : a.eval y = .agg cs.toArray) (L : List Value) (t : TypeId) (hT : w.heap[b]? = some (.cells L.toArray t (0, 0)))
    (hl : o + cs.length ≤ L.length) (hi : (P.info? ty).map (·.size) = some cs.length) (h1 : ∀ v ∈ cs, v.oneCell' = true)
    (hd : op.dst = none) (h : ∀ w', w'.heap[b]? = some (.cells (splice L o cs).toArray t (0, 0)) → OnlyB b w w' → wpList P ops Q rest a w') : wpList P ops Q (op :: rest) a w := by
  have hst := run_storeCells_at (P := P) b o t cs 0 L.toArray w hT (by simpa using hl) h1
  simp only [Nat.add_zero, List.append_assoc] at hst
  refine wpList_plain hgd fun K hK => ?_
  have hK' := hK _ _ (h _ (setRow_heap w b _ (splice L o cs).toArray t _ hT) (OnlyB.setRow w b _))
  cases hq : P.info? ty with
  | none => simp [hq] at hi
  | some i =>
    have hs : cs.length = i.size := by simp [hq] at hi; omega
    have hrun : (storeVar ty ⟨b, o, none⟩ (.agg cs.toArray)).run P w = .ok () (w.setRow b (splice L o cs).toArray) := by
      simp [storeVar, sizeOf, typeInfo, hq, Value.cells, hs, hst, splice]
    unfold Oper.wp execOp
    simp only [ho, hx, hy, Instr.storeAt, Instr.sureAddr, Sem.run_bind, Sem.run_pure, Result.andThen_ok, hrun]
    show K (a.put op.dst undef) _
    rw [hd]; exact hK'
/-- In a region whose order is open, a whole variable is read. -/
theorem wpStill_load_whole {P : Program} {ops : Array Oper} {rest : List Oper} {op : Oper} {a : Act} {w : World} {Q : Act → Prop} (hgd : op.guard = none) (ty : TypeId) (x : Operand) (ho : op.op = .load ty x)
    (b : Nat) (hx : a.eval x = .pointer (some ⟨b, 0, none⟩)) (L : List Value) (t : TypeId) (d : TypeDesc) (hT : w.heap[b]? = some (.cells L.toArray t (0, 0))) (hu : P.underlying ty = some d) (hd : d.isRow = true) (hi : (P.info? ty).map (·.size) = some L.length)
    (h : wpStill P ops w Q rest (a.put op.dst (.agg L.toArray))) : wpStill P ops w Q (op :: rest) a := by
  refine wpStill_step fun K hK => ?_
  have hw : Region.wanted op (yielded ops a.tmps) = true := by simp [Region.wanted, hgd]
  rw [if_pos hw]
  have hr := run_loadVar_mid (P := P) w b 0 ty L d (fun j v hv => by rw [cell_of_row w b (0 + j) L.toArray t (0, 0) hT, ← hv]; simp) hu hd hi
  unfold Oper.still execOp
  simp only [ho, hx, Instr.loadAt, Instr.sureAddr, Sem.run_bind, Sem.run_pure, Result.andThen_ok, hr]
  exact ⟨rfl, hK _ h⟩
/-- A store into the map, at the operation. -/
theorem wpList_map_store {ops : Array Oper} {rest : List Oper} {o : Oper} {a : Act} {w w' : World} {Q : Exit → Act → World → Prop} (hg : o.guard = none) (m x v : Operand) (t : TypeId) (hop : o.op = Op.mapUpdate t m x v)
    (M : Nat) (key val : Value) (hm : a.eval m = .map (some M)) (hx : a.eval x = key) (hv : a.eval v = val) (hrun : (Instr.mapUpdate t (.map (some M)) key val).run Tryd.prog w = .ok () w') (hd : o.dst = none)
    (h : wpList Tryd.prog ops Q rest a w') : wpList Tryd.prog ops Q (o :: rest) a w := by
  refine wpList_plain hg fun K hK => ?_
  have hK' := hK _ _ h
  unfold Oper.wp execOp
  simp only [hop, hm, hx, hv, Sem.run_bind, Sem.run_pure, hrun, Result.andThen_ok]
  show K (a.put o.dst undef) _
  rw [hd]; exact hK'
theorem Own.grown {O : Nat → Prop} {w w1 w2 : World} {row : Option Nat} (h : Own O w w1) (hg : w1.grownBy w2 row) (hr : ∀ p, row = some p → O p ∨ w.heap.size ≤ p) : Own O w w2 :=
  ⟨hg.os.trans h.os, hg.tape.trans h.tape, hg.output.trans h.output, Nat.le_trans h.size hg.size, fun k hk hn => by
    rw [hg.block k (Nat.lt_of_lt_of_le hk h.size) (fun e => by rcases hr k e.symm with h1 | h1; exact hn h1; omega)]
    exact h.block k hk hn⟩
theorem DkAt.grown {w w' : World} {O : Nat → Prop} {B M : Nat} {C : Array Value} {pv kv : Value} {s : RS} {row : Option Nat} (h : DkAt w O B M C pv kv s) (hg : w.grownBy w' row) (hr : ∀ p, row = some p → ¬ O p) : DkAt w' O B M C pv kv s :=
  h.frame hg.size (fun k hk => hg.block k (h.bound k hk) (fun e => hr k e.symm hk))
/-- Another state with the same cells. -/
theorem DkAt.same {w : World} {O : Nat → Prop} {B M : Nat} {C : Array Value} {pv kv : Value} {s s' : RS} (h : DkAt w O B M C pv kv s) (hsec : ∀ f n, f < 16 → s'.sec f n = s.sec f n)
    (h1 : ∀ f, f < 16 → s'.sz f = s.sz f) (h2 : ∀ f, f < 16 → s'.dz f = s.dz f) (h3 : s'.lost = s.lost) (h4 : s'.calls = s.calls) (h5 : s'.down = s.down) (hq : s'.q = s.q) (hk : s'.keep = s.keep) : DkAt w O B M C pv kv s' :=
  h.setM (OnlyB.refl M w) (h.secs.congr hsec) (h.blk.congr h1 h2 h3 h4 h5) hq hk
theorem row_base {w : World} {base e size n : Nat} {v : Value} {xs : List Value} (h : w.ownsRow base e size v n xs) {b : Nat} (hb : b ≤ base) : w.ownsRow b e size v n xs := by
  refine ⟨h.1, ?_⟩
  rcases h.2 with hn | ⟨g, cap, cur, h1, h2, h3⟩
  · exact .inl hn
  · exact .inr ⟨g, cap, cur, h1, by omega, h3⟩
/-- A new list of pending sectors. -/
theorem DkAt.setPv {w : World} {O : Nat → Prop} {B M : Nat} {C : Array Value} {pv kv : Value} {s : RS} (h : DkAt w O B M C pv kv s) (pv' : Value) (q' : List (Nat × Nat)) (hr : w.ownsRow 0 87 2 pv' q'.length (qCells q')) :
    DkAt (w.setCell ⟨B, 33, none⟩ pv') (fun k => O k ∨ pv'.ownBlock = some k) B M (C.setIfInBounds 33 pv') pv' kv { s with q := q' } := by
  have ho : ∀ k, k ≠ B → (w.setCell ⟨B, 33, none⟩ pv').heap[k]? = w.heap[k]? := fun k hk => heap_setCell_other w ⟨B, 33, none⟩ k pv' hk
  exact ⟨fun k hk => by rcases hk with hk | hk; simpa using h.bound k hk; simpa using (hr.lt k hk).2, .inl h.oB, .inl h.oM, fun p hp => .inr hp, fun p hp => .inl (h.oK p hp), heapB h.heap, h.blk.setPend pv' q', h.secs.heap (ho M h.mb),
    ownsRow_heap hr (fun p hp => ho p (row_ne hr h.heap (by decide) p hp)),
    ownsRow_heap h.keep (fun p hp => ho p (row_ne h.keep h.heap (by decide) p hp))⟩
theorem row_form {w : World} {base e size n : Nat} {v : Value} {xs : List Value} (h : w.ownsRow base e size v n xs) : ∃ a m c, v = .slice a m c := by
  rcases h.2 with ⟨rfl, _⟩ | ⟨g, cap, cur, rfl, _⟩
  · exact ⟨_, _, _, rfl⟩
  · exact ⟨_, _, _, rfl⟩
/-- A new list of what survives. -/
theorem DkAt.setKv {w : World} {O : Nat → Prop} {B M : Nat} {C : Array Value} {pv kv : Value} {s : RS} (h : DkAt w O B M C pv kv s) (kv' : Value) (k' : List Int) (hr : w.ownsRow 0 3 1 kv' k'.length (iCells k')) :
    DkAt (w.setCell ⟨B, 36, none⟩ kv') (fun k => O k ∨ kv'.ownBlock = some k) B M (C.setIfInBounds 36 kv') pv kv' { s with keep := k' } := by
  have ho : ∀ k, k ≠ B → (w.setCell ⟨B, 36, none⟩ kv').heap[k]? = w.heap[k]? := fun k hk => heap_setCell_other w ⟨B, 36, none⟩ k kv' hk
  exact ⟨fun k hk => by rcases hk with hk | hk; simpa using h.bound k hk; simpa using (hr.lt k hk).2, .inl h.oB, .inl h.oM, fun p hp => .inl (h.oP p hp), fun p hp => .inr hp, heapB h.heap, h.blk.setKeep kv' k', h.secs.heap (ho M h.mb),
    ownsRow_heap h.pend (fun p hp => ho p (row_ne h.pend h.heap (by decide) p hp)),
    ownsRow_heap hr (fun p hp => ho p (row_ne hr h.heap (by decide) p hp))⟩
theorem Fr.grown {a b c : World} {row : Option Nat} (h : Fr a b) (k : b.grownBy c row) : a.grownBy c row :=
  ⟨k.os.trans h.os, k.tape.trans h.tape, k.output.trans h.output, Nat.le_trans h.size k.size, fun i hi hr => (k.block i (Nat.lt_of_lt_of_le hi h.size) hr).trans (h.block hi)⟩
/-- Rows of different types lie in different blocks. -/
theorem row_ne_row {w : World} {b1 e1 z1 n1 b2 e2 z2 n2 : Nat} {v1 v2 : Value} {x1 x2 : List Value} (h1 : w.ownsRow b1 e1 z1 v1 n1 x1) (h2 : w.ownsRow b2 e2 z2 v2 n2 x2) (he : e1 ≠ e2) : ∀ p, v1.ownBlock = some p → v2.ownBlock ≠ some p := by
  intro p hp hp2
  rcases h1.2 with ⟨rfl, _⟩ | ⟨g, cap, cur, rfl, _, hg, _⟩
  · simp [Value.ownBlock] at hp
  · simp [Value.ownBlock] at hp; subst hp
    exact row_ne h2 hg he _ hp2 rfl
/-- A sector has been added to the list of pending ones. -/
theorem DkAt.appended {w w1 : World} {O : Nat → Prop} {B M : Nat} {C : Array Value} {pv kv : Value} {s : RS} (h : DkAt w O B M C pv kv s) (hg : w.grownBy w1 pv.ownBlock) (v1 : Value) (q1 : List (Nat × Nat))
    (hr : w1.ownsRow 0 87 2 v1 q1.length (qCells q1)) : DkAt (w1.setCell ⟨B, 33, none⟩ v1) (fun k => O k ∨ v1.ownBlock = some k) B M (C.setIfInBounds 33 v1) v1 kv { s with q := q1 } := by
  have hB : w1.heap[B]? = w.heap[B]? := hg.block B (h.bound _ h.oB) (fun e => row_ne h.pend h.heap (by decide) B e.symm rfl)
  have hM : w1.heap[M]? = w.heap[M]? := hg.block M (h.bound _ h.oM) (fun e => row_ne_map h.pend h.secs M e.symm rfl)
  have hK : ∀ p, kv.ownBlock = some p → w1.heap[p]? = w.heap[p]? := fun p hp => hg.block p (h.bound _ (h.oK p hp)) (fun e => row_ne_row h.keep h.pend (by decide) p hp e.symm)
  have ho : ∀ k, k ≠ B → (w1.setCell ⟨B, 33, none⟩ v1).heap[k]? = w1.heap[k]? := fun k hk => heap_setCell_other w1 ⟨B, 33, none⟩ k v1 hk
  have hb1 : w1.heap[B]? = some (.cells C 71 (0, 0)) := hB.trans h.heap
  exact ⟨fun k hk => by rcases hk with hk | hk; have := h.bound k hk; have := hg.size; simp; omega; simpa using (hr.lt k hk).2, .inl h.oB, .inl h.oM, fun p hp => .inr hp, fun p hp => .inl (h.oK p hp), heapB hb1, h.blk.setPend v1 q1,
    (h.secs.heap hM).heap (ho M h.mb), ownsRow_heap hr (fun p hp => ho p (row_ne hr hb1 (by decide) p hp)),
    ownsRow_heap h.keep (fun p hp => (ho p (row_ne h.keep h.heap (by decide) p hp)).trans (hK p hp))⟩
end Go.Proofs.YtjcajgcfkidbkaaDoor
