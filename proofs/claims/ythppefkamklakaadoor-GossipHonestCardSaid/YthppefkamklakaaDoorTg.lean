/-
  What lies in memory (Thing, sep, Has), as for layer 5.
-/
import Derived.Test.YthppefkamklakaaDoorBase
import Derived.Maps.Keyed
import Derived.Deep.OwnRows
import Derived.Deep.WholeRow
import Derived.Deep.AppendLies
import Derived.Laws.OwnMore
import Derived.Laws.AppendOwnNone
namespace Go.Proofs.YthppefkamklakaaDoor
open Go.RowKit

theorem Fr.block {w w' : World} (h : Fr w w') {b : Nat} (hb : b < w.heap.size) : w'.heap[b]? = w.heap[b]? := World.grownBy.block h b hb (by simp)
theorem Fr.grown {a b c : World} {row : Option Nat} (h : Fr a b) (k : b.grownBy c row) : a.grownBy c row :=
  ⟨k.os.trans h.os, k.tape.trans h.tape, k.output.trans h.output, Nat.le_trans h.size k.size, fun i hi hr => (k.block i (Nat.lt_of_lt_of_le hi h.size) hr).trans (h.block hi)⟩

/-- Only blocks of O have changed, and new ones have come. -/
structure Own (O : Nat → Prop) (w w' : World) : Prop where
  os : w'.os = w.os
  tape : w'.tape = w.tape
  output : w'.output = w.output
  size : w.heap.size ≤ w'.heap.size
  block : ∀ k, k < w.heap.size → ¬ O k → w'.heap[k]? = w.heap[k]?
def Gr (O : Nat → Prop) (w w' : World) : Nat → Prop := fun k => O k ∨ (w.heap.size ≤ k ∧ k < w'.heap.size)
theorem Own.refl (O : Nat → Prop) (w : World) : Own O w w := ⟨rfl, rfl, rfl, Nat.le_refl _, fun _ _ _ => rfl⟩
theorem Own.of_fr {O : Nat → Prop} {a b : World} (h : Fr a b) : Own O a b := ⟨h.os, h.tape, h.output, h.size, fun _k hk _ => h.block hk⟩
theorem Own.mono {O O1 : Nat → Prop} {a b : World} (h : Own O a b) (hO : ∀ k, O k → O1 k) : Own O1 a b := ⟨h.os, h.tape, h.output, h.size, fun k hk hn => h.block k hk (fun h1 => hn (hO k h1))⟩
theorem Own.trans {O O1 : Nat → Prop} {a b c : World} (h : Own O a b) (hO : ∀ k, O1 k → Gr O a b k) (k : Own O1 b c) : Own O a c :=
  ⟨k.os.trans h.os, k.tape.trans h.tape, k.output.trans h.output, Nat.le_trans h.size k.size, fun i hi hn => by
    rw [k.block i (Nat.lt_of_lt_of_le hi h.size) (fun h1 => by rcases hO i h1 with h2 | ⟨h2, _⟩; exact hn h2; omega)]
    exact h.block i hi hn⟩
theorem Own.fr {O : Nat → Prop} {a b c : World} (h : Own O a b) (k : Fr b c) : Own O a c := h.trans (O1 := fun _ => False) (fun _ h => h.elim) (.of_fr k)
theorem Own.cell {O : Nat → Prop} {w w' : World} (h : Own O w w') {a : Addr} {v : Value} (hc : w.cell? a = some v) (hn : ¬ O a.block) : w'.cell? a = some v := by
  rw [World.cell?_of_block (h.block _ (World.block_lt_of_cell? w _ hc) hn)]; exact hc
theorem Own.grown {O : Nat → Prop} {w w1 w2 : World} {row : Option Nat} (h : Own O w w1) (hg : w1.grownBy w2 row) (hr : ∀ p, row = some p → O p ∨ w.heap.size ≤ p) : Own O w w2 :=
  ⟨hg.os.trans h.os, hg.tape.trans h.tape, hg.output.trans h.output, Nat.le_trans h.size hg.size, fun k hk hn => by
    rw [hg.block k (Nat.lt_of_lt_of_le hk h.size) (fun e => by rcases hr k e.symm with h1 | h1; exact hn h1; omega)]
    exact h.block k hk hn⟩
/-- Only block M has changed. -/
def OnlyB (M : Nat) (w w' : World) : Prop := w'.os = w.os ∧ w'.tape = w.tape ∧ w'.output = w.output ∧ w'.heap.size = w.heap.size ∧ ∀ k, k ≠ M → w'.heap[k]? = w.heap[k]?
theorem OnlyB.size {M : Nat} {w w' : World} (h : OnlyB M w w') : w'.heap.size = w.heap.size := h.2.2.2.1
theorem OnlyB.block {M : Nat} {w w' : World} (h : OnlyB M w w') {k : Nat} (hk : k ≠ M) : w'.heap[k]? = w.heap[k]? := h.2.2.2.2 k hk
theorem OnlyB.drew_left {M : Nat} {w w' : World} (h : OnlyB M w.drew w') : OnlyB M w w' := ⟨h.1, h.2.1, h.2.2.1, h.2.2.2.1, h.2.2.2.2⟩
theorem OnlyB.setCell (w : World) (B i : Nat) (v : Value) : OnlyB B w (w.setCell ⟨B, i, none⟩ v) := ⟨rfl, rfl, rfl, by simp, fun k hk => heap_setCell_other w ⟨B, i, none⟩ k v hk⟩
theorem Own.only {O : Nat → Prop} {M : Nat} {a b c : World} (h : Own O a b) (ho : OnlyB M b c) (hM : O M ∨ a.heap.size ≤ M) : Own O a c :=
  ⟨ho.1.trans h.os, ho.2.1.trans h.tape, ho.2.2.1.trans h.output, by rw [ho.size]; exact h.size, fun k hk hn => by
    rw [ho.block (fun e => by subst e; rcases hM with h1 | h1; exact hn h1; omega)]
    exact h.block k hk hn⟩

/-! ### Cells of a block -/
theorem cellOf {w : World} {B : Nat} {C : Array Value} {t : TypeId} (h : w.heap[B]? = some (.cells C t (0, 0))) {i : Nat} {v : Value} (hv : C[i]? = some v) : w.cell? ⟨B, i, none⟩ = some v := by
  rw [cell_of_row w B i C t (0, 0) h]; exact hv
theorem frozenOf {w : World} {B : Nat} {C : Array Value} {t : TypeId} (h : w.heap[B]? = some (.cells C t (0, 0))) (i : Nat) : w.frozen? ⟨B, i, none⟩ = false := frozen_of_row w B i C t h
theorem heapB {w : World} {B i : Nat} {C : Array Value} {t : TypeId} {v : Value} (h : w.heap[B]? = some (.cells C t (0, 0))) : (w.setCell ⟨B, i, none⟩ v).heap[B]? = some (.cells (C.setIfInBounds i v) t (0, 0)) := heap_setCell_same w B i C t v h
theorem ownsRow_heap {w w' : World} {base e size n : Nat} {v : Value} {xs : List Value} (h : w.ownsRow base e size v n xs) (hw : ∀ p, v.ownBlock = some p → w'.heap[p]? = w.heap[p]?) : w'.ownsRow base e size v n xs := by
  refine ⟨h.1, ?_⟩
  rcases h.2 with hn | ⟨g, cap, cur, rfl, hb, hg, rest⟩
  · exact .inl hn
  · exact .inr ⟨g, cap, cur, rfl, hb, by rw [hw g rfl]; exact hg, rest⟩
theorem own_fr {w w' : World} {base e size n : Nat} {v : Value} {xs : List Value} (h : w.ownsRow base e size v n xs) (hf : Fr w w') : w'.ownsRow base e size v n xs := ownsRow_heap h fun p hp => hf.block (h.lt p hp).2
theorem own_base {w : World} {base e size n : Nat} {v : Value} {xs : List Value} (h : w.ownsRow base e size v n xs) {b : Nat} (hb : b ≤ base) : w.ownsRow b e size v n xs := by
  refine ⟨h.1, ?_⟩
  rcases h.2 with hn | ⟨g, cap, cur, h1, h2, h3⟩
  · exact .inl hn
  · exact .inr ⟨g, cap, cur, h1, by omega, h3⟩
theorem row_ne {w : World} {base e size n : Nat} {v : Value} {xs : List Value} (h : w.ownsRow base e size v n xs) {B : Nat} {C : Array Value} {t : TypeId} {fr : Nat × Nat} (hB : w.heap[B]? = some (.cells C t fr)) (ht : t ≠ e) : ∀ p, v.ownBlock = some p → p ≠ B := by
  rintro p hp rfl
  rcases h.2 with ⟨rfl, _⟩ | ⟨g, cap, cur, rfl, _, hg, _⟩
  · simp [Value.ownBlock] at hp
  · simp [Value.ownBlock] at hp; subst hp
    rw [hB] at hg; cases hg; exact ht rfl
theorem row_ne_map {w : World} {base e size n : Nat} {v : Value} {xs : List Value} (h : w.ownsRow base e size v n xs) {M : Nat} {es : Array MapEntry} {cl : Nat} (hM : w.heap[M]? = some (.map es cl)) : ∀ p, v.ownBlock = some p → p ≠ M := by
  rintro p hp rfl
  rcases h.2 with ⟨rfl, _⟩ | ⟨g, cap, cur, rfl, _, hg, _⟩
  · simp [Value.ownBlock] at hp
  · simp [Value.ownBlock] at hp; subst hp
    rw [hM] at hg; cases hg
theorem row_form {w : World} {base e size n : Nat} {v : Value} {xs : List Value} (h : w.ownsRow base e size v n xs) : ∃ a c, v = .slice a n c := by
  rcases h.2 with ⟨rfl, rfl⟩ | ⟨g, cap, cur, rfl, _⟩
  · exact ⟨_, _, rfl⟩
  · exact ⟨_, _, rfl⟩

/-! ### What lies in memory -/
/-- Something that lies in the blocks of O, and hangs on nothing else. -/
structure Thing where
  at_ : World → (Nat → Prop) → Prop
  bound : ∀ {w O}, at_ w O → ∀ k, O k → k < w.heap.size
  frame : ∀ {w w' O}, at_ w O → w.heap.size ≤ w'.heap.size → (∀ k, O k → w'.heap[k]? = w.heap[k]?) → at_ w' O
theorem Thing.fr (T : Thing) {w w' : World} {O : Nat → Prop} (h : T.at_ w O) (hf : Fr w w') : T.at_ w' O := T.frame h hf.size fun k hk => hf.block (T.bound h k hk)
theorem Thing.kept (T : Thing) {w w' : World} {O O1 : Nat → Prop} (h : T.at_ w O) (ho : Own O1 w w') (hd : ∀ k, O k → ¬ O1 k) : T.at_ w' O := T.frame h ho.size fun k hk => ho.block k (T.bound h k hk) (hd k hk)
/-- A step of what lay in O: it is T now. -/
def Thing.step (T : Thing) (O : Nat → Prop) (w w' : World) : Prop := ∃ O', T.at_ w' O' ∧ (∀ k, O' k → Gr O w w' k) ∧ Own O w w'
theorem Thing.step_fr {T : Thing} {O : Nat → Prop} {w w' : World} (h : T.at_ w O) (hf : Fr w w') : T.step O w w' := ⟨O, T.fr h hf, fun _ h => .inl h, .of_fr hf⟩
theorem Gr.trans {O O1 : Nat → Prop} {a b c : World} (hab : a.heap.size ≤ b.heap.size) (hbc : b.heap.size ≤ c.heap.size) (h1 : ∀ k, O1 k → Gr O a b k) : ∀ k, Gr O1 b c k → Gr O a c k := by
  rintro k (h | ⟨h, h'⟩)
  · rcases h1 k h with h2 | ⟨h2, h3⟩
    · exact .inl h2
    · exact .inr ⟨h2, by omega⟩
  · exact .inr ⟨by omega, h'⟩
theorem Thing.step_trans {T : Thing} {O O1 : Nat → Prop} {a b c : World} (hG : ∀ k, O1 k → Gr O a b k) (hW : Own O a b) (h : T.step O1 b c) : T.step O a c :=
  let ⟨O2, h2, g2, w2⟩ := h
  ⟨O2, h2, fun k hk => Gr.trans hW.size w2.size hG k (g2 k hk), hW.trans hG w2⟩
theorem Thing.step_right {T : Thing} {O : Nat → Prop} {a b c : World} (h : T.step O a b) (hf : Fr b c) : T.step O a c :=
  let ⟨_, h1, g1, w1⟩ := h
  Thing.step_trans g1 w1 (Thing.step_fr h1 hf)
theorem Thing.step_left {T : Thing} {O : Nat → Prop} {a b c : World} (hf : Fr a b) (h : T.step O b c) : T.step O a c := Thing.step_trans (fun _ h => .inl h) (.of_fr hf) h

/-- Both, beside each other. -/
def Thing.sep (T U : Thing) : Thing where
  at_ w O := ∃ O1 O2, T.at_ w O1 ∧ U.at_ w O2 ∧ (∀ k, O1 k → ¬ O2 k) ∧ ∀ k, O k ↔ O1 k ∨ O2 k
  bound h k hk := by
    obtain ⟨O1, O2, h1, h2, _, h4⟩ := h
    rcases (h4 k).1 hk with h | h
    · exact T.bound h1 k h
    · exact U.bound h2 k h
  frame h hs hw := by
    obtain ⟨O1, O2, h1, h2, h3, h4⟩ := h
    exact ⟨O1, O2, T.frame h1 hs fun k hk => hw k ((h4 k).2 (.inl hk)), U.frame h2 hs fun k hk => hw k ((h4 k).2 (.inr hk)), h3, h4⟩
/-- Nothing. -/
def Thing.emp : Thing where
  at_ _ O := ∀ k, ¬ O k
  bound h k hk := absurd hk (h k)
  frame h _ _ := h
/-- T lies in memory that has come since W; all else is as it was then. -/
def Has (W w : World) (T : Thing) : Prop := Fr W w ∧ ∃ O, T.at_ w O ∧ ∀ k, O k → W.heap.size ≤ k
theorem Has.here (w : World) : Has w w .emp := ⟨Fr.refl w, fun _ => False, fun _ h => h, fun _ h => h.elim⟩
theorem Has.toFr {W w : World} {T : Thing} (h : Has W w T) : Fr W w := h.1
theorem Has.fr {W w w' : World} {T : Thing} (h : Has W w T) (hf : Fr w w') : Has W w' T := let ⟨h1, O, h2, h3⟩ := h; ⟨h1.trans hf, O, T.fr h2 hf, h3⟩
theorem Fr.of_own {W w w' : World} (h : Fr W w) {O : Nat → Prop} (hO : ∀ k, O k → W.heap.size ≤ k) (ho : Own O w w') : Fr W w' :=
  Fr.of_below ⟨ho.os.trans h.below.os, ho.tape.trans h.below.tape, ho.output.trans h.below.output, Nat.le_trans h.size ho.size, fun k hk => (ho.block k (Nat.lt_of_lt_of_le hk h.size) (fun hk' => absurd (hO k hk') (by omega))).trans (h.block hk)⟩
/-- Open one of two for a step. -/
theorem Has.open {W w : World} {T U : Thing} (h : Has W w (T.sep U)) : ∃ O, T.at_ w O ∧ (∀ k, O k → W.heap.size ≤ k) ∧ ∀ w' (T' : Thing), T'.step O w w' → Has W w' (T'.sep U) := by
  obtain ⟨hf, O, ⟨O1, O2, h1, h2, h3, h4⟩, hO⟩ := h
  refine ⟨O1, h1, fun k hk => hO k ((h4 k).2 (.inl hk)), fun w' T' hs => ?_⟩
  obtain ⟨O', ht, hg, hw⟩ := hs
  refine ⟨hf.of_own (fun k hk => hO k ((h4 k).2 (.inl hk))) hw, fun k => O' k ∨ O2 k, ⟨O', O2, ht, U.kept h2 hw (fun k hk hk' => h3 k hk' hk), fun k hk hk' => ?_, fun k => Iff.rfl⟩, fun k hk => ?_⟩
  · rcases hg k hk with h | ⟨h, _⟩
    · exact h3 k h hk'
    · exact absurd (U.bound h2 k hk') (by omega)
  · rcases hk with hk | hk
    · rcases hg k hk with h | ⟨h, _⟩
      · exact hO k ((h4 k).2 (.inl h))
      · exact Nat.le_trans hf.size h
    · exact hO k ((h4 k).2 (.inr hk))
theorem Has.comm {W w : World} {T U : Thing} (h : Has W w (T.sep U)) : Has W w (U.sep T) := by
  obtain ⟨hf, O, ⟨O1, O2, h1, h2, h3, h4⟩, hO⟩ := h
  exact ⟨hf, O, ⟨O2, O1, h2, h1, fun k hk hk' => h3 k hk' hk, fun k => (h4 k).trans Or.comm⟩, hO⟩
theorem Has.left {W w : World} {T U : Thing} (h : Has W w (T.sep U)) : Has W w T := by
  obtain ⟨hf, O, ⟨O1, O2, h1, h2, h3, h4⟩, hO⟩ := h
  exact ⟨hf, O1, h1, fun k hk => hO k ((h4 k).2 (.inl hk))⟩
theorem Has.right {W w : World} {T U : Thing} (h : Has W w (T.sep U)) : Has W w U := h.comm.left
/-- T, (U, V) becomes U, (T, V). -/
theorem Has.turn {W w : World} {T U V : Thing} (h : Has W w (T.sep (U.sep V))) : Has W w (U.sep (T.sep V)) := by
  obtain ⟨hf, O, ⟨O1, O2, h1, ⟨O3, O4, h5, h6, h7, h8⟩, h3, h4⟩, hO⟩ := h
  refine ⟨hf, O, ⟨O3, fun k => O1 k ∨ O4 k, h5, ⟨O1, O4, h1, h6, fun k hk hk' => h3 k hk ((h8 k).2 (.inr hk')), fun k => Iff.rfl⟩, fun k hk hk' => ?_, fun k => ?_⟩, hO⟩
  · rcases hk' with hk' | hk'
    · exact h3 k hk' ((h8 k).2 (.inl hk))
    · exact h7 k hk hk'
  · rw [h4 k, h8 k]
    constructor
    · rintro (h | h | h)
      · exact .inr (.inl h)
      · exact .inl h
      · exact .inr (.inr h)
    · rintro (h | h | h)
      · exact .inr (.inl h)
      · exact .inl h
      · exact .inr (.inr h)
/-- Something new beside it. -/
theorem Has.new {W w w' : World} {T U : Thing} (h : Has W w U) (hs : T.step (fun _ => False) w w') : Has W w' (T.sep U) := by
  obtain ⟨hf, O, hu, hO⟩ := h
  obtain ⟨O', ht, hg, hw⟩ := hs
  have hn : ∀ k, O' k → w.heap.size ≤ k := fun k hk => by
    rcases hg k hk with h3 | h3
    · exact h3.elim
    · exact h3.1
  refine ⟨hf.of_own (fun _ h => h.elim) hw, fun k => O' k ∨ O k, ⟨O', O, ht, U.kept hu hw (fun _ _ h => h), fun k hk hk' => absurd (U.bound hu k hk') (by have := hn k hk; omega), fun _ => Iff.rfl⟩, fun k hk => ?_⟩
  rcases hk with hk | hk
  · exact Nat.le_trans hf.size (hn k hk)
  · exact hO k hk
/-- A row that belongs to the proof. -/
def RowT (e size : Nat) (v : Value) (n : Nat) (xs : List Value) : Thing where
  at_ w O := w.ownsRow 0 e size v n xs ∧ ∀ k, O k ↔ v.ownBlock = some k
  bound h k hk := (h.1.lt k ((h.2 k).1 hk)).2
  frame h _ hw := ⟨ownsRow_heap h.1 fun p hp => hw p ((h.2 p).2 hp), h.2⟩
theorem RowT.nil (w : World) (e size : Nat) : (RowT e size (.slice none 0 0) 0 []).at_ w (fun _ => False) := ⟨⟨by simp, .inl ⟨rfl, rfl⟩⟩, fun k => by simp [Value.ownBlock]⟩
/-- A row that has just been made. -/
theorem RowT.made {w w' : World} {e size n : Nat} {v : Value} {xs : List Value} (h : w'.ownsRow w.heap.size e size v n xs) (hf : Fr w w') : (RowT e size v n xs).step (fun _ => False) w w' :=
  ⟨fun k => v.ownBlock = some k, ⟨own_base h (Nat.zero_le _), fun _ => Iff.rfl⟩, fun k hk => .inr (h.lt k hk), .of_fr hf⟩
/-- What append makes of it. -/
theorem RowT.app {w w' : World} {O : Nat → Prop} {e size n m : Nat} {v v' : Value} {xs ys : List Value} (h : (RowT e size v n xs).at_ w O) (ho : w'.ownsRow 0 e size v' m ys) (hg : w.grownBy w' v.ownBlock)
    (hb : ∀ p, v'.ownBlock = some p → v.ownBlock = some p ∨ w.heap.size ≤ p) : (RowT e size v' m ys).step O w w' :=
  ⟨fun k => v'.ownBlock = some k, ⟨ho, fun _ => Iff.rfl⟩, fun k hk => by
    rcases hb k hk with h1 | h1
    · exact .inl ((h.2 k).2 h1)
    · exact .inr ⟨h1, (ho.lt k hk).2⟩, (Own.refl O w).grown hg fun p hp => .inl ((h.2 p).2 hp)⟩
/-- A block of cells that belongs to the proof. -/
def BoxT (t : TypeId) (B : Nat) (C : Array Value) : Thing where
  at_ w O := w.heap[B]? = some (.cells C t (0, 0)) ∧ ∀ k, O k ↔ k = B
  bound h k hk := by rw [(h.2 k).1 hk]; exact (Array.getElem?_eq_some_iff.1 h.1).1
  frame h _ hw := ⟨by rw [hw B ((h.2 B).2 rfl)]; exact h.1, h.2⟩
theorem Has.box {W w : World} {U : Thing} (h : Has W w U) (t : TypeId) (C : Array Value) : Has W (w.alloc (.cells C t)) ((BoxT t w.heap.size C).sep U) :=
  h.new ⟨fun k => k = w.heap.size, ⟨heap_alloc_new w _, fun _ => Iff.rfl⟩, fun k hk => .inr (by simp [hk]), .of_fr (Fr.alloc w _)⟩
theorem Has.boxed {W w : World} {t : TypeId} {B : Nat} {C : Array Value} {U : Thing} (h : Has W w ((BoxT t B C).sep U)) : w.heap[B]? = some (.cells C t (0, 0)) := by
  obtain ⟨O, hT, _, _⟩ := h.open
  exact hT.1
theorem Has.row {W w : World} {e size n : Nat} {v : Value} {xs : List Value} {U : Thing} (h : Has W w ((RowT e size v n xs).sep U)) : w.ownsRow 0 e size v n xs := by
  obtain ⟨O, hT, _, _⟩ := h.open
  exact hT.1

theorem Has.set {W w : World} {t : TypeId} {B : Nat} {C : Array Value} {U : Thing} (h : Has W w ((BoxT t B C).sep U)) (i : Nat) (v : Value) : Has W (w.setCell ⟨B, i, none⟩ v) ((BoxT t B (C.setIfInBounds i v)).sep U) := by
  obtain ⟨O, hT, _, hb⟩ := h.open
  refine hb _ _ ⟨O, ⟨heapB hT.1, hT.2⟩, fun _ h => .inl h, ?_⟩
  exact (Own.refl O w).only (OnlyB.setCell w B i v) (.inl ((hT.2 B).2 rfl))
theorem Has.nilRow {W w : World} {U : Thing} (h : Has W w U) (e size : Nat) : Has W w ((RowT e size (.slice none 0 0) 0 []).sep U) :=
  h.new ⟨fun _ => False, RowT.nil w e size, fun _ h => h.elim, .refl _ w⟩
theorem Has.app {W w w' : World} {e size n m : Nat} {v v' : Value} {xs ys : List Value} {U : Thing} (h : Has W w ((RowT e size v n xs).sep U)) (ho : w'.ownsRow 0 e size v' m ys) (hg : w.grownBy w' v.ownBlock)
    (hb : ∀ p, v'.ownBlock = some p → v.ownBlock = some p ∨ w.heap.size ≤ p) : Has W w' ((RowT e size v' m ys).sep U) := by
  obtain ⟨O, hT, _, hk⟩ := h.open
  exact hk _ _ (RowT.app hT ho hg hb)
theorem wpList_app_from {w : World} {ops : Array Oper} {rest : List Oper} {o : Oper} {a : Act} {Q : Exit → Act → World → Prop} (hgd : o.guard = none) (s x : Operand) (t : TypeId)
    (ho : o.op = .call { callee := .builtin .append, args := #[s, x], argTypes := #[t, t] })
    (e : TypeId) (i : TypeInfo) (z : Value) (size bytes : Nat) (ht : Tryd.prog.underlying t = some (.slice e)) (hi : Tryd.prog.info? e = some i) (hz : i.zero = some z)
    (hsize : i.size = size) (hby : i.bytes = bytes) (hzs : z.cells.size = size) (hsz : 0 < size)
    {W : World} {U : Thing} {v : Value} {n : Nat} {xs : List Value} (hs : a.eval s = v) (h : Has W w ((RowT e size v n xs).sep U))
    (ad : Addr) (m c : Nat) (news : List Value) (hx : a.eval x = .slice (some ad) m c) (hl : news.length = m * size) (hnews : ∀ j u, news[j]? = some u → w.cell? (ad.add j) = some u) (h1 : ∀ u ∈ news, u.oneCell' = true)
    (hm : 0 < m) (h63 : n + m ≤ 1000000) (hb : bytes ≤ 1000)
    (hK : ∀ g cap w', Has W w' ((RowT e size (.slice (some ⟨g, 0, none⟩) (n + m) cap) (n + m) (xs ++ news)).sep U) → wpList Tryd.prog ops Q rest (a.put o.dst (.slice (some ⟨g, 0, none⟩) (n + m) cap)) w') :
    wpList Tryd.prog ops Q (o :: rest) a w := by
  have hmul : (n + m) * bytes ≤ 1000000 * 1000 := Nat.mul_le_mul h63 hb
  refine wpList_append_lies _ hgd s x t ho 0 e i z size bytes ht hi hz hsize hby hzs hsz v n xs hs h.row ad m c news hx hl hnews h1 hm (by unfold maxLen; omega) (by omega) (Nat.zero_le _) _ rfl ?_
  intro g cap w' hown hgrow hat _
  refine hK g cap w' (h.app hown hgrow fun p hp => ?_)
  simp only [Value.ownBlock, Option.some.injEq] at hp
  subst hp
  rcases hat with h | h
  · exact .inl h
  · exact .inr (Nat.le_of_eq h.symm)
theorem wpList_app {w0 : World} {ops : Array Oper} {rest : List Oper} {o : Oper} {a : Act} {Q : Exit → Act → World → Prop} (hgd : o.guard = none) (s x : Operand) (t : TypeId)
    (ho : o.op = .call { callee := .builtin .append, args := #[s, x], argTypes := #[t, t] })
    (e : TypeId) (i : TypeInfo) (z : Value) (size bytes : Nat) (ht : Tryd.prog.underlying t = some (.slice e)) (hi : Tryd.prog.info? e = some i) (hz : i.zero = some z)
    (hsize : i.size = size) (hby : i.bytes = bytes) (hzs : z.cells.size = size) (hsz : 0 < size)
    {W : World} {U : Thing} {v : Value} {n : Nat} {xs : List Value} (hs : a.eval s = v) (h : Has W w0 ((RowT e size v n xs).sep U))
    (m c : Nat) (news : List Value) (hx : a.eval x = .slice (some ⟨w0.heap.size, 0, none⟩) m c) (hl : news.length = m * size) (h1 : ∀ u ∈ news, u.oneCell' = true)
    (hm : 0 < m) (h63 : n + m ≤ 1000000) (hb : bytes ≤ 1000)
    (hK : ∀ g cap w', Has W w' ((RowT e size (.slice (some ⟨g, 0, none⟩) (n + m) cap) (n + m) (xs ++ news)).sep U) → wpList Tryd.prog ops Q rest (a.put o.dst (.slice (some ⟨g, 0, none⟩) (n + m) cap)) w') :
    wpList Tryd.prog ops Q (o :: rest) a (w0.alloc (.cells news.toArray e)) :=
  wpList_app_from hgd s x t ho e i z size bytes ht hi hz hsize hby hzs hsz hs (h.fr (Fr.alloc w0 (.cells news.toArray e))) ⟨w0.heap.size, 0, none⟩ m c news hx hl
    (by have := World.news_of_block (cs := news.toArray) (t := e) (fr := (0, 0)) (heap_alloc_new w0 _); simpa using this) h1 hm h63 hb hK
theorem Has.step {w w' : World} {T : Thing} (h : Has w w' T) : T.step (fun _ => False) w w' := by
  obtain ⟨hf, O, ht, hO⟩ := h
  exact ⟨O, ht, fun k hk => .inr ⟨hO k hk, T.bound ht k hk⟩, .of_fr hf⟩
theorem Has.add {W w w' : World} {T U : Thing} (h : Has W w U) (k : Has w w' T) : Has W w' (T.sep U) := h.new k.step
theorem Has.drop {W w : World} {T : Thing} (h : Has W w (T.sep .emp)) : Has W w T := h.left
theorem Has.emp {W w : World} {T : Thing} (h : Has W w T) : Has W w (T.sep .emp) := by
  obtain ⟨hf, O, ht, hO⟩ := h
  exact ⟨hf, O, ⟨O, fun _ => False, ht, fun _ h => h, fun _ _ h => h, fun k => by simp⟩, hO⟩
end Go.Proofs.YthppefkamklakaaDoor
