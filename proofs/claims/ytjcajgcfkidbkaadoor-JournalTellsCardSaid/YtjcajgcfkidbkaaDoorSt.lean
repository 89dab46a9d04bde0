/-
  The state of a disk as plain functions and lists (RS), what a world holds of a disk in it (Dk), and frames.
-/
import Derived.Test.YtjcajgcfkidbkaaDoorD1
import Derived.Test.YtjcajgcfkidbkaaDoorMap
import Derived.Laws.OwnMore
import Derived.Laws.CopyRow
import Derived.Deep.WholeRow
import Derived.Deep.DeepCutAuto
namespace Go.Proofs.YtjcajgcfkidbkaaDoor
open Go.RowKit

/-- The state of a disk: the bytes of the files and of their durable parts, which sectors are pending, the sizes, the list of pending sectors, lost syncs, calls up to the crash, what survives it, up or down. -/
structure RS where
  now : Nat → Nat → UInt8
  dur : Nat → Nat → UInt8
  pd : Nat → Nat → Bool
  sz : Nat → Nat
  dz : Nat → Nat
  q : List (Nat × Nat)
  lost : Nat
  calls : Nat
  keep : List Int
  down : Bool

def u8 (b : UInt8) : Value := .int .u8 b.toNat
theorem u8_one (b : UInt8) : (u8 b).oneCell' = true := rfl
/-- The cells of a sector. -/
def secL (a b : Nat → UInt8) (p : Bool) : List Value := (List.range 64).map (fun j => u8 (a j)) ++ ((List.range 64).map (fun j => u8 (b j)) ++ [.bool p])
theorem secL_length (a b : Nat → UInt8) (p : Bool) : (secL a b p).length = 129 := by simp [secL]
theorem secL_now (a b : Nat → UInt8) (p : Bool) (i : Nat) (h : i < 64) : (secL a b p)[i]? = some (u8 (a i)) := by
  unfold secL; rw [List.getElem?_append_left (by simpa using h)]; simp [h]
theorem secL_dur (a b : Nat → UInt8) (p : Bool) (i : Nat) (h : i < 64) : (secL a b p)[64 + i]? = some (u8 (b i)) := by
  unfold secL; rw [List.getElem?_append_right (by simp), List.getElem?_append_left (by simpa using h)]; simp [h]
theorem secL_pend (a b : Nat → UInt8) (p : Bool) : (secL a b p)[128]? = some (.bool p) := by
  unfold secL; rw [List.getElem?_append_right (by simp), List.getElem?_append_right (by simp)]; simp
theorem secL_one (a b : Nat → UInt8) (p : Bool) : ∀ v ∈ secL a b p, v.oneCell' = true := by
  intro v hv
  simp only [secL, List.mem_append, List.mem_map, List.mem_singleton] at hv
  rcases hv with ⟨_, _, rfl⟩ | ⟨_, _, rfl⟩ | rfl <;> rfl
theorem secL_ext {L : List Value} {a b : Nat → UInt8} {p : Bool} (hl : L.length = 129) (h1 : ∀ i, i < 64 → L[i]? = some (u8 (a i))) (h2 : ∀ i, i < 64 → L[64 + i]? = some (u8 (b i))) (h3 : L[128]? = some (.bool p)) : L = secL a b p := by
  apply List.ext_getElem?
  intro i
  by_cases c1 : i < 64
  · rw [h1 i c1, secL_now _ _ _ _ c1]
  by_cases c2 : i < 128
  · obtain ⟨j, rfl⟩ : ∃ j, i = 64 + j := ⟨i - 64, by omega⟩
    rw [h2 j (by omega), secL_dur _ _ _ _ (by omega)]
  by_cases c3 : i = 128
  · subst c3; rw [h3, secL_pend]
  · rw [List.getElem?_eq_none (by omega), List.getElem?_eq_none (by rw [secL_length]; omega)]
theorem secL_congr {a b a' b' : Nat → UInt8} {p p' : Bool} (h1 : ∀ i, i < 64 → a i = a' i) (h2 : ∀ i, i < 64 → b i = b' i) (h3 : p = p') : secL a b p = secL a' b' p' := by
  subst h3
  exact secL_ext (secL_length _ _ _) (fun i hi => by rw [secL_now _ _ _ _ hi, h1 i hi]) (fun i hi => by rw [secL_dur _ _ _ _ hi, h2 i hi]) (secL_pend _ _ _)
theorem zeroL_sec : zeroL = secL (fun _ => 0) (fun _ => 0) false := by
  refine secL_ext zeroL_length (fun i hi => ?_) (fun i hi => ?_) ?_
  · unfold zeroL; rw [List.getElem?_append_left (by simp; omega)]; rw [List.getElem?_replicate, if_pos (by omega)]; rfl
  · unfold zeroL; rw [List.getElem?_append_left (by simp; omega)]; rw [List.getElem?_replicate, if_pos (by omega)]; rfl
  · unfold zeroL; rw [List.getElem?_append_right (by simp)]; simp

def RS.sec (s : RS) (f n : Nat) : List Value := secL (fun j => s.now f (64 * n + j)) (fun j => s.dur f (64 * n + j)) (s.pd f n)

/-- Block M is the map of the sectors of s. -/
def Secs (w : World) (M : Nat) (s : RS) : Prop := ∃ m, MapIs w M m ∧ ∀ f n, f < 16 → (m f n).getD zeroSec = .agg (s.sec f n).toArray
theorem Secs.lt {w : World} {M : Nat} {s : RS} (h : Secs w M s) : M < w.heap.size := let ⟨_, hm, _⟩ := h; hm.lt
theorem Secs.heap {w w' : World} {M : Nat} {s : RS} (h : Secs w M s) (hw : w'.heap[M]? = w.heap[M]?) : Secs w' M s := let ⟨m, hm, e⟩ := h; ⟨m, hm.heap hw, e⟩
theorem Secs.lookup {w : World} {M : Nat} {s : RS} (h : Secs w M s) (f n : Nat) (hf : f < 16) (hn : n < 1000000000000) :
    (Instr.lookup 67 (.map (some M)) (plc f n) false).run Tryd.prog w = .ok (.agg (s.sec f n).toArray) w := by
  obtain ⟨m, hm, e⟩ := h
  rw [← e f n hf]
  exact hm.lookup f n (by omega) hn
theorem Secs.store {w : World} {M : Nat} {s s' : RS} (h : Secs w M s) (f n : Nat) (hf : f < 16) (hn : n < 1000000000000) (ho : ∀ f' n', f' < 16 → ¬ (f' = f ∧ n' = n) → s'.sec f' n' = s.sec f' n') :
    ∃ w', (Instr.mapUpdate 67 (.map (some M)) (plc f n) (.agg (s'.sec f n).toArray)).run Tryd.prog w = .ok () w' ∧ Secs w' M s' ∧ OnlyB M w w' := by
  obtain ⟨m, hm, e⟩ := h
  obtain ⟨w', hr, hm', ho'⟩ := hm.store f n (by omega) hn (.agg (s'.sec f n).toArray)
  refine ⟨w', hr, ⟨_, hm', fun f' n' hf' => ?_⟩, ho'⟩
  unfold upd
  by_cases c : f' = f ∧ n' = n
  · rw [if_pos c]; obtain ⟨rfl, rfl⟩ := c; rfl
  · rw [if_neg c, e f' n' hf', ho f' n' hf' c]
theorem Secs.delete {w : World} {M : Nat} {s s' : RS} (h : Secs w M s) (f n : Nat) (hf : f < 16) (hn : n < 1000000000000) (ho : ∀ f' n', f' < 16 → ¬ (f' = f ∧ n' = n) → s'.sec f' n' = s.sec f' n') (h0 : s'.sec f n = zeroL) (ty : TypeId) :
    ∃ w', (Builtin.delete_ #[67, 87] ty #[.map (some M), plc f n]).run Tryd.prog w = .ok (.tuple #[]) w' ∧ Secs w' M s' ∧ OnlyB M w w' := by
  obtain ⟨m, hm, e⟩ := h
  obtain ⟨w', hr, hm', ho'⟩ := hm.delete f n (by omega) hn ty
  refine ⟨w', hr, ⟨_, hm', fun f' n' hf' => ?_⟩, ho'⟩
  unfold upd
  by_cases c : f' = f ∧ n' = n
  · rw [if_pos c]; obtain ⟨rfl, rfl⟩ := c; rw [h0]; rfl
  · rw [if_neg c, e f' n' hf', ho f' n' hf' c]
/-- Of the state only the sectors count. -/
theorem Secs.congr {w : World} {M : Nat} {s s' : RS} (h : Secs w M s) (e : ∀ f n, f < 16 → s'.sec f n = s.sec f n) : Secs w M s' := by
  obtain ⟨m, hm, e'⟩ := h
  exact ⟨m, hm, fun f n hf => by rw [e' f n hf, e f n hf]⟩

/-- The cells of the struct Disk. -/
structure Blk (C : Array Value) (M : Nat) (pv kv : Value) (s : RS) : Prop where
  size : C.size = 38
  files : C[0]? = some (.map (some M))
  sz : ∀ f, f < 16 → C[1 + f]? = some (.int .i64 (s.sz f))
  dz : ∀ f, f < 16 → C[17 + f]? = some (.int .i64 (s.dz f))
  pend : C[33]? = some pv
  lost : C[34]? = some (.int .i64 s.lost)
  calls : C[35]? = some (.int .i64 s.calls)
  keep : C[36]? = some kv
  down : C[37]? = some (.bool s.down)

def qCells (q : List (Nat × Nat)) : List Value := q.flatMap fun p => [.int .i64 p.1, .int .i64 p.2]
theorem qCells_length (q : List (Nat × Nat)) : (qCells q).length = q.length * 2 := by
  induction q with
  | nil => rfl
  | cons a l ih => simp [qCells] at ih ⊢; omega
theorem qCells_append (q r : List (Nat × Nat)) : qCells (q ++ r) = qCells q ++ qCells r := by simp [qCells]
theorem qCells_get (q : List (Nat × Nat)) (i : Nat) (h : i < q.length) : (qCells q)[2 * i]? = some (.int .i64 (q[i].1)) ∧ (qCells q)[2 * i + 1]? = some (.int .i64 (q[i].2)) := by
  induction q generalizing i with
  | nil => simp at h
  | cons a l ih =>
    have e : qCells (a :: l) = .int .i64 a.1 :: .int .i64 a.2 :: qCells l := by simp [qCells]
    rw [e]
    cases i with
    | zero => simp
    | succ i =>
      have := ih i (by simpa using h)
      rw [show 2 * (i + 1) = 2 * i + 1 + 1 by omega, List.getElem?_cons_succ, List.getElem?_cons_succ, List.getElem?_cons_succ, List.getElem?_cons_succ]
      simpa using this
theorem qCells_one (q : List (Nat × Nat)) : ∀ v ∈ qCells q, v.oneCell' = true := by
  intro v hv
  simp only [qCells, List.mem_flatMap, List.mem_cons, List.not_mem_nil, or_false] at hv
  obtain ⟨_, _, rfl | rfl⟩ := hv <;> rfl
def iCells (k : List Int) : List Value := k.map (.int .i64 ·)

/-- What a world holds of a disk in state s, at block B; O: the blocks that belong to it. -/
structure DkAt (w : World) (O : Nat → Prop) (B M : Nat) (C : Array Value) (pv kv : Value) (s : RS) : Prop where
  bound : ∀ k, O k → k < w.heap.size
  oB : O B
  oM : O M
  oP : ∀ p, pv.ownBlock = some p → O p
  oK : ∀ p, kv.ownBlock = some p → O p
  heap : w.heap[B]? = some (.cells C 71 (0, 0))
  blk : Blk C M pv kv s
  secs : Secs w M s
  pend : w.ownsRow 0 87 2 pv s.q.length (qCells s.q)
  keep : w.ownsRow 0 3 1 kv s.keep.length (iCells s.keep)
def Dk (w : World) (O : Nat → Prop) (B : Nat) (s : RS) : Prop := ∃ M C pv kv, DkAt w O B M C pv kv s

/-- Only blocks of O have changed, and new ones have come. -/
structure Own (O : Nat → Prop) (w w' : World) : Prop where
  os : w'.os = w.os
  tape : w'.tape = w.tape
  output : w'.output = w.output
  size : w.heap.size ≤ w'.heap.size
  block : ∀ k, k < w.heap.size → ¬ O k → w'.heap[k]? = w.heap[k]?
def Gr (O : Nat → Prop) (w w' : World) : Nat → Prop := fun k => O k ∨ (w.heap.size ≤ k ∧ k < w'.heap.size)
theorem Own.refl (O : Nat → Prop) (w : World) : Own O w w := ⟨rfl, rfl, rfl, Nat.le_refl _, fun _ _ _ => rfl⟩
theorem Own.trans {O O1 : Nat → Prop} {a b c : World} (h : Own O a b) (hO : ∀ k, O1 k → Gr O a b k) (k : Own O1 b c) : Own O a c :=
  ⟨k.os.trans h.os, k.tape.trans h.tape, k.output.trans h.output, Nat.le_trans h.size k.size, fun i hi hn => by
    rw [k.block i (Nat.lt_of_lt_of_le hi h.size) (fun h1 => by rcases hO i h1 with h2 | ⟨h2, _⟩; exact hn h2; omega)]
    exact h.block i hi hn⟩
theorem Own.mono {O O1 : Nat → Prop} {a b : World} (h : Own O a b) (hO : ∀ k, O k → O1 k) : Own O1 a b := ⟨h.os, h.tape, h.output, h.size, fun k hk hn => h.block k hk (fun h1 => hn (hO k h1))⟩
theorem Own.of_fr {O : Nat → Prop} {a b : World} (h : Fr a b) : Own O a b := ⟨h.os, h.tape, h.output, h.size, fun _k hk _ => h.block hk⟩
theorem Own.cell {O : Nat → Prop} {w w' : World} (h : Own O w w') {a : Addr} {v : Value} (hc : w.cell? a = some v) (hn : ¬ O a.block) : w'.cell? a = some v := by
  rw [World.cell?_of_block (h.block _ (World.block_lt_of_cell? w _ hc) hn)]; exact hc
theorem Gr.self {O : Nat → Prop} {w w' : World} : ∀ k, O k → Gr O w w' k := fun _ h => .inl h
theorem Gr.trans {O O1 : Nat → Prop} {a b c : World} (hab : a.heap.size ≤ b.heap.size) (hbc : b.heap.size ≤ c.heap.size) (h1 : ∀ k, O1 k → Gr O a b k) : ∀ k, Gr O1 b c k → Gr O a c k := by
  rintro k (h | ⟨h, h'⟩)
  · rcases h1 k h with h2 | ⟨h2, h3⟩
    · exact .inl h2
    · exact .inr ⟨h2, by omega⟩
  · exact .inr ⟨by omega, h'⟩

theorem ownsRow_heap {w w' : World} {base e size n : Nat} {v : Value} {xs : List Value} (h : w.ownsRow base e size v n xs) (hw : ∀ p, v.ownBlock = some p → w'.heap[p]? = w.heap[p]?) : w'.ownsRow base e size v n xs := by
  refine ⟨h.1, ?_⟩
  rcases h.2 with hn | ⟨g, cap, cur, rfl, hb, hg, rest⟩
  · exact .inl hn
  · exact .inr ⟨g, cap, cur, rfl, hb, by rw [hw g rfl]; exact hg, rest⟩

theorem DkAt.frame {w w' : World} {O : Nat → Prop} {B M : Nat} {C : Array Value} {pv kv : Value} {s : RS} (h : DkAt w O B M C pv kv s) (hs : w.heap.size ≤ w'.heap.size) (hw : ∀ k, O k → w'.heap[k]? = w.heap[k]?) : DkAt w' O B M C pv kv s :=
  ⟨fun k hk => Nat.lt_of_lt_of_le (h.bound k hk) hs, h.oB, h.oM, h.oP, h.oK, by rw [hw B h.oB]; exact h.heap, h.blk, h.secs.heap (hw M h.oM), ownsRow_heap h.pend (fun p hp => hw p (h.oP p hp)), ownsRow_heap h.keep (fun p hp => hw p (h.oK p hp))⟩
theorem DkAt.fr {w w' : World} {O : Nat → Prop} {B M : Nat} {C : Array Value} {pv kv : Value} {s : RS} (h : DkAt w O B M C pv kv s) (hf : Fr w w') : DkAt w' O B M C pv kv s := h.frame hf.size (fun k hk => hf.block (h.bound k hk))
theorem Dk.bound {w : World} {O : Nat → Prop} {B : Nat} {s : RS} (h : Dk w O B s) : ∀ k, O k → k < w.heap.size := let ⟨_, _, _, _, h'⟩ := h; h'.bound
theorem Dk.frame {w w' : World} {O : Nat → Prop} {B : Nat} {s : RS} (h : Dk w O B s) (hs : w.heap.size ≤ w'.heap.size) (hw : ∀ k, O k → w'.heap[k]? = w.heap[k]?) : Dk w' O B s := let ⟨M, C, pv, kv, h'⟩ := h; ⟨M, C, pv, kv, h'.frame hs hw⟩
theorem Dk.fr {w w' : World} {O : Nat → Prop} {B : Nat} {s : RS} (h : Dk w O B s) (hf : Fr w w') : Dk w' O B s := h.frame hf.size (fun k hk => hf.block (h.bound k hk))
/-- Another disk's step leaves this one as it was. -/
theorem Dk.kept {w w' : World} {O O1 : Nat → Prop} {B : Nat} {s : RS} (h : Dk w O B s) (ho : Own O1 w w') (hd : ∀ k, O k → ¬ O1 k) : Dk w' O B s := h.frame ho.size (fun k hk => ho.block k (h.bound k hk) (hd k hk))

/-- A step of the disk at B, into state s'. -/
def DkP (O : Nat → Prop) (w w' : World) (B : Nat) (s' : RS) : Prop := ∃ O', Dk w' O' B s' ∧ (∀ k, O' k → Gr O w w' k) ∧ Own O w w'
theorem DkP.of_fr {O : Nat → Prop} {w w' : World} {B : Nat} {s : RS} (h : Dk w O B s) (hf : Fr w w') : DkP O w w' B s := ⟨O, h.fr hf, Gr.self, Own.of_fr hf⟩
theorem DkP.refl {O : Nat → Prop} {w : World} {B : Nat} {s : RS} (h : Dk w O B s) : DkP O w w B s := .of_fr h (Fr.refl w)
theorem DkP.comb {O O1 : Nat → Prop} {a b c : World} {B : Nat} {s : RS} (hG : ∀ k, O1 k → Gr O a b k) (hW : Own O a b) (h : DkP O1 b c B s) : DkP O a c B s :=
  let ⟨O2, h2, g2, w2⟩ := h
  ⟨O2, h2, fun k hk => Gr.trans hW.size w2.size hG k (g2 k hk), hW.trans hG w2⟩
theorem DkP.fr {O : Nat → Prop} {a b c : World} {B : Nat} {s : RS} (h : DkP O a b B s) (hf : Fr b c) : DkP O a c B s :=
  let ⟨_, h1, g1, w1⟩ := h
  DkP.comb g1 w1 (.of_fr h1 hf)
theorem DkP.fr_left {O : Nat → Prop} {a b c : World} {B : Nat} {s : RS} (hf : Fr a b) (h : DkP O b c B s) : DkP O a c B s := DkP.comb Gr.self (Own.of_fr hf) h

/-! ### Cells of the block -/
theorem cellOf {w : World} {B : Nat} {C : Array Value} {t : TypeId} (h : w.heap[B]? = some (.cells C t (0, 0))) {i : Nat} {v : Value} (hv : C[i]? = some v) : w.cell? ⟨B, i, none⟩ = some v := by
  rw [cell_of_row w B i C t (0, 0) h]; exact hv
theorem frozenOf {w : World} {B : Nat} {C : Array Value} {t : TypeId} (h : w.heap[B]? = some (.cells C t (0, 0))) (i : Nat) : w.frozen? ⟨B, i, none⟩ = false := frozen_of_row w B i C t h
theorem setIf_get {C : Array Value} {i j : Nat} {v : Value} : (C.setIfInBounds i v)[j]? = if i = j ∧ i < C.size then some v else C[j]? := by
  rw [Array.getElem?_setIfInBounds]
  by_cases c : i = j
  · subst c
    by_cases c2 : i < C.size
    · simp [c2]
    · simp [c2]
  · simp [c]

/-- A store into a cell of the block itself. -/
theorem heapB {w : World} {B i : Nat} {C : Array Value} {t : TypeId} {v : Value} (h : w.heap[B]? = some (.cells C t (0, 0))) : (w.setCell ⟨B, i, none⟩ v).heap[B]? = some (.cells (C.setIfInBounds i v) t (0, 0)) := heap_setCell_same w B i C t v h

/-- M is not B, and the rows aren't either. -/
theorem DkAt.mb {w : World} {O : Nat → Prop} {B M : Nat} {C : Array Value} {pv kv : Value} {s : RS} (h : DkAt w O B M C pv kv s) : M ≠ B := by
  rintro rfl
  obtain ⟨m, ⟨es, cl, hb, _⟩, _⟩ := h.secs
  rw [h.heap] at hb; cases hb
theorem row_ne {w : World} {base e size n : Nat} {v : Value} {xs : List Value} (h : w.ownsRow base e size v n xs) {B : Nat} {C : Array Value} {t : TypeId} {fr : Nat × Nat} (hB : w.heap[B]? = some (.cells C t fr)) (ht : t ≠ e) : ∀ p, v.ownBlock = some p → p ≠ B := by
  rintro p hp rfl
  rcases h.2 with ⟨rfl, _⟩ | ⟨g, cap, cur, rfl, _, hg, _⟩
  · simp [Value.ownBlock] at hp
  · simp [Value.ownBlock] at hp; subst hp
    rw [hB] at hg; cases hg; exact ht rfl
theorem row_ne_map {w : World} {base e size n : Nat} {v : Value} {xs : List Value} (h : w.ownsRow base e size v n xs) {M : Nat} {s : RS} (hM : Secs w M s) : ∀ p, v.ownBlock = some p → p ≠ M := by
  rintro p hp rfl
  obtain ⟨m, ⟨es, cl, hb, _⟩, _⟩ := hM
  rcases h.2 with ⟨rfl, _⟩ | ⟨g, cap, cur, rfl, _, hg, _⟩
  · simp [Value.ownBlock] at hp
  · simp [Value.ownBlock] at hp; subst hp
    rw [hb] at hg; cases hg

theorem Own.setCell {O : Nat → Prop} {w w' : World} (h : Own O w w') {a : Addr} (ha : Gr O w w' a.block) (v : Value) : Own O w (w'.setCell a v) :=
  ⟨h.os, h.tape, h.output, by simpa using h.size, fun k hk hn => by
    rw [heap_setCell_other w' a k v (fun e => by subst e; rcases ha with h1 | ⟨h1, _⟩; exact hn h1; omega)]
    exact h.block k hk hn⟩

/-- One cell of the block is stored: the rest of the disk stands. -/
theorem DkAt.setB {w : World} {O : Nat → Prop} {B M : Nat} {C : Array Value} {pv kv : Value} {s s' : RS} (h : DkAt w O B M C pv kv s) (i : Nat) (v : Value) (hb : Blk (C.setIfInBounds i v) M pv kv s')
    (hsec : ∀ f n, f < 16 → s'.sec f n = s.sec f n) (hq : s'.q = s.q) (hk : s'.keep = s.keep) : DkAt (w.setCell ⟨B, i, none⟩ v) O B M (C.setIfInBounds i v) pv kv s' := by
  have ho : ∀ k, k ≠ B → (w.setCell ⟨B, i, none⟩ v).heap[k]? = w.heap[k]? := fun k hk => heap_setCell_other w ⟨B, i, none⟩ k v hk
  exact ⟨fun k hk => by simpa using h.bound k hk, h.oB, h.oM, h.oP, h.oK, heapB h.heap, hb, (h.secs.heap (ho M h.mb)).congr hsec,
    by rw [hq]; exact ownsRow_heap h.pend (fun p hp => ho p (row_ne h.pend h.heap (by decide) p hp)),
    by rw [hk]; exact ownsRow_heap h.keep (fun p hp => ho p (row_ne h.keep h.heap (by decide) p hp))⟩
theorem DkAt.own_setB {w : World} {O : Nat → Prop} {B M : Nat} {C : Array Value} {pv kv : Value} {s : RS} (h : DkAt w O B M C pv kv s) (i : Nat) (v : Value) : Own O w (w.setCell ⟨B, i, none⟩ v) := (Own.refl O w).setCell (.inl h.oB) v
end Go.Proofs.YtjcajgcfkidbkaaDoor
