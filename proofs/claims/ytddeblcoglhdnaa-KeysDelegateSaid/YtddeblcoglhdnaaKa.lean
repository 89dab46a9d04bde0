/-
  Strings as lists of bytes (S), frames (Fr, Own).
-/
import Derived.Test.YtddeblcoglhdnaaKm
import Derived.Test.YtddeblcoglhdnaaShelf
import Derived.WalkKit
import Derived.WalkSpells
import Derived.WalkLawsBesides
import Derived.Maps.AppendAt
import Derived.Maps.Keyed
import Derived.DeepKeys4
import Derived.Lib.SmallJoins
import Derived.Lib.Hide
import Derived.IntWalk
import Derived.BigQuiet
import Derived.StillTailTactics
import Derived.Deep.RegionHeld3
import Derived.Deep.MidRow
import Derived.Deep.WholeRow
import Derived.Deep.OwnRows
import Derived.Deep.RegionLawGrows
import Derived.Deep.AppendLies
import Derived.Deep.DeepCutAuto
import Derived.Deep.CutBlock
import Derived.Laws.OwnMore
import Derived.Laws.AppendOwnNone
import Derived.BigGuardPart
namespace Go.Proofs.Ytddeblcoglhdnaa
open Go.RowKit Go.MapKept Go.Maps Go.WideMaps
open Go.ChangeMaps (setBlock)

/-- A string out of its bytes. -/
def S (l : List UInt8) : ByteArray := ⟨l.toArray⟩
theorem S_size_rfl (l : List UInt8) : (S l).size = l.length := rfl
/-- Not by 'rfl', so that simp keeps the bounds of indices well typed. -/
@[go_sem] theorem S_size (l : List UInt8) : (S l).size = l.length := (S_size_rfl l).trans (Eq.refl _)
theorem S_get_rfl (l : List UInt8) (k : Nat) (h : k < (S l).size) : (S l)[k] = l[k]'(S_size l ▸ h) := rfl
@[go_sem] theorem S_get (l : List UInt8) (k : Nat) (h : k < (S l).size) : (S l)[k] = l[k]'(S_size l ▸ h) := (S_get_rfl l k h).trans (Eq.refl _)
@[go_sem] theorem S_toList (l : List UInt8) : (S l).toList = l := ByteArray.toList_mk l
theorem S_data_rfl (l : List UInt8) : (S l).data.toList = l := rfl
@[go_sem] theorem S_data (l : List UInt8) : (S l).data.toList = l := (S_data_rfl l).trans (Eq.refl _)
theorem S_eta (s : ByteArray) : s = S s.data.toList := by cases s; rfl
theorem S_inj {s t : Txt} (h : S s = S t) : s = t := by
  have := congrArg (fun b => b.data.toList) h
  simpa [S_data] using this
theorem S_append (l m : List UInt8) : S l ++ S m = S (l ++ m) := by
  have h : (S l ++ S m).data.toList = (S (l ++ m)).data.toList := by rw [Go.Joins.data_append]; rfl
  cases hx : S l ++ S m with
  | mk d => rw [hx] at h; have : d = (S (l ++ m)).data := Array.ext' h; rw [this]

theorem S_extract (l : List UInt8) (a b : Nat) : (S l).extract a b = S ((l.drop a).take (b - a)) := by
  have h : ((S l).extract a b).data.toList = (S ((l.drop a).take (b - a))).data.toList := by
    rw [ByteArray.data_extract, Array.toList_extract]; simp [S, List.extract_eq_take_drop]
  cases hx : (S l).extract a b with
  | mk d => rw [hx] at h; have : d = (S ((l.drop a).take (b - a))).data := Array.ext' h; rw [this]
theorem str_inj {s t : Txt} (h : Value.string (S s) = Value.string (S t)) : s = t := by
  have := congrArg (fun v => match v with | Value.string b => b.data.toList | _ => []) h
  simpa [S_data] using this

/-- Only new memory. -/
def Fr (w w' : World) : Prop := w.grownBy w' none
theorem Fr.refl (w : World) : Fr w w := ⟨rfl, rfl, rfl, Nat.le_refl _, fun _ _ _ => rfl⟩
theorem Fr.trans {a b c : World} (h : Fr a b) (k : Fr b c) : Fr a c := World.grownBy.trans h k
theorem Fr.alloc (w : World) (o : Obj) : Fr w (w.alloc o) := World.grownBy_alloc w o none
theorem Fr.drewN (w : World) (n : Nat) : Fr w (w.drewN n) := ⟨rfl, rfl, rfl, Nat.le_refl _, fun _ _ _ => rfl⟩
theorem Fr.drew (w : World) : Fr w w.drew := ⟨rfl, rfl, rfl, Nat.le_refl _, fun _ _ _ => rfl⟩
theorem Fr.size {w w' : World} (h : Fr w w') : w.heap.size ≤ w'.heap.size := World.grownBy.size h
theorem Fr.cell {w w' : World} (h : Fr w w') {a : Addr} {v : Value} (hc : w.cell? a = some v) : w'.cell? a = some v := World.grownBy.cell h hc (by simp)
theorem Fr.block {w w' : World} (h : Fr w w') {b : Nat} (hb : b < w.heap.size) : w'.heap[b]? = w.heap[b]? := World.grownBy.block h b hb (by simp)
theorem Fr.heap {w w' : World} (h : Fr w w') {b : Nat} {o : Obj} (hb : w.heap[b]? = some o) : w'.heap[b]? = some o := by
  rw [h.block (Array.getElem?_eq_some_iff.1 hb).1]; exact hb
theorem Fr.below {w w' : World} (h : Fr w w') : Below w.heap.size w w' := ⟨h.os, h.tape, h.output, h.size, fun _ hk => h.block hk⟩
theorem Fr.of_below {w w' : World} (h : Below w.heap.size w w') : Fr w w' := ⟨h.os, h.tape, h.output, h.size, fun k hk _ => h.block k hk⟩
theorem Fr.grown {a b c : World} {row : Option Nat} (h : Fr a b) (k : b.grownBy c row) : a.grownBy c row :=
  ⟨k.os.trans h.os, k.tape.trans h.tape, k.output.trans h.output, Nat.le_trans h.size k.size, fun i hi hr => (k.block i (Nat.lt_of_lt_of_le hi h.size) hr).trans (h.block hi)⟩

/-- Only blocks of O have changed, and new ones have come. -/
structure Own (O : Nat → Prop) (w w' : World) : Prop where
  os : w'.os = w.os
  tape : w'.tape = w.tape
  output : w'.output = w.output
  size : w.heap.size ≤ w'.heap.size
  block : ∀ k, k < w.heap.size → ¬ O k → w'.heap[k]? = w.heap[k]?
def Gr (O : Nat → Prop) (w w' : World) : Nat → Prop := fun k => O k ∨ (w.heap.size ≤ k ∧ k < w'.heap.size)
theorem Own.refl (O : Nat → Prop) (w : World) : Own O w w := ⟨rfl, rfl, rfl, Nat.le_refl _, fun _ _ _ => rfl⟩
theorem Own.of_fr {O : Nat → Prop} {a b : World} (h : Fr a b) : Own O a b := ⟨h.os, h.tape, h.output, h.size, fun _k hk _ => h.block hk⟩
theorem Own.mono {O O1 : Nat → Prop} {a b : World} (h : Own O a b) (hO : ∀ k, O k → O1 k) : Own O1 a b := ⟨h.os, h.tape, h.output, h.size, fun k hk hn => h.block k hk (fun h1 => hn (hO k h1))⟩
theorem Own.trans {O O1 : Nat → Prop} {a b c : World} (h : Own O a b) (hO : ∀ k, O1 k → Gr O a b k) (k : Own O1 b c) : Own O a c :=
  ⟨k.os.trans h.os, k.tape.trans h.tape, k.output.trans h.output, Nat.le_trans h.size k.size, fun i hi hn => by
    rw [k.block i (Nat.lt_of_lt_of_le hi h.size) (fun h1 => by rcases hO i h1 with h2 | ⟨h2, _⟩; exact hn h2; omega)]
    exact h.block i hi hn⟩
theorem Own.fr {O : Nat → Prop} {a b c : World} (h : Own O a b) (k : Fr b c) : Own O a c := h.trans (O1 := fun _ => False) (fun _ h => h.elim) (.of_fr k)
theorem Own.cell {O : Nat → Prop} {w w' : World} (h : Own O w w') {a : Addr} {v : Value} (hc : w.cell? a = some v) (hn : ¬ O a.block) : w'.cell? a = some v := by
  rw [World.cell?_of_block (h.block _ (World.block_lt_of_cell? w _ hc) hn)]; exact hc
theorem Own.grown {O : Nat → Prop} {w w1 w2 : World} {row : Option Nat} (h : Own O w w1) (hg : w1.grownBy w2 row) (hr : ∀ p, row = some p → O p ∨ w.heap.size ≤ p) : Own O w w2 :=
  ⟨hg.os.trans h.os, hg.tape.trans h.tape, hg.output.trans h.output, Nat.le_trans h.size hg.size, fun k hk hn => by
    rw [hg.block k (Nat.lt_of_lt_of_le hk h.size) (fun e => by rcases hr k e.symm with h1 | h1; exact hn h1; omega)]
    exact h.block k hk hn⟩
/-- Only block M has changed. -/
def OnlyB (M : Nat) (w w' : World) : Prop := w'.os = w.os ∧ w'.tape = w.tape ∧ w'.output = w.output ∧ w'.heap.size = w.heap.size ∧ ∀ k, k ≠ M → w'.heap[k]? = w.heap[k]?
theorem OnlyB.size {M : Nat} {w w' : World} (h : OnlyB M w w') : w'.heap.size = w.heap.size := h.2.2.2.1
theorem OnlyB.block {M : Nat} {w w' : World} (h : OnlyB M w w') {k : Nat} (hk : k ≠ M) : w'.heap[k]? = w.heap[k]? := h.2.2.2.2 k hk
theorem OnlyB.drew_left {M : Nat} {w w' : World} (h : OnlyB M w.drew w') : OnlyB M w w' := ⟨h.1, h.2.1, h.2.2.1, h.2.2.2.1, h.2.2.2.2⟩
theorem OnlyB.setCell (w : World) (B i : Nat) (v : Value) : OnlyB B w (w.setCell ⟨B, i, none⟩ v) := ⟨rfl, rfl, rfl, by simp, fun k hk => heap_setCell_other w ⟨B, i, none⟩ k v hk⟩
theorem Own.only {O : Nat → Prop} {M : Nat} {a b c : World} (h : Own O a b) (ho : OnlyB M b c) (hM : O M ∨ a.heap.size ≤ M) : Own O a c :=
  ⟨ho.1.trans h.os, ho.2.1.trans h.tape, ho.2.2.1.trans h.output, by rw [ho.size]; exact h.size, fun k hk hn => by
    rw [ho.block (fun e => by subst e; rcases hM with h1 | h1; exact hn h1; omega)]
    exact h.block k hk hn⟩

/-! ### Cells of a block -/
theorem cellOf {w : World} {B : Nat} {C : Array Value} {t : TypeId} (h : w.heap[B]? = some (.cells C t (0, 0))) {i : Nat} {v : Value} (hv : C[i]? = some v) : w.cell? ⟨B, i, none⟩ = some v := by
  rw [cell_of_row w B i C t (0, 0) h]; exact hv
theorem frozenOf {w : World} {B : Nat} {C : Array Value} {t : TypeId} (h : w.heap[B]? = some (.cells C t (0, 0))) (i : Nat) : w.frozen? ⟨B, i, none⟩ = false := frozen_of_row w B i C t h
theorem heapB {w : World} {B i : Nat} {C : Array Value} {t : TypeId} {v : Value} (h : w.heap[B]? = some (.cells C t (0, 0))) : (w.setCell ⟨B, i, none⟩ v).heap[B]? = some (.cells (C.setIfInBounds i v) t (0, 0)) := heap_setCell_same w B i C t v h
theorem ownsRow_heap {w w' : World} {base e size n : Nat} {v : Value} {xs : List Value} (h : w.ownsRow base e size v n xs) (hw : ∀ p, v.ownBlock = some p → w'.heap[p]? = w.heap[p]?) : w'.ownsRow base e size v n xs := by
  refine ⟨h.1, ?_⟩
  rcases h.2 with hn | ⟨g, cap, cur, rfl, hb, hg, rest⟩
  · exact .inl hn
  · exact .inr ⟨g, cap, cur, rfl, hb, by rw [hw g rfl]; exact hg, rest⟩
theorem own_fr {w w' : World} {base e size n : Nat} {v : Value} {xs : List Value} (h : w.ownsRow base e size v n xs) (hf : Fr w w') : w'.ownsRow base e size v n xs := ownsRow_heap h fun p hp => hf.block (h.lt p hp).2
theorem own_base {w : World} {base e size n : Nat} {v : Value} {xs : List Value} (h : w.ownsRow base e size v n xs) {b : Nat} (hb : b ≤ base) : w.ownsRow b e size v n xs := by
  refine ⟨h.1, ?_⟩
  rcases h.2 with hn | ⟨g, cap, cur, h1, h2, h3⟩
  · exact .inl hn
  · exact .inr ⟨g, cap, cur, h1, by omega, h3⟩
theorem row_ne {w : World} {base e size n : Nat} {v : Value} {xs : List Value} (h : w.ownsRow base e size v n xs) {B : Nat} {C : Array Value} {t : TypeId} {fr : Nat × Nat} (hB : w.heap[B]? = some (.cells C t fr)) (ht : t ≠ e) : ∀ p, v.ownBlock = some p → p ≠ B := by
  rintro p hp rfl
  rcases h.2 with ⟨rfl, _⟩ | ⟨g, cap, cur, rfl, _, hg, _⟩
  · simp [Value.ownBlock] at hp
  · simp [Value.ownBlock] at hp; subst hp
    rw [hB] at hg; cases hg; exact ht rfl
theorem row_ne_map {w : World} {base e size n : Nat} {v : Value} {xs : List Value} (h : w.ownsRow base e size v n xs) {M : Nat} {es : Array MapEntry} {cl : Nat} (hM : w.heap[M]? = some (.map es cl)) : ∀ p, v.ownBlock = some p → p ≠ M := by
  rintro p hp rfl
  rcases h.2 with ⟨rfl, _⟩ | ⟨g, cap, cur, rfl, _, hg, _⟩
  · simp [Value.ownBlock] at hp
  · simp [Value.ownBlock] at hp; subst hp
    rw [hM] at hg; cases hg
theorem row_form {w : World} {base e size n : Nat} {v : Value} {xs : List Value} (h : w.ownsRow base e size v n xs) : ∃ a c, v = .slice a n c := by
  rcases h.2 with ⟨rfl, rfl⟩ | ⟨g, cap, cur, rfl, _⟩
  · exact ⟨_, _, rfl⟩
  · exact ⟨_, _, rfl⟩



/-! ### Regions that draw their order and call what makes memory -/
theorem wp_region_cls {P : Program} {D : World → Prop} {id : Nat} {Q : Exit → Act → World → Prop} {a : Act} {w : World} {l : List Oper} (hm : P.follows .mixedOrders = true) (hB : Region.lexB .any l.toArray = true) (hC : D w.drew)
    (h : wpQuiet P l.toArray D (fun a' => ∀ w', D w' → Q .normal a' w') l a) : (Code.region id l.toArray true).wp P Q a w :=
  wp_region_quiet hm hB hC (by simpa using h)
end Go.Proofs.Ytddeblcoglhdnaa
