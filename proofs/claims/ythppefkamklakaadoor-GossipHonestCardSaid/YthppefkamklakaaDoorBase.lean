/-
  Small words used by all contracts: a string as a list of bytes (S), frames (what a call leaves as it was), the library's table of powers of ten (Tab).
-/
import Derived.Test.YthppefkamklakaaDoorProg
import Derived.WalkKit
import Derived.WalkSpells
import Derived.WalkLawsBesides
import Derived.Lib.AppendStr
import Derived.Lib.Strings
import Derived.Lib.Slices
import Derived.Lib.Walk
import Derived.Laws.Externs
import Derived.Lib.Hide
import Derived.Test.YthppefkamklakaaDoorFr
import Derived.Test.YthppefkamklakaaDoorWm
import Derived.Test.YthppefkamklakaaDoorShelf
import Derived.Maps.AppendAt
import Derived.Maps.RangeWalk
import Derived.Lib.SmallJoins
namespace Go.Proofs.YthppefkamklakaaDoor
open Go.RowKit

/-- A string out of its bytes. -/
def S (l : List UInt8) : ByteArray := ⟨l.toArray⟩
theorem S_size_rfl (l : List UInt8) : (S l).size = l.length := rfl
/-- Not by 'rfl', so that simp keeps the bounds of indices well typed. -/
@[go_sem] theorem S_size (l : List UInt8) : (S l).size = l.length := (S_size_rfl l).trans (Eq.refl _)
@[go_sem] theorem S_toList (l : List UInt8) : (S l).toList = l := ByteArray.toList_mk l
theorem S_data_rfl (l : List UInt8) : (S l).data.toList = l := rfl
@[go_sem] theorem S_data (l : List UInt8) : (S l).data.toList = l := (S_data_rfl l).trans (Eq.refl _)
theorem S_eta (s : ByteArray) : s = S s.data.toList := by cases s; rfl
theorem S_append (l m : List UInt8) : S l ++ S m = S (l ++ m) := by
  have h : (S l ++ S m).data.toList = (S (l ++ m)).data.toList := by rw [Go.Joins.data_append]; rfl
  cases hx : S l ++ S m with
  | mk d => rw [hx] at h; have : d = (S (l ++ m)).data := Array.ext' h; rw [this]
theorem S_extract (l : List UInt8) (a b : Nat) : (S l).extract a b = S ((l.drop a).take (b - a)) := by
  have h : ((S l).extract a b).data.toList = (S ((l.drop a).take (b - a))).data.toList := by
    rw [ByteArray.data_extract, Array.toList_extract]; simp [S, List.extract_eq_take_drop]
  cases hx : (S l).extract a b with
  | mk d => rw [hx] at h; have : d = (S ((l.drop a).take (b - a))).data := Array.ext' h; rw [this]

/-- The table of powers of ten of internal/strconv lies as its initialiser lays it. -/
def Tab (w : World) : Prop := Lib.TabIs Tryd.prog w "internal/strconv.uint64pow10" .u64 Lib.pow10Tab

theorem Fr.grow (w : World) (k : Nat) (os : Array Obj) : Fr w (Go.Sort.grow (w.drewN k) os) :=
  ⟨rfl, rfl, rfl, by simp [Go.Sort.grow, World.drewN], fun i hi _ => by
    show (w.heap ++ os)[i]? = w.heap[i]?
    rw [Array.getElem?_append_left hi]⟩
theorem tab_grown {w w' : World} {row : Option Nat} (h : Tab w) (hg : w.grownBy w' row) (hr : some 0 ≠ row) : Tab w' := by
  have hgn : Tryd.prog.globalNamed "internal/strconv.uint64pow10" = some 0 := by kernel_rfl
  unfold Tab Lib.TabIs World.var? at h ⊢
  rw [hgn] at h ⊢
  simp only [Option.bind_some] at h ⊢
  have hlt : 0 < w.heap.size := by
    rcases Nat.lt_or_ge 0 w.heap.size with h' | h'
    · exact h'
    · rw [Array.getElem?_eq_none h'] at h; cases h
  rw [hg.block _ hlt hr]
  exact h
theorem Tab.fr {w w' : World} (h : Tab w) (hg : Fr w w') : Tab w' := tab_grown h hg (by simp)
theorem Tab.alloc {w : World} (h : Tab w) (o : Obj) : Tab (w.alloc o) := h.fr (Fr.alloc w o)
theorem Tab.lt {w : World} (h : Tab w) : 0 < w.heap.size := by
  have hgn : Tryd.prog.globalNamed "internal/strconv.uint64pow10" = some 0 := by kernel_rfl
  unfold Tab Lib.TabIs World.var? at h
  rw [hgn] at h
  simp only [Option.bind_some] at h
  rcases Nat.lt_or_ge 0 w.heap.size with h' | h'
  · exact h'
  · rw [Array.getElem?_eq_none h'] at h; cases h
end Go.Proofs.YthppefkamklakaaDoor
