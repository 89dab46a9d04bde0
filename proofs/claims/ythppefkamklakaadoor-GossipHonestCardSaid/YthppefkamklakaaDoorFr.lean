/-
  Frames: a world that only grew.
-/
import Derived.Test.YthppefkamklakaaDoorProg
import Derived.WalkKit
import Derived.WalkSpells
import Derived.WalkLawsBesides
import Derived.Lib.Hide
import Derived.IntWalk
import Derived.BigQuiet
import Derived.StillTailTactics
import Derived.Deep.RegionHeld3
import Derived.Deep.MidRow
import Derived.Maps.Keyed
namespace Go.Proofs.YthppefkamklakaaDoor
open Go.RowKit

/-- Only new memory. -/
def Fr (w w' : World) : Prop := w.grownBy w' none
theorem Fr.refl (w : World) : Fr w w := ⟨rfl, rfl, rfl, Nat.le_refl _, fun _ _ _ => rfl⟩
theorem Fr.trans {a b c : World} (h : Fr a b) (k : Fr b c) : Fr a c := World.grownBy.trans h k
theorem Fr.alloc (w : World) (o : Obj) : Fr w (w.alloc o) := World.grownBy_alloc w o none
theorem Fr.drewN (w : World) (n : Nat) : Fr w (w.drewN n) := ⟨rfl, rfl, rfl, Nat.le_refl _, fun _ _ _ => rfl⟩
theorem Fr.drew (w : World) : Fr w w.drew := ⟨rfl, rfl, rfl, Nat.le_refl _, fun _ _ _ => rfl⟩
theorem Fr.below {w w' : World} (h : Fr w w') : Below w.heap.size w w' := ⟨h.os, h.tape, h.output, h.size, fun k hk => h.block k hk (by simp)⟩
theorem Fr.of_below {w w' : World} (h : Below w.heap.size w w') : Fr w w' := ⟨h.os, h.tape, h.output, h.size, fun k hk _ => h.block k hk⟩
theorem Fr.size {w w' : World} (h : Fr w w') : w.heap.size ≤ w'.heap.size := World.grownBy.size h
theorem Fr.cell {w w' : World} (h : Fr w w') {a : Addr} {v : Value} (hc : w.cell? a = some v) : w'.cell? a = some v := World.grownBy.cell h hc (by simp)
theorem Fr.heap {w w' : World} (h : Fr w w') {b : Nat} {o : Obj} (hb : w.heap[b]? = some o) : w'.heap[b]? = some o := by
  rw [World.grownBy.block h b (Array.getElem?_eq_some_iff.1 hb).1 (by simp)]; exact hb

end Go.Proofs.YthppefkamklakaaDoor
