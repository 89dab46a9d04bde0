/-
  Package disk's smallest functions: isFile, placeOf, checkWrite.
-/
import Derived.Test.YtpjoekjakjajcaaProg
import Derived.WalkKit
import Derived.WalkSpells
import Derived.WalkLawsBesides
import Derived.Lib.Hide
import Derived.IntWalk
import Derived.BigQuiet
import Derived.StillTailTactics
import Derived.Deep.RegionHeld3
import Derived.Deep.MidRow
import Derived.Maps.Keyed
namespace Go.Proofs.Ytpjoekjakjajcaa
open Go.RowKit

theorem isFile_yes (f : Int) (w : World) (h0 : 0 ≤ f) (h1 : f < 16) :
    Calls Try.prog 39 #[.int .i64 f] w fun e w' => e = .returned (.bool true) ∧ w' = w := by
  go_enter Try.func39, Try.ntmps39
  go_wp2
  go_ret
  exact ⟨rfl, rfl⟩
theorem isFile_no (f : Int) (w : World) (h : f < 0 ∨ 16 ≤ f) :
    Calls Try.prog 39 #[.int .i64 f] w fun e w' => e = .returned (.bool false) ∧ w' = w := by
  rcases h with h | h
  · have h' : ¬ (0 ≤ f) := by omega
    go_enter Try.func39, Try.ntmps39
    go_wp2
    go_ret
    exact ⟨rfl, rfl⟩
  · have h' : 0 ≤ f := by omega
    have h2 : ¬ (f < 16) := by omega
    go_enter Try.func39, Try.ntmps39
    go_wp2
    go_ret
    exact ⟨rfl, rfl⟩
/-- Only new memory. -/
def Fr (w w' : World) : Prop := w.grownBy w' none
theorem Fr.refl (w : World) : Fr w w := ⟨rfl, rfl, rfl, Nat.le_refl _, fun _ _ _ => rfl⟩
theorem Fr.trans {a b c : World} (h : Fr a b) (k : Fr b c) : Fr a c := World.grownBy.trans h k
theorem Fr.alloc (w : World) (o : Obj) : Fr w (w.alloc o) := World.grownBy_alloc w o none
theorem Fr.drewN (w : World) (n : Nat) : Fr w (w.drewN n) := ⟨rfl, rfl, rfl, Nat.le_refl _, fun _ _ _ => rfl⟩
theorem Fr.drew (w : World) : Fr w w.drew := ⟨rfl, rfl, rfl, Nat.le_refl _, fun _ _ _ => rfl⟩
theorem Fr.size {w w' : World} (h : Fr w w') : w.heap.size ≤ w'.heap.size := World.grownBy.size h
theorem Fr.cell {w w' : World} (h : Fr w w') {a : Addr} {v : Value} (hc : w.cell? a = some v) : w'.cell? a = some v := World.grownBy.cell h hc (by simp)
theorem Fr.block {w w' : World} (h : Fr w w') {b : Nat} (hb : b < w.heap.size) : w'.heap[b]? = w.heap[b]? := World.grownBy.block h b hb (by simp)

theorem placeOf_any (f at_ : Nat) (w : World) (h1 : at_ ≤ 1000000000000) :
    Calls Try.prog 46 #[.int .i64 f, .int .i64 at_] w fun e w' => e = .returned (.agg #[.int .i64 f, .int .i64 ((at_ / 64 : Nat) : Int)]) ∧ Fr w w' := by
  go_enter Try.func46, Try.ntmps46
  go_wp2
  exact bodyPost_ret (v := .agg #[.int .i64 f, .int .i64 ((at_ / 64 : Nat) : Int)]) (by simp [results, Try.results46, go_sem]) rfl ⟨rfl, Fr.alloc _ _⟩
end Go.Proofs.Ytpjoekjakjajcaa
