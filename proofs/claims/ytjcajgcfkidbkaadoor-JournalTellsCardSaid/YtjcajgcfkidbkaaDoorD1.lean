/-
  Package disk's smallest functions: isFile, placeOf, checkWrite.
-/
import Derived.Test.YtjcajgcfkidbkaaDoorFr
import Derived.WalkKit
import Derived.WalkSpells
import Derived.WalkLawsBesides
import Derived.Lib.Hide
import Derived.IntWalk
import Derived.BigQuiet
import Derived.StillTailTactics
import Derived.Deep.RegionHeld3
import Derived.Deep.MidRow
import Derived.Maps.Keyed
namespace Go.Proofs.YtjcajgcfkidbkaaDoor
open Go.RowKit

set_option maxRecDepth 100000 in
theorem isFile_yes (f : Int) (w : World) (h0 : 0 ≤ f) (h1 : f < 16) :
    Calls Tryd.prog 60 #[.int .i64 f] w fun e w' => e = .returned (.bool true) ∧ w' = w := by
  go_enter Tryd.func60, Tryd.ntmps60
  go_wp2
  go_ret
  exact ⟨rfl, rfl⟩
set_option maxRecDepth 100000 in
theorem isFile_no (f : Int) (w : World) (h : f < 0 ∨ 16 ≤ f) :
    Calls Tryd.prog 60 #[.int .i64 f] w fun e w' => e = .returned (.bool false) ∧ w' = w := by
  rcases h with h | h
  · have h' : ¬ (0 ≤ f) := by omega
    go_enter Tryd.func60, Tryd.ntmps60
    go_wp2
    go_ret
    exact ⟨rfl, rfl⟩
  · have h' : 0 ≤ f := by omega
    have h2 : ¬ (f < 16) := by omega
    go_enter Tryd.func60, Tryd.ntmps60
    go_wp2
    go_ret
    exact ⟨rfl, rfl⟩
set_option maxRecDepth 100000 in
theorem Fr.block {w w' : World} (h : Fr w w') {b : Nat} (hb : b < w.heap.size) : w'.heap[b]? = w.heap[b]? := World.grownBy.block h b hb (by simp)

theorem placeOf_any (f at_ : Nat) (w : World) (h1 : at_ ≤ 1000000000000) :
    Calls Tryd.prog 61 #[.int .i64 f, .int .i64 at_] w fun e w' => e = .returned (.agg #[.int .i64 f, .int .i64 ((at_ / 64 : Nat) : Int)]) ∧ Fr w w' := by
  go_enter Tryd.func61, Tryd.ntmps61
  go_wp2
  exact bodyPost_ret (v := .agg #[.int .i64 f, .int .i64 ((at_ / 64 : Nat) : Int)]) (by simp [results, Tryd.results61, go_sem]) rfl ⟨rfl, Fr.alloc _ _⟩
end Go.Proofs.YtjcajgcfkidbkaaDoor
