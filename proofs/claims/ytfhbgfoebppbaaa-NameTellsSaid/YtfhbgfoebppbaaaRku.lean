/-
  A slice of holds that was read: a nil one has no room.
-/
import Derived.Test.YtfhbgfoebppbaaaRkn
namespace Go.Proofs.Ytfhbgfoebppbaaa
open Go.ChangeShapes Go.WideShapes Go.ChangeAt Go.RowKit Go.Joins Go.Deep

theorem hds_nz {H : Type} {enc : TypeId × Value → H} {W : World} {base fuel : Nat} {spare : Nat → Bool} {held : Bool} {v : Value} {x : DataW H × List MemPlace}
    (h : DataW.trod enc Try.prog W base spare held fuel 23 [v] = some x) : ∀ n c, v = .slice none n c → n = 0 ∧ c = 0 := by
  intro n c hv
  rcases open_slice_fields Try.underlying23 Try.underlying43 (by kernel_rfl) cellsHd h with ⟨hcs, _⟩ | ⟨a, len, cap, m, hcs, _⟩
  · rw [hv] at hcs
    simp at hcs
    exact hcs
  · rw [hv] at hcs
    simp at hcs
end Go.Proofs.Ytfhbgfoebppbaaa
