/-
  Contracts: the functions of package wire that write, and those of the reference.
-/
import Derived.Test.YtapdabebiinnnaaBase
namespace Go.Proofs.Ytapdabebiinnnaa
open Go.RowKit

set_option maxRecDepth 100000 in
theorem ret_str {s t : ByteArray} (h : s = t) : Ending.returned (.string s) = .returned (.string t) := by rw [h]

/-- A slice of one-cell values. -/
def IsSl (w : World) (v : Value) (xs : List Value) : Prop :=
  (xs = [] ∧ ∃ a c, v = .slice a 0 c) ∨ ∃ b o c, v = .slice (some ⟨b, o, none⟩) xs.length c ∧ ∀ i x, xs[i]? = some x → w.cell? ⟨b, o + i, none⟩ = some x
theorem IsSl.fr {w w' : World} {v : Value} {xs : List Value} (h : IsSl w v xs) (hf : Fr w w') : IsSl w' v xs := by
  rcases h with h | ⟨b, o, c, hv, hc⟩
  · exact .inl h
  · exact .inr ⟨b, o, c, hv, fun i x hx => hf.cell (hc i x hx)⟩
theorem IsSl.len {w : World} {v : Value} {xs : List Value} (h : IsSl w v xs) : ∃ a c, v = .slice a xs.length c := by
  rcases h with ⟨rfl, a, c, rfl⟩ | ⟨b, o, c, rfl, _⟩
  · exact ⟨a, c, rfl⟩
  · exact ⟨_, _, rfl⟩

end Go.Proofs.Ytapdabebiinnnaa
