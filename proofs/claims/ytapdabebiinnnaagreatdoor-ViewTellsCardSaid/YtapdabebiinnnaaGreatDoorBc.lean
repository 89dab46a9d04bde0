/-
  Book: sign, Entry, Head, Absent.
-/
import Derived.Test.YtapdabebiinnnaaGreatDoorBb
import Derived.Test.YtapdabebiinnnaaGreatDoorCs
namespace Go.Proofs.YtapdabebiinnnaaGreatDoor
open Go.RowKit Go.MapKept Go.Maps Go.WideMaps

/-- What is signed, if anything: the signature and the ring then. -/
def sgO (q : List Sd) : Option Sd → Sg
  | none => (0, [], 0)
  | some e => signR q e
def qO (q : List Sd) : Option Sd → List Sd
  | none => q
  | some e => signL q e
theorem textR_len (c : C) : (textR c).length ≤ 20100 := by
  unfold textR
  split
  · next h => exact textC_len h
  · simp
/-- The cells of a result that has been stored. -/
theorem Has.sg3 {W w : World} {t : TypeId} {B : Nat} {a b c : Value} {U : Thing} (h : Has W w ((BoxT t B #[a, b, c]).sep U)) (x y z : Value) :
    Has W (((w.setCell ⟨B, 0, none⟩ x).setCell ⟨B, 1, none⟩ y).setCell ⟨B, 2, none⟩ z) ((BoxT t B #[x, y, z]).sep U) := ((h.set 0 x).set 1 y).set 2 z

theorem sg_end {W w : World} {P : Nat} {a b c : Value} {A V : Thing} (h : Has W w (A.sep ((BoxT 32 P #[a, b, c]).sep V))) (x y z : Value) :
    (((w.setCell ⟨P, 0, none⟩ x).setCell ⟨P, 1, none⟩ y).setCell ⟨P, 2, none⟩ z).heap[P]? = some (.cells #[x, y, z] 32 (0, 0)) ∧
    Has W (((w.setCell ⟨P, 0, none⟩ x).setCell ⟨P, 1, none⟩ y).setCell ⟨P, 2, none⟩ z) (A.sep V) :=
  let h1 := h.turn.sg3 x y z
  ⟨h1.boxed, h1.right⟩

end Go.Proofs.YtapdabebiinnnaaGreatDoor
