/-
  DERIVED. GIVEN WITH THE SEED: THE CARDS: each row of YthppefkamklakaaDoorRows.lean that lists a variable, with what it lists TIED to the program's text (the seventh form; the later family's looks); each row that meets fmt, with fmt's text TOLD by the authors' own Lean function (tested against real Go, not proved from fmt's source: count such statements apart). THE CARD IS WHAT COUNTS. Prove the row's statement (the work); the ties are given (YthppefkamklakaaDoorTie.lean); close each card by the builder's one call (the guide's Derived/Test/ToyasCard.lean, 'card_holds'). Laid BY PROGRAM, IN A SANDBOX (cutbox-door.mjs). By AI agents, Wed Nov 11 2026. No macro, syntax, notation, axiom, sorry.
-/
import Derived.Test.YthppefkamklakaaDoorRows
import GoSem.ClaimSeven
namespace Go.Proofs.YthppefkamklakaaDoor
namespace Rows

/-- THE TIED CARD OF 'ladinglaw09.GossipHonest'. -/
def gossipHonestCard : Claim7 := { stood := { row := gossipHonestRow, standIns := [], harness := (true, "0cd0533384fb1ccf4033f59832cfc62551c8bb29f6028e0e6d585f095ed4f535"), looks := false }, kinds := [], alts := [], laidByText := true, laidKinds := [.data, .data, .data], laidTests := true, laidLooks := .later }
def GossipHonestCardSaid : Prop := Claim7.holds Tryd.pinned (.plain (OpenSpec.ofChange gossipHonestSpec)) gossipHonestCard

/-- THE SECOND FORM's CARD OF 'ladinglaw09.GossipHonest'. -/
def gossipHonestUptoCard : Claim7 := { stood := { row := gossipHonestUptoRow, standIns := [], harness := (true, "0cd0533384fb1ccf4033f59832cfc62551c8bb29f6028e0e6d585f095ed4f535"), looks := false }, kinds := [], alts := [], laidByText := true, laidKinds := [.data, .data, .data], laidTests := true, laidLooks := .later }
def GossipHonestUptoCardSaid : Prop := Claim7.holds Tryd.pinned (.plain (OpenSpec.upto gossipHonestSpec)) gossipHonestUptoCard
end Rows
end Go.Proofs.YthppefkamklakaaDoor
