/-
  DERIVED. GIVEN WITH THE SEED: THE CARDS: each row of YtapdabebiinnnaaDoorRows.lean that lists a variable, with what it lists TIED to the program's text (the seventh form; the later family's looks); each row that meets fmt, with fmt's text TOLD by the authors' own Lean function (tested against real Go, not proved from fmt's source: count such statements apart). THE CARD IS WHAT COUNTS. Prove the row's statement (the work); the ties are given (YtapdabebiinnnaaDoorTie.lean); close each card by the builder's one call (the guide's Derived/Test/ToyasCard.lean, 'card_holds'). Laid BY PROGRAM, IN A SANDBOX (cutbox-door.mjs). By AI agents, Wed Nov 11 2026. No macro, syntax, notation, axiom, sorry.
-/
import Derived.Test.YtapdabebiinnnaaDoorRows
import GoSem.ClaimSeven
namespace Go.Proofs.YtapdabebiinnnaaDoor
namespace Rows

/-- THE TIED CARD OF 'ladinglaw08.ViewKeeps'. -/
def viewKeepsCard : Claim7 := { stood := { row := viewKeepsRow, standIns := [], harness := (true, "e483452439e14ed82ed9831c7f75df29804062f1e05609bbb1f083e6022d101d"), looks := false }, kinds := [], alts := [], laidByText := true, laidKinds := [.data, .data, .data], laidTests := true, laidLooks := .later }
def ViewKeepsCardSaid : Prop := Claim7.holds Tryd.pinned (.plain (OpenSpec.ofChange viewKeepsSpec)) viewKeepsCard

/-- THE TIED CARD OF 'ladinglaw08.ViewBook'. -/
def viewBookCard : Claim7 := { stood := { row := viewBookRow, standIns := [], harness := (true, "e483452439e14ed82ed9831c7f75df29804062f1e05609bbb1f083e6022d101d"), looks := false }, kinds := [], alts := [], laidByText := true, laidKinds := [.data, .data, .data], laidTests := true, laidLooks := .later }
def ViewBookCardSaid : Prop := Claim7.holds Tryd.pinned (.plain (OpenSpec.ofChange viewBookSpec)) viewBookCard

/-- THE SECOND FORM's CARD OF 'ladinglaw08.ViewKeeps'. -/
def viewKeepsUptoCard : Claim7 := { stood := { row := viewKeepsUptoRow, standIns := [], harness := (true, "e483452439e14ed82ed9831c7f75df29804062f1e05609bbb1f083e6022d101d"), looks := false }, kinds := [], alts := [], laidByText := true, laidKinds := [.data, .data, .data], laidTests := true, laidLooks := .later }
def ViewKeepsUptoCardSaid : Prop := Claim7.holds Tryd.pinned (.plain (OpenSpec.upto viewKeepsSpec)) viewKeepsUptoCard

/-- THE SECOND FORM's CARD OF 'ladinglaw08.ViewBook'. -/
def viewBookUptoCard : Claim7 := { stood := { row := viewBookUptoRow, standIns := [], harness := (true, "e483452439e14ed82ed9831c7f75df29804062f1e05609bbb1f083e6022d101d"), looks := false }, kinds := [], alts := [], laidByText := true, laidKinds := [.data, .data, .data], laidTests := true, laidLooks := .later }
def ViewBookUptoCardSaid : Prop := Claim7.holds Tryd.pinned (.plain (OpenSpec.upto viewBookSpec)) viewBookUptoCard
end Rows
end Go.Proofs.YtapdabebiinnnaaDoor
