/-
  DERIVED. GIVEN WITH THE SEED: THE CARDS: each row of YtailbappdfbjoaaDoorRows.lean that lists a variable, with what it lists TIED to the program's text (the seventh form; the later family's looks); each row that meets fmt, with fmt's text TOLD by the authors' own Lean function (tested against real Go, not proved from fmt's source: count such statements apart). THE CARD IS WHAT COUNTS. Prove the row's statement (the work); the ties are given (YtailbappdfbjoaaDoorTie.lean); close each card by the builder's one call (the guide's Derived/Test/ToyasCard.lean, 'card_holds'). Laid BY PROGRAM, IN A SANDBOX (cutbox-door.mjs). By AI agents, Wed Nov 11 2026. No macro, syntax, notation, axiom, sorry.
-/
import Derived.Test.YtailbappdfbjoaaDoorRows
import GoSem.ClaimSeven
namespace Go.Proofs.YtailbappdfbjoaaDoor
namespace Rows

/-- THE TIED CARD OF 'ladinglaw07.BookTells'. -/
def bookTellsCard : Claim7 := { stood := { row := bookTellsRow, standIns := [], harness := (true, "84f974e56ed99f714bc7fd1fe596a7ddf9ed24398e6846b16faf263d0a0f120a"), looks := true }, kinds := [], alts := [], laidByText := true, laidKinds := [.data, .data, .data], laidTests := true, laidLooks := .later }
def BookTellsCardSaid : Prop := Claim7.holds Tryd.pinned (.plain (OpenSpec.ofChange bookTellsSpec)) bookTellsCard

/-- THE TIED CARD OF 'ladinglaw07.BookHonest'. -/
def bookHonestCard : Claim7 := { stood := { row := bookHonestRow, standIns := [], harness := (true, "84f974e56ed99f714bc7fd1fe596a7ddf9ed24398e6846b16faf263d0a0f120a"), looks := true }, kinds := [], alts := [], laidByText := true, laidKinds := [.data, .data, .data], laidTests := true, laidLooks := .later }
def BookHonestCardSaid : Prop := Claim7.holds Tryd.pinned (.plain (OpenSpec.ofChange bookHonestSpec)) bookHonestCard

/-- THE TIED CARD OF 'ladinglaw07.BookSays'. -/
def bookSaysCard : Claim7 := { stood := { row := bookSaysRow, standIns := [], harness := (true, "84f974e56ed99f714bc7fd1fe596a7ddf9ed24398e6846b16faf263d0a0f120a"), looks := true }, kinds := [], alts := [], laidByText := true, laidKinds := [.data, .data, .data], laidTests := true, laidLooks := .later }
def BookSaysCardSaid : Prop := Claim7.holds Tryd.pinned (.plain (OpenSpec.ofChange bookSaysSpec)) bookSaysCard

/-- THE TIED CARD OF 'ladinglaw07.BookCopies'. -/
def bookCopiesCard : Claim7 := { stood := { row := bookCopiesRow, standIns := [], harness := (true, "84f974e56ed99f714bc7fd1fe596a7ddf9ed24398e6846b16faf263d0a0f120a"), looks := true }, kinds := [], alts := [], laidByText := true, laidKinds := [.data, .data, .data], laidTests := true, laidLooks := .later }
def BookCopiesCardSaid : Prop := Claim7.holds Tryd.pinned (.plain (OpenSpec.ofChange bookCopiesSpec)) bookCopiesCard

/-- THE SECOND FORM's CARD OF 'ladinglaw07.BookTells'. -/
def bookTellsUptoCard : Claim7 := { stood := { row := bookTellsUptoRow, standIns := [], harness := (true, "84f974e56ed99f714bc7fd1fe596a7ddf9ed24398e6846b16faf263d0a0f120a"), looks := true }, kinds := [], alts := [], laidByText := true, laidKinds := [.data, .data, .data], laidTests := true, laidLooks := .later }
def BookTellsUptoCardSaid : Prop := Claim7.holds Tryd.pinned (.plain (OpenSpec.upto bookTellsSpec)) bookTellsUptoCard

/-- THE SECOND FORM's CARD OF 'ladinglaw07.BookHonest'. -/
def bookHonestUptoCard : Claim7 := { stood := { row := bookHonestUptoRow, standIns := [], harness := (true, "84f974e56ed99f714bc7fd1fe596a7ddf9ed24398e6846b16faf263d0a0f120a"), looks := true }, kinds := [], alts := [], laidByText := true, laidKinds := [.data, .data, .data], laidTests := true, laidLooks := .later }
def BookHonestUptoCardSaid : Prop := Claim7.holds Tryd.pinned (.plain (OpenSpec.upto bookHonestSpec)) bookHonestUptoCard

/-- THE SECOND FORM's CARD OF 'ladinglaw07.BookSays'. -/
def bookSaysUptoCard : Claim7 := { stood := { row := bookSaysUptoRow, standIns := [], harness := (true, "84f974e56ed99f714bc7fd1fe596a7ddf9ed24398e6846b16faf263d0a0f120a"), looks := true }, kinds := [], alts := [], laidByText := true, laidKinds := [.data, .data, .data], laidTests := true, laidLooks := .later }
def BookSaysUptoCardSaid : Prop := Claim7.holds Tryd.pinned (.plain (OpenSpec.upto bookSaysSpec)) bookSaysUptoCard

/-- THE SECOND FORM's CARD OF 'ladinglaw07.BookCopies'. -/
def bookCopiesUptoCard : Claim7 := { stood := { row := bookCopiesUptoRow, standIns := [], harness := (true, "84f974e56ed99f714bc7fd1fe596a7ddf9ed24398e6846b16faf263d0a0f120a"), looks := true }, kinds := [], alts := [], laidByText := true, laidKinds := [.data, .data, .data], laidTests := true, laidLooks := .later }
def BookCopiesUptoCardSaid : Prop := Claim7.holds Tryd.pinned (.plain (OpenSpec.upto bookCopiesSpec)) bookCopiesUptoCard
end Rows
end Go.Proofs.YtailbappdfbjoaaDoor
