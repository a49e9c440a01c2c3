/-
  DERIVED. GIVEN WITH THE SEED: THE CARDS: each row of YtndnpcegofbbaabDoorRows.lean that lists a variable, with what it lists TIED to the program's text (the seventh form; the later family's looks); each row that meets fmt, with fmt's text TOLD by the authors' own Lean function (tested against real Go, not proved from fmt's source: count such statements apart). THE CARD IS WHAT COUNTS. Prove the row's statement (the work); the ties are given (YtndnpcegofbbaabDoorTie.lean); close each card by the builder's one call (the guide's Derived/Test/ToyasCard.lean, 'card_holds'). Laid BY PROGRAM, IN A SANDBOX (cutbox-door.mjs). By AI agents, Wed Nov 11 2026. No macro, syntax, notation, axiom, sorry.
-/
import Derived.Test.YtndnpcegofbbaabDoorRows
import GoSem.ClaimSeven
namespace Go.Proofs.YtndnpcegofbbaabDoor
namespace Rows

/-- THE TIED CARD OF 'purlieulaw01.RightsTakes'. -/
def rightsTakesCard : Claim7 := { stood := { row := rightsTakesRow, standIns := [], harness := (true, "337b709411c009644e7ae094ba437f67047cd56f59386f35706303fada85d871"), looks := false }, kinds := [], alts := [], laidByText := true, laidKinds := [.data, .data, .pinned], laidTests := true, laidLooks := .later }
def RightsTakesCardSaid : Prop := Claim7.holds Tryd.pinned (.plain (OpenSpec.ofChange rightsTakesSpec)) rightsTakesCard

/-- THE TIED CARD OF 'purlieulaw01.RightsMeets'. -/
def rightsMeetsCard : Claim7 := { stood := { row := rightsMeetsRow, standIns := [], harness := (true, "337b709411c009644e7ae094ba437f67047cd56f59386f35706303fada85d871"), looks := false }, kinds := [], alts := [], laidByText := true, laidKinds := [.data, .data, .pinned], laidTests := true, laidLooks := .later }
def RightsMeetsCardSaid : Prop := Claim7.holds Tryd.pinned (.plain (OpenSpec.ofChange rightsMeetsSpec)) rightsMeetsCard

/-- THE SECOND FORM's CARD OF 'purlieulaw01.RightsTakes'. -/
def rightsTakesUptoCard : Claim7 := { stood := { row := rightsTakesUptoRow, standIns := [], harness := (true, "337b709411c009644e7ae094ba437f67047cd56f59386f35706303fada85d871"), looks := false }, kinds := [], alts := [], laidByText := true, laidKinds := [.data, .data, .pinned], laidTests := true, laidLooks := .later }
def RightsTakesUptoCardSaid : Prop := Claim7.holds Tryd.pinned (.plain (OpenSpec.upto rightsTakesSpec)) rightsTakesUptoCard

/-- THE SECOND FORM's CARD OF 'purlieulaw01.RightsMeets'. -/
def rightsMeetsUptoCard : Claim7 := { stood := { row := rightsMeetsUptoRow, standIns := [], harness := (true, "337b709411c009644e7ae094ba437f67047cd56f59386f35706303fada85d871"), looks := false }, kinds := [], alts := [], laidByText := true, laidKinds := [.data, .data, .pinned], laidTests := true, laidLooks := .later }
def RightsMeetsUptoCardSaid : Prop := Claim7.holds Tryd.pinned (.plain (OpenSpec.upto rightsMeetsSpec)) rightsMeetsUptoCard
end Rows
end Go.Proofs.YtndnpcegofbbaabDoor
