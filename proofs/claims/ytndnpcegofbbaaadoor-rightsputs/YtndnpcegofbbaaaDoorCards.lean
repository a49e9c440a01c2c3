/-
  DERIVED. GIVEN WITH THE SEED: THE CARDS: each row of YtndnpcegofbbaaaDoorRows.lean that lists a variable, with what it lists TIED to the program's text (the seventh form; the later family's looks); each row that meets fmt, with fmt's text TOLD by the authors' own Lean function (tested against real Go, not proved from fmt's source: count such statements apart). THE CARD IS WHAT COUNTS. Prove the row's statement (the work); the ties are given (YtndnpcegofbbaaaDoorTie.lean); close each card by the builder's one call (the guide's Derived/Test/ToyasCard.lean, 'card_holds'). Laid BY PROGRAM, IN A SANDBOX (cutbox-door.mjs). By AI agents, Wed Nov 11 2026. No macro, syntax, notation, axiom, sorry.
-/
import Derived.Test.YtndnpcegofbbaaaDoorRows
import GoSem.ClaimSeven
namespace Go.Proofs.YtndnpcegofbbaaaDoor
namespace Rows

/-- THE TIED CARD OF 'purlieulaw01.RightsReckons'. -/
def rightsReckonsCard : Claim7 := { stood := { row := rightsReckonsRow, standIns := [], harness := (true, "bc53f53f440cc3f8361ae55fa3a267abfeadac1b3666fbdba6009a29db593b44"), looks := false }, kinds := [], alts := [], laidByText := true, laidKinds := [.data, .data, .pinned], laidTests := true, laidLooks := .later }
def RightsReckonsCardSaid : Prop := Claim7.holds Tryd.pinned (.plain (OpenSpec.ofChange rightsReckonsSpec)) rightsReckonsCard

/-- THE TIED CARD OF 'purlieulaw01.RightsSubsets'. -/
def rightsSubsetsCard : Claim7 := { stood := { row := rightsSubsetsRow, standIns := [], harness := (true, "bc53f53f440cc3f8361ae55fa3a267abfeadac1b3666fbdba6009a29db593b44"), looks := false }, kinds := [], alts := [], laidByText := true, laidKinds := [.data, .data, .pinned], laidTests := true, laidLooks := .later }
def RightsSubsetsCardSaid : Prop := Claim7.holds Tryd.pinned (.plain (OpenSpec.ofChange rightsSubsetsSpec)) rightsSubsetsCard

/-- THE TIED CARD OF 'purlieulaw01.RightsNames'. -/
def rightsNamesCard : Claim7 := { stood := { row := rightsNamesRow, standIns := [], harness := (true, "bc53f53f440cc3f8361ae55fa3a267abfeadac1b3666fbdba6009a29db593b44"), looks := false }, kinds := [], alts := [], laidByText := true, laidKinds := [.data, .data, .pinned], laidTests := true, laidLooks := .later }
def RightsNamesCardSaid : Prop := Claim7.holds Tryd.pinned (.plain (OpenSpec.ofChange rightsNamesSpec)) rightsNamesCard

/-- THE TIED CARD OF 'purlieulaw01.RightsShows'. -/
def rightsShowsCard : Claim7 := { stood := { row := rightsShowsRow, standIns := [], harness := (true, "bc53f53f440cc3f8361ae55fa3a267abfeadac1b3666fbdba6009a29db593b44"), looks := false }, kinds := [], alts := [], laidByText := true, laidKinds := [.data, .data, .pinned], laidTests := true, laidLooks := .later }
def RightsShowsCardSaid : Prop := Claim7.holds Tryd.pinned (.plain (OpenSpec.ofChange rightsShowsSpec)) rightsShowsCard

/-- THE TIED CARD OF 'purlieulaw01.RightsParses'. -/
def rightsParsesCard : Claim7 := { stood := { row := rightsParsesRow, standIns := [], harness := (true, "bc53f53f440cc3f8361ae55fa3a267abfeadac1b3666fbdba6009a29db593b44"), looks := false }, kinds := [], alts := [], laidByText := true, laidKinds := [.data, .data, .pinned], laidTests := true, laidLooks := .later }
def RightsParsesCardSaid : Prop := Claim7.holds Tryd.pinned (.plain (OpenSpec.ofChange rightsParsesSpec)) rightsParsesCard

/-- THE TIED CARD OF 'purlieulaw01.RightsPuts'. -/
def rightsPutsCard : Claim7 := { stood := { row := rightsPutsRow, standIns := [], harness := (true, "bc53f53f440cc3f8361ae55fa3a267abfeadac1b3666fbdba6009a29db593b44"), looks := false }, kinds := [], alts := [], laidByText := true, laidKinds := [.data, .data, .pinned], laidTests := true, laidLooks := .later }
def RightsPutsCardSaid : Prop := Claim7.holds Tryd.pinned (.plain (OpenSpec.ofChange rightsPutsSpec)) rightsPutsCard

/-- THE SECOND FORM's CARD OF 'purlieulaw01.RightsReckons'. -/
def rightsReckonsUptoCard : Claim7 := { stood := { row := rightsReckonsUptoRow, standIns := [], harness := (true, "bc53f53f440cc3f8361ae55fa3a267abfeadac1b3666fbdba6009a29db593b44"), looks := false }, kinds := [], alts := [], laidByText := true, laidKinds := [.data, .data, .pinned], laidTests := true, laidLooks := .later }
def RightsReckonsUptoCardSaid : Prop := Claim7.holds Tryd.pinned (.plain (OpenSpec.upto rightsReckonsSpec)) rightsReckonsUptoCard

/-- THE SECOND FORM's CARD OF 'purlieulaw01.RightsSubsets'. -/
def rightsSubsetsUptoCard : Claim7 := { stood := { row := rightsSubsetsUptoRow, standIns := [], harness := (true, "bc53f53f440cc3f8361ae55fa3a267abfeadac1b3666fbdba6009a29db593b44"), looks := false }, kinds := [], alts := [], laidByText := true, laidKinds := [.data, .data, .pinned], laidTests := true, laidLooks := .later }
def RightsSubsetsUptoCardSaid : Prop := Claim7.holds Tryd.pinned (.plain (OpenSpec.upto rightsSubsetsSpec)) rightsSubsetsUptoCard

/-- THE SECOND FORM's CARD OF 'purlieulaw01.RightsNames'. -/
def rightsNamesUptoCard : Claim7 := { stood := { row := rightsNamesUptoRow, standIns := [], harness := (true, "bc53f53f440cc3f8361ae55fa3a267abfeadac1b3666fbdba6009a29db593b44"), looks := false }, kinds := [], alts := [], laidByText := true, laidKinds := [.data, .data, .pinned], laidTests := true, laidLooks := .later }
def RightsNamesUptoCardSaid : Prop := Claim7.holds Tryd.pinned (.plain (OpenSpec.upto rightsNamesSpec)) rightsNamesUptoCard

/-- THE SECOND FORM's CARD OF 'purlieulaw01.RightsShows'. -/
def rightsShowsUptoCard : Claim7 := { stood := { row := rightsShowsUptoRow, standIns := [], harness := (true, "bc53f53f440cc3f8361ae55fa3a267abfeadac1b3666fbdba6009a29db593b44"), looks := false }, kinds := [], alts := [], laidByText := true, laidKinds := [.data, .data, .pinned], laidTests := true, laidLooks := .later }
def RightsShowsUptoCardSaid : Prop := Claim7.holds Tryd.pinned (.plain (OpenSpec.upto rightsShowsSpec)) rightsShowsUptoCard

/-- THE SECOND FORM's CARD OF 'purlieulaw01.RightsParses'. -/
def rightsParsesUptoCard : Claim7 := { stood := { row := rightsParsesUptoRow, standIns := [], harness := (true, "bc53f53f440cc3f8361ae55fa3a267abfeadac1b3666fbdba6009a29db593b44"), looks := false }, kinds := [], alts := [], laidByText := true, laidKinds := [.data, .data, .pinned], laidTests := true, laidLooks := .later }
def RightsParsesUptoCardSaid : Prop := Claim7.holds Tryd.pinned (.plain (OpenSpec.upto rightsParsesSpec)) rightsParsesUptoCard

/-- THE SECOND FORM's CARD OF 'purlieulaw01.RightsPuts'. -/
def rightsPutsUptoCard : Claim7 := { stood := { row := rightsPutsUptoRow, standIns := [], harness := (true, "bc53f53f440cc3f8361ae55fa3a267abfeadac1b3666fbdba6009a29db593b44"), looks := false }, kinds := [], alts := [], laidByText := true, laidKinds := [.data, .data, .pinned], laidTests := true, laidLooks := .later }
def RightsPutsUptoCardSaid : Prop := Claim7.holds Tryd.pinned (.plain (OpenSpec.upto rightsPutsSpec)) rightsPutsUptoCard
end Rows
end Go.Proofs.YtndnpcegofbbaaaDoor
