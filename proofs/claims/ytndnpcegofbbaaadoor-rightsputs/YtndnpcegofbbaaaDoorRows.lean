/-
  NARROWER THAN 'FOR EVERY INPUT', by the rows' own cells (each row's printed sentence says how): RightsReckons: laid · RightsSubsets: laid · RightsNames: laid · RightsShows: laid · RightsParses: laid · RightsPuts: laid.
  DERIVED. THE GIVEN ROWS OF THIS SEAT. 6 by the template 'for every input the law returns true; each argument reads behind the call as it read before'; 0 by the template 'total and deterministic' (their statements: YtndnpcegofbbaaaDoorTotals.lean).
  GIVEN WITH THE SEED: the statements are not yours to turn. If you find one false, say at which input.
  Laid BY PROGRAM, IN A SANDBOX (cutbox-rows.mjs): the forced cells as the released guide's own fill.sh prints them over the translation 4153842683ddc369… (all of the seat's roots in one cut). By AI agents, Wed Nov 11 2026. No macro, syntax, notation, axiom, sorry.
-/
import Derived.Test.YtndnpcegofbbaaaDoorChecked
import GoSem.PinnedTables
import GoSem.Claim
import GoSem.ClaimJoined
import GoSem.ClaimMapViews
import Derived.JoinedTies
import Derived.KernelRfl
namespace Go.Proofs.YtndnpcegofbbaaaDoor
/- THE CELL 'sum', in the pinned program and in every row, IS THE sha256 OF THE DUMP (.gsa) THAT YtndnpcegofbbaaaDoorProg.lean LOADS. Nothing in Lean hashes anything: it is a label: what it is worth is what the hold of that sum in a sandbox is worth. -/
noncomputable def Tryd.pinned : Pinned := { name := "ytndnpcegofbbaaadoor", sum := "4153842683ddc3692481a5bc5aee232bb783e6201c07ff1d7b6698ba823ef7ad", checked := Tryd.checked }
namespace Rows
def none {H : Type} : Left H := { results := [], args := [] }

/- WHAT THE LISTED PACKAGE-LEVEL VARIABLES READ AS WHEN THE CALL BEGINS. Each datum BY PROGRAM (the guide's laid-datum.mjs) off the statement by which the dump's own 'gosem.cut.vars' lays the variable. In a bare row this is a premise. The card (YtndnpcegofbbaaaDoorCards.lean) ties it to the program's text. -/
def laid_unicode_utf8_acceptRanges {H : Type} : DataW H := .agg [.agg [.lit (.int .u8 128), .lit (.int .u8 191)], .agg [.lit (.int .u8 160), .lit (.int .u8 191)], .agg [.lit (.int .u8 128), .lit (.int .u8 159)], .agg [.lit (.int .u8 144), .lit (.int .u8 191)], .agg [.lit (.int .u8 128), .lit (.int .u8 143)], .agg [.lit (.int .u8 0), .lit (.int .u8 0)], .agg [.lit (.int .u8 0), .lit (.int .u8 0)], .agg [.lit (.int .u8 0), .lit (.int .u8 0)], .agg [.lit (.int .u8 0), .lit (.int .u8 0)], .agg [.lit (.int .u8 0), .lit (.int .u8 0)], .agg [.lit (.int .u8 0), .lit (.int .u8 0)], .agg [.lit (.int .u8 0), .lit (.int .u8 0)], .agg [.lit (.int .u8 0), .lit (.int .u8 0)], .agg [.lit (.int .u8 0), .lit (.int .u8 0)], .agg [.lit (.int .u8 0), .lit (.int .u8 0)], .agg [.lit (.int .u8 0), .lit (.int .u8 0)]]
def laid_purlieu_rights_names {H : Type} : DataW H := .agg [.lit (.string [114, 101, 97, 100]), .lit (.string [119, 114, 105, 116, 101]), .lit (.string [115, 101, 101, 107]), .lit (.string [116, 101, 108, 108]), .lit (.string [99, 114, 101, 97, 116, 101]), .lit (.string [102, 115, 121, 110, 99]), .lit (.string [116, 114, 117, 110, 99, 97, 116, 101]), .lit (.string [108, 111, 111, 107, 117, 112]), .lit (.string [99, 104, 100, 105, 114]), .lit (.string [102, 99, 110, 116, 108]), .lit (.string [115, 116, 97, 116]), .lit (.string [114, 101, 97, 100, 100, 105, 114]), .lit (.string [108, 105, 110, 107, 102, 114, 111, 109]), .lit (.string [108, 105, 110, 107, 116, 111]), .lit (.string [109, 107, 100, 105, 114]), .lit (.string [114, 101, 110, 97, 109, 101, 102, 114, 111, 109]), .lit (.string [114, 101, 110, 97, 109, 101, 116, 111]), .lit (.string [115, 121, 109, 108, 105, 110, 107]), .lit (.string [114, 101, 97, 100, 108, 105, 110, 107]), .lit (.string [117, 110, 108, 105, 110, 107]), .lit (.string [97, 99, 99, 101, 112, 116]), .lit (.string [98, 105, 110, 100]), .lit (.string [99, 111, 110, 110, 101, 99, 116]), .lit (.string [108, 105, 115, 116, 101, 110]), .lit (.string [115, 104, 117, 116, 100, 111, 119, 110]), .lit (.string [98, 105, 110, 100, 97, 116]), .lit (.string [99, 111, 110, 110, 101, 99, 116, 97, 116]), .lit (.string [101, 118, 101, 110, 116]), .lit (.string [105, 111, 99, 116, 108]), .lit (.string [112, 100, 103, 101, 116, 112, 105, 100]), .lit (.string [112, 100, 119, 97, 105, 116]), .lit (.string [112, 100, 107, 105, 108, 108])]
/-- One of Go's own tables, pinned by name: the form's constant. -/
def laid_unicode_utf8_first : DataW Unit := Go.Pinned.utf8First

/-- 'purlieulaw01.RightsReckons': WHATEVER THE INPUT: true; the input reads as it did. -/
def rightsReckonsSpec : ChangeSpec := { name := "rightsReckons", fn := fun _ => fun
  | [d1, d2] => { results := [.lit (.bool true)], args := [d1, d2] }
  | _ => none }
def rightsReckonsRow : OpenClaim := { program := "ytndnpcegofbbaaadoor", sum := "4153842683ddc3692481a5bc5aee232bb783e6201c07ff1d7b6698ba823ef7ad", func := "purlieu/purlieulaw01.RightsReckons", spec := "rightsReckons", inPlace := ["internal/bytealg.IndexByteString", "internal/bytealg.IndexString", "internal/abi.NoEscape", "internal/bytealg.MakeNoZero"], unfollowed := true, recurses := true, named := ["unicode/utf8.first", "unicode/utf8.acceptRanges", "internal/bytealg.MaxLen", "purlieu/rights.names"], apart := false, laid := [("unicode/utf8.acceptRanges", laid_unicode_utf8_acceptRanges), ("purlieu/rights.names", laid_purlieu_rights_names), ("unicode/utf8.first", laid_unicode_utf8_first)] }
def RightsReckonsSaid : Prop := rightsReckonsRow.holds Tryd.pinned (OpenSpec.ofChange rightsReckonsSpec)

/-- ITS FALSE NEIGHBOUR: 'it returns false'. Refute it at one input. -/
def rightsReckonsWrong : ChangeSpec := { name := "rightsReckons", fn := fun _ => fun
  | [d1, d2] => { results := [.lit (.bool false)], args := [d1, d2] }
  | _ => none }
def RightsReckonsWrongFalsely : Prop := rightsReckonsRow.holds Tryd.pinned (OpenSpec.ofChange rightsReckonsWrong)

/-- 'purlieulaw01.RightsSubsets': WHATEVER THE INPUT: true; the input reads as it did. -/
def rightsSubsetsSpec : ChangeSpec := { name := "rightsSubsets", fn := fun _ => fun
  | [d1, d2] => { results := [.lit (.bool true)], args := [d1, d2] }
  | _ => none }
def rightsSubsetsRow : OpenClaim := { program := "ytndnpcegofbbaaadoor", sum := "4153842683ddc3692481a5bc5aee232bb783e6201c07ff1d7b6698ba823ef7ad", func := "purlieu/purlieulaw01.RightsSubsets", spec := "rightsSubsets", inPlace := ["internal/bytealg.IndexByteString", "internal/bytealg.IndexString", "internal/abi.NoEscape", "internal/bytealg.MakeNoZero"], unfollowed := true, recurses := true, named := ["unicode/utf8.first", "unicode/utf8.acceptRanges", "internal/bytealg.MaxLen", "purlieu/rights.names"], apart := false, laid := [("unicode/utf8.acceptRanges", laid_unicode_utf8_acceptRanges), ("purlieu/rights.names", laid_purlieu_rights_names), ("unicode/utf8.first", laid_unicode_utf8_first)] }
def RightsSubsetsSaid : Prop := rightsSubsetsRow.holds Tryd.pinned (OpenSpec.ofChange rightsSubsetsSpec)

/-- ITS FALSE NEIGHBOUR: 'it returns false'. Refute it at one input. -/
def rightsSubsetsWrong : ChangeSpec := { name := "rightsSubsets", fn := fun _ => fun
  | [d1, d2] => { results := [.lit (.bool false)], args := [d1, d2] }
  | _ => none }
def RightsSubsetsWrongFalsely : Prop := rightsSubsetsRow.holds Tryd.pinned (OpenSpec.ofChange rightsSubsetsWrong)

/-- 'purlieulaw01.RightsNames': WHATEVER THE INPUT: true; the input reads as it did. -/
def rightsNamesSpec : ChangeSpec := { name := "rightsNames", fn := fun _ => fun
  | [d1, d2] => { results := [.lit (.bool true)], args := [d1, d2] }
  | _ => none }
def rightsNamesRow : OpenClaim := { program := "ytndnpcegofbbaaadoor", sum := "4153842683ddc3692481a5bc5aee232bb783e6201c07ff1d7b6698ba823ef7ad", func := "purlieu/purlieulaw01.RightsNames", spec := "rightsNames", inPlace := ["internal/bytealg.IndexByteString", "internal/bytealg.IndexString", "internal/abi.NoEscape", "internal/bytealg.MakeNoZero"], unfollowed := true, recurses := true, named := ["purlieu/rights.names", "unicode/utf8.first", "unicode/utf8.acceptRanges", "internal/bytealg.MaxLen"], apart := false, laid := [("unicode/utf8.acceptRanges", laid_unicode_utf8_acceptRanges), ("purlieu/rights.names", laid_purlieu_rights_names), ("unicode/utf8.first", laid_unicode_utf8_first)] }
def RightsNamesSaid : Prop := rightsNamesRow.holds Tryd.pinned (OpenSpec.ofChange rightsNamesSpec)

/-- ITS FALSE NEIGHBOUR: 'it returns false'. Refute it at one input. -/
def rightsNamesWrong : ChangeSpec := { name := "rightsNames", fn := fun _ => fun
  | [d1, d2] => { results := [.lit (.bool false)], args := [d1, d2] }
  | _ => none }
def RightsNamesWrongFalsely : Prop := rightsNamesRow.holds Tryd.pinned (OpenSpec.ofChange rightsNamesWrong)

/-- 'purlieulaw01.RightsShows': WHATEVER THE INPUT: true; the input reads as it did. -/
def rightsShowsSpec : ChangeSpec := { name := "rightsShows", fn := fun _ => fun
  | [d] => { results := [.lit (.bool true)], args := [d] }
  | _ => none }
def rightsShowsRow : OpenClaim := { program := "ytndnpcegofbbaaadoor", sum := "4153842683ddc3692481a5bc5aee232bb783e6201c07ff1d7b6698ba823ef7ad", func := "purlieu/purlieulaw01.RightsShows", spec := "rightsShows", inPlace := ["internal/abi.NoEscape", "internal/bytealg.MakeNoZero", "internal/bytealg.IndexByteString", "internal/bytealg.IndexString"], unfollowed := true, recurses := true, named := ["purlieu/rights.names", "unicode/utf8.first", "unicode/utf8.acceptRanges", "internal/bytealg.MaxLen"], apart := false, laid := [("unicode/utf8.acceptRanges", laid_unicode_utf8_acceptRanges), ("purlieu/rights.names", laid_purlieu_rights_names), ("unicode/utf8.first", laid_unicode_utf8_first)] }
def RightsShowsSaid : Prop := rightsShowsRow.holds Tryd.pinned (OpenSpec.ofChange rightsShowsSpec)

/-- ITS FALSE NEIGHBOUR: 'it returns false'. Refute it at one input. -/
def rightsShowsWrong : ChangeSpec := { name := "rightsShows", fn := fun _ => fun
  | [d] => { results := [.lit (.bool false)], args := [d] }
  | _ => none }
def RightsShowsWrongFalsely : Prop := rightsShowsRow.holds Tryd.pinned (OpenSpec.ofChange rightsShowsWrong)

/-- 'purlieulaw01.RightsParses': WHATEVER THE INPUT: true; the input reads as it did. -/
def rightsParsesSpec : ChangeSpec := { name := "rightsParses", fn := fun _ => fun
  | [d] => { results := [.lit (.bool true)], args := [d] }
  | _ => none }
def rightsParsesRow : OpenClaim := { program := "ytndnpcegofbbaaadoor", sum := "4153842683ddc3692481a5bc5aee232bb783e6201c07ff1d7b6698ba823ef7ad", func := "purlieu/purlieulaw01.RightsParses", spec := "rightsParses", inPlace := ["internal/bytealg.IndexByteString", "internal/bytealg.IndexString", "internal/abi.NoEscape", "internal/bytealg.MakeNoZero"], unfollowed := true, recurses := true, named := ["unicode/utf8.first", "unicode/utf8.acceptRanges", "internal/bytealg.MaxLen", "purlieu/rights.names"], apart := false, laid := [("unicode/utf8.acceptRanges", laid_unicode_utf8_acceptRanges), ("purlieu/rights.names", laid_purlieu_rights_names), ("unicode/utf8.first", laid_unicode_utf8_first)] }
def RightsParsesSaid : Prop := rightsParsesRow.holds Tryd.pinned (OpenSpec.ofChange rightsParsesSpec)

/-- ITS FALSE NEIGHBOUR: 'it returns false'. Refute it at one input. -/
def rightsParsesWrong : ChangeSpec := { name := "rightsParses", fn := fun _ => fun
  | [d] => { results := [.lit (.bool false)], args := [d] }
  | _ => none }
def RightsParsesWrongFalsely : Prop := rightsParsesRow.holds Tryd.pinned (OpenSpec.ofChange rightsParsesWrong)

/-- 'purlieulaw01.RightsPuts': WHATEVER THE INPUT: true; the input reads as it did. -/
def rightsPutsSpec : ChangeSpec := { name := "rightsPuts", fn := fun _ => fun
  | [d] => { results := [.lit (.bool true)], args := [d] }
  | _ => none }
def rightsPutsRow : OpenClaim := { program := "ytndnpcegofbbaaadoor", sum := "4153842683ddc3692481a5bc5aee232bb783e6201c07ff1d7b6698ba823ef7ad", func := "purlieu/purlieulaw01.RightsPuts", spec := "rightsPuts", inPlace := ["internal/bytealg.IndexByteString", "internal/bytealg.IndexString", "internal/abi.NoEscape", "internal/bytealg.MakeNoZero"], unfollowed := true, recurses := true, named := ["unicode/utf8.first", "unicode/utf8.acceptRanges", "internal/bytealg.MaxLen", "purlieu/rights.names"], apart := false, laid := [("unicode/utf8.acceptRanges", laid_unicode_utf8_acceptRanges), ("purlieu/rights.names", laid_purlieu_rights_names), ("unicode/utf8.first", laid_unicode_utf8_first)] }
def RightsPutsSaid : Prop := rightsPutsRow.holds Tryd.pinned (OpenSpec.ofChange rightsPutsSpec)

/-- ITS FALSE NEIGHBOUR: 'it returns false'. Refute it at one input. -/
def rightsPutsWrong : ChangeSpec := { name := "rightsPuts", fn := fun _ => fun
  | [d] => { results := [.lit (.bool false)], args := [d] }
  | _ => none }
def RightsPutsWrongFalsely : Prop := rightsPutsRow.holds Tryd.pinned (OpenSpec.ofChange rightsPutsWrong)

/- THE SECOND FORM. 'bulk': how many values and letters a reading holds, each counted each time it is reached (what is shared counts as often as it is met; a slice's spare places count too). A statement '..UptoSaid' is the law's where the arguments, and the package variables that the reading takes, are together of bulk at most 1048576: NARROWER than '..Said'. Prove '..Said' where nothing that the law and all that it calls make is longer than what came in: it says more and counts as full. Else prove '..UptoSaid'. A law counts once. -/
mutual
def uptoBulk {H : Type} : DataW H → Nat
  | .lit (.string bytes) => bytes.length + 1
  | .lit _ => 1
  | .nil => 1
  | .ptr d => uptoBulk d + 1
  | .slice elems spare => uptoBulkAll elems + uptoBulkAll spare + 1
  | .agg parts => uptoBulkAll parts + 1
  | .iface _ d => uptoBulk d + 1
  | .map entries => uptoBulkEntries entries + 1
  | .held _ => 1
def uptoBulkAll {H : Type} : List (DataW H) → Nat
  | [] => 0
  | d :: r => uptoBulk d + uptoBulkAll r
def uptoBulkEntries {H : Type} : List (Lit × DataW H) → Nat
  | [] => 0
  | x :: r => uptoBulkEntry x + uptoBulkEntries r
def uptoBulkEntry {H : Type} : Lit × DataW H → Nat
  | (.string bytes, d) => bytes.length + uptoBulk d + 1
  | (_, d) => uptoBulk d + 1
 end
def uptoSmall : (H : Type) → List (DataW H) → Bool := fun _ ds => decide (uptoBulkAll ds ≤ 1048576)
def OpenSpec.upto (s : _root_.Go.ChangeSpec) : _root_.Go.OpenSpec := { _root_.Go.OpenSpec.ofChange s with cond := some uptoSmall }

/-- 'purlieulaw01.RightsReckons', WHERE WHAT IT READS IS OF BULK AT MOST 1048576: true; the input reads as it did. -/
def rightsReckonsUptoRow : OpenClaim := { program := "ytndnpcegofbbaaadoor", sum := "4153842683ddc3692481a5bc5aee232bb783e6201c07ff1d7b6698ba823ef7ad", func := "purlieu/purlieulaw01.RightsReckons", spec := "rightsReckons", inPlace := ["internal/bytealg.IndexByteString", "internal/bytealg.IndexString", "internal/abi.NoEscape", "internal/bytealg.MakeNoZero"], unfollowed := true, recurses := true, named := ["unicode/utf8.first", "unicode/utf8.acceptRanges", "internal/bytealg.MaxLen", "purlieu/rights.names"], apart := false, laid := [("unicode/utf8.acceptRanges", laid_unicode_utf8_acceptRanges), ("purlieu/rights.names", laid_purlieu_rights_names), ("unicode/utf8.first", laid_unicode_utf8_first)], narrowed := true }
def RightsReckonsUptoSaid : Prop := rightsReckonsUptoRow.holds Tryd.pinned (OpenSpec.upto rightsReckonsSpec)

/-- 'purlieulaw01.RightsSubsets', WHERE WHAT IT READS IS OF BULK AT MOST 1048576: true; the input reads as it did. -/
def rightsSubsetsUptoRow : OpenClaim := { program := "ytndnpcegofbbaaadoor", sum := "4153842683ddc3692481a5bc5aee232bb783e6201c07ff1d7b6698ba823ef7ad", func := "purlieu/purlieulaw01.RightsSubsets", spec := "rightsSubsets", inPlace := ["internal/bytealg.IndexByteString", "internal/bytealg.IndexString", "internal/abi.NoEscape", "internal/bytealg.MakeNoZero"], unfollowed := true, recurses := true, named := ["unicode/utf8.first", "unicode/utf8.acceptRanges", "internal/bytealg.MaxLen", "purlieu/rights.names"], apart := false, laid := [("unicode/utf8.acceptRanges", laid_unicode_utf8_acceptRanges), ("purlieu/rights.names", laid_purlieu_rights_names), ("unicode/utf8.first", laid_unicode_utf8_first)], narrowed := true }
def RightsSubsetsUptoSaid : Prop := rightsSubsetsUptoRow.holds Tryd.pinned (OpenSpec.upto rightsSubsetsSpec)

/-- 'purlieulaw01.RightsNames', WHERE WHAT IT READS IS OF BULK AT MOST 1048576: true; the input reads as it did. -/
def rightsNamesUptoRow : OpenClaim := { program := "ytndnpcegofbbaaadoor", sum := "4153842683ddc3692481a5bc5aee232bb783e6201c07ff1d7b6698ba823ef7ad", func := "purlieu/purlieulaw01.RightsNames", spec := "rightsNames", inPlace := ["internal/bytealg.IndexByteString", "internal/bytealg.IndexString", "internal/abi.NoEscape", "internal/bytealg.MakeNoZero"], unfollowed := true, recurses := true, named := ["purlieu/rights.names", "unicode/utf8.first", "unicode/utf8.acceptRanges", "internal/bytealg.MaxLen"], apart := false, laid := [("unicode/utf8.acceptRanges", laid_unicode_utf8_acceptRanges), ("purlieu/rights.names", laid_purlieu_rights_names), ("unicode/utf8.first", laid_unicode_utf8_first)], narrowed := true }
def RightsNamesUptoSaid : Prop := rightsNamesUptoRow.holds Tryd.pinned (OpenSpec.upto rightsNamesSpec)

/-- 'purlieulaw01.RightsShows', WHERE WHAT IT READS IS OF BULK AT MOST 1048576: true; the input reads as it did. -/
def rightsShowsUptoRow : OpenClaim := { program := "ytndnpcegofbbaaadoor", sum := "4153842683ddc3692481a5bc5aee232bb783e6201c07ff1d7b6698ba823ef7ad", func := "purlieu/purlieulaw01.RightsShows", spec := "rightsShows", inPlace := ["internal/abi.NoEscape", "internal/bytealg.MakeNoZero", "internal/bytealg.IndexByteString", "internal/bytealg.IndexString"], unfollowed := true, recurses := true, named := ["purlieu/rights.names", "unicode/utf8.first", "unicode/utf8.acceptRanges", "internal/bytealg.MaxLen"], apart := false, laid := [("unicode/utf8.acceptRanges", laid_unicode_utf8_acceptRanges), ("purlieu/rights.names", laid_purlieu_rights_names), ("unicode/utf8.first", laid_unicode_utf8_first)], narrowed := true }
def RightsShowsUptoSaid : Prop := rightsShowsUptoRow.holds Tryd.pinned (OpenSpec.upto rightsShowsSpec)

/-- 'purlieulaw01.RightsParses', WHERE WHAT IT READS IS OF BULK AT MOST 1048576: true; the input reads as it did. -/
def rightsParsesUptoRow : OpenClaim := { program := "ytndnpcegofbbaaadoor", sum := "4153842683ddc3692481a5bc5aee232bb783e6201c07ff1d7b6698ba823ef7ad", func := "purlieu/purlieulaw01.RightsParses", spec := "rightsParses", inPlace := ["internal/bytealg.IndexByteString", "internal/bytealg.IndexString", "internal/abi.NoEscape", "internal/bytealg.MakeNoZero"], unfollowed := true, recurses := true, named := ["unicode/utf8.first", "unicode/utf8.acceptRanges", "internal/bytealg.MaxLen", "purlieu/rights.names"], apart := false, laid := [("unicode/utf8.acceptRanges", laid_unicode_utf8_acceptRanges), ("purlieu/rights.names", laid_purlieu_rights_names), ("unicode/utf8.first", laid_unicode_utf8_first)], narrowed := true }
def RightsParsesUptoSaid : Prop := rightsParsesUptoRow.holds Tryd.pinned (OpenSpec.upto rightsParsesSpec)

/-- 'purlieulaw01.RightsPuts', WHERE WHAT IT READS IS OF BULK AT MOST 1048576: true; the input reads as it did. -/
def rightsPutsUptoRow : OpenClaim := { program := "ytndnpcegofbbaaadoor", sum := "4153842683ddc3692481a5bc5aee232bb783e6201c07ff1d7b6698ba823ef7ad", func := "purlieu/purlieulaw01.RightsPuts", spec := "rightsPuts", inPlace := ["internal/bytealg.IndexByteString", "internal/bytealg.IndexString", "internal/abi.NoEscape", "internal/bytealg.MakeNoZero"], unfollowed := true, recurses := true, named := ["unicode/utf8.first", "unicode/utf8.acceptRanges", "internal/bytealg.MaxLen", "purlieu/rights.names"], apart := false, laid := [("unicode/utf8.acceptRanges", laid_unicode_utf8_acceptRanges), ("purlieu/rights.names", laid_purlieu_rights_names), ("unicode/utf8.first", laid_unicode_utf8_first)], narrowed := true }
def RightsPutsUptoSaid : Prop := rightsPutsUptoRow.holds Tryd.pinned (OpenSpec.upto rightsPutsSpec)

end Rows
end Go.Proofs.YtndnpcegofbbaaaDoor
