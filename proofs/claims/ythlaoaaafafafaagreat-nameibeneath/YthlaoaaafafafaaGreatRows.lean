/-
  No cell of these rows narrows 'for every input' (looked for: loops, veiled, ifaces, maps, wideKeys, modest, calm, conditions, laid).
  DERIVED. THE GIVEN ROWS OF THIS SEAT. 5 by the template 'for every input the law returns true; each argument reads behind the call as it read before'; 0 by the template 'total and deterministic' (their statements: YthlaoaaafafafaaGreatTotals.lean).
  GIVEN WITH THE SEED: the statements are not yours to turn. If you find one false, say at which input.
  Laid BY PROGRAM, IN A SANDBOX (cutbox-rows.mjs): the forced cells as the released guide's own fill.sh prints them over the translation f6c14fe7f74c65fc… (all of the seat's roots in one cut). By AI agents, Wed Nov 11 2026. No macro, syntax, notation, axiom, sorry.
-/
import Derived.Test.YthlaoaaafafafaaGreatChecked
import GoSem.Claim
import GoSem.ClaimJoined
import GoSem.ClaimMapViews
import Derived.JoinedTies
import Derived.KernelRfl
namespace Go.Proofs.YthlaoaaafafafaaGreat
/- THE CELL 'sum', in the pinned program and in every row, IS THE sha256 OF THE DUMP (.gsa) THAT YthlaoaaafafafaaGreatProg.lean LOADS. Nothing in Lean hashes anything: it is a label: what it is worth is what the hold of that sum in a sandbox is worth. -/
noncomputable def Tryz.pinned : Pinned := { name := "ythlaoaaafafafaagreat", sum := "f6c14fe7f74c65fc8dbe1648c61bfc72b9ab5bb5c8e88d3c8bf4d255bd54a9d3", checked := Tryz.checked }
namespace Rows
def none {H : Type} : Left H := { results := [], args := [] }

/-- 'purlieulaw08.NameiWalks': WHATEVER THE INPUT: true; the input reads as it did. -/
def nameiWalksSpec : ChangeSpec := { name := "nameiWalks", fn := fun _ => fun
  | [d1, d2, d3] => { results := [.lit (.bool true)], args := [d1, d2, d3] }
  | _ => none }
def nameiWalksRow : OpenClaim := { program := "ythlaoaaafafafaagreat", sum := "f6c14fe7f74c65fc8dbe1648c61bfc72b9ab5bb5c8e88d3c8bf4d255bd54a9d3", func := "purlieu/purlieulaw08.NameiWalks", spec := "nameiWalks", inPlace := ["internal/bytealg.IndexByteString", "internal/bytealg.IndexString", "internal/bytealg.abigen_runtime_cmpstring", "slices.overlaps[purlieu/dirs.entry]"], unfollowed := true, recurses := true, named := ["internal/bytealg.MaxLen"], apart := false }
def NameiWalksSaid : Prop := nameiWalksRow.holds Tryz.pinned (OpenSpec.ofChange nameiWalksSpec)

/-- ITS FALSE NEIGHBOUR: 'it returns false'. Refute it at one input. -/
def nameiWalksWrong : ChangeSpec := { name := "nameiWalks", fn := fun _ => fun
  | [d1, d2, d3] => { results := [.lit (.bool false)], args := [d1, d2, d3] }
  | _ => none }
def NameiWalksWrongFalsely : Prop := nameiWalksRow.holds Tryz.pinned (OpenSpec.ofChange nameiWalksWrong)

/-- 'purlieulaw08.NameiReaches': WHATEVER THE INPUT: true; the input reads as it did. -/
def nameiReachesSpec : ChangeSpec := { name := "nameiReaches", fn := fun _ => fun
  | [d1, d2] => { results := [.lit (.bool true)], args := [d1, d2] }
  | _ => none }
def nameiReachesRow : OpenClaim := { program := "ythlaoaaafafafaagreat", sum := "f6c14fe7f74c65fc8dbe1648c61bfc72b9ab5bb5c8e88d3c8bf4d255bd54a9d3", func := "purlieu/purlieulaw08.NameiReaches", spec := "nameiReaches", inPlace := ["internal/bytealg.IndexByteString", "internal/bytealg.IndexString", "internal/bytealg.abigen_runtime_cmpstring", "slices.overlaps[purlieu/dirs.entry]"], unfollowed := true, recurses := true, named := ["internal/bytealg.MaxLen"], apart := false }
def NameiReachesSaid : Prop := nameiReachesRow.holds Tryz.pinned (OpenSpec.ofChange nameiReachesSpec)

/-- ITS FALSE NEIGHBOUR: 'it returns false'. Refute it at one input. -/
def nameiReachesWrong : ChangeSpec := { name := "nameiReaches", fn := fun _ => fun
  | [d1, d2] => { results := [.lit (.bool false)], args := [d1, d2] }
  | _ => none }
def NameiReachesWrongFalsely : Prop := nameiReachesRow.holds Tryz.pinned (OpenSpec.ofChange nameiReachesWrong)

/-- 'purlieulaw08.NameiBeneath': WHATEVER THE INPUT: true; the input reads as it did. -/
def nameiBeneathSpec : ChangeSpec := { name := "nameiBeneath", fn := fun _ => fun
  | [d1, d2, d3] => { results := [.lit (.bool true)], args := [d1, d2, d3] }
  | _ => none }
def nameiBeneathRow : OpenClaim := { program := "ythlaoaaafafafaagreat", sum := "f6c14fe7f74c65fc8dbe1648c61bfc72b9ab5bb5c8e88d3c8bf4d255bd54a9d3", func := "purlieu/purlieulaw08.NameiBeneath", spec := "nameiBeneath", inPlace := ["internal/bytealg.IndexByteString", "internal/bytealg.IndexString", "internal/bytealg.abigen_runtime_cmpstring", "slices.overlaps[purlieu/dirs.entry]"], unfollowed := true, recurses := true, named := ["internal/bytealg.MaxLen"], apart := false }
def NameiBeneathSaid : Prop := nameiBeneathRow.holds Tryz.pinned (OpenSpec.ofChange nameiBeneathSpec)

/-- ITS FALSE NEIGHBOUR: 'it returns false'. Refute it at one input. -/
def nameiBeneathWrong : ChangeSpec := { name := "nameiBeneath", fn := fun _ => fun
  | [d1, d2, d3] => { results := [.lit (.bool false)], args := [d1, d2, d3] }
  | _ => none }
def NameiBeneathWrongFalsely : Prop := nameiBeneathRow.holds Tryz.pinned (OpenSpec.ofChange nameiBeneathWrong)

/-- 'purlieulaw08.NameiEnds': WHATEVER THE INPUT: true; the input reads as it did. -/
def nameiEndsSpec : ChangeSpec := { name := "nameiEnds", fn := fun _ => fun
  | [d1, d2, d3] => { results := [.lit (.bool true)], args := [d1, d2, d3] }
  | _ => none }
def nameiEndsRow : OpenClaim := { program := "ythlaoaaafafafaagreat", sum := "f6c14fe7f74c65fc8dbe1648c61bfc72b9ab5bb5c8e88d3c8bf4d255bd54a9d3", func := "purlieu/purlieulaw08.NameiEnds", spec := "nameiEnds", inPlace := ["internal/bytealg.IndexByteString", "internal/bytealg.IndexString", "internal/bytealg.abigen_runtime_cmpstring", "slices.overlaps[purlieu/dirs.entry]"], unfollowed := true, recurses := true, named := ["internal/bytealg.MaxLen"], apart := false }
def NameiEndsSaid : Prop := nameiEndsRow.holds Tryz.pinned (OpenSpec.ofChange nameiEndsSpec)

/-- ITS FALSE NEIGHBOUR: 'it returns false'. Refute it at one input. -/
def nameiEndsWrong : ChangeSpec := { name := "nameiEnds", fn := fun _ => fun
  | [d1, d2, d3] => { results := [.lit (.bool false)], args := [d1, d2, d3] }
  | _ => none }
def NameiEndsWrongFalsely : Prop := nameiEndsRow.holds Tryz.pinned (OpenSpec.ofChange nameiEndsWrong)

/-- 'purlieulaw08.NameiApart': WHATEVER THE INPUT: true; the input reads as it did. -/
def nameiApartSpec : ChangeSpec := { name := "nameiApart", fn := fun _ => fun
  | [d1, d2, d3] => { results := [.lit (.bool true)], args := [d1, d2, d3] }
  | _ => none }
def nameiApartRow : OpenClaim := { program := "ythlaoaaafafafaagreat", sum := "f6c14fe7f74c65fc8dbe1648c61bfc72b9ab5bb5c8e88d3c8bf4d255bd54a9d3", func := "purlieu/purlieulaw08.NameiApart", spec := "nameiApart", inPlace := ["internal/bytealg.IndexByteString", "internal/bytealg.IndexString", "internal/bytealg.abigen_runtime_cmpstring", "slices.overlaps[purlieu/dirs.entry]"], unfollowed := true, recurses := true, named := ["internal/bytealg.MaxLen"], apart := false }
def NameiApartSaid : Prop := nameiApartRow.holds Tryz.pinned (OpenSpec.ofChange nameiApartSpec)

/-- ITS FALSE NEIGHBOUR: 'it returns false'. Refute it at one input. -/
def nameiApartWrong : ChangeSpec := { name := "nameiApart", fn := fun _ => fun
  | [d1, d2, d3] => { results := [.lit (.bool false)], args := [d1, d2, d3] }
  | _ => none }
def NameiApartWrongFalsely : Prop := nameiApartRow.holds Tryz.pinned (OpenSpec.ofChange nameiApartWrong)

/- THE SECOND FORM. 'bulk': how many values and letters a reading holds, each counted each time it is reached (what is shared counts as often as it is met; a slice's spare places count too). A statement '..UptoSaid' is the law's where the arguments, and the package variables that the reading takes, are together of bulk at most 1048576: NARROWER than '..Said'. Prove '..Said' where nothing that the law and all that it calls make is longer than what came in: it says more and counts as full. Else prove '..UptoSaid'. A law counts once. -/
mutual
def uptoBulk {H : Type} : DataW H → Nat
  | .lit (.string bytes) => bytes.length + 1
  | .lit _ => 1
  | .nil => 1
  | .ptr d => uptoBulk d + 1
  | .slice elems spare => uptoBulkAll elems + uptoBulkAll spare + 1
  | .agg parts => uptoBulkAll parts + 1
  | .iface _ d => uptoBulk d + 1
  | .map entries => uptoBulkEntries entries + 1
  | .held _ => 1
def uptoBulkAll {H : Type} : List (DataW H) → Nat
  | [] => 0
  | d :: r => uptoBulk d + uptoBulkAll r
def uptoBulkEntries {H : Type} : List (Lit × DataW H) → Nat
  | [] => 0
  | x :: r => uptoBulkEntry x + uptoBulkEntries r
def uptoBulkEntry {H : Type} : Lit × DataW H → Nat
  | (.string bytes, d) => bytes.length + uptoBulk d + 1
  | (_, d) => uptoBulk d + 1
 end
def uptoSmall : (H : Type) → List (DataW H) → Bool := fun _ ds => decide (uptoBulkAll ds ≤ 1048576)
def OpenSpec.upto (s : _root_.Go.ChangeSpec) : _root_.Go.OpenSpec := { _root_.Go.OpenSpec.ofChange s with cond := some uptoSmall }

/-- 'purlieulaw08.NameiWalks', WHERE WHAT IT READS IS OF BULK AT MOST 1048576: true; the input reads as it did. -/
def nameiWalksUptoRow : OpenClaim := { program := "ythlaoaaafafafaagreat", sum := "f6c14fe7f74c65fc8dbe1648c61bfc72b9ab5bb5c8e88d3c8bf4d255bd54a9d3", func := "purlieu/purlieulaw08.NameiWalks", spec := "nameiWalks", inPlace := ["internal/bytealg.IndexByteString", "internal/bytealg.IndexString", "internal/bytealg.abigen_runtime_cmpstring", "slices.overlaps[purlieu/dirs.entry]"], unfollowed := true, recurses := true, named := ["internal/bytealg.MaxLen"], apart := false, narrowed := true }
def NameiWalksUptoSaid : Prop := nameiWalksUptoRow.holds Tryz.pinned (OpenSpec.upto nameiWalksSpec)

/-- 'purlieulaw08.NameiReaches', WHERE WHAT IT READS IS OF BULK AT MOST 1048576: true; the input reads as it did. -/
def nameiReachesUptoRow : OpenClaim := { program := "ythlaoaaafafafaagreat", sum := "f6c14fe7f74c65fc8dbe1648c61bfc72b9ab5bb5c8e88d3c8bf4d255bd54a9d3", func := "purlieu/purlieulaw08.NameiReaches", spec := "nameiReaches", inPlace := ["internal/bytealg.IndexByteString", "internal/bytealg.IndexString", "internal/bytealg.abigen_runtime_cmpstring", "slices.overlaps[purlieu/dirs.entry]"], unfollowed := true, recurses := true, named := ["internal/bytealg.MaxLen"], apart := false, narrowed := true }
def NameiReachesUptoSaid : Prop := nameiReachesUptoRow.holds Tryz.pinned (OpenSpec.upto nameiReachesSpec)

/-- 'purlieulaw08.NameiBeneath', WHERE WHAT IT READS IS OF BULK AT MOST 1048576: true; the input reads as it did. -/
def nameiBeneathUptoRow : OpenClaim := { program := "ythlaoaaafafafaagreat", sum := "f6c14fe7f74c65fc8dbe1648c61bfc72b9ab5bb5c8e88d3c8bf4d255bd54a9d3", func := "purlieu/purlieulaw08.NameiBeneath", spec := "nameiBeneath", inPlace := ["internal/bytealg.IndexByteString", "internal/bytealg.IndexString", "internal/bytealg.abigen_runtime_cmpstring", "slices.overlaps[purlieu/dirs.entry]"], unfollowed := true, recurses := true, named := ["internal/bytealg.MaxLen"], apart := false, narrowed := true }
def NameiBeneathUptoSaid : Prop := nameiBeneathUptoRow.holds Tryz.pinned (OpenSpec.upto nameiBeneathSpec)

/-- 'purlieulaw08.NameiEnds', WHERE WHAT IT READS IS OF BULK AT MOST 1048576: true; the input reads as it did. -/
def nameiEndsUptoRow : OpenClaim := { program := "ythlaoaaafafafaagreat", sum := "f6c14fe7f74c65fc8dbe1648c61bfc72b9ab5bb5c8e88d3c8bf4d255bd54a9d3", func := "purlieu/purlieulaw08.NameiEnds", spec := "nameiEnds", inPlace := ["internal/bytealg.IndexByteString", "internal/bytealg.IndexString", "internal/bytealg.abigen_runtime_cmpstring", "slices.overlaps[purlieu/dirs.entry]"], unfollowed := true, recurses := true, named := ["internal/bytealg.MaxLen"], apart := false, narrowed := true }
def NameiEndsUptoSaid : Prop := nameiEndsUptoRow.holds Tryz.pinned (OpenSpec.upto nameiEndsSpec)

/-- 'purlieulaw08.NameiApart', WHERE WHAT IT READS IS OF BULK AT MOST 1048576: true; the input reads as it did. -/
def nameiApartUptoRow : OpenClaim := { program := "ythlaoaaafafafaagreat", sum := "f6c14fe7f74c65fc8dbe1648c61bfc72b9ab5bb5c8e88d3c8bf4d255bd54a9d3", func := "purlieu/purlieulaw08.NameiApart", spec := "nameiApart", inPlace := ["internal/bytealg.IndexByteString", "internal/bytealg.IndexString", "internal/bytealg.abigen_runtime_cmpstring", "slices.overlaps[purlieu/dirs.entry]"], unfollowed := true, recurses := true, named := ["internal/bytealg.MaxLen"], apart := false, narrowed := true }
def NameiApartUptoSaid : Prop := nameiApartUptoRow.holds Tryz.pinned (OpenSpec.upto nameiApartSpec)

end Rows
end Go.Proofs.YthlaoaaafafafaaGreat
