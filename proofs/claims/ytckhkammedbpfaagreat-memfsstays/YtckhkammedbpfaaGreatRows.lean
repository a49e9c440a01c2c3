/-
  No cell of these rows narrows 'for every input' (looked for: loops, veiled, ifaces, maps, wideKeys, modest, calm, conditions, laid).
  DERIVED. THE GIVEN ROWS OF THIS SEAT. 5 by the template 'for every input the law returns true; each argument reads behind the call as it read before'; 0 by the template 'total and deterministic' (their statements: YtckhkammedbpfaaGreatTotals.lean).
  GIVEN WITH THE SEED: the statements are not yours to turn. If you find one false, say at which input.
  Laid BY PROGRAM, IN A SANDBOX (cutbox-rows.mjs): the forced cells as the released guide's own fill.sh prints them over the translation 5696d71fdffa7fa1… (all of the seat's roots in one cut). By AI agents, Wed Nov 11 2026. No macro, syntax, notation, axiom, sorry.
-/
import Derived.Test.YtckhkammedbpfaaGreatChecked
import GoSem.Claim
import GoSem.ClaimJoined
import GoSem.ClaimMapViews
import Derived.JoinedTies
import Derived.KernelRfl
namespace Go.Proofs.YtckhkammedbpfaaGreat
/- THE CELL 'sum', in the pinned program and in every row, IS THE sha256 OF THE DUMP (.gsa) THAT YtckhkammedbpfaaGreatProg.lean LOADS. Nothing in Lean hashes anything: it is a label: what it is worth is what the hold of that sum in a sandbox is worth. -/
noncomputable def Tryz.pinned : Pinned := { name := "ytckhkammedbpfaagreat", sum := "5696d71fdffa7fa17fc68205dd0e2c769f7e6076bda1feae5a8f0afc4ba5cd5f", checked := Tryz.checked }
namespace Rows
def none {H : Type} : Left H := { results := [], args := [] }

/-- 'purlieulaw07.MemfsActs': WHATEVER THE INPUT: true; the input reads as it did. -/
def memfsActsSpec : ChangeSpec := { name := "memfsActs", fn := fun _ => fun
  | [d1, d2] => { results := [.lit (.bool true)], args := [d1, d2] }
  | _ => none }
def memfsActsRow : OpenClaim := { program := "ytckhkammedbpfaagreat", sum := "5696d71fdffa7fa17fc68205dd0e2c769f7e6076bda1feae5a8f0afc4ba5cd5f", func := "purlieu/purlieulaw07.MemfsActs", spec := "memfsActs", inPlace := ["internal/bytealg.IndexByteString", "internal/bytealg.IndexString", "internal/bytealg.abigen_runtime_cmpstring", "slices.overlaps[purlieu/dirs.entry]"], unfollowed := true, recurses := true, named := ["internal/bytealg.MaxLen"], apart := false }
def MemfsActsSaid : Prop := memfsActsRow.holds Tryz.pinned (OpenSpec.ofChange memfsActsSpec)

/-- ITS FALSE NEIGHBOUR: 'it returns false'. Refute it at one input. -/
def memfsActsWrong : ChangeSpec := { name := "memfsActs", fn := fun _ => fun
  | [d1, d2] => { results := [.lit (.bool false)], args := [d1, d2] }
  | _ => none }
def MemfsActsWrongFalsely : Prop := memfsActsRow.holds Tryz.pinned (OpenSpec.ofChange memfsActsWrong)

/-- 'purlieulaw07.MemfsLooks': WHATEVER THE INPUT: true; the input reads as it did. -/
def memfsLooksSpec : ChangeSpec := { name := "memfsLooks", fn := fun _ => fun
  | [d1, d2, d3] => { results := [.lit (.bool true)], args := [d1, d2, d3] }
  | _ => none }
def memfsLooksRow : OpenClaim := { program := "ytckhkammedbpfaagreat", sum := "5696d71fdffa7fa17fc68205dd0e2c769f7e6076bda1feae5a8f0afc4ba5cd5f", func := "purlieu/purlieulaw07.MemfsLooks", spec := "memfsLooks", inPlace := ["internal/bytealg.IndexByteString", "internal/bytealg.IndexString", "internal/bytealg.abigen_runtime_cmpstring", "slices.overlaps[purlieu/dirs.entry]"], unfollowed := true, recurses := true, named := ["internal/bytealg.MaxLen"], apart := false }
def MemfsLooksSaid : Prop := memfsLooksRow.holds Tryz.pinned (OpenSpec.ofChange memfsLooksSpec)

/-- ITS FALSE NEIGHBOUR: 'it returns false'. Refute it at one input. -/
def memfsLooksWrong : ChangeSpec := { name := "memfsLooks", fn := fun _ => fun
  | [d1, d2, d3] => { results := [.lit (.bool false)], args := [d1, d2, d3] }
  | _ => none }
def MemfsLooksWrongFalsely : Prop := memfsLooksRow.holds Tryz.pinned (OpenSpec.ofChange memfsLooksWrong)

/-- 'purlieulaw07.MemfsTree': WHATEVER THE INPUT: true; the input reads as it did. -/
def memfsTreeSpec : ChangeSpec := { name := "memfsTree", fn := fun _ => fun
  | [d1, d2] => { results := [.lit (.bool true)], args := [d1, d2] }
  | _ => none }
def memfsTreeRow : OpenClaim := { program := "ytckhkammedbpfaagreat", sum := "5696d71fdffa7fa17fc68205dd0e2c769f7e6076bda1feae5a8f0afc4ba5cd5f", func := "purlieu/purlieulaw07.MemfsTree", spec := "memfsTree", inPlace := ["internal/bytealg.IndexByteString", "internal/bytealg.IndexString", "internal/bytealg.abigen_runtime_cmpstring", "slices.overlaps[purlieu/dirs.entry]"], unfollowed := true, recurses := true, named := ["internal/bytealg.MaxLen"], apart := false }
def MemfsTreeSaid : Prop := memfsTreeRow.holds Tryz.pinned (OpenSpec.ofChange memfsTreeSpec)

/-- ITS FALSE NEIGHBOUR: 'it returns false'. Refute it at one input. -/
def memfsTreeWrong : ChangeSpec := { name := "memfsTree", fn := fun _ => fun
  | [d1, d2] => { results := [.lit (.bool false)], args := [d1, d2] }
  | _ => none }
def MemfsTreeWrongFalsely : Prop := memfsTreeRow.holds Tryz.pinned (OpenSpec.ofChange memfsTreeWrong)

/-- 'purlieulaw07.MemfsStays': WHATEVER THE INPUT: true; the input reads as it did. -/
def memfsStaysSpec : ChangeSpec := { name := "memfsStays", fn := fun _ => fun
  | [d1, d2] => { results := [.lit (.bool true)], args := [d1, d2] }
  | _ => none }
def memfsStaysRow : OpenClaim := { program := "ytckhkammedbpfaagreat", sum := "5696d71fdffa7fa17fc68205dd0e2c769f7e6076bda1feae5a8f0afc4ba5cd5f", func := "purlieu/purlieulaw07.MemfsStays", spec := "memfsStays", inPlace := ["internal/bytealg.IndexByteString", "internal/bytealg.IndexString", "internal/bytealg.abigen_runtime_cmpstring", "slices.overlaps[purlieu/dirs.entry]"], unfollowed := true, recurses := true, named := ["internal/bytealg.MaxLen"], apart := false }
def MemfsStaysSaid : Prop := memfsStaysRow.holds Tryz.pinned (OpenSpec.ofChange memfsStaysSpec)

/-- ITS FALSE NEIGHBOUR: 'it returns false'. Refute it at one input. -/
def memfsStaysWrong : ChangeSpec := { name := "memfsStays", fn := fun _ => fun
  | [d1, d2] => { results := [.lit (.bool false)], args := [d1, d2] }
  | _ => none }
def MemfsStaysWrongFalsely : Prop := memfsStaysRow.holds Tryz.pinned (OpenSpec.ofChange memfsStaysWrong)

/-- 'purlieulaw07.MemfsNews': WHATEVER THE INPUT: true; the input reads as it did. -/
def memfsNewsSpec : ChangeSpec := { name := "memfsNews", fn := fun _ => fun
  | [d1, d2, d3] => { results := [.lit (.bool true)], args := [d1, d2, d3] }
  | _ => none }
def memfsNewsRow : OpenClaim := { program := "ytckhkammedbpfaagreat", sum := "5696d71fdffa7fa17fc68205dd0e2c769f7e6076bda1feae5a8f0afc4ba5cd5f", func := "purlieu/purlieulaw07.MemfsNews", spec := "memfsNews", inPlace := ["internal/bytealg.IndexByteString", "internal/bytealg.abigen_runtime_cmpstring", "internal/bytealg.IndexString", "slices.overlaps[purlieu/dirs.entry]"], unfollowed := true, recurses := true, named := ["internal/bytealg.MaxLen"], apart := false }
def MemfsNewsSaid : Prop := memfsNewsRow.holds Tryz.pinned (OpenSpec.ofChange memfsNewsSpec)

/-- ITS FALSE NEIGHBOUR: 'it returns false'. Refute it at one input. -/
def memfsNewsWrong : ChangeSpec := { name := "memfsNews", fn := fun _ => fun
  | [d1, d2, d3] => { results := [.lit (.bool false)], args := [d1, d2, d3] }
  | _ => none }
def MemfsNewsWrongFalsely : Prop := memfsNewsRow.holds Tryz.pinned (OpenSpec.ofChange memfsNewsWrong)

/- THE SECOND FORM. 'bulk': how many values and letters a reading holds, each counted each time it is reached (what is shared counts as often as it is met; a slice's spare places count too). A statement '..UptoSaid' is the law's where the arguments, and the package variables that the reading takes, are together of bulk at most 1048576: NARROWER than '..Said'. Prove '..Said' where nothing that the law and all that it calls make is longer than what came in: it says more and counts as full. Else prove '..UptoSaid'. A law counts once. -/
mutual
def uptoBulk {H : Type} : DataW H → Nat
  | .lit (.string bytes) => bytes.length + 1
  | .lit _ => 1
  | .nil => 1
  | .ptr d => uptoBulk d + 1
  | .slice elems spare => uptoBulkAll elems + uptoBulkAll spare + 1
  | .agg parts => uptoBulkAll parts + 1
  | .iface _ d => uptoBulk d + 1
  | .map entries => uptoBulkEntries entries + 1
  | .held _ => 1
def uptoBulkAll {H : Type} : List (DataW H) → Nat
  | [] => 0
  | d :: r => uptoBulk d + uptoBulkAll r
def uptoBulkEntries {H : Type} : List (Lit × DataW H) → Nat
  | [] => 0
  | x :: r => uptoBulkEntry x + uptoBulkEntries r
def uptoBulkEntry {H : Type} : Lit × DataW H → Nat
  | (.string bytes, d) => bytes.length + uptoBulk d + 1
  | (_, d) => uptoBulk d + 1
 end
def uptoSmall : (H : Type) → List (DataW H) → Bool := fun _ ds => decide (uptoBulkAll ds ≤ 1048576)
def OpenSpec.upto (s : _root_.Go.ChangeSpec) : _root_.Go.OpenSpec := { _root_.Go.OpenSpec.ofChange s with cond := some uptoSmall }

/-- 'purlieulaw07.MemfsActs', WHERE WHAT IT READS IS OF BULK AT MOST 1048576: true; the input reads as it did. -/
def memfsActsUptoRow : OpenClaim := { program := "ytckhkammedbpfaagreat", sum := "5696d71fdffa7fa17fc68205dd0e2c769f7e6076bda1feae5a8f0afc4ba5cd5f", func := "purlieu/purlieulaw07.MemfsActs", spec := "memfsActs", inPlace := ["internal/bytealg.IndexByteString", "internal/bytealg.IndexString", "internal/bytealg.abigen_runtime_cmpstring", "slices.overlaps[purlieu/dirs.entry]"], unfollowed := true, recurses := true, named := ["internal/bytealg.MaxLen"], apart := false, narrowed := true }
def MemfsActsUptoSaid : Prop := memfsActsUptoRow.holds Tryz.pinned (OpenSpec.upto memfsActsSpec)

/-- 'purlieulaw07.MemfsLooks', WHERE WHAT IT READS IS OF BULK AT MOST 1048576: true; the input reads as it did. -/
def memfsLooksUptoRow : OpenClaim := { program := "ytckhkammedbpfaagreat", sum := "5696d71fdffa7fa17fc68205dd0e2c769f7e6076bda1feae5a8f0afc4ba5cd5f", func := "purlieu/purlieulaw07.MemfsLooks", spec := "memfsLooks", inPlace := ["internal/bytealg.IndexByteString", "internal/bytealg.IndexString", "internal/bytealg.abigen_runtime_cmpstring", "slices.overlaps[purlieu/dirs.entry]"], unfollowed := true, recurses := true, named := ["internal/bytealg.MaxLen"], apart := false, narrowed := true }
def MemfsLooksUptoSaid : Prop := memfsLooksUptoRow.holds Tryz.pinned (OpenSpec.upto memfsLooksSpec)

/-- 'purlieulaw07.MemfsTree', WHERE WHAT IT READS IS OF BULK AT MOST 1048576: true; the input reads as it did. -/
def memfsTreeUptoRow : OpenClaim := { program := "ytckhkammedbpfaagreat", sum := "5696d71fdffa7fa17fc68205dd0e2c769f7e6076bda1feae5a8f0afc4ba5cd5f", func := "purlieu/purlieulaw07.MemfsTree", spec := "memfsTree", inPlace := ["internal/bytealg.IndexByteString", "internal/bytealg.IndexString", "internal/bytealg.abigen_runtime_cmpstring", "slices.overlaps[purlieu/dirs.entry]"], unfollowed := true, recurses := true, named := ["internal/bytealg.MaxLen"], apart := false, narrowed := true }
def MemfsTreeUptoSaid : Prop := memfsTreeUptoRow.holds Tryz.pinned (OpenSpec.upto memfsTreeSpec)

/-- 'purlieulaw07.MemfsStays', WHERE WHAT IT READS IS OF BULK AT MOST 1048576: true; the input reads as it did. -/
def memfsStaysUptoRow : OpenClaim := { program := "ytckhkammedbpfaagreat", sum := "5696d71fdffa7fa17fc68205dd0e2c769f7e6076bda1feae5a8f0afc4ba5cd5f", func := "purlieu/purlieulaw07.MemfsStays", spec := "memfsStays", inPlace := ["internal/bytealg.IndexByteString", "internal/bytealg.IndexString", "internal/bytealg.abigen_runtime_cmpstring", "slices.overlaps[purlieu/dirs.entry]"], unfollowed := true, recurses := true, named := ["internal/bytealg.MaxLen"], apart := false, narrowed := true }
def MemfsStaysUptoSaid : Prop := memfsStaysUptoRow.holds Tryz.pinned (OpenSpec.upto memfsStaysSpec)

/-- 'purlieulaw07.MemfsNews', WHERE WHAT IT READS IS OF BULK AT MOST 1048576: true; the input reads as it did. -/
def memfsNewsUptoRow : OpenClaim := { program := "ytckhkammedbpfaagreat", sum := "5696d71fdffa7fa17fc68205dd0e2c769f7e6076bda1feae5a8f0afc4ba5cd5f", func := "purlieu/purlieulaw07.MemfsNews", spec := "memfsNews", inPlace := ["internal/bytealg.IndexByteString", "internal/bytealg.abigen_runtime_cmpstring", "internal/bytealg.IndexString", "slices.overlaps[purlieu/dirs.entry]"], unfollowed := true, recurses := true, named := ["internal/bytealg.MaxLen"], apart := false, narrowed := true }
def MemfsNewsUptoSaid : Prop := memfsNewsUptoRow.holds Tryz.pinned (OpenSpec.upto memfsNewsSpec)

end Rows
end Go.Proofs.YtckhkammedbpfaaGreat
