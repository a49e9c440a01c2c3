/-
  No cell of these rows narrows 'for every input' (looked for: loops, veiled, ifaces, maps, wideKeys, modest, calm, conditions, laid).
  DERIVED. THE GIVEN ROWS OF THIS SEAT. 5 by the template 'for every input the law returns true; each argument reads behind the call as it read before'; 0 by the template 'total and deterministic' (their statements: YtfhkdndgiofidaaTotals.lean).
  GIVEN WITH THE SEED: the statements are not yours to turn. If you find one false, say at which input.
  Laid BY PROGRAM, IN A SANDBOX (cutbox-rows.mjs): the forced cells as the released guide's own fill.sh prints them over the translation c7a8d0297f15aa1c… (all of the seat's roots in one cut). By AI agents, Wed Nov 11 2026. No macro, syntax, notation, axiom, sorry.
-/
import Derived.Test.YtfhkdndgiofidaaChecked
import GoSem.Claim
import GoSem.ClaimJoined
import GoSem.ClaimMapViews
import Derived.JoinedTies
import Derived.KernelRfl
namespace Go.Proofs.Ytfhkdndgiofidaa
/- THE CELL 'sum', in the pinned program and in every row, IS THE sha256 OF THE DUMP (.gsa) THAT YtfhkdndgiofidaaProg.lean LOADS. Nothing in Lean hashes anything: it is a label: what it is worth is what the hold of that sum in a sandbox is worth. -/
noncomputable def Try.pinned : Pinned := { name := "ytfhkdndgiofidaa", sum := "c7a8d0297f15aa1c1b84e73c05723881234be68419cebb8177c7b27dfd387016", checked := Try.checked }
namespace Rows
def none {H : Type} : Left H := { results := [], args := [] }

/-- 'purlieulaw11.SocksActs': WHATEVER THE INPUT: true; the input reads as it did. -/
def socksActsSpec : ChangeSpec := { name := "socksActs", fn := fun _ => fun
  | [d1, d2] => { results := [.lit (.bool true)], args := [d1, d2] }
  | _ => none }
def socksActsRow : OpenClaim := { program := "ytfhkdndgiofidaa", sum := "c7a8d0297f15aa1c1b84e73c05723881234be68419cebb8177c7b27dfd387016", func := "purlieu/purlieulaw11.SocksActs", spec := "socksActs", unfollowed := true, recurses := true, apart := false }
def SocksActsSaid : Prop := socksActsRow.holds Try.pinned (OpenSpec.ofChange socksActsSpec)

/-- ITS FALSE NEIGHBOUR: 'it returns false'. Refute it at one input. -/
def socksActsWrong : ChangeSpec := { name := "socksActs", fn := fun _ => fun
  | [d1, d2] => { results := [.lit (.bool false)], args := [d1, d2] }
  | _ => none }
def SocksActsWrongFalsely : Prop := socksActsRow.holds Try.pinned (OpenSpec.ofChange socksActsWrong)

/-- 'purlieulaw11.SocksReady': WHATEVER THE INPUT: true; the input reads as it did. -/
def socksReadySpec : ChangeSpec := { name := "socksReady", fn := fun _ => fun
  | [d1, d2, d3] => { results := [.lit (.bool true)], args := [d1, d2, d3] }
  | _ => none }
def socksReadyRow : OpenClaim := { program := "ytfhkdndgiofidaa", sum := "c7a8d0297f15aa1c1b84e73c05723881234be68419cebb8177c7b27dfd387016", func := "purlieu/purlieulaw11.SocksReady", spec := "socksReady", apart := false }
def SocksReadySaid : Prop := socksReadyRow.holds Try.pinned (OpenSpec.ofChange socksReadySpec)

/-- ITS FALSE NEIGHBOUR: 'it returns false'. Refute it at one input. -/
def socksReadyWrong : ChangeSpec := { name := "socksReady", fn := fun _ => fun
  | [d1, d2, d3] => { results := [.lit (.bool false)], args := [d1, d2, d3] }
  | _ => none }
def SocksReadyWrongFalsely : Prop := socksReadyRow.holds Try.pinned (OpenSpec.ofChange socksReadyWrong)

/-- 'purlieulaw11.SocksEnds': WHATEVER THE INPUT: true; the input reads as it did. -/
def socksEndsSpec : ChangeSpec := { name := "socksEnds", fn := fun _ => fun
  | [d] => { results := [.lit (.bool true)], args := [d] }
  | _ => none }
def socksEndsRow : OpenClaim := { program := "ytfhkdndgiofidaa", sum := "c7a8d0297f15aa1c1b84e73c05723881234be68419cebb8177c7b27dfd387016", func := "purlieu/purlieulaw11.SocksEnds", spec := "socksEnds", unfollowed := true, recurses := true, apart := false }
def SocksEndsSaid : Prop := socksEndsRow.holds Try.pinned (OpenSpec.ofChange socksEndsSpec)

/-- ITS FALSE NEIGHBOUR: 'it returns false'. Refute it at one input. -/
def socksEndsWrong : ChangeSpec := { name := "socksEnds", fn := fun _ => fun
  | [d] => { results := [.lit (.bool false)], args := [d] }
  | _ => none }
def SocksEndsWrongFalsely : Prop := socksEndsRow.holds Try.pinned (OpenSpec.ofChange socksEndsWrong)

/-- 'purlieulaw11.SocksOrder': WHATEVER THE INPUT: true; the input reads as it did. -/
def socksOrderSpec : ChangeSpec := { name := "socksOrder", fn := fun _ => fun
  | [d1, d2] => { results := [.lit (.bool true)], args := [d1, d2] }
  | _ => none }
def socksOrderRow : OpenClaim := { program := "ytfhkdndgiofidaa", sum := "c7a8d0297f15aa1c1b84e73c05723881234be68419cebb8177c7b27dfd387016", func := "purlieu/purlieulaw11.SocksOrder", spec := "socksOrder", apart := false }
def SocksOrderSaid : Prop := socksOrderRow.holds Try.pinned (OpenSpec.ofChange socksOrderSpec)

/-- ITS FALSE NEIGHBOUR: 'it returns false'. Refute it at one input. -/
def socksOrderWrong : ChangeSpec := { name := "socksOrder", fn := fun _ => fun
  | [d1, d2] => { results := [.lit (.bool false)], args := [d1, d2] }
  | _ => none }
def SocksOrderWrongFalsely : Prop := socksOrderRow.holds Try.pinned (OpenSpec.ofChange socksOrderWrong)

/-- 'purlieulaw11.SocksNews': WHATEVER THE INPUT: true; the input reads as it did. -/
def socksNewsSpec : ChangeSpec := { name := "socksNews", fn := fun _ => fun
  | [d1, d2] => { results := [.lit (.bool true)], args := [d1, d2] }
  | _ => none }
def socksNewsRow : OpenClaim := { program := "ytfhkdndgiofidaa", sum := "c7a8d0297f15aa1c1b84e73c05723881234be68419cebb8177c7b27dfd387016", func := "purlieu/purlieulaw11.SocksNews", spec := "socksNews", unfollowed := true, recurses := true, apart := false }
def SocksNewsSaid : Prop := socksNewsRow.holds Try.pinned (OpenSpec.ofChange socksNewsSpec)

/-- ITS FALSE NEIGHBOUR: 'it returns false'. Refute it at one input. -/
def socksNewsWrong : ChangeSpec := { name := "socksNews", fn := fun _ => fun
  | [d1, d2] => { results := [.lit (.bool false)], args := [d1, d2] }
  | _ => none }
def SocksNewsWrongFalsely : Prop := socksNewsRow.holds Try.pinned (OpenSpec.ofChange socksNewsWrong)

/- THE SECOND FORM. 'bulk': how many values and letters a reading holds, each counted each time it is reached (what is shared counts as often as it is met; a slice's spare places count too). A statement '..UptoSaid' is the law's where the arguments, and the package variables that the reading takes, are together of bulk at most 1048576: NARROWER than '..Said'. Prove '..Said' where nothing that the law and all that it calls make is longer than what came in: it says more and counts as full. Else prove '..UptoSaid'. A law counts once. -/
mutual
def uptoBulk {H : Type} : DataW H → Nat
  | .lit (.string bytes) => bytes.length + 1
  | .lit _ => 1
  | .nil => 1
  | .ptr d => uptoBulk d + 1
  | .slice elems spare => uptoBulkAll elems + uptoBulkAll spare + 1
  | .agg parts => uptoBulkAll parts + 1
  | .iface _ d => uptoBulk d + 1
  | .map entries => uptoBulkEntries entries + 1
  | .held _ => 1
def uptoBulkAll {H : Type} : List (DataW H) → Nat
  | [] => 0
  | d :: r => uptoBulk d + uptoBulkAll r
def uptoBulkEntries {H : Type} : List (Lit × DataW H) → Nat
  | [] => 0
  | x :: r => uptoBulkEntry x + uptoBulkEntries r
def uptoBulkEntry {H : Type} : Lit × DataW H → Nat
  | (.string bytes, d) => bytes.length + uptoBulk d + 1
  | (_, d) => uptoBulk d + 1
 end
def uptoSmall : (H : Type) → List (DataW H) → Bool := fun _ ds => decide (uptoBulkAll ds ≤ 1048576)
def OpenSpec.upto (s : _root_.Go.ChangeSpec) : _root_.Go.OpenSpec := { _root_.Go.OpenSpec.ofChange s with cond := some uptoSmall }

/-- 'purlieulaw11.SocksActs', WHERE WHAT IT READS IS OF BULK AT MOST 1048576: true; the input reads as it did. -/
def socksActsUptoRow : OpenClaim := { program := "ytfhkdndgiofidaa", sum := "c7a8d0297f15aa1c1b84e73c05723881234be68419cebb8177c7b27dfd387016", func := "purlieu/purlieulaw11.SocksActs", spec := "socksActs", unfollowed := true, recurses := true, apart := false, narrowed := true }
def SocksActsUptoSaid : Prop := socksActsUptoRow.holds Try.pinned (OpenSpec.upto socksActsSpec)

/-- 'purlieulaw11.SocksReady', WHERE WHAT IT READS IS OF BULK AT MOST 1048576: true; the input reads as it did. -/
def socksReadyUptoRow : OpenClaim := { program := "ytfhkdndgiofidaa", sum := "c7a8d0297f15aa1c1b84e73c05723881234be68419cebb8177c7b27dfd387016", func := "purlieu/purlieulaw11.SocksReady", spec := "socksReady", apart := false, narrowed := true }
def SocksReadyUptoSaid : Prop := socksReadyUptoRow.holds Try.pinned (OpenSpec.upto socksReadySpec)

/-- 'purlieulaw11.SocksEnds', WHERE WHAT IT READS IS OF BULK AT MOST 1048576: true; the input reads as it did. -/
def socksEndsUptoRow : OpenClaim := { program := "ytfhkdndgiofidaa", sum := "c7a8d0297f15aa1c1b84e73c05723881234be68419cebb8177c7b27dfd387016", func := "purlieu/purlieulaw11.SocksEnds", spec := "socksEnds", unfollowed := true, recurses := true, apart := false, narrowed := true }
def SocksEndsUptoSaid : Prop := socksEndsUptoRow.holds Try.pinned (OpenSpec.upto socksEndsSpec)

/-- 'purlieulaw11.SocksOrder', WHERE WHAT IT READS IS OF BULK AT MOST 1048576: true; the input reads as it did. -/
def socksOrderUptoRow : OpenClaim := { program := "ytfhkdndgiofidaa", sum := "c7a8d0297f15aa1c1b84e73c05723881234be68419cebb8177c7b27dfd387016", func := "purlieu/purlieulaw11.SocksOrder", spec := "socksOrder", apart := false, narrowed := true }
def SocksOrderUptoSaid : Prop := socksOrderUptoRow.holds Try.pinned (OpenSpec.upto socksOrderSpec)

/-- 'purlieulaw11.SocksNews', WHERE WHAT IT READS IS OF BULK AT MOST 1048576: true; the input reads as it did. -/
def socksNewsUptoRow : OpenClaim := { program := "ytfhkdndgiofidaa", sum := "c7a8d0297f15aa1c1b84e73c05723881234be68419cebb8177c7b27dfd387016", func := "purlieu/purlieulaw11.SocksNews", spec := "socksNews", unfollowed := true, recurses := true, apart := false, narrowed := true }
def SocksNewsUptoSaid : Prop := socksNewsUptoRow.holds Try.pinned (OpenSpec.upto socksNewsSpec)

end Rows
end Go.Proofs.Ytfhkdndgiofidaa
