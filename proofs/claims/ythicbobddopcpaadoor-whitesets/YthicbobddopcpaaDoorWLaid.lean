/- From the rows' list of package variables to strconv's table in memory; and a world that holds all that the rows list. -/
import Derived.Test.YthicbobddopcpaaDoorCards
import Derived.Test.YthicbobddopcpaaDoorTie
import Derived.Test.YthicbobddopcpaaDoorWShow
import Derived.ProofKit
import Derived.OpenShut
import Derived.Deep.DeepHandedRow
import Derived.Lib.LaidTab
namespace Go.Proofs.YthicbobddopcpaaDoor
open Go.ChangeShapes Go.WideShapes Go.ChangeAt Go.RowKit

theorem own : ownKnob Tryd.prog.godebug = none := by kernel_rfl
theorem gPow : Tryd.prog.globalNamed "internal/strconv.uint64pow10" = some 0 := by kernel_rfl
theorem gPowType : (Tryd.prog.globals[0]?).map (·.type) = some 100 := by kernel_rfl
theorem cellsPow : Tryd.prog.cellsOf 100 = 20 := by kernel_rfl
theorem cellsU64 : Tryd.prog.cellsOf 79 = 1 := by kernel_rfl
theorem pow_data : (Rows.laid_internal_strconv_uint64pow10 : DataW Unit) = Lib.tabData .u64 Lib.pow10Tab := by kernel_rfl

theorem tb_of {W : World} (h : laidMet Tryd.prog [("math/bits.deBruijn32tab", Rows.laid_math_bits_deBruijn32tab), ("math/bits.deBruijn64tab", Rows.laid_math_bits_deBruijn64tab), ("internal/strconv.uint64pow10", Rows.laid_internal_strconv_uint64pow10)] W) : Tb W := by
  obtain ⟨ps, ⟨g1, t1, cs1, fu1, p1, q1, _, _, _, _, ⟨g2, t2, cs2, fu2, p2, q2, _, _, _, _, ⟨g, t, cs, fuel, p, q, hg, ht, hvar, hd, _, _⟩, _⟩, _⟩, _⟩ := h
  obtain rfl := Option.some.inj (gPow.symm.trans hg)
  obtain rfl := Option.some.inj (gPowType.symm.trans ht)
  rw [pow_data] at hd
  unfold Tb Lib.TabIs
  rw [hvar, ← Lib.cells_of_tab Tryd.underlying100 Tryd.underlying79 cellsU64 cellsPow hd]

abbrev Nm (w : World) : Prop := Tb w
theorem names_of {W : World} (h : laidMet Tryd.prog [("math/bits.deBruijn32tab", Rows.laid_math_bits_deBruijn32tab), ("math/bits.deBruijn64tab", Rows.laid_math_bits_deBruijn64tab), ("internal/strconv.uint64pow10", Rows.laid_internal_strconv_uint64pow10)] W) : Nm W := tb_of h

/-- A block's cells, laid anew. -/
def putCells (cs : Array Value) : Obj → Obj
  | .cells _ t frozen => .cells cs t frozen
  | o => o
def numOfData : DataW Unit → Value
  | .lit (.int k z) => .int k z
  | _ => undef
def cellsOfData : DataW Unit → Array Value
  | .agg ds => (ds.map numOfData).toArray
  | _ => #[]
/-- A world for the witness: the listed variables hold what their initialisers lay. -/
def laidIn (w : World) : World :=
  { w with heap := ((w.heap.modify 0 (putCells (cellsOfData Rows.laid_internal_strconv_uint64pow10))).modify 2 (putCells (cellsOfData Rows.laid_math_bits_deBruijn32tab))).modify 3 (putCells (cellsOfData Rows.laid_math_bits_deBruijn64tab)) }

end Go.Proofs.YthicbobddopcpaaDoor
