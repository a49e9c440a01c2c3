/- From the rows' list of package variables to the names in memory; and a world that holds all that the rows list. -/
import Derived.Test.YtndnpcegofbbaaaDoorCards
import Derived.Test.YtndnpcegofbbaaaDoorTie
import Derived.Test.YtndnpcegofbbaaaDoorLives
import Derived.ProofKit
import Derived.OpenShut
import Derived.Deep.DeepHandedRow
import Derived.Lib.LaidTab
namespace Go.Proofs.YtndnpcegofbbaaaDoor
open Go.ChangeShapes Go.WideShapes Go.ChangeAt Go.RowKit

theorem own : ownKnob Tryd.prog.godebug = none := by kernel_rfl
theorem gNames : Tryd.prog.globalNamed "purlieu/rights.names" = some 0 := by kernel_rfl
theorem gNamesType : (Tryd.prog.globals[0]?).map (·.type) = some 51 := by kernel_rfl
theorem cellsNames : Tryd.prog.cellsOf 51 = 32 := by kernel_rfl
theorem cellsStr : Tryd.prog.cellsOf 9 = 1 := by kernel_rfl

/-- Where an array of texts reads as a list of texts, its cells are these texts. -/
theorem cells_of_texts {H : Type} {enc : TypeId × Value → H} {P : Program} {w : World} {base : Nat} {sp : Nat → Bool} {held : Bool} {fuel : Nat} {t e : TypeId} {n : Nat} {cs : List Value} {zs : List (List UInt8)} {p : List MemPlace}
    (ht : P.underlying t = some (.array n e)) (he : P.underlying e = some .string) (hce : P.cellsOf e = 1) (hct : P.cellsOf t = n)
    (h : DataW.trod enc P w base sp held fuel t cs = some (.agg (zs.map fun z => .lit (.string z)), p)) : cs = zs.map fun z => Value.string ⟨z.toArray⟩ := by
  obtain ⟨xs, m, _, hx, hl, hxl, hat⟩ := DataW.trod_array ht h
  have hd : zs.map (fun z => (DataW.lit (.string z) : DataW H)) = xs.map (·.1) := by simpa using congrArg Prod.fst hx
  have hzl : zs.length = n := by simpa [hxl] using congrArg List.length hd
  rw [hct] at hl
  refine List.ext_getElem (by simp [hl, hzl]) fun i h1 h2 => ?_
  have hi := hat i (by omega)
  rw [hce, Nat.mul_one, List.drop_eq_getElem_cons h1, List.take_succ_cons, List.take_zero, List.getElem?_eq_getElem (by omega)] at hi
  obtain ⟨s, hs, hy, _⟩ := DataW.trod_string he hi
  have hz : (DataW.lit (.string zs[i]) : DataW H) = .lit (.string s.data.toList) := by
    have := congrArg (·[i]?) hd
    simp [show i < zs.length by omega, show i < xs.length by omega, hy] at this
    simp [this]
  simp at hs hz
  rw [List.getElem_map, hs, hz]

theorem names_agg : (Rows.laid_purlieu_rights_names : DataW Unit) = .agg (nameL.map fun z => .lit (.string z)) := rfl

theorem names_of {W : World} (h : laidMet Tryd.prog [("unicode/utf8.acceptRanges", Rows.laid_unicode_utf8_acceptRanges), ("purlieu/rights.names", Rows.laid_purlieu_rights_names), ("unicode/utf8.first", Rows.laid_unicode_utf8_first)] W) : Nm W := by
  obtain ⟨ps, ⟨g1, t1, cs1, fu1, p1, q1, _, _, _, _, ⟨g, t, cs, fuel, p, q, hg, ht, hvar, hd, _, _⟩, _⟩, _⟩ := h
  obtain rfl := Option.some.inj (gNames.symm.trans hg)
  obtain rfl := Option.some.inj (gNamesType.symm.trans ht)
  rw [names_agg] at hd
  have hcs := cells_of_texts Tryd.underlying51 Tryd.underlying9 cellsStr cellsNames hd
  have hcs2 : cs = nm := by
    rw [← Array.toArray_toList (xs := cs), hcs]; rfl
  simp only [World.var?, gNames, Option.bind_some] at hvar
  split at hvar
  · rename_i cs' t' fr' hh
    cases hvar
    exact ⟨t', fr', by rw [hh, hcs2]⟩
  · cases hvar

/-- A block's cells, laid anew. -/
def putCells (cs : Array Value) : Obj → Obj
  | .cells _ t frozen => .cells cs t frozen
  | o => o
/-- A world for the witness: the listed variables hold what their initialisers lay. -/
def laidIn (w : World) : World :=
  { w with heap := ((w.heap.modify 0 (putCells nm)).modify 2 (putCells (Go.Pinned.utf8FirstZ.map fun (z : Nat) => Value.int .u8 (z : Int)).toArray)).modify 3 (putCells #[.int .u8 128, .int .u8 191, .int .u8 160, .int .u8 191, .int .u8 128, .int .u8 159, .int .u8 144, .int .u8 191, .int .u8 128, .int .u8 143, .int .u8 0, .int .u8 0, .int .u8 0, .int .u8 0, .int .u8 0, .int .u8 0, .int .u8 0, .int .u8 0, .int .u8 0, .int .u8 0, .int .u8 0, .int .u8 0, .int .u8 0, .int .u8 0, .int .u8 0, .int .u8 0, .int .u8 0, .int .u8 0, .int .u8 0, .int .u8 0, .int .u8 0, .int .u8 0]) }

end Go.Proofs.YtndnpcegofbbaaaDoor
