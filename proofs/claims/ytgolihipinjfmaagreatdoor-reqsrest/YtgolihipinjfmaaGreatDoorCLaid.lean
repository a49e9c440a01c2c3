/- From the rows' list of package variables to the names and the table of blanks in memory; and a world that holds all that the rows list. -/
import Derived.Test.YtgolihipinjfmaaGreatDoorCards
import Derived.Test.YtgolihipinjfmaaGreatDoorTie
import Derived.Test.YtgolihipinjfmaaGreatDoorCLives
import Derived.ProofKit
import Derived.OpenShut
import Derived.Lay
import Derived.MakeChecks
import Derived.Deep.DeepHandedRow
import Derived.Deep.DeepWitnessRowRef
import Derived.Lib.LaidTab
import Derived.Lib.LaidU8
namespace Go.Proofs.YtgolihipinjfmaaGreatDoor.C
open Go.ChangeShapes Go.WideShapes Go.ChangeAt Go.RowKit

theorem own : ownKnob Tryz.prog.godebug = none := by kernel_rfl
theorem gNames : Tryz.prog.globalNamed "purlieu/rights.names" = some 1 := by kernel_rfl
theorem gNamesType : (Tryz.prog.globals[1]?).map (·.type) = some 85 := by kernel_rfl
theorem cellsNames : Tryz.prog.cellsOf 85 = 32 := by kernel_rfl
theorem cellsStr : Tryz.prog.cellsOf 9 = 1 := by kernel_rfl
theorem gSpType : (Tryz.prog.globals[0]?).map (·.type) = some 80 := by kernel_rfl
theorem cellsSp : Tryz.prog.cellsOf 80 = 256 := by kernel_rfl
theorem cellsU8 : Tryz.prog.cellsOf 5 = 1 := by kernel_rfl
theorem sp_data : (Rows.laid_strings_asciiSpace : DataW Unit) = Lib.tabData .u8 Lib.asciiSpaceTab := by kernel_rfl

/-- Where an array of texts reads as a list of texts, its cells are these texts. -/
theorem cells_of_texts {H : Type} {enc : TypeId × Value → H} {P : Program} {w : World} {base : Nat} {sp : Nat → Bool} {held : Bool} {fuel : Nat} {t e : TypeId} {n : Nat} {cs : List Value} {zs : List (List UInt8)} {p : List MemPlace}
    (ht : P.underlying t = some (.array n e)) (he : P.underlying e = some .string) (hce : P.cellsOf e = 1) (hct : P.cellsOf t = n)
    (h : DataW.trod enc P w base sp held fuel t cs = some (.agg (zs.map fun z => .lit (.string z)), p)) : cs = zs.map fun z => Value.string ⟨z.toArray⟩ := by
  obtain ⟨xs, m, _, hx, hl, hxl, hat⟩ := DataW.trod_array ht h
  have hd : zs.map (fun z => (DataW.lit (.string z) : DataW H)) = xs.map (·.1) := by simpa using congrArg Prod.fst hx
  have hzl : zs.length = n := by simpa [hxl] using congrArg List.length hd
  rw [hct] at hl
  refine List.ext_getElem (by simp [hl, hzl]) fun i h1 h2 => ?_
  have hi := hat i (by omega)
  rw [hce, Nat.mul_one, List.drop_eq_getElem_cons h1, List.take_succ_cons, List.take_zero, List.getElem?_eq_getElem (by omega)] at hi
  obtain ⟨s, hs, hy, _⟩ := DataW.trod_string he hi
  have hz : (DataW.lit (.string zs[i]) : DataW H) = .lit (.string s.data.toList) := by
    have := congrArg (·[i]?) hd
    simp [show i < zs.length by omega, show i < xs.length by omega, hy] at this
    simp [this]
  simp at hs hz
  rw [List.getElem_map, hs, hz]
theorem names_agg : (Rows.laid_purlieu_rights_names : DataW Unit) = .agg (nameL.map fun z => .lit (.string z)) := rfl

theorem nm_of {W : World} {l : List (String × DataW Unit)} (h : laidMet Tryz.prog l W) (hm : ("purlieu/rights.names", Rows.laid_purlieu_rights_names) ∈ l) : Nm W := by
  obtain ⟨g, t, cs, fuel, p, hg, ht, hvar, hd⟩ := Lib.laidMet.reads h hm
  obtain rfl := Option.some.inj (gNames.symm.trans hg)
  obtain rfl := Option.some.inj (gNamesType.symm.trans ht)
  rw [names_agg] at hd
  have hcs := cells_of_texts Tryz.underlying85 Tryz.underlying9 cellsStr cellsNames hd
  have hcs2 : cs = nm := by
    rw [← Array.toArray_toList (xs := cs), hcs]; rfl
  simp only [World.var?, gNames, Option.bind_some] at hvar
  split at hvar
  · rename_i cs' t' fr' hh
    cases hvar
    exact ⟨t', fr', by rw [hh, hcs2]⟩
  · cases hvar
theorem sp_of {W : World} {l : List (String × DataW Unit)} (h : laidMet Tryz.prog l W) (hm : ("strings.asciiSpace", Rows.laid_strings_asciiSpace) ∈ l) : Sp W := by
  obtain ⟨g, t, cs, fuel, p, hg, ht, hvar, hd⟩ := Lib.laidMet.reads h hm
  obtain rfl := Option.some.inj (gSp.symm.trans hg)
  obtain rfl := Option.some.inj (gSpType.symm.trans ht)
  rw [sp_data] at hd
  unfold Sp Lib.TabIs
  rw [hvar, ← Lib.cells_of_tab Tryz.underlying80 Tryz.underlying5 cellsU8 cellsSp hd]

end Go.Proofs.YtgolihipinjfmaaGreatDoor.C
