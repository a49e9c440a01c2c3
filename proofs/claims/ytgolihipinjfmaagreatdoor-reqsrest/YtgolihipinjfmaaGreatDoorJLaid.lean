/- From the rows' list of package variables to what the calls read of memory. -/
import Derived.Test.YtgolihipinjfmaaGreatDoorCLaid
import Derived.Test.YtgolihipinjfmaaGreatDoorJCheck
namespace Go.Proofs.YtgolihipinjfmaaGreatDoor.J
open Go.ChangeShapes Go.WideShapes Go.ChangeAt Go.RowKit Go.Shelf
open Go.Proofs.YtgolihipinjfmaaGreatDoor.C (nm_of sp_of)

theorem first_data : (Rows.laid_unicode_utf8_first : DataW Unit) = Lib.firstData := by kernel_rfl
theorem accept_data : (Rows.laid_unicode_utf8_acceptRanges : DataW Unit) = Lib.acceptData := by kernel_rfl
theorem u8Extra : U8Extra Tryz.prog Tryz.lays230_ren := ⟨by kernel_rfl, by kernel_rfl, by kernel_rfl, by kernel_rfl, by kernel_rfl, by kernel_rfl, by kernel_rfl⟩
theorem env_of {W : World} {l : List (String × DataW Unit)} (h : laidMet Tryz.prog l W) (h1 : ("purlieu/rights.names", Rows.laid_purlieu_rights_names) ∈ l) (h2 : ("strings.asciiSpace", Rows.laid_strings_asciiSpace) ∈ l)
    (h3 : ("unicode/utf8.first", Rows.laid_unicode_utf8_first) ∈ l) (h4 : ("unicode/utf8.acceptRanges", Rows.laid_unicode_utf8_acceptRanges) ∈ l) : Env W := by
  refine ⟨nm_of h h1, sp_of h h2, ?_⟩
  rw [first_data] at h3
  rw [accept_data] at h4
  exact utf8Tabs_of_reads (ρ := Tryz.lays230_ren) { Tryz.lays230 with } u8Extra (Lib.laidMet.reads h h3) (Lib.laidMet.reads h h4)

end Go.Proofs.YtgolihipinjfmaaGreatDoor.J
