/- The law PathNames answers true at every text. -/
import Derived.Test.YtidcfbjefemhdaaPName
namespace Go.Proofs.Ytidcfbjefemhdaa
open Go Go.RowKit

set_option maxRecDepth 100000 in
set_option maxHeartbeats 2000000 in
theorem names_short (s : ByteArray) (w : World) (hs : s.size ≤ 3000) : Calls Try.prog 5 #[.string s] w fun e w' => e = .returned (.bool true) ∧ Below w.heap.size w w' := by
  have hz : ¬ (3000 : Int) < (s.size : Int) := by omega
  have c1 := fun W => name_any s W (by omega)
  have c2 := fun W => refName_any s W (by omega)
  have cL := lives_any
  have hq : (nameE s == nameE s) = true := by simp
  generalize nameE s = n at *
  go_enter Try.func5, Try.ntmps5
  go_wp2_with fail
  refine (c1 _).mono ?_
  rintro e w1 ⟨rfl, hb1⟩
  go_wp2_with fail
  refine (c2 _).mono ?_
  rintro e w2 ⟨rfl, rfl⟩
  go_wp2_with fail
  refine (cL _).mono ?_
  rintro e w3 ⟨rfl, hb3⟩
  go_wp2
  go_ret
  exact ⟨rfl, on_trans hb1 hb3⟩

set_option maxRecDepth 100000 in
set_option maxHeartbeats 2000000 in
theorem names_walk (s : ByteArray) (w : World) (hs : s.size ≤ 9223372036854775807) : Calls Try.prog 5 #[.string s] w fun e w' => e = .returned (.bool true) ∧ Below w.heap.size w w' := by
  by_cases h3 : s.size ≤ 3000
  · exact names_short s w h3
  · have hz : (3000 : Int) < (s.size : Int) := by omega
    have hz2 : (3000 : Int) ≤ (s.size : Int) := by omega
    have hx : (s.extract 0 3000).size ≤ 3000 := by simp [ByteArray.size_extract]; omega
    have c1 := fun W => name_any (s.extract 0 3000) W (by omega)
    have c2 := fun W => refName_any (s.extract 0 3000) W (by omega)
    have cL := lives_any
    have hq : (nameE (s.extract 0 3000) == nameE (s.extract 0 3000)) = true := by simp
    generalize nameE (s.extract 0 3000) = n at *
    clear h3 hx
    go_enter Try.func5, Try.ntmps5
    go_wp2_with fail
    refine (c1 _).mono ?_
    rintro e w1 ⟨rfl, hb1⟩
    go_wp2_with fail
    refine (c2 _).mono ?_
    rintro e w2 ⟨rfl, rfl⟩
    go_wp2_with fail
    refine (cL _).mono ?_
    rintro e w3 ⟨rfl, hb3⟩
    go_wp2
    go_ret
    exact ⟨rfl, on_trans hb1 hb3⟩

end Go.Proofs.Ytidcfbjefemhdaa
