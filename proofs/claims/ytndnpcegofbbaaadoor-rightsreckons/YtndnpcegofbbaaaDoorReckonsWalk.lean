/- The law RightsReckons answers true at every two sets. -/
import Derived.Test.YtndnpcegofbbaaaDoorEach
import Derived.Test.YtndnpcegofbbaaaDoorOps
namespace Go.Proofs.YtndnpcegofbbaaaDoor
open Go Go.RowKit Go.Shelf

set_option maxRecDepth 100000 in
set_option maxHeartbeats 1000000 in
theorem reckons_walk (a b : Nat) (ha : a < 4294967296) (hb : b < 4294967296) (w : World) (hn : Nm w) :
    Calls Tryd.prog 3 #[.int .u32 (a : Int), .int .u32 (b : Int)] w fun e w' => e = .returned (.bool true) ∧ Below w.heap.size w w' := by
  have c1 := and_any a b ha hb
  have c2 := refEach0 a b ha hb
  have c3 := or_any a b ha hb
  have c4 := refEach1 a b ha hb
  have c5 := minus_any a b ha hb
  have c6 := refEach2 a b ha hb
  have c7 := count_any a ha
  have c8 := refCount_any a ha
  rw [each0 ha] at c2
  rw [each1 ha hb] at c4
  rw [each2 ha hb] at c6
  generalize a &&& (4294967295 - b) = d at *
  generalize a &&& b = m at *
  generalize a ||| b = j at *
  generalize cntN a 32 = c at *
  clear ha hb
  go_enter Tryd.func3, Tryd.ntmps3
  go_wp2_with fail
  refine (c1 _).mono ?_
  rintro e w' ⟨rfl, rfl⟩
  go_wp2_with fail
  refine (c2 _).mono ?_
  rintro e w2 ⟨rfl, hb2⟩
  go_wp2_with fail
  refine (c3 _).mono ?_
  rintro e w3 ⟨rfl, hw3⟩
  subst hw3
  go_wp2_with fail
  refine (c4 _).mono ?_
  rintro e w4 ⟨rfl, hb4⟩
  go_wp2_with fail
  refine (c5 _).mono ?_
  rintro e w5 ⟨rfl, hw5⟩
  subst hw5
  go_wp2_with fail
  refine (c6 _).mono ?_
  rintro e w6 ⟨rfl, hb6⟩
  go_wp2_with fail
  refine (c7 _).mono ?_
  rintro e w7 ⟨rfl, q, hw7⟩
  subst hw7
  go_wp2_with fail
  refine (c8 _).mono ?_
  rintro e w8 ⟨rfl, hw8⟩
  subst hw8
  have hB := below_drewN ((hb2.trans (hb4.mono hb2.size)).trans (hb6.mono (Nat.le_trans hb2.size hb4.size))) q
  go_wp2_with fail
  refine (lives_any _ (hn.below hB)).mono ?_
  rintro e w9 ⟨rfl, hb9⟩
  go_wp2
  go_ret
  exact ⟨rfl, hB.trans (hb9.mono hB.size)⟩

end Go.Proofs.YtndnpcegofbbaaaDoor
