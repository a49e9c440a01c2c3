/- The law RightsSubsets answers true at every two sets. -/
import Derived.Test.YtndnpcegofbbaaaDoorRef
namespace Go.Proofs.YtndnpcegofbbaaaDoor
open Go Go.RowKit Go.Shelf

set_option maxHeartbeats 400000 in
theorem subsets_walk (a b : Nat) (ha : a < 4294967296) (hb : b < 4294967296) (w : World) (hn : Nm w) :
    Calls Tryd.prog 4 #[.int .u32 (a : Int), .int .u32 (b : Int)] w fun e w' => e = .returned (.bool true) ∧ Below w.heap.size w w' := by
  have c1 := sub_any a b ha hb w
  have c2 := refSub_any a b ha hb w
  have c3 := lives_any w hn
  generalize subB a b = p at *
  clear ha hb hn
  cases p
  all_goals
    go_enter Tryd.func4, Tryd.ntmps4
    go_wp2_with fail
    refine c1.mono ?_
    rintro e w' ⟨rfl, rfl⟩
    go_wp2_with fail
    refine c2.mono ?_
    rintro e w' ⟨rfl, rfl⟩
    go_wp2_with fail
    refine c3.mono ?_
    rintro e w' ⟨rfl, hb⟩
    go_wp2
    go_ret
    exact ⟨rfl, hb⟩

end Go.Proofs.YtndnpcegofbbaaaDoor
