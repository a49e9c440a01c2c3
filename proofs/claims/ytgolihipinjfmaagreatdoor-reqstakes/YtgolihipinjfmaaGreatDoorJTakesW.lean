/- ReqsTakes, walked. -/
import Derived.Test.YtgolihipinjfmaaGreatDoorJLives
import Derived.Test.YtgolihipinjfmaaGreatDoorJRTake
namespace Go.Proofs.YtgolihipinjfmaaGreatDoor.J
open Go Go.RowKit

set_option maxRecDepth 100000 in
theorem takes_walk (c n : Int) (w : World) (he : Env w) : Calls Tryz.prog 4 #[.int .u8 c, .int .i64 n] w fun e W => e = .returned (.bool true) ∧ Below w.heap.size w W := by
  have c1 := takes_any c n w
  have c2 := fun W => rtakes_any c n W
  have cL := fun W (h : Below w.heap.size w W) => lives_any W (he.below h)
  clear he
  generalize takesB c n = v at *
  go_enter Tryz.func4, Tryz.ntmps4
  go_wp2_with (first | (go_at_call 13; refine c1.mono ?_; rintro e W1 ⟨rfl, hb1⟩) | (go_at_call 14; refine (c2 _).mono ?_; rintro e W2 ⟨rfl, hb2⟩; have hb3 := on_trans hb1 hb2) | (go_at_call 12; refine (cL _ hb3).mono ?_; rintro e W4 ⟨rfl, hb4⟩))
  go_ret
  exact ⟨rfl, on_trans hb3 hb4⟩

end Go.Proofs.YtgolihipinjfmaaGreatDoor.J
