/- CallsFlags, walked. -/
import Derived.Test.YtelbmnjcejajiaaDoorCLives
import Derived.Test.YtelbmnjcejajiaaDoorCRefFlags
namespace Go.Proofs.YtelbmnjcejajiaaDoor.C
open Go Go.RowKit

set_option maxRecDepth 100000 in
set_option maxHeartbeats 1000000 in
theorem flags_walk (x : Int) (_ : -9223372036854775808 ≤ x) (_ : x ≤ 9223372036854775807) (w : World) (ht : Nm w ∧ Sp w) :
    Calls Tryd.prog 6 #[.int .i64 x] w fun e W => e = .returned (.bool true) ∧ Below w.heap.size w W := by
  have c1 := flags_any x w
  have c2 := rflags_any x
  unfold FlagsPost at c1 c2
  have cL := fun W (h : Below w.heap.size w W) => lives_any W (ht.2.below h) (ht.1.below h)
  generalize flagR x = r at *
  generalize flagE x = f at *
  go_enter Tryd.func6, Tryd.ntmps6
  go_wp2_with (first | (go_at_call 17; refine c1.mono ?_; rintro e W1 ⟨rfl, hb1⟩) | (go_at_call 18; refine (c2 _).mono ?_; rintro e W2 ⟨rfl, hb2⟩; have hb3 := hb1.trans (hb2.mono hb1.size)) | (go_at_call 12; refine (cL _ hb3).mono ?_; rintro e W4 ⟨rfl, hb4⟩))
  go_ret
  exact ⟨rfl, hb3.trans (hb4.mono hb3.size)⟩

end Go.Proofs.YtelbmnjcejajiaaDoor.C
