/- CallsGate, walked. -/
import Derived.Test.YtelbmnjcejajiaaDoorCLives
import Derived.Test.YtelbmnjcejajiaaDoorCRefGate
namespace Go.Proofs.YtelbmnjcejajiaaDoor.C
open Go Go.RowKit

set_option maxRecDepth 100000 in
set_option maxHeartbeats 1000000 in
theorem gate_walk (no : Int) (_ : -9223372036854775808 ≤ no) (_ : no ≤ 9223372036854775807) (dir : Int) (_ : -9223372036854775808 ≤ dir) (_ : dir ≤ 9223372036854775807) (cap : Bool) (w : World) (ht : Nm w ∧ Sp w) :
    Calls Tryd.prog 5 #[.int .i64 no, .int .i64 dir, .bool cap] w fun e W => e = .returned (.bool true) ∧ Below w.heap.size w W := by
  have c1 := gate_any no dir cap w ht.2 ht.1
  have c2 := rgate_any no dir cap
  have c3 := fun W (h : Below w.heap.size w W) => gate_any no dir false W (ht.2.below h) (ht.1.below h)
  have cL := fun W (h : Below w.heap.size w W) => lives_any W (ht.2.below h) (ht.1.below h)
  go_enter Tryd.func5, Tryd.ntmps5
  go_wp2_with (first | (go_at_call 15; refine c1.mono ?_; clear c1; rintro e W1 ⟨E, rfl, hE, hb1⟩) | (go_at_call 16; refine (c2 _).mono ?_; clear c2; rintro e W2 ⟨E', rfl, hE', hb2⟩; obtain rfl := gateF_one hE hE'; have hb3 := hb1.trans (hb2.mono hb1.size)) | (go_at_call 15; refine (c3 _ hb3).mono ?_; clear c3; rintro e W4 ⟨E', rfl, hE4, hb4⟩; obtain rfl := gateF_off hE4; have hb5 := hb3.trans (hb4.mono hb3.size)) | (go_at_call 12; refine (cL _ hb5).mono ?_; rintro e W6 ⟨rfl, hb6⟩))
  go_ret
  exact ⟨rfl, hb5.trans (hb6.mono hb5.size)⟩

end Go.Proofs.YtelbmnjcejajiaaDoor.C
