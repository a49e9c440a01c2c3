/- What the reference's Put answers. -/
import Derived.Test.YtndnpcegofbbaaaDoorTake
namespace Go.Proofs.YtndnpcegofbbaaaDoor
open Go Go.RowKit Go.Shelf

set_option maxHeartbeats 400000 in
theorem refPut_any (a : Nat) (ha : a < 4294967296) (w : World) : Calls Tryd.prog 28 #[.int .u32 (a : Int)] w fun e w' => e = .returned (.agg #[.int .u64 (putA a), .int .u64 (putB a)]) ∧ w' = w.alloc (.cells #[.int .u64 (putA a), .int .u64 (putB a)] 43) := by
  have H1 : Hid (((putA a : Nat) : Int) = 144115188075855872 + (a : Int) % 1048576) := show _ = _ by unfold putA; omega
  have H2 : Hid (((putB a : Nat) : Int) = 288230376151711744 + (a : Int) / 1048576) := show _ = _ by unfold putB; omega
  go_enter Tryd.func28, Tryd.ntmps28
  go_wp2
  rw [H1.out, H2.out]
  exact bodyPost_ret (v := .agg #[.int .u64 (144115188075855872 + (a : Int) % 1048576), .int .u64 (288230376151711744 + (a : Int) / 1048576)]) (results_cell_row rfl _ _ w.heap.size 43 _ (0, 0) _ rfl (World.alloc_heap_new w _) Tryd.underlying43 rfl (by kernel_rfl)) rfl ⟨rfl, rfl⟩

end Go.Proofs.YtndnpcegofbbaaaDoor
