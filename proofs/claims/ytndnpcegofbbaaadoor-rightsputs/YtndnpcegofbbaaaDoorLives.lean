/- The law's own helper: it answers true in every world that holds the names. -/
import Derived.Test.YtndnpcegofbbaaaDoorCount
namespace Go.Proofs.YtndnpcegofbbaaaDoor
open Go Go.RowKit Go.Shelf

def rwB : ByteArray := ⟨#[114, 101, 97, 100, 44, 119, 114, 105, 116, 101]⟩
theorem parse_rw : parsePairs rwB = (3, 0) := by decide +kernel
theorem show_rw : showB 3 = rwB := by decide +kernel

theorem count3 (w : World) : Calls Tryd.prog 13 #[.int .u32 3] w fun e w' => e = .returned (.int .i64 2) ∧ ∃ q, w' = w.drewN q := by
  have h := count_any 3 (by decide) w
  rw [show cntN 3 32 = 2 by decide] at h
  exact h
theorem sub13 (w : World) : Calls Tryd.prog 16 #[.int .u32 1, .int .u32 3] w fun e w' => e = .returned (.bool true) ∧ w' = w := by
  go_enter Tryd.func16, Tryd.ntmps16
  go_wp2
  go_ret
  exact ⟨rfl, rfl⟩
theorem parse_lives (w : World) (hn : Nm w) : Calls Tryd.prog 23 #[.string ⟨#[114, 101, 97, 100, 44, 119, 114, 105, 116, 101]⟩] w fun e w' => e = .returned (.tuple #[.int .u32 3, .int .i64 0]) ∧ Below w.heap.size w w' := by
  have h := parse_any rwB w hn (by decide)
  rw [parse_rw] at h
  exact h
theorem show_lives (w : World) (hn : Nm w) : Calls Tryd.prog 22 #[.int .u32 3] w fun e w' => e = .returned (.string ⟨#[114, 101, 97, 100, 44, 119, 114, 105, 116, 101]⟩) ∧ Below w.heap.size w w' := by
  have h := show_any 3 (by decide) w hn
  rw [show_rw] at h
  exact h

set_option maxRecDepth 100000 in
set_option maxHeartbeats 400000 in
theorem lives_any (w : World) (hn : Nm w) : Calls Tryd.prog 15 #[] w fun e w' => e = .returned (.bool true) ∧ Below w.heap.size w w' := by
  go_enter Tryd.func15, Tryd.ntmps15
  go_wp2_with fail
  refine (parse_lives w hn).mono ?_
  rintro e w1 ⟨rfl, hb1⟩
  have hn1 := hn.below hb1
  go_wp2_with fail
  refine (show_lives w1 hn1).mono ?_
  rintro e w2 ⟨rfl, hb2⟩
  go_wp2_with fail
  refine (sub13 w2).mono ?_
  rintro e w3 ⟨rfl, rfl⟩
  go_wp2_with fail
  refine (count3 w3).mono ?_
  rintro e w4 ⟨rfl, q, rfl⟩
  go_wp2
  go_ret
  exact ⟨rfl, below_drewN (hb1.trans (hb2.mono hb1.size)) _⟩

end Go.Proofs.YtndnpcegofbbaaaDoor
