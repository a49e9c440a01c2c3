/- The law RightsMeets answers true at every three sets. -/
import Derived.Test.YtndnpcegofbbaabDoorOps
namespace Go.Proofs.YtndnpcegofbbaabDoor
open Go Go.RowKit Go.Shelf

set_option maxRecDepth 100000 in
set_option maxHeartbeats 1000000 in
theorem meets_walk (a b c : Nat) (ha : a < 4294967296) (hb : b < 4294967296) (hc : c < 4294967296) (w : World) (hn : Nm w) :
    Calls Tryd.prog 4 #[.int .u32 (a : Int), .int .u32 (b : Int), .int .u32 (c : Int)] w fun e w' => e = .returned (.bool true) ∧ Below w.heap.size w w' := by
  have hm : a &&& b < 4294967296 := and_lt ha
  have hd : a &&& (4294967295 - b) < 4294967296 := and_lt ha
  have c1 := and_any a b ha hb w
  have c2 := sub_any (a &&& b) a hm ha w
  have c3 := sub_any (a &&& b) b hm hb w
  have c4 := sub_any c (a &&& b) hc hm w
  have c5 := sub_any c a hc ha w
  have c6 := sub_any c b hc hb w
  have c7 := minus_any a b ha hb w
  have c8 := or_any (a &&& (4294967295 - b)) (a &&& b) hd hm w
  have c9 := lives_any w hn
  rw [sub_left ha] at c2
  rw [sub_right hb] at c3
  rw [sub_meet ha hb] at c4
  rw [parts_join ha hb] at c8
  generalize a &&& (4294967295 - b) = d at *
  generalize a &&& b = m at *
  generalize subB c a = p at *
  generalize subB c b = q at *
  clear ha hb hc hm hd hn
  cases p
  all_goals
    go_enter Tryd.func4, Tryd.ntmps4
    go_wp2_with fail
    refine c1.mono ?_
    rintro e w' ⟨rfl, rfl⟩
    go_wp2_with fail
    refine c2.mono ?_
    rintro e w' ⟨rfl, rfl⟩
    go_wp2_with fail
    refine c3.mono ?_
    rintro e w' ⟨rfl, rfl⟩
    go_wp2_with fail
    refine c4.mono ?_
    rintro e w' ⟨rfl, rfl⟩
    go_wp2_with fail
    refine c5.mono ?_
    rintro e w' ⟨rfl, rfl⟩
    go_wp2_with fail
  · refine c7.mono ?_
    rintro e w' ⟨rfl, rfl⟩
    go_wp2_with fail
    refine c8.mono ?_
    rintro e w' ⟨rfl, rfl⟩
    go_wp2_with fail
    refine c9.mono ?_
    rintro e w' ⟨rfl, hb⟩
    go_wp2
    go_ret
    exact ⟨rfl, hb⟩
  · refine c6.mono ?_
    rintro e w' ⟨rfl, rfl⟩
    cases q
    all_goals
      go_wp2_with fail
      refine c7.mono ?_
      rintro e w' ⟨rfl, rfl⟩
      go_wp2_with fail
      refine c8.mono ?_
      rintro e w' ⟨rfl, rfl⟩
      go_wp2_with fail
      refine c9.mono ?_
      rintro e w' ⟨rfl, hb⟩
      go_wp2
      go_ret
      exact ⟨rfl, hb⟩

end Go.Proofs.YtndnpcegofbbaabDoor
