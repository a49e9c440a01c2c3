/- The law RightsShows answers true at every set. -/
import Derived.Test.YtndnpcegofbbaaaDoorRefShow
namespace Go.Proofs.YtndnpcegofbbaaaDoor
open Go Go.RowKit Go.Shelf

set_option maxRecDepth 100000 in
set_option maxHeartbeats 1000000 in
theorem shows_walk (a : Nat) (ha : a < 4294967296) (w : World) (hn : Nm w) :
    Calls Tryd.prog 6 #[.int .u32 (a : Int)] w fun e w' => e = .returned (.bool true) ∧ Below w.heap.size w w' := by
  have c1 := show_any a ha w hn
  have c2 := fun (w1 : World) (h1 : Nm w1) => parse_any (showB a) w1 h1 (by have := showB_size a; unfold maxLen; omega)
  have c3 := refShow_any a ha
  rw [parse_show a ha] at c2
  have hself : ((showB a).toList == (showB a).toList) = true := beq_self_eq_true _
  generalize showB a = S at *
  clear ha
  go_enter Tryd.func6, Tryd.ntmps6
  go_wp2_with fail
  refine c1.mono ?_
  rintro e w1 ⟨rfl, hb1⟩
  have hn1 := hn.below hb1
  go_wp2_with fail
  refine (c2 w1 hn1).mono ?_
  rintro e w2 ⟨rfl, hb2⟩
  have hB2 := hb1.trans (hb2.mono hb1.size)
  go_wp2_with fail
  refine (c3 _).mono ?_
  rintro e w3 ⟨rfl, hb3⟩
  have hB3 := hB2.trans (hb3.mono hB2.size)
  go_wp2_with fail
  refine (lives_any _ (hn.below hB3)).mono ?_
  rintro e w4 ⟨rfl, hb4⟩
  go_wp2
  go_ret
  exact ⟨rfl, hB3.trans (hb4.mono hB3.size)⟩

end Go.Proofs.YtndnpcegofbbaaaDoor
