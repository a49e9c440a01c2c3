/- The law RightsParses answers true at every text. -/
import Derived.Test.YtndnpcegofbbaaaDoorRefParse
namespace Go.Proofs.YtndnpcegofbbaaaDoor
open Go Go.RowKit Go.Shelf

set_option maxRecDepth 100000 in
set_option maxHeartbeats 1000000 in
theorem parses_walk (s : ByteArray) (hs : s.size ≤ maxLen) (w : World) (hn : Nm w) :
    Calls Tryd.prog 7 #[.string s] w fun e w' => e = .returned (.bool true) ∧ Below w.heap.size w w' := by
  by_cases h6 : s.size ≤ 600
  · have c1 := parse_any s w hn hs
    have c2 := refParse_any s h6
    have hlt : ¬ ((600 : Int) < (s.size : Int)) := by omega
    generalize (parsePairs s).1 = x at *
    generalize (parsePairs s).2 = y at *
    have e1 : (((x : Nat) : Int) == (x : Int)) = true := beq_self_eq_true _
    have e2 : (y == y) = true := beq_self_eq_true _
    clear hs
    go_enter Tryd.func7, Tryd.ntmps7
    go_wp2_with fail
    refine c1.mono ?_
    rintro e w1 ⟨rfl, hb1⟩
    go_wp2_with fail
    refine (c2 _).mono ?_
    rintro e w2 ⟨rfl, hb2⟩
    have hB := hb1.trans (hb2.mono hb1.size)
    go_wp2_with fail
    refine (lives_any _ (hn.below hB)).mono ?_
    rintro e w3 ⟨rfl, hb3⟩
    go_wp2
    go_ret
    exact ⟨rfl, hB.trans (hb3.mono hB.size)⟩
  · have hlt : (600 : Int) < (s.size : Int) := by omega
    have hnl := lives_any w hn
    go_enter Tryd.func7, Tryd.ntmps7
    go_wp2_with fail
    refine hnl.mono ?_
    rintro e w1 ⟨rfl, hb1⟩
    go_wp2
    go_ret
    exact ⟨rfl, hb1⟩

end Go.Proofs.YtndnpcegofbbaaaDoor
