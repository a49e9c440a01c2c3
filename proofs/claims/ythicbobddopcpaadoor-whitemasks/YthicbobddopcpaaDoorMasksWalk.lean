/- The law WhiteMasks answers true at every pair of ints. -/
import Derived.Test.YthicbobddopcpaaDoorWLives
import Derived.Test.YthicbobddopcpaaDoorWMaskRef
namespace Go.Proofs.YthicbobddopcpaaDoor
open Go Go.RowKit Go.Shelf Go.Sort

set_option maxRecDepth 100000 in
set_option maxHeartbeats 1000000 in
theorem masks_walk (old mask : Int) (_h0 : -9223372036854775808 ≤ old) (_h1 : old < 9223372036854775808) (_g0 : -9223372036854775808 ≤ mask) (_g1 : mask < 9223372036854775808) (w : World) (ht : Tb w) :
    Calls Tryd.prog 7 #[.int .i64 old, .int .i64 mask] w fun e w' => e = .returned (.bool true) ∧ Below w.heap.size w w' := by
  have c1 := mask_any old mask
  have c2 := refMask_any old mask
  have hz : maskE old mask = 0 → bits .andNot .i64 (maskV old mask) old = 0 := fun h => by
    unfold maskE at h
    cases hb : mBad old mask with
    | true => rw [hb] at h; simp at h
    | false =>
      cases hm : mMore old mask with
      | true => rw [hb, hm] at h; simp at h
      | false => unfold maskV; rw [hb, hm]; exact (less_iff old mask).2 hm
  generalize maskV old mask = V at *
  generalize maskE old mask = E at *
  have q1 : (V == V) = true := beq_self_eq_true _
  have q2 : (E == E) = true := beq_self_eq_true _
  have cL := lives_any w ht
  clear ht
  by_cases hE : E = 0
  · have hz' := hz hE
    subst hE
    clear hz
    go_enter Tryd.func7, Tryd.ntmps7
    go_wp2_with fail
    refine (c1 _).mono ?_
    rintro e w1 ⟨rfl, hw1⟩
    subst hw1
    go_wp2_with fail
    refine (c2 _).mono ?_
    rintro e w2 ⟨rfl, hw2⟩
    subst hw2
    go_wp2_with fail
    refine cL.mono ?_
    rintro e w3 ⟨rfl, hb3⟩
    go_wp2
    go_ret
    exact ⟨rfl, hb3⟩
  · have q3 : (E == 0) = false := beq_eq_false_iff_ne.2 hE
    have q4 : (E != 0) = true := by simp only [bne, q3]; rfl
    clear hz hE
    go_enter Tryd.func7, Tryd.ntmps7
    go_wp2_with fail
    refine (c1 _).mono ?_
    rintro e w1 ⟨rfl, hw1⟩
    subst hw1
    go_wp2_with fail
    refine (c2 _).mono ?_
    rintro e w2 ⟨rfl, hw2⟩
    subst hw2
    go_wp2_with fail
    refine cL.mono ?_
    rintro e w3 ⟨rfl, hb3⟩
    go_wp2
    go_ret
    exact ⟨rfl, hb3⟩

end Go.Proofs.YthicbobddopcpaaDoor
