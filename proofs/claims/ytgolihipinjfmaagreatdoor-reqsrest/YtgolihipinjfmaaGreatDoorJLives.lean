/- What the laws' helper tells: requests are looked at. -/
import Derived.Test.YtgolihipinjfmaaGreatDoorJCheck
namespace Go.Proofs.YtgolihipinjfmaaGreatDoor.J
open Go Go.RowKit

theorem chk_1 : chk ⟨3, 0, 5, 0, 0, 0, ⟨#[]⟩, ⟨#[]⟩, []⟩ = 0 := by decide +kernel
theorem chk_2 : chk ⟨3, 0, 300, 0, 0, 0, ⟨#[]⟩, ⟨#[]⟩, []⟩ = 22 := by decide +kernel
theorem chk_3 : chk ⟨65, 0, 0, 0, 0, 0, ⟨#[]⟩, ⟨#[]⟩, []⟩ = 78 := by decide +kernel

set_option maxRecDepth 100000 in
set_option maxHeartbeats 2000000 in
theorem lives_any (w : World) (he : Env w) : Calls Tryz.prog 12 #[] w fun e W => e = .returned (.bool true) ∧ Below w.heap.size w W := by
  have cA : ∀ (no a1 : Int) W, Below w.heap.size w W → Calls Tryz.prog 9 #[.agg #[.int .i64 no, .int .i64 0, .int .i64 a1, .int .i64 0, .int .i64 0, .int .i64 0, .string ⟨#[]⟩, .string ⟨#[]⟩, .slice none 0 0]] W fun e W' => e = .returned (.int .i64 (chk ⟨no, 0, a1, 0, 0, 0, ⟨#[]⟩, ⟨#[]⟩, []⟩)) ∧ Below W.heap.size W W' := fun no a1 W hb =>
    check_any ⟨no, 0, a1, 0, 0, 0, ⟨#[]⟩, ⟨#[]⟩, []⟩ none 0 W (.inl rfl) (by simp) (he.below hb)
  have c4 : ∀ W, Calls Tryz.prog 13 #[.int .u8 102, .int .i64 (-1)] W fun e W' => e = .returned (.bool true) ∧ Below W.heap.size W W' := fun W => by
    have := takes_any 102 (-1) W
    rwa [show takesB 102 (-1) = true by decide +kernel] at this
  clear he
  go_enter Tryz.func12, Tryz.ntmps12
  have h1 := chk_1
  have h2 := chk_2
  have h3 := chk_3
  have hbw := Below.refl w.heap.size w
  generalize hck : chk = ck at *
  clear hck
  go_wp2_with (first | (go_at_call 9; refine (cA _ _ _ hbw).mono ?_; rintro e W1 ⟨he1, hb1⟩; (first | rw [h1] at he1 | rw [h2] at he1 | rw [h3] at he1); subst he1; have hbw := on_trans hbw hb1) | (go_at_call 13; refine (c4 _).mono ?_; rintro e W6 ⟨rfl, hb6⟩))
  go_ret
  exact ⟨rfl, on_trans hbw hb6⟩

end Go.Proofs.YtgolihipinjfmaaGreatDoor.J
