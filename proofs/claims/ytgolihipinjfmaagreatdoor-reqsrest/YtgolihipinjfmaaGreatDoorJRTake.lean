/- Which numbers may stand for a letter: the reference's Takes. -/
import Derived.Test.YtgolihipinjfmaaGreatDoorJMod
import Derived.Test.YtgolihipinjfmaaGreatDoorCRefFlags
import Derived.Deep.DeepCutAuto
namespace Go.Proofs.YtgolihipinjfmaaGreatDoor.J
open Go Go.RowKit
open Go.Proofs.YtgolihipinjfmaaGreatDoor.C (flagE flagR rflags_any FlagsPost)

set_option maxRecDepth 100000 in
set_option maxHeartbeats 2000000 in
theorem rtakes_any (c n : Int) (w : World) : Calls Tryz.prog 14 #[.int .u8 c, .int .i64 n] w fun e W => e = .returned (.bool (takesB c n)) ∧ Below w.heap.size w W := by
  have cF := rflags_any n w
  unfold FlagsPost at cF
  generalize flagR n = fr at cF
  by_cases hL : c = 102 ∨ c = 100 ∨ c = 120 ∨ c = 105 ∨ c = 110 ∨ c = 111 ∨ c = 119 ∨ c = 104 ∨ c = 117 ∨ c = 101 ∨ c = 115 ∨ c = 109 ∨ c = 99 ∨ c = 98 ∨ c = 107 ∨ c = 103
  · rcases hL with rfl | rfl | rfl | rfl | rfl | rfl | rfl | rfl | rfl | rfl | rfl | rfl | rfl | rfl | rfl | rfl
    · go_enter Tryz.func14, Tryz.ntmps14
      go_wp2
      go_ret
      exact ⟨by simp [takesB], Below.refl _ _⟩
    · go_enter Tryz.func14, Tryz.ntmps14
      go_wp2
      go_ret
      exact ⟨by simp [takesB], Below.refl _ _⟩
    · go_enter Tryz.func14, Tryz.ntmps14
      go_wp2
      go_ret
      exact ⟨by simp [takesB], Below.refl _ _⟩
    · go_enter Tryz.func14, Tryz.ntmps14
      go_wp2
      go_ret
      exact ⟨by simp [takesB], Below.refl _ _⟩
    · have ht : takesB 110 n = upTo n 256 := by unfold takesB; simp
      unfold upTo at ht
      rw [ht]
      clear cF ht
      cases h0 : decide (0 ≤ n)
      · go_enter Tryz.func14, Tryz.ntmps14
        go_wp2
        go_ret
        exact ⟨rfl, Below.refl _ _⟩
      · cases h1 : decide (n ≤ 256)
        all_goals
          go_enter Tryz.func14, Tryz.ntmps14
          go_wp2
          go_ret
          exact ⟨rfl, Below.refl _ _⟩
    · have ht : takesB 111 n = upTo n 1099511627776 := by unfold takesB; simp
      unfold upTo at ht
      rw [ht]
      clear cF ht
      cases h0 : decide (0 ≤ n)
      · go_enter Tryz.func14, Tryz.ntmps14
        go_wp2
        go_ret
        exact ⟨rfl, Below.refl _ _⟩
      · cases h1 : decide (n ≤ 1099511627776)
        all_goals
          go_enter Tryz.func14, Tryz.ntmps14
          go_wp2
          go_ret
          exact ⟨rfl, Below.refl _ _⟩
    · have ht : takesB 119 n = upTo n 2 := by unfold takesB; simp
      unfold upTo at ht
      rw [ht]
      clear cF ht
      cases h0 : decide (0 ≤ n)
      · go_enter Tryz.func14, Tryz.ntmps14
        go_wp2
        go_ret
        exact ⟨rfl, Below.refl _ _⟩
      · cases h1 : decide (n ≤ 2)
        all_goals
          go_enter Tryz.func14, Tryz.ntmps14
          go_wp2
          go_ret
          exact ⟨rfl, Below.refl _ _⟩
    · have ht : takesB 104 n = upTo n 2 := by unfold takesB; simp
      unfold upTo at ht
      rw [ht]
      clear cF ht
      cases h0 : decide (0 ≤ n)
      · go_enter Tryz.func14, Tryz.ntmps14
        go_wp2
        go_ret
        exact ⟨rfl, Below.refl _ _⟩
      · cases h1 : decide (n ≤ 2)
        all_goals
          go_enter Tryz.func14, Tryz.ntmps14
          go_wp2
          go_ret
          exact ⟨rfl, Below.refl _ _⟩
    · have ht : takesB 117 n = upTo n 1 := by unfold takesB; simp
      unfold upTo at ht
      rw [ht]
      clear cF ht
      cases h0 : decide (0 ≤ n)
      · go_enter Tryz.func14, Tryz.ntmps14
        go_wp2
        go_ret
        exact ⟨rfl, Below.refl _ _⟩
      · cases h1 : decide (n ≤ 1)
        all_goals
          go_enter Tryz.func14, Tryz.ntmps14
          go_wp2
          go_ret
          exact ⟨rfl, Below.refl _ _⟩
    · have ht : takesB 101 n = upTo n 255 := by unfold takesB; simp
      unfold upTo at ht
      rw [ht]
      clear cF ht
      cases h0 : decide (0 ≤ n)
      · go_enter Tryz.func14, Tryz.ntmps14
        go_wp2
        go_ret
        exact ⟨rfl, Below.refl _ _⟩
      · cases h1 : decide (n ≤ 255)
        all_goals
          go_enter Tryz.func14, Tryz.ntmps14
          go_wp2
          go_ret
          exact ⟨rfl, Below.refl _ _⟩
    · have ht : takesB 115 n = upTo n 31 := by unfold takesB; simp
      unfold upTo at ht
      rw [ht]
      clear cF ht
      cases h0 : decide (0 ≤ n)
      · go_enter Tryz.func14, Tryz.ntmps14
        go_wp2
        go_ret
        exact ⟨rfl, Below.refl _ _⟩
      · cases h1 : decide (n ≤ 31)
        all_goals
          go_enter Tryz.func14, Tryz.ntmps14
          go_wp2
          go_ret
          exact ⟨rfl, Below.refl _ _⟩
    · have ht : takesB 109 n = upTo n 4 := by unfold takesB; simp
      unfold upTo at ht
      rw [ht]
      clear cF ht
      cases h0 : decide (0 ≤ n)
      · go_enter Tryz.func14, Tryz.ntmps14
        go_wp2
        go_ret
        exact ⟨rfl, Below.refl _ _⟩
      · cases h1 : decide (n ≤ 4)
        all_goals
          go_enter Tryz.func14, Tryz.ntmps14
          go_wp2
          go_ret
          exact ⟨rfl, Below.refl _ _⟩
    · have ht : takesB 99 n = upTo n 64 := by unfold takesB; simp
      unfold upTo at ht
      rw [ht]
      clear cF ht
      cases h0 : decide (0 ≤ n)
      · go_enter Tryz.func14, Tryz.ntmps14
        go_wp2
        go_ret
        exact ⟨rfl, Below.refl _ _⟩
      · cases h1 : decide (n ≤ 64)
        all_goals
          go_enter Tryz.func14, Tryz.ntmps14
          go_wp2
          go_ret
          exact ⟨rfl, Below.refl _ _⟩
    · have ht : takesB 98 n = upTo n 1048576 := by unfold takesB; simp
      unfold upTo at ht
      rw [ht]
      clear cF ht
      cases h0 : decide (0 ≤ n)
      · go_enter Tryz.func14, Tryz.ntmps14
        go_wp2
        go_ret
        exact ⟨rfl, Below.refl _ _⟩
      · cases h1 : decide (n ≤ 1048576)
        all_goals
          go_enter Tryz.func14, Tryz.ntmps14
          go_wp2
          go_ret
          exact ⟨rfl, Below.refl _ _⟩
    · have ht : takesB 107 n = (n == 0 || n == 4) := by unfold takesB; simp
      rw [ht]
      clear cF ht
      cases h0 : (n == 0)
      all_goals
        go_enter Tryz.func14, Tryz.ntmps14
        go_wp2
        go_ret
        exact ⟨rfl, Below.refl _ _⟩
    · have ht : takesB 103 n = (flagE n == 0) := by unfold takesB; simp
      rw [ht]
      go_enter Tryz.func14, Tryz.ntmps14
      go_wp2_with (go_at_call 28; refine cF.mono ?_; rintro e W1 ⟨rfl, hb1⟩)
      go_ret
      exact ⟨rfl, hb1⟩
  · have ht := not_letter hL n
    rw [ht]
    simp only [not_or] at hL
    obtain ⟨h1, h2, h3, h4, h5, h6, h7, h8, h9, ha, hb, hc, hd, he, hf, hg⟩ := hL
    clear cF ht
    have hn : (decide (0 ≤ n) && decide (n ≤ -1)) = false := by
      cases h : decide (0 ≤ n)
      · rfl
      · simp at h ⊢; omega
    cases h0 : decide (0 ≤ n)
    · go_enter Tryz.func14, Tryz.ntmps14
      go_wp2
      go_ret
      exact ⟨rfl, Below.refl _ _⟩
    · have hm : decide (n ≤ -1) = false := by rw [h0] at hn; exact hn
      go_enter Tryz.func14, Tryz.ntmps14
      go_wp2
      go_ret
      exact ⟨rfl, Below.refl _ _⟩

end Go.Proofs.YtgolihipinjfmaaGreatDoor.J
