/- Which numbers may stand for a letter: the program's Takes. -/
import Derived.Test.YtgolihipinjfmaaGreatDoorJMod
import Derived.Test.YtgolihipinjfmaaGreatDoorCFlags
import Derived.Test.YtgolihipinjfmaaGreatDoorGKd
import Derived.Deep.DeepCutAuto
namespace Go.Proofs.YtgolihipinjfmaaGreatDoor.J
open Go Go.RowKit
open Go.Proofs.YtgolihipinjfmaaGreatDoor.C (flagE flagR flags_any FlagsPost)

theorem upTo_any (n m : Int) (b : Nat) (w : World) (hc : w.cell? ⟨b, 0, none⟩ = some (.int .i64 n)) :
    Calls Tryz.prog 26 #[.int .i64 m, .pointer (some ⟨b, 0, none⟩)] w fun e W => e = .returned (.bool (upTo n m)) ∧ Below w.heap.size w W := by
  unfold upTo
  cases h0 : decide (0 ≤ n)
  · go_enter Tryz.func26, Tryz.ntmps26
    go_wp2
    go_ret
    exact ⟨rfl, Below.refl _ _⟩
  · cases h1 : decide (n ≤ m)
    all_goals
      go_enter Tryz.func26, Tryz.ntmps26
      go_wp2
      go_ret
      exact ⟨rfl, Below.refl _ _⟩

set_option maxRecDepth 100000 in
set_option maxHeartbeats 2000000 in
theorem takes_any (c n : Int) (w : World) : Calls Tryz.prog 13 #[.int .u8 c, .int .i64 n] w fun e W => e = .returned (.bool (takesB c n)) ∧ Below w.heap.size w W := by
  have hb := Boxed.new w 3 (.int .i64 n)
  have hB := (Below.refl _ w).alloc (Nat.le_refl _) (.cells #[.int .i64 n] 3)
  have hc := hb.cell
  have cF := flags_any n (w.alloc (.cells #[.int .i64 n] 3))
  unfold FlagsPost at cF
  generalize flagR n = fr at cF
  clear hb
  by_cases hL : c = 102 ∨ c = 100 ∨ c = 120 ∨ c = 105 ∨ c = 110 ∨ c = 111 ∨ c = 119 ∨ c = 104 ∨ c = 117 ∨ c = 101 ∨ c = 115 ∨ c = 109 ∨ c = 99 ∨ c = 98 ∨ c = 107 ∨ c = 103
  · rcases hL with rfl | rfl | rfl | rfl | rfl | rfl | rfl | rfl | rfl | rfl | rfl | rfl | rfl | rfl | rfl | rfl
    · have ht : takesB 102 n = true := by unfold takesB; simp
      rw [ht]
      go_enter Tryz.func13, Tryz.ntmps13
      go_wp2
      go_ret
      exact ⟨rfl, hB⟩
    · have ht : takesB 100 n = true := by unfold takesB; simp
      rw [ht]
      go_enter Tryz.func13, Tryz.ntmps13
      go_wp2
      go_ret
      exact ⟨rfl, hB⟩
    · have ht : takesB 120 n = true := by unfold takesB; simp
      rw [ht]
      go_enter Tryz.func13, Tryz.ntmps13
      go_wp2
      go_ret
      exact ⟨rfl, hB⟩
    · have ht : takesB 105 n = true := by unfold takesB; simp
      rw [ht]
      go_enter Tryz.func13, Tryz.ntmps13
      go_wp2
      go_ret
      exact ⟨rfl, hB⟩
    · have ht : takesB 110 n = upTo n 256 := by unfold takesB; simp
      rw [ht]
      have cU := upTo_any n 256 _ _ hc
      clear cF ht
      generalize upTo n 256 = v at *
      go_enter Tryz.func13, Tryz.ntmps13
      go_wp2_with (go_at_call 26; refine cU.mono ?_; rintro e W1 ⟨rfl, hb1⟩)
      go_ret
      exact ⟨rfl, hB.trans (hb1.mono hB.size)⟩
    · have ht : takesB 111 n = upTo n 1099511627776 := by unfold takesB; simp
      rw [ht]
      have cU := upTo_any n 1099511627776 _ _ hc
      clear cF ht
      generalize upTo n 1099511627776 = v at *
      go_enter Tryz.func13, Tryz.ntmps13
      go_wp2_with (go_at_call 26; refine cU.mono ?_; rintro e W1 ⟨rfl, hb1⟩)
      go_ret
      exact ⟨rfl, hB.trans (hb1.mono hB.size)⟩
    · have ht : takesB 119 n = upTo n 2 := by unfold takesB; simp
      rw [ht]
      have cU := upTo_any n 2 _ _ hc
      clear cF ht
      generalize upTo n 2 = v at *
      go_enter Tryz.func13, Tryz.ntmps13
      go_wp2_with (go_at_call 26; refine cU.mono ?_; rintro e W1 ⟨rfl, hb1⟩)
      go_ret
      exact ⟨rfl, hB.trans (hb1.mono hB.size)⟩
    · have ht : takesB 104 n = upTo n 2 := by unfold takesB; simp
      rw [ht]
      have cU := upTo_any n 2 _ _ hc
      clear cF ht
      generalize upTo n 2 = v at *
      go_enter Tryz.func13, Tryz.ntmps13
      go_wp2_with (go_at_call 26; refine cU.mono ?_; rintro e W1 ⟨rfl, hb1⟩)
      go_ret
      exact ⟨rfl, hB.trans (hb1.mono hB.size)⟩
    · have ht : takesB 117 n = upTo n 1 := by unfold takesB; simp
      rw [ht]
      have cU := upTo_any n 1 _ _ hc
      clear cF ht
      generalize upTo n 1 = v at *
      go_enter Tryz.func13, Tryz.ntmps13
      go_wp2_with (go_at_call 26; refine cU.mono ?_; rintro e W1 ⟨rfl, hb1⟩)
      go_ret
      exact ⟨rfl, hB.trans (hb1.mono hB.size)⟩
    · have ht : takesB 101 n = upTo n 255 := by unfold takesB; simp
      rw [ht]
      have cU := upTo_any n 255 _ _ hc
      clear cF ht
      generalize upTo n 255 = v at *
      go_enter Tryz.func13, Tryz.ntmps13
      go_wp2_with (go_at_call 26; refine cU.mono ?_; rintro e W1 ⟨rfl, hb1⟩)
      go_ret
      exact ⟨rfl, hB.trans (hb1.mono hB.size)⟩
    · have ht : takesB 115 n = upTo n 31 := by unfold takesB; simp
      rw [ht]
      have cU := upTo_any n 31 _ _ hc
      clear cF ht
      generalize upTo n 31 = v at *
      go_enter Tryz.func13, Tryz.ntmps13
      go_wp2_with (go_at_call 26; refine cU.mono ?_; rintro e W1 ⟨rfl, hb1⟩)
      go_ret
      exact ⟨rfl, hB.trans (hb1.mono hB.size)⟩
    · have ht : takesB 109 n = upTo n 4 := by unfold takesB; simp
      rw [ht]
      have cU := upTo_any n 4 _ _ hc
      clear cF ht
      generalize upTo n 4 = v at *
      go_enter Tryz.func13, Tryz.ntmps13
      go_wp2_with (go_at_call 26; refine cU.mono ?_; rintro e W1 ⟨rfl, hb1⟩)
      go_ret
      exact ⟨rfl, hB.trans (hb1.mono hB.size)⟩
    · have ht : takesB 99 n = upTo n 64 := by unfold takesB; simp
      rw [ht]
      have cU := upTo_any n 64 _ _ hc
      clear cF ht
      generalize upTo n 64 = v at *
      go_enter Tryz.func13, Tryz.ntmps13
      go_wp2_with (go_at_call 26; refine cU.mono ?_; rintro e W1 ⟨rfl, hb1⟩)
      go_ret
      exact ⟨rfl, hB.trans (hb1.mono hB.size)⟩
    · have ht : takesB 98 n = upTo n 1048576 := by unfold takesB; simp
      rw [ht]
      have cU := upTo_any n 1048576 _ _ hc
      clear cF ht
      generalize upTo n 1048576 = v at *
      go_enter Tryz.func13, Tryz.ntmps13
      go_wp2_with (go_at_call 26; refine cU.mono ?_; rintro e W1 ⟨rfl, hb1⟩)
      go_ret
      exact ⟨rfl, hB.trans (hb1.mono hB.size)⟩
    · have ht : takesB 107 n = (n == 0 || n == 4) := by unfold takesB; simp
      rw [ht]
      clear cF ht
      cases h0 : (n == 0)
      all_goals
        go_enter Tryz.func13, Tryz.ntmps13
        go_wp2
        go_ret
        exact ⟨rfl, hB⟩
    · have ht : takesB 103 n = (flagE n == 0) := by unfold takesB; simp
      rw [ht]
      generalize flagE n = fe at *
      clear ht
      go_enter Tryz.func13, Tryz.ntmps13
      go_wp2_with (go_at_call 27; refine cF.mono ?_; rintro e W1 ⟨rfl, hb1⟩)
      go_ret
      exact ⟨rfl, hB.trans (hb1.mono hB.size)⟩
  · have ht := not_letter hL n
    rw [ht]
    simp only [not_or] at hL
    obtain ⟨h1, h2, h3, h4, h5, h6, h7, h8, h9, ha, hb, hc, hd, he, hf, hg⟩ := hL
    clear cF ht
    go_enter Tryz.func13, Tryz.ntmps13
    go_wp2
    go_ret
    exact ⟨rfl, hB⟩

end Go.Proofs.YtgolihipinjfmaaGreatDoor.J
