/- What rights.Bit answers, for every text, in every world that holds the names. -/
import Derived.Test.YtgolihipinjfmaaGreatDoorPlain
import Derived.Test.YtgolihipinjfmaaGreatDoorProg
import Derived.WalkKit
import Derived.WalkLawsBesides
import Derived.WalkSpells
import Derived.Laws.Rows
namespace Go.Proofs.YtgolihipinjfmaaGreatDoor
open Go Go.RowKit

/-- The world holds the names. -/
def Nm (w : World) : Prop := ∃ t fr, w.heap[1]? = some (.cells nm t fr)

theorem idx_names (k : Nat) (hk : k < 32) (w : World) : (Instr.index 85 (.agg nm) (.int .i64 (k : Int))).run Tryz.prog w = .ok (.string (nmB k)) w := by
  rcases below32 hk with rfl | rfl | rfl | rfl | rfl | rfl | rfl | rfl | rfl | rfl | rfl | rfl | rfl | rfl | rfl | rfl | rfl | rfl | rfl | rfl | rfl | rfl | rfl | rfl | rfl | rfl | rfl | rfl | rfl | rfl | rfl | rfl
  all_goals kernel_rfl

theorem right_any (k : Nat) (hk : k < 32) (w : World) : Calls Tryz.prog 60 #[.int .i64 (k : Int)] w fun e w' => e = .returned (.int .u32 (2 ^ k)) ∧ w' = w := by
  rcases below32 hk with rfl | rfl | rfl | rfl | rfl | rfl | rfl | rfl | rfl | rfl | rfl | rfl | rfl | rfl | rfl | rfl | rfl | rfl | rfl | rfl | rfl | rfl | rfl | rfl | rfl | rfl | rfl | rfl | rfl | rfl | rfl | rfl
  all_goals
    go_enter Tryz.func60, Tryz.ntmps60
    go_wp2
    go_ret
    exact ⟨rfl, rfl⟩

set_option maxRecDepth 100000 in
set_option maxHeartbeats 400000 in
theorem bit_any (s : ByteArray) (w : World) (hn : Nm w) : Calls Tryz.prog 48 #[.string s] w fun e w' => e = .returned (.tuple #[.int .u32 (bitVal s), .bool (bitOk s)]) ∧ w' = w := by
  obtain ⟨tt, fr, hg⟩ := hn
  go_enter Tryz.func48, Tryz.ntmps48
  go_wp2_with (refine wpList_load_row rfl 85 _ rfl 1 rfl tt _ fr _ hg Tryz.underlying85 rfl (by kernel_rfl) ?_)
  clear hg
  go_loop [7] (fun i => ∃ k : Nat, k ≤ 32 ∧ i = .int .i64 k ∧ Hid (∀ j, j < k → nmB j ≠ s)) (fun i => 32 - (intOf i).toNat)
  case atStart => exact ⟨0, Nat.zero_le _, rfl, fun j hj => absurd hj (Nat.not_lt_zero _)⟩
  case round =>
    obtain ⟨k, hk, rfl, hno⟩ := hrel
    by_cases hlt : k < 32
    · have hi := idx_names k hlt
      by_cases he : nmB k = s
      · have hb : ((nmB k).toList == s.toList) = true := by rw [he]; exact beq_self_eq_true _
        have HE : Hid (bitAt s = k) := bitAt_of hlt he hno
        clear he
        go_wp2_with (go_at_call 60; refine (right_any k hlt _).mono ?_; rintro e w' ⟨rfl, rfl⟩)
        go_ret2
        exact ⟨by simp only [bitVal, bitOk, HE.out, hlt, if_true, decide_true]; rfl, rfl⟩
      · have hb : ((nmB k).toList == s.toList) = false := by
          rw [beq_eq_false_iff_ne, ByteArray.toList_eq, ByteArray.toList_eq]; exact fun e => he (bytes_eq e)
        go_wp2
        refine ⟨⟨k + 1, by omega, by go_num, fun j hj => ?_⟩, by simp [intOf]; omega⟩
        by_cases e : j = k
        · subst e; exact he
        · exact hno j (by omega)
    · have HE : Hid (bitAt s = 32) := bitAt_no (fun j hj => hno j (by omega))
      go_wp2
      go_ret2
      exact ⟨by simp [bitVal, bitOk, HE.out], rfl⟩

end Go.Proofs.YtgolihipinjfmaaGreatDoor
