/- What the reference's Names and Show answer. -/
import Derived.Test.YtndnpcegofbbaaaDoorEach
import Derived.Test.YtndnpcegofbbaaaDoorPlainb
namespace Go.Proofs.YtndnpcegofbbaaaDoor
open Go Go.RowKit Go.Shelf

set_option maxRecDepth 100000 in
theorem refNames_any (w : World) : Calls Tryd.prog 21 #[] w fun e w' => e = .returned (.slice (some ⟨w.heap.size, 0, none⟩) 32 32) ∧ w' = w.alloc (.cells nm 9) := by
  go_enter Tryd.func21, Tryd.ntmps21
  go_wp2
  go_ret
  exact ⟨rfl, rfl⟩
theorem nm_at (k : Nat) (hk : k < 32) : nm[k]? = some (.string (nmB k)) := by
  rcases below32 hk with rfl | rfl | rfl | rfl | rfl | rfl | rfl | rfl | rfl | rfl | rfl | rfl | rfl | rfl | rfl | rfl | rfl | rfl | rfl | rfl | rfl | rfl | rfl | rfl | rfl | rfl | rfl | rfl | rfl | rfl | rfl | rfl
  all_goals rfl
/-- The names in a block of their own. -/
def NmAt (W : World) (b : Nat) : Prop := W.heap[b]? = some (.cells nm 9 (0, 0))
theorem NmAt.cell {W : World} {b : Nat} (h : NmAt W b) (k : Nat) (hk : k < 32) : W.cell? ⟨b, k, none⟩ = some (.string (nmB k)) := by
  unfold NmAt at h
  simp only [World.cell?, h]
  simpa using nm_at k hk
theorem NmAt.new (w : World) : NmAt (w.alloc (.cells nm 9)) w.heap.size := World.alloc_heap_new w _

set_option maxRecDepth 100000 in
set_option maxHeartbeats 1000000 in
theorem refShow_any (a : Nat) (ha : a < 4294967296) (w : World) : Calls Tryd.prog 24 #[.int .u32 (a : Int)] w fun e w' => e = .returned (.string (showB a)) ∧ Below w.heap.size w w' := by
  have hcount := refCount_any a ha
  go_enter Tryd.func24, Tryd.ntmps24
  go_wp2_with (go_at_call 21; refine (refNames_any _).mono ?_; rintro e w' ⟨rfl, rfl⟩)
  have hN := NmAt.new w
  have hB : Below w.heap.size w (w.alloc (.cells nm 9)) := (Below.refl _ _).alloc (Nat.le_refl _) _
  generalize w.alloc (.cells nm 9) = w1 at *
  go_loop [3, 5] (fun s i => ∃ k : Nat, k ≤ 32 ∧ i = .int .i64 k ∧ s = .string (showS a k)) (fun _ i => 32 - (intOf i).toNat)
  case atStart => exact ⟨0, Nat.zero_le _, rfl, rfl⟩
  case round =>
    obtain ⟨k, hk, rfl, rfl⟩ := hrel
    by_cases hlt : k < 32
    · have c1 := refHas_any a k hlt ha
      have hcell := hN.cell k hlt
      have hlen := showL_len a k
      cases hbit : a.testBit k with
      | false =>
        have HS : Hid (showS a (k + 1) = showS a k) := by unfold Hid showS; rw [showL_no hbit]
        rw [hbit] at c1
        clear hbit hcount ha
        generalize showS a k = S at *
        go_wp2_with fail
        refine (c1 _).mono ?_
        rintro e w' ⟨rfl, rfl⟩
        go_wp2
        exact ⟨⟨k + 1, by omega, by go_num, by rw [HS.out]⟩, by simp [intOf]; omega⟩
      | true =>
        rw [hbit] at c1
        have hnl : (nmB k).size ≤ 10 := nmB_size k
        have hsz : (showS a k).size ≤ 352 := by unfold showS; simp [ByteArray.size]; omega
        by_cases hemp : heldL a k = []
        · have hS : (showS a k).toList.isEmpty = true := by
            rw [ByteArray.toList_eq]; unfold showS; simp [(showL_empty (by omega)).2 hemp]
          have HS : Hid (showS a (k + 1) = showS a k ++ nmB k) := show _ = _ by
            apply bytes_eq; unfold showS; simp [showL_first hbit hemp, (showL_empty (by omega : k ≤ 32)).2 hemp]
          clear hbit hcount ha hemp
          generalize showS a k = S at *
          go_wp2_with fail
          refine (c1 _).mono ?_
          rintro e w' ⟨rfl, rfl⟩
          go_wp2
          exact ⟨⟨k + 1, by omega, by go_num, by rw [HS.out]⟩, by simp [intOf]; omega⟩
        · have hS : (showS a k).toList.isEmpty = false := by
            rw [ByteArray.toList_eq, List.isEmpty_eq_false_iff]; unfold showS
            intro e; exact hemp ((showL_empty (by omega)).1 (by simpa using e))
          have HS : Hid (showS a (k + 1) = showS a k ++ ⟨#[44]⟩ ++ nmB k) := show _ = _ by
            apply bytes_eq; unfold showS; simp [showL_more hbit hemp]
          clear hbit hcount ha hemp
          generalize showS a k = S at *
          go_wp2_with fail
          refine (c1 _).mono ?_
          rintro e w' ⟨rfl, rfl⟩
          go_wp2
          exact ⟨⟨k + 1, by omega, by go_num, by rw [HS.out]⟩, by simp [intOf]; omega⟩
    · obtain rfl : k = 32 := by omega
      by_cases h0 : a = 0
      · have hS : (showS a 32).toList.isEmpty = true := by
          rw [h0, ByteArray.toList_eq]; unfold showS; simp [(showL_empty (Nat.le_refl 32)).2 (show heldL 0 32 = [] by decide)]
        have HV : Hid (showB a = noneB) := by unfold Hid showB; rw [if_pos h0]
        clear h0 hcount ha
        generalize showS a 32 = S at *
        go_wp2
        go_ret
        exact ⟨by rw [HV.out]; rfl, hB⟩
      · have hS : (showS a 32).toList.isEmpty = false := by
          rw [ByteArray.toList_eq, List.isEmpty_eq_false_iff]; unfold showS
          intro e; exact heldL_some h0 ha ((showL_empty (by omega)).1 (by simpa using e))
        have hfull := cntN_full ha
        by_cases h1 : a = 4294967295
        · have HV : Hid (showB a = allB) := by unfold Hid showB; rw [if_neg h0, if_pos h1]
          rw [hfull.2 h1] at hcount
          clear h0 h1 ha hfull
          generalize showS a 32 = S at *
          go_wp2_with fail
          refine (hcount _).mono ?_
          rintro e w' ⟨rfl, rfl⟩
          go_wp2
          go_ret
          exact ⟨by rw [HV.out]; rfl, hB⟩
        · have HV : Hid (showB a = showS a 32) := showB_other h0 h1
          have hne : ((cntN a 32 : Int) == 32) = false := by
            rw [beq_eq_false_iff_ne]; intro e; exact h1 (hfull.1 (by omega))
          clear h0 h1 ha hfull
          generalize showS a 32 = S at *
          generalize cntN a 32 = c at *
          go_wp2_with fail
          refine (hcount _).mono ?_
          rintro e w' ⟨rfl, rfl⟩
          go_wp2
          go_ret
          exact ⟨by rw [HV.out]; rfl, hB⟩

end Go.Proofs.YtndnpcegofbbaaaDoor
