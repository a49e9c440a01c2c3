/- Whether a list may stand for the letter of a shape; the five numbers, each with its letter. -/
import Derived.Test.YtgolihipinjfmaaGreatDoorJFun
import Derived.Test.YtgolihipinjfmaaGreatDoorJTake
namespace Go.Proofs.YtgolihipinjfmaaGreatDoor.J
open Go Go.RowKit
open Go.Proofs.YtgolihipinjfmaaGreatDoor.C (cshape byt byt_list byt_size row_size)

theorem hasC_any (k : Fin 64) (c : UInt8) (hc : decide (0 ≤ Lib.indexByte (cshape k) c) = has k c) (b : Nat) (w : World) (hx : w.cell? ⟨b, 0, none⟩ = some (.string (byt (cshape k)))) :
    Calls Tryz.prog 38 #[.string ⟨#[c]⟩, .pointer (some ⟨b, 0, none⟩)] w fun e W => e = .returned (.bool (has k c)) ∧ Below w.heap.size w W := by
  have cB := has_any k c hc w
  generalize has k c = b2 at *
  clear hc
  generalize byt (cshape k) = s at *
  go_enter Tryz.func38, Tryz.ntmps38
  go_wp2_with (go_at_call 37; refine cB.mono ?_; rintro e W ⟨rfl, hb⟩)
  go_ret
  exact ⟨rfl, hb⟩

set_option maxRecDepth 100000 in
set_option maxHeartbeats 1000000 in
theorem list_at (k : Fin 64) (l : List Int) (p : Option Addr) (c : Nat) (w : World) (hat : At w p (ints l)) (hl : l.length ≤ 1000000) :
    Calls Tryz.prog 25 #[.string (byt (cshape k)), .slice p l.length c] w fun e W => e = .returned (.bool (listB k l)) ∧ Below w.heap.size w W := by
  have hb := Boxed.new w 9 (.string (byt (cshape k)))
  have hbw := (Below.refl _ w).alloc (Nat.le_refl _) (.cells #[.string (byt (cshape k))] 9)
  have hB0 : w.heap.size < (w.alloc (.cells #[.string (byt (cshape k))] 9)).heap.size := by simp
  have hx := fun W (h : Below (w.alloc (.cells #[.string (byt (cshape k))] 9)).heap.size (w.alloc (.cells #[.string (byt (cshape k))] 9)) W) => (h.cell (p := ⟨w.heap.size, 0, none⟩) hB0).trans hb.cell
  have c1 := fun W h => hasC_any k 76 (has_one k).2.2.1 w.heap.size W (hx W h)
  have c2 := fun W h => hasC_any k 82 (has_one k).2.2.2.1 w.heap.size W (hx W h)
  have c3 := fun W h => hasC_any k 73 (has_one k).2.2.2.2.1 w.heap.size W (hx W h)
  have c4 := fun W h => hasC_any k 80 (has_one k).2.2.2.2.2 w.heap.size W (hx W h)
  have cP := fun W (h : Below w.heap.size w W) => polled_any l p c W (AtF.on hat h) hl
  have hw1 := Below.refl (w.alloc (.cells #[.string (byt (cshape k))] 9)).heap.size (w.alloc (.cells #[.string (byt (cshape k))] 9))
  have hsz : w.heap.size ≤ (w.alloc (.cells #[.string (byt (cshape k))] 9)).heap.size := by simp
  unfold listB
  generalize has k 76 = b1 at *
  generalize has k 82 = b2 at *
  generalize has k 73 = b3 at *
  generalize has k 80 = b4 at *
  have HT : Hid (∀ W, Below (w.alloc (.cells #[.string (byt (cshape k))] 9)).heap.size (w.alloc (.cells #[.string (byt (cshape k))] 9)) W → Below w.heap.size w W) := fun W h => hbw.trans (h.mono hsz)
  clear hx hb hbw hB0 hsz hat
  generalize polB l = P at *
  obtain ⟨n, hn⟩ : ∃ n, l.length = n := ⟨_, rfl⟩
  rw [hn] at hl cP ⊢
  clear hn
  go_enter Tryz.func25, Tryz.ntmps25
  cases b1
  · cases b2
    · cases b3
      · cases b4
        · go_wp2_with (first | (go_at_call 38; (first | refine (c1 _ hw1).mono ?_ | refine (c2 _ hw1).mono ?_ | refine (c3 _ hw1).mono ?_ | refine (c4 _ hw1).mono ?_); rintro e W1 ⟨rfl, hb1⟩; have hw1 := hw1.trans (hb1.mono hw1.size)) | (go_at_call 39; refine (cP _ (HT.out _ hw1)).mono ?_; rintro e W1 ⟨rfl, hb1⟩))
          go_ret
          refine ⟨?_, HT.out _ hw1⟩
          rw [show ((n : Int) == 0) = decide (n = 0) by rw [Bool.eq_iff_iff]; simp]
          rfl
        · go_wp2_with (first | (go_at_call 38; (first | refine (c1 _ hw1).mono ?_ | refine (c2 _ hw1).mono ?_ | refine (c3 _ hw1).mono ?_ | refine (c4 _ hw1).mono ?_); rintro e W1 ⟨rfl, hb1⟩; have hw1 := hw1.trans (hb1.mono hw1.size)) | (go_at_call 39; refine (cP _ (HT.out _ hw1)).mono ?_; rintro e W1 ⟨rfl, hb1⟩))
          go_ret
          exact ⟨rfl, (HT.out _ hw1).trans (hb1.mono (HT.out _ hw1).size)⟩
      · go_wp2_with (go_at_call 38; (first | refine (c1 _ hw1).mono ?_ | refine (c2 _ hw1).mono ?_ | refine (c3 _ hw1).mono ?_ | refine (c4 _ hw1).mono ?_); rintro e W1 ⟨rfl, hb1⟩; have hw1 := hw1.trans (hb1.mono hw1.size))
        go_ret
        refine ⟨?_, HT.out _ hw1⟩
        rw [show decide ((n : Int) ≤ 64) = decide (n ≤ 64) by rw [decide_eq_decide]; omega]
        rfl
    · go_wp2_with (go_at_call 38; (first | refine (c1 _ hw1).mono ?_ | refine (c2 _ hw1).mono ?_ | refine (c3 _ hw1).mono ?_ | refine (c4 _ hw1).mono ?_); rintro e W1 ⟨rfl, hb1⟩; have hw1 := hw1.trans (hb1.mono hw1.size))
      go_ret
      refine ⟨?_, HT.out _ hw1⟩
      rw [show ((n : Int) == 2) = decide (n = 2) by rw [Bool.eq_iff_iff]; simp; omega]
      rfl
  · go_wp2_with (go_at_call 38; (first | refine (c1 _ hw1).mono ?_ | refine (c2 _ hw1).mono ?_ | refine (c3 _ hw1).mono ?_ | refine (c4 _ hw1).mono ?_); rintro e W1 ⟨rfl, hb1⟩; have hw1 := hw1.trans (hb1.mono hw1.size))
    go_ret
    refine ⟨?_, HT.out _ hw1⟩
    rw [show decide ((n : Int) ≤ 4) = decide (n ≤ 4) by rw [decide_eq_decide]; omega]
    rfl

/-- A number that fits, or that stands for nothing and is 0: the closure of Check. -/
theorem fit_any (c n : Int) (w : World) : Calls Tryz.prog 22 #[.int .u8 c, .int .i64 n] w fun e W => e = .returned (.bool (fitB c n)) ∧ Below w.heap.size w W := by
  have cT := takes_any c n w
  unfold fitB
  generalize takesB c n = t at *
  cases t
  · cases h0 : (c == 46)
    · go_enter Tryz.func22, Tryz.ntmps22
      go_wp2_with (go_at_call 13; refine cT.mono ?_; rintro e W ⟨rfl, hb⟩)
      go_ret
      exact ⟨rfl, hb⟩
    · go_enter Tryz.func22, Tryz.ntmps22
      go_wp2_with (go_at_call 13; refine cT.mono ?_; rintro e W ⟨rfl, hb⟩)
      go_ret
      exact ⟨rfl, hb⟩
  · go_enter Tryz.func22, Tryz.ntmps22
    go_wp2_with (go_at_call 13; refine cT.mono ?_; rintro e W ⟨rfl, hb⟩)
    go_ret
    exact ⟨rfl, hb⟩

end Go.Proofs.YtgolihipinjfmaaGreatDoor.J
