/- The law FilesFull answers true at every input. -/
import Derived.Test.YtigikmojhllmdaaVLives
namespace Go.Proofs.Ytigikmojhllmdaa.V
open Go Go.RowKit

/-- What holds while files are opened. -/
structure FI (w : World) (b n k : Nat) (W : World) : Prop where
  is : ∃ v nx S, TabAt w.heap.size 55 W b v (n : Int) nx S ∧ Ok k n nx S ∧ nx = ((min k n : Nat) : Int) + 1 ∧ S.length = min k n
  below : Below w.heap.size w W
theorem good_pipe (k : Nat) : goodB 5 ((k : Int) + 1) ((k % 2 : Nat) : Int) = true := by
  unfold goodB stayB
  have h1 : kindB 5 = true := rfl
  rw [h1]
  simp only [Bool.true_and, Bool.and_eq_true, decide_eq_true_eq, bne_iff_ne]
  omega

set_option maxRecDepth 100000 in
set_option maxHeartbeats 2000000 in
theorem full_walk (m a : Int) (w : World) (hm : (Lit.int .u8 m).wf = true) (ha : (Lit.int .u8 a).wf = true) :
    Calls Try.prog 6 #[.int .u8 m, .int .u8 a] w fun e w' => e = .returned (.bool true) ∧ Below w.heap.size w w' := by
  have hm2 : 0 ≤ m ∧ m ≤ 255 := by
    simp [Lit.wf, IntKind.min, IntKind.max, IntKind.signed, IntKind.bits] at hm
    omega
  have ha2 : 0 ≤ a ∧ a ≤ 255 := by
    simp [Lit.wf, IntKind.min, IntKind.max, IntKind.signed, IntKind.bits] at ha
    omega
  obtain ⟨n, hn⟩ : ∃ n : Nat, 1 + m = (n : Int) := ⟨(1 + m).toNat, by omega⟩
  obtain ⟨c, rfl⟩ := Int.eq_ofNat_of_zero_le ha2.1
  have hn1 : 1 ≤ n ∧ n ≤ 256 := by omega
  have hc : c ≤ 255 := by omega
  have cN := new_in n w (by omega) (by omega)
  have cL := fun w => lives_any w
  have hT0 : TabAt w.heap.size 55 (w.alloc (.cells #[.slice none 0 0, .int .i64 (n : Int), .int .i64 1] 55)) w.heap.size (.slice none 0 0) (n : Int) 1 [] := TabAt.nil w _ _ _ _ (Nat.le_refl _)
  have HI0 : Hid (FI w w.heap.size n 0 (w.alloc (.cells #[.slice none 0 0, .int .i64 (n : Int), .int .i64 1] 55))) := ⟨⟨_, 1, [], hT0, Ok.new (by omega), by simp, by simp⟩, on_alloc w _⟩
  clear hT0 hm ha hm2 ha2
  go_enter Try.func6, Try.ntmps6
  go_wp2_with fail
  refine cN.mono ?_
  rintro e w1 ⟨rfl, hw1⟩
  subst hw1
  generalize (w.alloc (.cells #[.slice none 0 0, .int .i64 (n : Int), .int .i64 1] 55)) = w1 at *
  obtain ⟨b, hb⟩ : ∃ b, w.heap.size = b := ⟨_, rfl⟩
  have HBe : Hid (w.heap.size = b) := hb
  rw [show FI w w.heap.size n 0 w1 = FI w b n 0 w1 by rw [hb]] at HI0
  rw [hb]
  clear cN hb
  go_wp2
  go_loopw [7] (fun iv wr => ∃ k : Nat, k ≤ c ∧ iv = .int .i64 (k : Int) ∧ Hid (FI w b n k wr)) (fun iv _ => c - (intOf iv).toNat)
  case atStart => exact ⟨0, Nat.zero_le _, rfl, HI0⟩
  case round =>
    clear HI0
    obtain ⟨k, hk, rfl, HI⟩ := hrel
    by_cases hlt : k < c
    · have hltz : (k : Int) < (c : Int) := by omega
      obtain ⟨v, nx, S, hT, ok, hnx, hl⟩ := HI.out.is
      have hB := HI.out.below
      have e1 : Int.tmod (k : Int) 2 = ((k % 2 : Nat) : Int) := by rw [Int.tmod_eq_emod_of_nonneg (by omega)]; omega
      have e2 : (k : Int) % 2 = ((k % 2 : Nat) : Int) := by omega
      have cO := open_any hT ok (by omega) 5 ((k : Int) + 1) ((k % 2 : Nat) : Int) (by omega)
      have hg := good_pipe k
      have ok2 := ok.opened 5 ((k : Int) + 1) ((k % 2 : Nat) : Int)
      by_cases hkn : k < n
      · have hknz : (k : Int) < (n : Int) := by omega
        have hkn2 : ¬ (n : Int) ≤ (k : Int) := by omega
        have hd : decide (S.length < n) = true := decide_eq_true (by omega)
        rw [show openX n nx S 5 ((k : Int) + 1) ((k % 2 : Nat) : Int) = nx + 1 by unfold openX; rw [hg, hd]; rfl, show openS n nx S 5 ((k : Int) + 1) ((k % 2 : Nat) : Int) = S ++ [⟨nx, 5, (k : Int) + 1, 0, ((k % 2 : Nat) : Int), 1⟩] by unfold openS; rw [hg, hd]; rfl] at cO ok2
        rw [show openN n nx S 5 ((k : Int) + 1) ((k % 2 : Nat) : Int) = (k : Int) + 1 by unfold openN; rw [hg, hd, hnx]; simp; omega, show openE n S 5 ((k : Int) + 1) ((k % 2 : Nat) : Int) = 0 by unfold openE; rw [hg, if_pos rfl, if_pos (by omega)]] at cO
        have HT : Hid _ := hT
        have HK : Hid _ := ok2
        have HN : Hid (nx = ((min k n : Nat) : Int) + 1 ∧ S.length = min k n) := ⟨hnx, hl⟩
        have HB : Hid _ := hB
        clear hT ok ok2 hnx hl hB hg hd
        generalize ((k % 2 : Nat) : Int) = r2 at *
        go_wp2_with fail
        refine cO.mono ?_
        rintro e w2 ⟨rfl, v2, hT2, hG2⟩
        have HI2 : Hid (FI w b n (k + 1) w2) := ⟨⟨v2, _, _, hT2, HK.out, by have := HN.out.1; omega, by have := HN.out.2; rw [List.length_append, List.length_singleton]; omega⟩, hG2.below HT.out HB.out (Nat.le_refl _) (by have := HT.out.hid; have := HT.out.box.lt; omega)⟩
        clear cO hT2 hG2 HT HK HN HB HI
        go_wp2
        go_roundw
        case rel => exact ⟨k + 1, by omega, by go_num, HI2⟩
        case measure => simp [intOf]; omega
      · have hknz : ¬ (k : Int) < (n : Int) := by omega
        have hkn2 : (n : Int) ≤ (k : Int) := by omega
        have hd : decide (S.length < n) = false := decide_eq_false (by omega)
        rw [show openX n nx S 5 ((k : Int) + 1) ((k % 2 : Nat) : Int) = nx by unfold openX; rw [hg, hd]; rfl, show openS n nx S 5 ((k : Int) + 1) ((k % 2 : Nat) : Int) = S by unfold openS; rw [hg, hd]; rfl] at cO ok2
        rw [show openN n nx S 5 ((k : Int) + 1) ((k % 2 : Nat) : Int) = 0 by unfold openN; rw [hg, hd]; rfl, show openE n S 5 ((k : Int) + 1) ((k % 2 : Nat) : Int) = 23 by unfold openE; rw [hg, if_pos rfl, if_neg (by omega)]] at cO
        have HT : Hid _ := hT
        have HK : Hid _ := ok2
        have HN : Hid (nx = ((min k n : Nat) : Int) + 1 ∧ S.length = min k n) := ⟨hnx, hl⟩
        have HB : Hid _ := hB
        clear hT ok ok2 hnx hl hB hg hd
        generalize ((k % 2 : Nat) : Int) = r2 at *
        go_wp2_with fail
        refine cO.mono ?_
        rintro e w2 ⟨rfl, v2, hT2, hG2⟩
        have HI2 : Hid (FI w b n (k + 1) w2) := ⟨⟨v2, _, _, hT2, HK.out, by have := HN.out.1; omega, by have := HN.out.2; omega⟩, hG2.below HT.out HB.out (Nat.le_refl _) (by have := HT.out.hid; have := HT.out.box.lt; omega)⟩
        clear cO hT2 hG2 HT HK HN HB HI
        go_wp2
        go_roundw
        case rel => exact ⟨k + 1, by omega, by go_num, HI2⟩
        case measure => simp [intOf]; omega
    · have hltz : ¬ (k : Int) < (c : Int) := by omega
      have HB : Hid (Below w.heap.size w wr) := HI.out.below
      clear HI
      go_wp2_with fail
      refine (cL _).mono ?_
      rintro e w2 ⟨rfl, hb2⟩
      go_wp2
      go_ret
      exact ⟨rfl, on_trans HB.out hb2⟩

end Go.Proofs.Ytigikmojhllmdaa.V
