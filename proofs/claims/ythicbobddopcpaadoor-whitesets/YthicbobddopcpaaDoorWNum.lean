/- What the reference's Num answers: the digits of a number from 0 on. -/
import Derived.Test.YthicbobddopcpaaDoorWSteps
namespace Go.Proofs.YthicbobddopcpaaDoor
open Go Go.RowKit Go.Shelf Go.Sort

theorem dig_size (n : Nat) (h : n < 18446744073709551616) : (⟨(Lib.decDigits n).toArray⟩ : ByteArray).size ≤ 20 := by
  show (Lib.decDigits n).toArray.size ≤ 20
  rw [List.size_toArray, Lib.decDigits_length]
  exact Lib.nDigits_le20 n h
theorem digits_step (n : Nat) (h : ¬ n < 10) : (⟨(Lib.decDigits n).toArray⟩ : ByteArray) = ⟨(Lib.decDigits (n / 10)).toArray⟩ ++ ⟨(Lib.decDigits (n % 10)).toArray⟩ := by
  have h1 : Lib.decDigits n = Lib.decDigits (n / 10) ++ [UInt8.ofNat (48 + n % 10)] := by
    conv => lhs; rw [Lib.decDigits]
    rw [dif_neg h]
  have h2 : Lib.decDigits (n % 10) = [UInt8.ofNat (48 + n % 10)] := Lib.decDigits_one (by omega)
  rw [h1, ← h2]
  apply ByteArray.ext
  simp

set_option maxRecDepth 100000 in
set_option maxHeartbeats 1000000 in
theorem num_small (n : Nat) (hn : n < 10) (w : World) :
    Calls Tryd.prog 45 #[.int .i64 (n : Int)] w fun e w' => e = .returned (.string ⟨(Lib.decDigits n).toArray⟩) ∧ w' = w := by
  rw [Lib.decDigits_one hn]
  have key : n = 0 ∨ n = 1 ∨ n = 2 ∨ n = 3 ∨ n = 4 ∨ n = 5 ∨ n = 6 ∨ n = 7 ∨ n = 8 ∨ n = 9 := by omega
  rcases key with rfl | rfl | rfl | rfl | rfl | rfl | rfl | rfl | rfl | rfl
  all_goals
    go_enter Tryd.func45, Tryd.ntmps45
    go_wp2
    go_ret
    exact ⟨rfl, rfl⟩

set_option maxRecDepth 100000 in
set_option maxHeartbeats 1000000 in
theorem num_any (n : Nat) (hn : n ≤ 9223372036854775807) (w : World) :
    Calls Tryd.prog 45 #[.int .i64 (n : Int)] w fun e w' => e = .returned (.string ⟨(Lib.decDigits n).toArray⟩) ∧ w' = w := by
  induction n using Nat.strongRecOn with
  | ind n ih =>
    by_cases h10 : n < 10
    · exact num_small n h10 w
    · have c1 := ih (n / 10) (by omega) (by omega)
      have c2 := num_small (n % 10) (by omega) w
      have hA : (⟨(Lib.decDigits (n / 10)).toArray⟩ : ByteArray).size ≤ 20 := dig_size _ (by omega)
      have hB : (⟨(Lib.decDigits (n % 10)).toArray⟩ : ByteArray).size ≤ 20 := dig_size _ (by omega)
      have hD := digits_step n h10
      generalize (⟨(Lib.decDigits (n / 10)).toArray⟩ : ByteArray) = A at *
      generalize (⟨(Lib.decDigits (n % 10)).toArray⟩ : ByteArray) = B at *
      have HD : Hid _ := hD
      clear hD
      have hge : ¬ (n : Int) < 10 := by omega
      have h0 : ¬ (n : Int) < 0 := by omega
      have hm : ((n : Int) == -9223372036854775808) = false := beq_eq_false_iff_ne.2 (by omega)
      clear ih
      go_enter Tryd.func45, Tryd.ntmps45
      rw [show ((n / 10 : Nat) : Int) = (n : Int) / 10 by omega] at c1
      rw [show ((n % 10 : Nat) : Int) = (n : Int) % 10 by omega] at c2
      go_wp2_with fail
      refine c1.mono ?_
      rintro e w' ⟨rfl, rfl⟩
      go_wp2_with fail
      refine c2.mono ?_
      rintro e w' ⟨rfl, rfl⟩
      go_wp2
      go_ret
      exact ⟨by rw [HD.out]; rfl, rfl⟩

theorem num_int (x : Int) (h0 : 0 ≤ x) (h1 : x ≤ 9223372036854775807) (w : World) :
    Calls Tryd.prog 45 #[.int .i64 x] w fun e w' => e = .returned (.string (txt x)) ∧ w' = w := by
  obtain ⟨n, rfl⟩ := Int.eq_ofNat_of_zero_le h0
  have := num_any n (by omega) w
  have e : txt (n : Int) = ⟨(Lib.decDigits n).toArray⟩ := by
    unfold txt Lib.itoa
    rw [if_neg (by omega)]
    simp
  rw [e]; exact this

theorem txt_size (x : Int) (h0 : 0 ≤ x) (h1 : x ≤ 9223372036854775807) : (txt x).size ≤ 21 := by
  show (Lib.itoa x).toArray.size ≤ 21
  rw [List.size_toArray]
  exact Lib.itoa_length_le x (by omega) h1

end Go.Proofs.YthicbobddopcpaaDoor
