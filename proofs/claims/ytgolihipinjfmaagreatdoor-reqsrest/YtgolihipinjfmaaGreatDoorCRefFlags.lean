/- What the reference's Flags answers, for every number. -/
import Derived.Test.YtgolihipinjfmaaGreatDoorCFlags
namespace Go.Proofs.YtgolihipinjfmaaGreatDoor.C
open Go Go.RowKit

set_option maxRecDepth 100000 in
set_option maxHeartbeats 1000000 in
theorem rhas_any (x : Int) (i : Nat) (hi : i < 64) (w : World) :
    Calls Tryz.prog 43 #[.int .i64 x, .int .i64 (i : Int)] w fun e w' => e = .returned (.bool (bitI x i)) ∧ w' = w := by
  have ha := i64_and1 (x / 2 ^ i)
  have hr : ((x / 2 ^ i % 2) == 1) = bitI x i := by unfold bitI; rfl
  have hsh := shift_shr .i64 .u64 x (i : Int) (by omega) (by show (i : Int) ≤ 64; omega)
  rw [show ((i : Int)).toNat = i by simp] at hsh
  generalize bitI x i = r at *
  have hw : IntKind.u64.wrap (i : Int) = i := by rw [IntKind.wrap_u64]; omega
  go_enter Tryz.func43, Tryz.ntmps43
  go_wp2
  go_ret
  exact ⟨rfl, rfl⟩
theorem rhas_at (x : Int) (i : Nat) (hi : i < 64) (b : Bool) (hb : bitI x i = b) (m : Int) (hm : m = (i : Int)) (w : World) :
    Calls Tryz.prog 43 #[.int .i64 x, .int .i64 m] w fun e w' => e = .returned (.bool b) ∧ w' = w := by
  subst hb; subst hm; exact rhas_any x i hi w

def oddAt (f : Int) (i : Nat) : Bool := bitI f i && decide (3 < i) && (decide (i < 8) || decide (11 < i)) && i != 17
theorem odd_true {f : Int} {k : Nat} (hk : k < 64) (h : oddAt f k = true) : odd f = true := List.any_eq_true.2 ⟨k, List.mem_range.2 hk, h⟩
theorem odd_false {f : Int} (h : ∀ j, j < 64 → oddAt f j = false) : odd f = false :=
  List.any_eq_false.2 fun j hj => by rw [show (bitI f j && decide (3 < j) && (decide (j < 8) || decide (11 < j)) && j != 17) = oddAt f j from rfl, h j (List.mem_range.1 hj)]; simp
def badV (one both creat trunc dir : Bool) : Bool := (one && both) || (trunc && !one && !both) || (creat && dir)
def rV (one both creat trunc dir : Bool) : Int := if badV one both creat trunc dir then 0 else 128 + (if one then 0 else 1) + (if one || both then 2 else 0) + (if creat then 16 else 0) + (if trunc then 64 else 0)
def eV (one both creat trunc dir : Bool) : Int := if badV one both creat trunc dir then 22 else 0

set_option maxRecDepth 100000 in
set_option maxHeartbeats 4000000 in
theorem rflags_any (f : Int) (w : World) : Calls Tryz.prog 28 #[.int .i64 f] w (FlagsPost f w) := by
  go_enter Tryz.func28, Tryz.ntmps28
  go_wp2
  go_loop [4] (fun i => ∃ k : Nat, k ≤ 64 ∧ i = .int .i64 k ∧ Hid (∀ j, j < k → oddAt f j = false)) (fun i => 64 - (intOf i).toNat)
  case atStart => exact ⟨0, by omega, rfl, fun j hj => absurd hj (Nat.not_lt_zero _)⟩
  case round =>
    obtain ⟨k, hk, rfl, H⟩ := hrel
    by_cases hlt : k < 64
    · have hltz : (k : Int) < 64 := by omega
      obtain ⟨b, hb⟩ : ∃ b, bitI f k = b := ⟨_, rfl⟩
      have c1 := rhas_at f k hlt b hb (k : Int) rfl
      have HB : Hid (bitI f k = b) := hb
      have HX : Hid (b = true → oddAt f k = true → FlagsPost f w (.returned (.tuple #[.int .u32 0, .int .i64 22])) w) := fun _ ho => ⟨by
        have h1 : flagB f = true := by unfold flagB; rw [odd_true hlt ho]; rfl
        rw [flagR, flagE, h1]; rfl, Below.refl _ _⟩
      have HU : Hid (oddAt f k = false → ∀ j, j < k + 1 → oddAt f j = false) := fun h0 j hj => by
        by_cases e : j = k
        · subst e; exact h0
        · exact H.out j (by omega)
      clear hb
      cases b with
      | false =>
        have HO : Hid (oddAt f k = false) := by show _ = _; unfold oddAt; rw [HB.out]; rfl
        go_wp2_with (go_at_call 43; refine (c1 _).mono ?_; rintro e w' ⟨rfl, rfl⟩)
        refine ⟨⟨k + 1, by omega, by go_num, HU.out HO.out⟩, by simp [intOf]; omega⟩
      | true =>
        by_cases h3 : k ≤ 3
        · have g1 : ¬ (3 : Int) < (k : Int) := by omega
          have g2 : ¬ 3 < k := by omega
          have HO : Hid (oddAt f k = false) := by show _ = _; unfold oddAt; simp [g2]
          go_wp2_with (go_at_call 43; refine (c1 _).mono ?_; rintro e w' ⟨rfl, rfl⟩)
          refine ⟨⟨k + 1, by omega, by go_num, HU.out HO.out⟩, by simp [intOf]; omega⟩
        have g1 : (3 : Int) < (k : Int) := by omega
        have g2 : 3 < k := by omega
        by_cases h8 : k < 8
        · have g3 : (k : Int) < 8 := by omega
          have g5 : ¬ (k : Int) = 17 := by omega
          have g6 : ¬ k = 17 := by omega
          have g7 : (((k : Int)) != 17) = true := by simp; omega
          have HO : Hid (oddAt f k = true) := by show _ = _; unfold oddAt; rw [HB.out]; simp [g2, h8]; omega
          go_wp2_with (go_at_call 43; refine (c1 _).mono ?_; rintro e w' ⟨rfl, rfl⟩)
          go_ret2
          exact HX.out (by first | rfl | trivial) HO.out
        have g3 : ¬ (k : Int) < 8 := by omega
        by_cases h11 : k ≤ 11
        · have g4 : ¬ (11 : Int) < (k : Int) := by omega
          have g6 : ¬ 11 < k := by omega
          have HO : Hid (oddAt f k = false) := by show _ = _; unfold oddAt; simp [h8, g6]
          go_wp2_with (go_at_call 43; refine (c1 _).mono ?_; rintro e w' ⟨rfl, rfl⟩)
          refine ⟨⟨k + 1, by omega, by go_num, HU.out HO.out⟩, by simp [intOf]; omega⟩
        have g4 : (11 : Int) < (k : Int) := by omega
        have g6 : 11 < k := by omega
        by_cases h17 : k = 17
        · subst h17
          have HO : Hid (oddAt f 17 = false) := by show _ = _; unfold oddAt; simp
          go_wp2_with (go_at_call 43; refine (c1 _).mono ?_; rintro e w' ⟨rfl, rfl⟩)
          refine ⟨⟨17 + 1, by omega, by go_num, HU.out HO.out⟩, by simp [intOf]⟩
        · have g5 : ¬ (k : Int) = 17 := by omega
          have g7 : (((k : Int)) != 17) = true := by simp; omega
          have HO : Hid (oddAt f k = true) := by show _ = _; unfold oddAt; rw [HB.out]; simp [g2, g6]; omega
          go_wp2_with (go_at_call 43; refine (c1 _).mono ?_; rintro e w' ⟨rfl, rfl⟩)
          go_ret2
          exact HX.out (by first | rfl | trivial) HO.out
    · have hltz : ¬ (k : Int) < 64 := by omega
      have hod : odd f = false := odd_false fun j hj => H.out j (by omega)
      obtain ⟨one, h1⟩ : ∃ b, bitI f 0 = b := ⟨_, rfl⟩
      obtain ⟨both, h2⟩ : ∃ b, bitI f 1 = b := ⟨_, rfl⟩
      obtain ⟨creat, h3⟩ : ∃ b, bitI f 9 = b := ⟨_, rfl⟩
      obtain ⟨trunc, h4⟩ : ∃ b, bitI f 10 = b := ⟨_, rfl⟩
      obtain ⟨dir, h5⟩ : ∃ b, bitI f 17 = b := ⟨_, rfl⟩
      have HP : Hid (FlagsPost f w (.returned (.tuple #[.int .u32 (rV one both creat trunc dir), .int .i64 (eV one both creat trunc dir)])) w) := by
        have hB : flagB f = badV one both creat trunc dir := by unfold flagB badV; rw [hod, h1, h2, h3, h4, h5, Bool.false_or]
        exact ⟨by unfold flagR flagE rV eV; rw [hB, h1, h2, h3, h4], Below.refl _ _⟩
      have q0 := rhas_at f 0 (by decide) one h1 0 rfl
      have q1 := rhas_at f 1 (by decide) both h2 1 rfl
      have q9 := rhas_at f 9 (by decide) creat h3 9 rfl
      have q10 := rhas_at f 10 (by decide) trunc h4 10 rfl
      have q17 := rhas_at f 17 (by decide) dir h5 17 rfl
      clear h1 h2 h3 h4 h5 hod H
      go_upto_region 7 with (first | (go_at_call 43; refine (q0 _).mono ?_; clear q0; rintro e w' ⟨rfl, rfl⟩) | (go_at_call 43; refine (q1 _).mono ?_; clear q1; rintro e w' ⟨rfl, rfl⟩) | (go_at_call 43; refine (q9 _).mono ?_; clear q9; rintro e w' ⟨rfl, rfl⟩) | (go_at_call 43; refine (q10 _).mono ?_; clear q10; rintro e w' ⟨rfl, rfl⟩))
      cases one <;> cases both <;> cases creat <;> cases trunc <;> cases dir
      all_goals as_aux_lemma =>
        go_wp2_with (go_at_call 43; refine (q17 _).mono ?_; clear q17; rintro e w' ⟨rfl, rfl⟩)
        go_ret2
        exact HP.out

end Go.Proofs.YtgolihipinjfmaaGreatDoor.C
