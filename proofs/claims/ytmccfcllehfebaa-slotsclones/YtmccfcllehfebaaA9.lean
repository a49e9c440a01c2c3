/- What white.Mask and the reference's Mask answer, at every pair of ints. -/
import Derived.Test.YtmccfcllehfebaaA3
import Derived.Test.YtmccfcllehfebaaA4
namespace Go.Proofs.Ytmccfcllehfebaa.W
open Go Go.RowKit

def maskV (old mask : Int) : Int := if mBad old mask then 0 else if mMore old mask then 0 else mask
def maskE (old mask : Int) : Int := if mBad old mask then 22 else if mMore old mask then 93 else 0

set_option maxRecDepth 100000 in
set_option maxHeartbeats 1000000 in
theorem mask_any (old mask : Int) (w : World) :
    Calls Try.prog 49 #[.int .i64 old, .int .i64 mask] w fun e w' => e = .returned (.tuple #[.int .i64 (maskV old mask), .int .i64 (maskE old mask)]) ∧ w' = w := by
  have h1 := bad_iff old mask
  have h2 := less_iff old mask
  unfold maskV maskE
  generalize mBad old mask = b at *
  generalize mMore old mask = m at *
  generalize hy : bits .andNot .i64 (bits .or .i64 mask old) 120 = y at h1
  generalize hz : bits .andNot .i64 mask old = z at h2
  cases b with
  | true =>
    have hq : (y == 0) = false := beq_eq_false_iff_ne.2 (fun e => by simpa using h1.1 e)
    have hq2 : (y != 0) = true := by simp [bne, hq]
    clear h1 h2 hz
    go_enter Try.func49, Try.ntmps49
    go_wp2
    go_ret2
    exact ⟨rfl, rfl⟩
  | false =>
    have hy0 : y = 0 := h1.2 rfl
    cases m with
    | true =>
      have hq : (z == 0) = false := beq_eq_false_iff_ne.2 (fun e => by simpa using h2.1 e)
      have hq2 : (z != 0) = true := by simp [bne, hq]
      clear h1 h2
      subst hy0
      go_enter Try.func49, Try.ntmps49
      go_wp2
      go_ret2
      exact ⟨rfl, rfl⟩
    | false =>
      have hz0 : z = 0 := h2.2 rfl
      clear h1 h2
      subst hy0 hz0
      go_enter Try.func49, Try.ntmps49
      go_wp2
      go_ret2
      exact ⟨rfl, rfl⟩

set_option maxRecDepth 100000 in
set_option maxHeartbeats 1000000 in
theorem bit_any (x : Int) (i : Nat) (hi : i < 64) (w : World) :
    Calls Try.prog 54 #[.int .i64 x, .int .i64 (i : Int)] w fun e w' => e = .returned (.bool (bitI x i)) ∧ w' = w := by
  have ha := i64_and1 (x / 2 ^ i)
  have hr : ((x / 2 ^ i % 2) == 1) = bitI x i := by unfold bitI; rfl
  have hsh := shift_shr .i64 .u64 x (i : Int) (by omega) (by show (i : Int) ≤ 64; omega)
  rw [show ((i : Int)).toNat = i by simp] at hsh
  generalize bitI x i = r at *
  have hw : IntKind.u64.wrap (i : Int) = i := by rw [IntKind.wrap_u64]; omega
  go_enter Try.func54, Try.ntmps54
  go_wp2
  go_ret
  exact ⟨rfl, rfl⟩

end Go.Proofs.Ytmccfcllehfebaa.W

namespace Go.Proofs.Ytmccfcllehfebaa.W
open Go Go.RowKit

def badAt (old mask : Int) (i : Nat) : Bool := (decide (i < 3) || decide (6 < i)) && (bitI old i || bitI mask i)
def moreAt (old mask : Int) (i : Nat) : Bool := bitI mask i && !bitI old i
theorem mBad_true {old mask : Int} {k : Nat} (hk : k < 64) (h : badAt old mask k = true) : mBad old mask = true := List.any_eq_true.2 ⟨k, List.mem_range.2 hk, h⟩
theorem mBad_false {old mask : Int} (h : ∀ j, j < 64 → badAt old mask j = false) : mBad old mask = false :=
  List.any_eq_false.2 fun j hj => by rw [show ((decide (j < 3) || decide (6 < j)) && (bitI old j || bitI mask j)) = badAt old mask j from rfl, h j (List.mem_range.1 hj)]; simp
theorem mMore_true {old mask : Int} {k : Nat} (hk : k < 64) (h : moreAt old mask k = true) : mMore old mask = true := List.any_eq_true.2 ⟨k, List.mem_range.2 hk, h⟩
theorem mMore_false {old mask : Int} (h : ∀ j, j < 64 → moreAt old mask j = false) : mMore old mask = false :=
  List.any_eq_false.2 fun j hj => by rw [show (bitI mask j && !bitI old j) = moreAt old mask j from rfl, h j (List.mem_range.1 hj)]; simp
theorem upTo_succ {f : Nat → Bool} {k : Nat} (h : ∀ j, j < k → f j = false) (hk : f k = false) : ∀ j, j < k + 1 → f j = false := fun j hj => by
  by_cases e : j = k
  · subst e; exact hk
  · exact h j (by omega)

set_option maxRecDepth 100000 in
set_option maxHeartbeats 4000000 in
theorem refMask_any (old mask : Int) (w : World) :
    Calls Try.prog 44 #[.int .i64 old, .int .i64 mask] w fun e w' => e = .returned (.tuple #[.int .i64 (maskV old mask), .int .i64 (maskE old mask)]) ∧ w' = w := by
  go_enter Try.func44, Try.ntmps44
  go_wp2
  go_loop [6] (fun i => ∃ k : Nat, k ≤ 64 ∧ i = .int .i64 k ∧ Hid (∀ j, j < k → badAt old mask j = false)) (fun i => 64 - (intOf i).toNat)
  case atStart => exact ⟨0, by omega, rfl, fun j hj => absurd hj (Nat.not_lt_zero _)⟩
  case round =>
    obtain ⟨k, hk, rfl, H⟩ := hrel
    by_cases hlt : k < 64
    · have hltz : (k : Int) < 64 := by omega
      have c1 := bit_any old k hlt
      have c2 := bit_any mask k hlt
      by_cases hin : k < 3 ∨ 6 < k
      · have HA : Hid (badAt old mask k = (bitI old k || bitI mask k)) := by
          show badAt old mask k = _
          unfold badAt
          rw [show (decide (k < 3) || decide (6 < k)) = true by simpa using hin, Bool.true_and]
        have HT : Hid (∀ h : badAt old mask k = true, mBad old mask = true) := fun h => mBad_true hlt h
        generalize bitI old k = bo at *
        generalize bitI mask k = bm at *
        by_cases h3 : k < 3
        · have d3 : decide ((k : Int) < 3) = true := decide_eq_true (by omega)
          cases bo with
          | true =>
            go_wp2_with fail
            refine (c1 _).mono ?_
            rintro e w' ⟨rfl, rfl⟩
            go_wp2
            go_ret2
            refine ⟨?_, rfl⟩
            have := HT.out HA.out
            simp [maskV, maskE, this]
          | false =>
            cases bm with
            | true =>
              go_wp2_with fail
              refine (c1 _).mono ?_
              rintro e w' ⟨rfl, rfl⟩
              go_wp2_with fail
              refine (c2 _).mono ?_
              rintro e w' ⟨rfl, rfl⟩
              go_wp2
              go_ret2
              refine ⟨?_, rfl⟩
              have := HT.out HA.out
              simp [maskV, maskE, this]
            | false =>
              go_wp2_with fail
              refine (c1 _).mono ?_
              rintro e w' ⟨rfl, rfl⟩
              go_wp2_with fail
              refine (c2 _).mono ?_
              rintro e w' ⟨rfl, rfl⟩
              go_wp2
              go_round
              case rel => exact ⟨k + 1, by omega, by go_num, upTo_succ H.out HA.out⟩
              case measure => simp [intOf]; omega
        · have d3 : decide ((k : Int) < 3) = false := decide_eq_false (by omega)
          have d6 : decide (6 < (k : Int)) = true := decide_eq_true (by omega)
          cases bo with
          | true =>
            go_wp2_with fail
            refine (c1 _).mono ?_
            rintro e w' ⟨rfl, rfl⟩
            go_wp2
            go_ret2
            refine ⟨?_, rfl⟩
            have := HT.out HA.out
            simp [maskV, maskE, this]
          | false =>
            cases bm with
            | true =>
              go_wp2_with fail
              refine (c1 _).mono ?_
              rintro e w' ⟨rfl, rfl⟩
              go_wp2_with fail
              refine (c2 _).mono ?_
              rintro e w' ⟨rfl, rfl⟩
              go_wp2
              go_ret2
              refine ⟨?_, rfl⟩
              have := HT.out HA.out
              simp [maskV, maskE, this]
            | false =>
              go_wp2_with fail
              refine (c1 _).mono ?_
              rintro e w' ⟨rfl, rfl⟩
              go_wp2_with fail
              refine (c2 _).mono ?_
              rintro e w' ⟨rfl, rfl⟩
              go_wp2
              go_round
              case rel => exact ⟨k + 1, by omega, by go_num, upTo_succ H.out HA.out⟩
              case measure => simp [intOf]; omega
      · have HA : Hid (badAt old mask k = false) := by
          show badAt old mask k = _
          unfold badAt
          rw [show (decide (k < 3) || decide (6 < k)) = false by simp; omega, Bool.false_and]
        have d3 : decide ((k : Int) < 3) = false := decide_eq_false (by omega)
        have d6 : decide (6 < (k : Int)) = false := decide_eq_false (by omega)
        clear c1 c2
        go_wp2
        go_round
        case rel => exact ⟨k + 1, by omega, by go_num, upTo_succ H.out HA.out⟩
        case measure => simp [intOf]; omega
    · obtain rfl : k = 64 := by omega
      have HB : Hid (mBad old mask = false) := mBad_false H.out
      clear H hlt
      go_wp2
      go_loop [7] (fun i => ∃ k : Nat, k ≤ 64 ∧ i = .int .i64 k ∧ Hid (∀ j, j < k → moreAt old mask j = false)) (fun i => 64 - (intOf i).toNat)
      case atStart => exact ⟨0, by omega, rfl, fun j hj => absurd hj (Nat.not_lt_zero _)⟩
      case round =>
        obtain ⟨k, hk, rfl, H⟩ := hrel
        by_cases hlt : k < 64
        · have hltz : (k : Int) < 64 := by omega
          have c1 := bit_any mask k hlt
          have c2 := bit_any old k hlt
          have HA : Hid (moreAt old mask k = (bitI mask k && !bitI old k)) := rfl
          have HT : Hid (∀ h : moreAt old mask k = true, mMore old mask = true) := fun h => mMore_true hlt h
          generalize bitI old k = bo at *
          generalize bitI mask k = bm at *
          cases bm with
          | true =>
            cases bo with
            | true =>
              go_wp2_with fail
              refine (c1 _).mono ?_
              rintro e w' ⟨rfl, rfl⟩
              go_wp2_with fail
              refine (c2 _).mono ?_
              rintro e w' ⟨rfl, rfl⟩
              go_wp2
              go_round
              case rel => exact ⟨k + 1, by omega, by go_num, upTo_succ H.out HA.out⟩
              case measure => simp [intOf]; omega
            | false =>
              go_wp2_with fail
              refine (c1 _).mono ?_
              rintro e w' ⟨rfl, rfl⟩
              go_wp2_with fail
              refine (c2 _).mono ?_
              rintro e w' ⟨rfl, rfl⟩
              go_wp2
              go_ret2
              refine ⟨?_, rfl⟩
              have := HT.out HA.out
              simp [maskV, maskE, this, HB.out]
          | false =>
            go_wp2_with fail
            refine (c1 _).mono ?_
            rintro e w' ⟨rfl, rfl⟩
            go_wp2
            go_round
            case rel => exact ⟨k + 1, by omega, by go_num, upTo_succ H.out HA.out⟩
            case measure => simp [intOf]; omega
        · obtain rfl : k = 64 := by omega
          have HM : Hid (mMore old mask = false) := mMore_false H.out
          go_wp2
          go_ret2
          exact ⟨by simp [maskV, maskE, HB.out, HM.out], rfl⟩

end Go.Proofs.Ytmccfcllehfebaa.W
