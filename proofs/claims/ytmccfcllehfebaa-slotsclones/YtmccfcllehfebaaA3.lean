/- Sets of bits in an int: what masks come to, bit by bit. No program. -/
import Derived.Laws.BitsLemmas
import Derived.Laws.Entries
import Derived.Test.YtmccfcllehfebaaProg
import Derived.WalkKit
import Derived.WalkLawsBesides
import Derived.WalkSpells
import Derived.Laws.Rows
namespace Go.Proofs.Ytmccfcllehfebaa
open Go

def bitI (x : Int) (i : Nat) : Bool := decide (x / 2 ^ i % 2 = 1)
def mBad (old mask : Int) : Bool := (List.range 64).any fun i => (decide (i < 3) || decide (6 < i)) && (bitI old i || bitI mask i)
def mMore (old mask : Int) : Bool := (List.range 64).any fun i => bitI mask i && !bitI old i

theorem i64_and1 (n : Int) : bits .and .i64 n 1 = n % 2 := by
  have h1 : (BitVec.ofInt 64 1).toNat = 2 ^ 1 - 1 := by decide
  have key : (BitVec.ofInt 64 n &&& BitVec.ofInt 64 1).toNat = (n % ((2 ^ 64 : Nat) : Int)).toNat % 2 ^ 1 := by
    rw [BitVec.toNat_and, BitVec.toNat_ofInt, h1, Nat.and_two_pow_sub_one_eq_mod]
  show IntKind.i64.wrap ((BitVec.ofInt 64 n &&& BitVec.ofInt 64 1).toNat : Nat) = n % 2
  rw [key, IntKind.wrap_i64]
  omega

theorem ofInt_wrap (v : BitVec 64) : BitVec.ofInt 64 (IntKind.i64.wrap (v.toNat : Nat)) = v := by
  apply BitVec.eq_of_toNat_eq
  rw [BitVec.toNat_ofInt, IntKind.wrap_i64]
  have := v.isLt
  omega

theorem wrap_zero (v : BitVec 64) : IntKind.i64.wrap (v.toNat : Nat) = 0 ↔ v = 0#64 := by
  rw [IntKind.wrap_i64]
  have := v.isLt
  constructor
  · intro h
    apply BitVec.eq_of_toNat_eq
    simp
    omega
  · rintro rfl; decide

theorem bit_ofInt (x : Int) (i : Nat) (hi : i < 64) : (BitVec.ofInt 64 x).getLsbD i = bitI x i := by
  rw [← BitVec.testBit_toNat, BitVec.toNat_ofInt, Nat.testBit_eq_decide_div_mod_eq]
  unfold bitI
  refine decide_eq_decide.2 ?_
  have hr0 : 0 ≤ x % ((2 ^ 64 : Nat) : Int) := Int.emod_nonneg _ (by decide)
  obtain ⟨r, hr⟩ := Int.eq_ofNat_of_zero_le hr0
  have hx : x = (r : Int) + 2 ^ i * (2 * (2 ^ (63 - i) * (x / ((2 ^ 64 : Nat) : Int)))) := by
    have h1 := Int.emod_add_mul_ediv x ((2 ^ 64 : Nat) : Int)
    have h2 : (((2 ^ 64 : Nat) : Int)) = 2 ^ i * (2 * 2 ^ (63 - i)) := by
      rw [show (2 : Int) * 2 ^ (63 - i) = 2 ^ (63 - i + 1) by rw [Int.pow_succ]; omega, ← Int.pow_add]
      rw [show i + (63 - i + 1) = 64 by omega]; rfl
    rw [hr] at h1
    generalize x / ((2 ^ 64 : Nat) : Int) = q at h1 ⊢
    rw [← h1, h2]
    simp only [Int.mul_assoc]
  have hd : x / 2 ^ i = (r : Int) / 2 ^ i + 2 * (2 ^ (63 - i) * (x / ((2 ^ 64 : Nat) : Int))) := by
    conv => lhs; rw [hx]
    exact Int.add_mul_ediv_left _ _ (Int.ne_of_gt (Int.pow_pos (by decide)))
  rw [hr, hd]
  have h3 : ((r : Int)).toNat = r := by simp
  rw [h3]
  have h4 : (r : Int) / 2 ^ i = ((r / 2 ^ i : Nat) : Int) := by
    rw [Int.natCast_ediv]; simp
  rw [h4]
  omega

theorem bits_zero_iff (v : BitVec 64) : v = 0#64 ↔ ∀ i, i < 64 → v.getLsbD i = false := by
  constructor
  · rintro rfl i _; simp
  · intro h
    apply BitVec.eq_of_getLsbD_eq
    intro i hi
    rw [h i hi]; simp

theorem less_iff (old mask : Int) : bits .andNot .i64 mask old = 0 ↔ mMore old mask = false := by
  show IntKind.i64.wrap ((BitVec.ofInt 64 mask &&& ~~~BitVec.ofInt 64 old).toNat : Nat) = 0 ↔ _
  rw [wrap_zero, bits_zero_iff]
  simp only [mMore, List.any_eq_false, List.mem_range, Bool.not_eq_true]
  constructor
  · intro h i hi
    have := h i hi
    rw [BitVec.getLsbD_and, BitVec.getLsbD_not, bit_ofInt _ _ hi, bit_ofInt _ _ hi] at this
    simpa [hi] using this
  · intro h i hi
    rw [BitVec.getLsbD_and, BitVec.getLsbD_not, bit_ofInt _ _ hi, bit_ofInt _ _ hi]
    simpa [hi] using h i hi

theorem c120 : ∀ i : Fin 64, (BitVec.ofInt 64 120).getLsbD i.val = !(decide (i.val < 3) || decide (6 < i.val)) := by decide

theorem bad_iff (old mask : Int) : bits .andNot .i64 (bits .or .i64 mask old) 120 = 0 ↔ mBad old mask = false := by
  show IntKind.i64.wrap ((BitVec.ofInt 64 (IntKind.i64.wrap ((BitVec.ofInt 64 mask ||| BitVec.ofInt 64 old).toNat : Nat)) &&& ~~~BitVec.ofInt 64 120).toNat : Nat) = 0 ↔ _
  rw [wrap_zero, bits_zero_iff, ofInt_wrap]
  simp only [mBad, List.any_eq_false, List.mem_range, Bool.not_eq_true]
  constructor
  · intro h i hi
    have := h i hi
    rw [BitVec.getLsbD_and, BitVec.getLsbD_not, BitVec.getLsbD_or, bit_ofInt _ _ hi, bit_ofInt _ _ hi, c120 ⟨i, hi⟩] at this
    rw [Bool.and_comm, Bool.or_comm]
    simpa [hi] using this
  · intro h i hi
    have := h i hi
    rw [BitVec.getLsbD_and, BitVec.getLsbD_not, BitVec.getLsbD_or, bit_ofInt _ _ hi, bit_ofInt _ _ hi, c120 ⟨i, hi⟩]
    rw [Bool.and_comm, Bool.or_comm] at this
    simpa [hi] using this

end Go.Proofs.Ytmccfcllehfebaa

namespace Go.Proofs.Ytmccfcllehfebaa.R
open Go Go.RowKit

/-- Whether all rights of one set are in another one. -/
def subB (x y : Nat) : Bool := decide (x &&& (4294967295 - y) = 0)
theorem testBit_not {y : Nat} (hy : y < 4294967296) (i : Nat) : (4294967295 - y).testBit i = (decide (i < 32) && !y.testBit i) := by
  have h := Nat.testBit_two_pow_sub_succ (n := 32) (x := y) (by simpa using hy) i
  have e : 2 ^ 32 - (y + 1) = 4294967295 - y := by omega
  rw [e] at h
  exact h
theorem testBit_big {x i : Nat} (hx : x < 4294967296) (hi : 32 ≤ i) : x.testBit i = false :=
  Nat.testBit_lt_two_pow (Nat.lt_of_lt_of_le hx (by have := Nat.pow_le_pow_right (n := 2) (by omega) hi; simpa using this))
theorem subB_iff {x y : Nat} (hy : y < 4294967296) : subB x y = true ↔ ∀ i, i < 32 → x.testBit i = true → y.testBit i = true := by
  unfold subB
  rw [decide_eq_true_iff]
  constructor
  · intro h i hi hxi
    have := congrArg (·.testBit i) h
    simp only [Nat.testBit_and, testBit_not hy, Nat.zero_testBit, hxi, hi, decide_true, Bool.true_and, Bool.not_eq_false'] at this
    exact this
  · intro h
    apply Nat.eq_of_testBit_eq
    intro i
    simp only [Nat.testBit_and, testBit_not hy, Nat.zero_testBit]
    by_cases hi : i < 32
    · cases hxi : x.testBit i with
      | false => simp
      | true => simp [h i hi hxi]
    · simp [hi]
theorem pow_lt {k : Nat} (hk : k < 32) : 2 ^ k < 4294967296 := Nat.lt_of_lt_of_le (Nat.pow_lt_pow_right (by omega) hk) (by decide)
theorem subB_pow {k a : Nat} (hk : k < 32) (ha : a < 4294967296) : subB (2 ^ k) a = a.testBit k := by
  cases h : a.testBit k with
  | true =>
    refine (subB_iff ha).2 (fun i _ hi => ?_)
    rw [Nat.testBit_two_pow] at hi
    have e : k = i := by simpa using hi
    rw [← e]; exact h
  | false =>
    rw [Bool.eq_false_iff]
    intro hs
    have := (subB_iff ha).1 hs k hk (by rw [Nat.testBit_two_pow]; simp)
    rw [h] at this; cases this

theorem subB_false {x y k : Nat} (hy : y < 4294967296) (hk : k < 32) (h1 : x.testBit k = true) (h2 : y.testBit k = false) : subB x y = false := by
  rw [Bool.eq_false_iff]
  intro h
  have := (subB_iff hy).1 h k hk h1
  rw [h2] at this; cases this
theorem testBit_div (a k : Nat) : a.testBit k = (((a : Int) / 2 ^ k).tmod 2 == 1) := by
  have e : ((a : Int) / 2 ^ k).tmod 2 = ((a / 2 ^ k % 2 : Nat) : Int) := by
    rw [show ((2 : Int) ^ k) = ((2 ^ k : Nat) : Int) by simp, ← Int.natCast_ediv, show (2 : Int) = ((2 : Nat) : Int) from rfl, ← Int.ofNat_tmod]
  rw [e, Nat.testBit_eq_decide_div_mod_eq]
  generalize a / 2 ^ k % 2 = z
  rw [Bool.eq_iff_iff, decide_eq_true_iff, beq_iff_eq]
  omega

theorem and_lt {a b : Nat} (ha : a < 4294967296) : a &&& b < 4294967296 := Nat.lt_of_le_of_lt Nat.and_le_left ha
theorem or_lt {a b : Nat} (ha : a < 4294967296) (hb : b < 4294967296) : a ||| b < 4294967296 := Nat.or_lt_two_pow (n := 32) (by simpa using ha) (by simpa using hb)
theorem sub_meet {a b c : Nat} (ha : a < 4294967296) (hb : b < 4294967296) : subB c (a &&& b) = (subB c a && subB c b) := by
  rw [Bool.eq_iff_iff, Bool.and_eq_true, subB_iff (and_lt ha), subB_iff ha, subB_iff hb]
  constructor
  · intro h
    exact ⟨fun i hi hc => by have := h i hi hc; simp [Nat.testBit_and] at this; exact this.1, fun i hi hc => by have := h i hi hc; simp [Nat.testBit_and] at this; exact this.2⟩
  · intro ⟨h1, h2⟩ i hi hc
    simp [Nat.testBit_and, h1 i hi hc, h2 i hi hc]
theorem sub_left {a b : Nat} (ha : a < 4294967296) : subB (a &&& b) a = true := by
  rw [subB_iff ha]; intro i _ h; simp [Nat.testBit_and] at h; exact h.1
theorem sub_right {a b : Nat} (hb : b < 4294967296) : subB (a &&& b) b = true := by
  rw [subB_iff hb]; intro i _ h; simp [Nat.testBit_and] at h; exact h.2
theorem sub_any (x y : Nat) (hx : x < 4294967296) (hy : y < 4294967296) (w : World) :
    Calls Try.prog 39 #[.int .u32 (x : Int), .int .u32 (y : Int)] w fun e w' => e = .returned (.bool (subB x y)) ∧ w' = w := by
  have hb : bits .andNot .u32 (x : Int) (y : Int) = ((x &&& (4294967295 - y) : Nat) : Int) := u32_andNot_nat x y hx hy
  obtain ⟨z, hz⟩ : ∃ z, x &&& (4294967295 - y) = z := ⟨_, rfl⟩
  have HZ : Hid (subB x y = ((z : Int) == 0)) := show _ = _ by
    unfold subB; rw [hz, Bool.eq_iff_iff]; simp
  rw [hz] at hb
  clear hz hx hy
  go_enter Try.func39, Try.ntmps39
  go_wp2
  go_ret
  exact ⟨by rw [HZ.out]; rfl, rfl⟩
theorem has_any (k a : Nat) (hk : k < 32) (ha : a < 4294967296) (w : World) :
    Calls Try.prog 39 #[.int .u32 (2 ^ k), .int .u32 (a : Int)] w fun e w' => e = .returned (.bool (a.testBit k)) ∧ w' = w := by
  have h := sub_any (2 ^ k) a (pow_lt hk) ha w
  rw [subB_pow hk ha] at h
  simpa using h

theorem ret_bool {a b : Bool} (h : a = b) : Ending.returned (.bool a) = .returned (.bool b) := by rw [h]

theorem refHas_any (a k : Nat) (hk : k < 32) (_ha : a < 4294967296) (w : World) :
    Calls Try.prog 52 #[.int .u32 (a : Int), .int .i64 (k : Int)] w fun e w' => e = .returned (.bool (a.testBit k)) ∧ w' = w := by
  have HB : Hid (a.testBit k = (((a : Int) / 2 ^ k).tmod 2 == 1)) := testBit_div a k
  go_enter Try.func52, Try.ntmps52
  go_wp2
  go_ret
  exact ⟨ret_bool (by rw [HB.out]), rfl⟩

set_option maxHeartbeats 400000 in
theorem refSub_any (a b : Nat) (ha : a < 4294967296) (hb : b < 4294967296) (w : World) :
    Calls Try.prog 41 #[.int .u32 (a : Int), .int .u32 (b : Int)] w fun e w' => e = .returned (.bool (subB a b)) ∧ w' = w := by
  go_enter Try.func41, Try.ntmps41
  go_wp2
  go_loop [5] (fun i => ∃ k : Nat, k ≤ 32 ∧ i = .int .i64 k ∧ Hid (∀ j, j < k → a.testBit j = true → b.testBit j = true)) (fun i => 32 - (intOf i).toNat)
  case atStart => exact ⟨0, Nat.zero_le _, rfl, fun j hj => absurd hj (Nat.not_lt_zero _)⟩
  case round =>
    obtain ⟨k, hk, rfl, hall⟩ := hrel
    by_cases hlt : k < 32
    · have c1 := refHas_any a k hlt ha
      have c2 := refHas_any b k hlt hb
      have HF : Hid (a.testBit k = true → b.testBit k = false → subB a b = false) := fun h1 h2 => subB_false hb hlt h1 h2
      have HT : Hid (¬ (a.testBit k = true ∧ b.testBit k = false) → ∀ j, j < k + 1 → a.testBit j = true → b.testBit j = true) := fun hn j hj h1 => by
        by_cases e : j = k
        · subst e
          cases h2 : b.testBit j with
          | true => rfl
          | false => exact absurd ⟨h1, h2⟩ hn
        · exact hall j (by omega) h1
      generalize a.testBit k = p at *
      generalize b.testBit k = q at *
      clear ha hb
      cases p with
      | false =>
        have HT2 : Hid (∀ j, j < k + 1 → a.testBit j = true → b.testBit j = true) := HT (by simp)
        clear HF HT
        go_wp2_with fail
        refine (c1 _).mono ?_
        rintro e w' ⟨rfl, rfl⟩
        go_wp2
        exact ⟨⟨k + 1, by omega, by go_num, HT2⟩, by simp [intOf]; omega⟩
      | true =>
        cases q with
        | false =>
          have HF2 : Hid (subB a b = false) := HF rfl rfl
          clear HF HT
          go_wp2_with fail
          refine (c1 _).mono ?_
          rintro e w' ⟨rfl, rfl⟩
          go_wp2_with fail
          refine (c2 _).mono ?_
          rintro e w' ⟨rfl, rfl⟩
          go_wp2
          go_ret
          exact ⟨ret_bool HF2.out.symm, rfl⟩
        | true =>
          have HT2 : Hid (∀ j, j < k + 1 → a.testBit j = true → b.testBit j = true) := HT (by simp)
          clear HF HT
          go_wp2_with fail
          refine (c1 _).mono ?_
          rintro e w' ⟨rfl, rfl⟩
          go_wp2_with fail
          refine (c2 _).mono ?_
          rintro e w' ⟨rfl, rfl⟩
          go_wp2
          exact ⟨⟨k + 1, by omega, by go_num, HT2⟩, by simp [intOf]; omega⟩
    · have HS : Hid (subB a b = true) := (subB_iff hb).2 (fun i hi => hall i (by omega))
      go_wp2
      go_ret
      exact ⟨ret_bool (by rw [HS.out]), rfl⟩

end Go.Proofs.Ytmccfcllehfebaa.R
