/- Sets of bits in an int: what masks come to, bit by bit. No program. -/
import Derived.Laws.BitsLemmas
import Derived.Laws.Entries
namespace Go.Proofs.YtgolihipinjfmaaGreatDoor
open Go

def bitI (x : Int) (i : Nat) : Bool := decide (x / 2 ^ i % 2 = 1)
def mBad (old mask : Int) : Bool := (List.range 64).any fun i => (decide (i < 3) || decide (6 < i)) && (bitI old i || bitI mask i)
def mMore (old mask : Int) : Bool := (List.range 64).any fun i => bitI mask i && !bitI old i

theorem i64_and1 (n : Int) : bits .and .i64 n 1 = n % 2 := by
  have h1 : (BitVec.ofInt 64 1).toNat = 2 ^ 1 - 1 := by decide
  have key : (BitVec.ofInt 64 n &&& BitVec.ofInt 64 1).toNat = (n % ((2 ^ 64 : Nat) : Int)).toNat % 2 ^ 1 := by
    rw [BitVec.toNat_and, BitVec.toNat_ofInt, h1, Nat.and_two_pow_sub_one_eq_mod]
  show IntKind.i64.wrap ((BitVec.ofInt 64 n &&& BitVec.ofInt 64 1).toNat : Nat) = n % 2
  rw [key, IntKind.wrap_i64]
  omega

theorem ofInt_wrap (v : BitVec 64) : BitVec.ofInt 64 (IntKind.i64.wrap (v.toNat : Nat)) = v := by
  apply BitVec.eq_of_toNat_eq
  rw [BitVec.toNat_ofInt, IntKind.wrap_i64]
  have := v.isLt
  omega

theorem wrap_zero (v : BitVec 64) : IntKind.i64.wrap (v.toNat : Nat) = 0 ↔ v = 0#64 := by
  rw [IntKind.wrap_i64]
  have := v.isLt
  constructor
  · intro h
    apply BitVec.eq_of_toNat_eq
    simp
    omega
  · rintro rfl; decide

theorem bit_ofInt (x : Int) (i : Nat) (hi : i < 64) : (BitVec.ofInt 64 x).getLsbD i = bitI x i := by
  rw [← BitVec.testBit_toNat, BitVec.toNat_ofInt, Nat.testBit_eq_decide_div_mod_eq]
  unfold bitI
  refine decide_eq_decide.2 ?_
  have hr0 : 0 ≤ x % ((2 ^ 64 : Nat) : Int) := Int.emod_nonneg _ (by decide)
  obtain ⟨r, hr⟩ := Int.eq_ofNat_of_zero_le hr0
  have hx : x = (r : Int) + 2 ^ i * (2 * (2 ^ (63 - i) * (x / ((2 ^ 64 : Nat) : Int)))) := by
    have h1 := Int.emod_add_mul_ediv x ((2 ^ 64 : Nat) : Int)
    have h2 : (((2 ^ 64 : Nat) : Int)) = 2 ^ i * (2 * 2 ^ (63 - i)) := by
      rw [show (2 : Int) * 2 ^ (63 - i) = 2 ^ (63 - i + 1) by rw [Int.pow_succ]; omega, ← Int.pow_add]
      rw [show i + (63 - i + 1) = 64 by omega]; rfl
    rw [hr] at h1
    generalize x / ((2 ^ 64 : Nat) : Int) = q at h1 ⊢
    rw [← h1, h2]
    simp only [Int.mul_assoc]
  have hd : x / 2 ^ i = (r : Int) / 2 ^ i + 2 * (2 ^ (63 - i) * (x / ((2 ^ 64 : Nat) : Int))) := by
    conv => lhs; rw [hx]
    exact Int.add_mul_ediv_left _ _ (Int.ne_of_gt (Int.pow_pos (by decide)))
  rw [hr, hd]
  have h3 : ((r : Int)).toNat = r := by simp
  rw [h3]
  have h4 : (r : Int) / 2 ^ i = ((r / 2 ^ i : Nat) : Int) := by
    rw [Int.natCast_ediv]; simp
  rw [h4]
  omega

theorem bits_zero_iff (v : BitVec 64) : v = 0#64 ↔ ∀ i, i < 64 → v.getLsbD i = false := by
  constructor
  · rintro rfl i _; simp
  · intro h
    apply BitVec.eq_of_getLsbD_eq
    intro i hi
    rw [h i hi]; simp

theorem less_iff (old mask : Int) : bits .andNot .i64 mask old = 0 ↔ mMore old mask = false := by
  show IntKind.i64.wrap ((BitVec.ofInt 64 mask &&& ~~~BitVec.ofInt 64 old).toNat : Nat) = 0 ↔ _
  rw [wrap_zero, bits_zero_iff]
  simp only [mMore, List.any_eq_false, List.mem_range, Bool.not_eq_true]
  constructor
  · intro h i hi
    have := h i hi
    rw [BitVec.getLsbD_and, BitVec.getLsbD_not, bit_ofInt _ _ hi, bit_ofInt _ _ hi] at this
    simpa [hi] using this
  · intro h i hi
    rw [BitVec.getLsbD_and, BitVec.getLsbD_not, bit_ofInt _ _ hi, bit_ofInt _ _ hi]
    simpa [hi] using h i hi

theorem c120 : ∀ i : Fin 64, (BitVec.ofInt 64 120).getLsbD i.val = !(decide (i.val < 3) || decide (6 < i.val)) := by decide

theorem bad_iff (old mask : Int) : bits .andNot .i64 (bits .or .i64 mask old) 120 = 0 ↔ mBad old mask = false := by
  show IntKind.i64.wrap ((BitVec.ofInt 64 (IntKind.i64.wrap ((BitVec.ofInt 64 mask ||| BitVec.ofInt 64 old).toNat : Nat)) &&& ~~~BitVec.ofInt 64 120).toNat : Nat) = 0 ↔ _
  rw [wrap_zero, bits_zero_iff, ofInt_wrap]
  simp only [mBad, List.any_eq_false, List.mem_range, Bool.not_eq_true]
  constructor
  · intro h i hi
    have := h i hi
    rw [BitVec.getLsbD_and, BitVec.getLsbD_not, BitVec.getLsbD_or, bit_ofInt _ _ hi, bit_ofInt _ _ hi, c120 ⟨i, hi⟩] at this
    rw [Bool.and_comm, Bool.or_comm]
    simpa [hi] using this
  · intro h i hi
    have := h i hi
    rw [BitVec.getLsbD_and, BitVec.getLsbD_not, BitVec.getLsbD_or, bit_ofInt _ _ hi, bit_ofInt _ _ hi, c120 ⟨i, hi⟩]
    rw [Bool.and_comm, Bool.or_comm] at this
    simpa [hi] using this

end Go.Proofs.YtgolihipinjfmaaGreatDoor
