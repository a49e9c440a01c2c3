/- Flags of open, of no program: which can be, and which rights they need. -/
import Derived.Test.YtgolihipinjfmaaGreatDoorWBits
namespace Go.Proofs.YtgolihipinjfmaaGreatDoor.C
open Go

/-- A bit that is none of those that flags may have. -/
def odd (f : Int) : Bool := (List.range 64).any fun i => bitI f i && decide (3 < i) && (decide (i < 8) || decide (11 < i)) && i != 17
def flagB (f : Int) : Bool := odd f || (bitI f 0 && bitI f 1) || (bitI f 10 && !bitI f 0 && !bitI f 1) || (bitI f 9 && bitI f 17)
def flagE (f : Int) : Int := if flagB f then 22 else 0
def flagR (f : Int) : Int := if flagB f then 0 else 128 + (if bitI f 0 then 0 else 1) + (if bitI f 0 || bitI f 1 then 2 else 0) + (if bitI f 9 then 16 else 0) + (if bitI f 10 then 64 else 0)
theorem c_known : ∀ i : Fin 64, (BitVec.ofInt 64 134927).getLsbD i.val = !(decide (3 < i.val) && (decide (i.val < 8) || decide (11 < i.val)) && i.val != 17) := by decide
/-- The bits beyond the known ones, by one mask. -/
theorem odd_iff (f : Int) : bits .andNot .i64 f 134927 = 0 ↔ odd f = false := by
  show IntKind.i64.wrap ((BitVec.ofInt 64 f &&& ~~~BitVec.ofInt 64 134927).toNat : Nat) = 0 ↔ _
  rw [wrap_zero, bits_zero_iff]
  simp only [odd, List.any_eq_false, List.mem_range, Bool.not_eq_true]
  constructor
  · intro h i hi
    have := h i hi
    rw [BitVec.getLsbD_and, BitVec.getLsbD_not, bit_ofInt _ _ hi, c_known ⟨i, hi⟩] at this
    cases hb : bitI f i with
    | false => rfl
    | true =>
      rw [hb] at this
      simpa [hi] using this
  · intro h i hi
    have := h i hi
    rw [BitVec.getLsbD_and, BitVec.getLsbD_not, bit_ofInt _ _ hi, c_known ⟨i, hi⟩]
    cases hb : bitI f i with
    | false => rfl
    | true =>
      rw [hb] at this
      simpa [hi] using this
/-- What a mask of some bits leaves: nothing, if none of them is there. -/
theorem and_zero (f m : Int) : bits .and .i64 f m = 0 ↔ ∀ i, i < 64 → (bitI f i && bitI m i) = false := by
  show IntKind.i64.wrap ((BitVec.ofInt 64 f &&& BitVec.ofInt 64 m).toNat : Nat) = 0 ↔ _
  rw [wrap_zero, bits_zero_iff]
  constructor
  · intro h i hi
    have := h i hi
    rwa [BitVec.getLsbD_and, bit_ofInt _ _ hi, bit_ofInt _ _ hi] at this
  · intro h i hi
    rw [BitVec.getLsbD_and, bit_ofInt _ _ hi, bit_ofInt _ _ hi]
    exact h i hi
theorem one_bit : ∀ k : Fin 63, ∀ i : Fin 64, bitI (2 ^ k.val) i.val = decide (i.val = k.val) := by
  intro k i
  rw [← bit_ofInt _ _ i.isLt]
  revert k i
  decide
/-- One bit by its mask. -/
theorem bit_iff (f : Int) (k : Nat) (hk : k < 63) : bits .and .i64 f (2 ^ k) = 0 ↔ bitI f k = false := by
  rw [and_zero]
  constructor
  · intro h
    have := h k (by omega)
    rw [one_bit ⟨k, hk⟩ ⟨k, by omega⟩, decide_eq_true rfl, Bool.and_true] at this
    exact this
  · intro h i hi
    rw [one_bit ⟨k, hk⟩ ⟨i, hi⟩]
    by_cases e : i = k
    · subst e; rw [h]; rfl
    · rw [decide_eq_false e, Bool.and_false]
theorem two_bits (f : Int) : bits .and .i64 f 3 = f % 4 := by
  have h1 : (BitVec.ofInt 64 3).toNat = 2 ^ 2 - 1 := by decide
  have key : (BitVec.ofInt 64 f &&& BitVec.ofInt 64 3).toNat = (f % ((2 ^ 64 : Nat) : Int)).toNat % 2 ^ 2 := by
    rw [BitVec.toNat_and, BitVec.toNat_ofInt, h1, Nat.and_two_pow_sub_one_eq_mod]
  show IntKind.i64.wrap ((BitVec.ofInt 64 f &&& BitVec.ofInt 64 3).toNat : Nat) = f % 4
  rw [key, IntKind.wrap_i64]
  omega
theorem low_bits (f : Int) : bitI f 0 = decide (f % 2 = 1) ∧ bitI f 1 = decide (f / 2 % 2 = 1) := by
  unfold bitI
  exact ⟨by rw [Int.pow_zero, Int.ediv_one], rfl⟩

end Go.Proofs.YtgolihipinjfmaaGreatDoor.C
