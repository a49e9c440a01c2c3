/- More facts on the plain functions. -/
import Derived.Test.YtndnpcegofbbaaaDoorPlain
namespace Go.Proofs.YtndnpcegofbbaaaDoor
open Go

theorem subB_false {x y k : Nat} (hy : y < 4294967296) (hk : k < 32) (h1 : x.testBit k = true) (h2 : y.testBit k = false) : subB x y = false := by
  rw [Bool.eq_false_iff]
  intro h
  have := (subB_iff hy).1 h k hk h1
  rw [h2] at this; cases this
theorem testBit_div (a k : Nat) : a.testBit k = (((a : Int) / 2 ^ k).tmod 2 == 1) := by
  have e : ((a : Int) / 2 ^ k).tmod 2 = ((a / 2 ^ k % 2 : Nat) : Int) := by
    rw [show ((2 : Int) ^ k) = ((2 ^ k : Nat) : Int) by simp, ← Int.natCast_ediv, show (2 : Int) = ((2 : Nat) : Int) from rfl, ← Int.ofNat_tmod]
  rw [e, Nat.testBit_eq_decide_div_mod_eq]
  generalize a / 2 ^ k % 2 = z
  rw [Bool.eq_iff_iff, decide_eq_true_iff, beq_iff_eq]
  omega

/-- A set by truths, the first one lowest. -/
def ofL : List Bool → Nat
  | [] => 0
  | x :: r => 2 * ofL r + x.toNat
theorem ofL_lt : ∀ l : List Bool, ofL l < 2 ^ l.length
  | [] => by simp [ofL]
  | x :: r => by
    have := ofL_lt r
    have hx : x.toNat ≤ 1 := by cases x <;> simp
    simp only [ofL, List.length_cons, Nat.pow_succ]
    omega
theorem ofL_testBit : ∀ (l : List Bool) (i : Nat), (ofL l).testBit i = l.getD i false
  | [], i => by simp [ofL]
  | x :: r, 0 => by
    simp only [ofL, Nat.testBit_zero, List.getD_cons_zero]
    cases x <;> simp <;> omega
  | x :: r, i + 1 => by
    have ih := ofL_testBit r i
    have e : ofL (x :: r) / 2 = ofL r := by
      have hx : x.toNat ≤ 1 := by cases x <;> simp
      simp only [ofL]; omega
    rw [Nat.testBit_succ, e, ih, List.getD_cons_succ]
theorem ofL_drop {l : List Bool} {i : Nat} (hi : i < l.length) : ofL (l.drop i) = 2 * ofL (l.drop (i + 1)) + (l.getD i false).toNat := by
  rw [List.drop_eq_getElem_cons hi]
  simp [ofL, hi]
theorem ofL_map (f : Nat → Bool) (a : Nat) (ha : a < 4294967296) (h : ∀ i, i < 32 → a.testBit i = f i) : ofL ((List.range 32).map f) = a := by
  apply Nat.eq_of_testBit_eq
  intro i
  rw [ofL_testBit]
  by_cases hi : i < 32
  · rw [h i hi]; simp [List.getD, hi]
  · rw [testBit_big ha (by omega)]; simp [List.getD, hi]

end Go.Proofs.YtndnpcegofbbaaaDoor
