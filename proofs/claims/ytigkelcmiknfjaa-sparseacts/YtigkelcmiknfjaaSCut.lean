/- Package sparse: Truncate. -/
import Derived.Test.YtigkelcmiknfjaaSLay
namespace Go.Proofs.Ytigkelcmiknfjaa
open Go Go.RowKit Go.Maps

/-- The blocks that there are while a file is cut; those that stay. -/
def hl (h : Nat → Bool) (n : Nat) (left : Lit → Bool) : Nat → Bool := fun k => h k && (decide (64 * k < n) || left (ky k))
def cutH (h : Nat → Bool) (n : Nat) : Nat → Bool := fun k => h k && decide (64 * k < n)
def onlyC (C : Nat → UInt8) (h : Nat → Bool) : Nat → UInt8 := fun i => if h (i / 64) then C i else 0
def cutC (C : Nat → UInt8) (n : Nat) : Nat → UInt8 := fun i => if i < n then C i else 0
section
variable {C : Nat → UInt8} {h : Nat → Bool} {n k : Nat} {left : Lit → Bool} {D : DataW Nat}
theorem hl_start (m : MapIs D h) : hl h n (Maps.has D) = h := by
  funext j
  simp only [hl]
  cases hj : h j
  · rfl
  · rw [(m.held j hj).1]; simp
theorem hl_end (hz : ∀ kl, left kl = false) : hl h n left = cutH h n := by
  funext j
  simp [hl, cutH, hz]
theorem strike_other {j : Nat} (e : j ≠ k) : (left (ky j) && !(ky j).sameKey (ky k)) = left (ky j) := by rw [sameKey_ne (ky_ne e)]; simp
theorem hl_struck (hk : ¬ 64 * k < n) : hl h n (fun z => left z && !z.sameKey (ky k)) = upd (hl h n left) k false := by
  funext j
  by_cases e : j = k
  · subst e
    rw [upd_same]
    simp [hl, hk, WideAt.sameKey_self (ky_key j)]
  · rw [upd_other false e]
    simp only [hl]
    rw [strike_other e]
theorem hl_stays (hk : 64 * k < n) : hl h n (fun z => left z && !z.sameKey (ky k)) = hl h n left := by
  funext j
  by_cases e : j = k
  · subst e
    simp [hl, hk]
  · simp only [hl]
    rw [strike_other e]
theorem onlyC_id (hz : ∀ i, h (i / 64) = false → C i = 0) : onlyC C h = C := by
  funext i
  simp only [onlyC]
  split
  · rfl
  · rename_i e
    exact (hz i (by simpa using e)).symm
theorem onlyC_upd {g : Nat → Bool} : ∀ i, i / 64 ≠ k → onlyC C (upd g k false) i = onlyC C g i := fun i hi => by simp only [onlyC]; rw [upd_other false hi]
theorem onlyC_gone {g : Nat → Bool} : ∀ i, i / 64 = k → onlyC C (upd g k false) i = 0 := fun i hi => by simp only [onlyC]; rw [hi, upd_same]; rfl
/-- All that is cut off is gone with its block. -/
theorem onlyC_none (hz : ∀ i, h (i / 64) = false → C i = 0) (hk : cutH h n (n / 64) = false) : onlyC C (cutH h n) = cutC C n := by
  funext i
  simp only [onlyC, cutC]
  by_cases hi : i < n
  · rw [if_pos hi]
    cases hh : h (i / 64)
    · rw [hz i hh]; simp
    · rw [if_pos]
      simp only [cutH, hh]
      simp; omega
  · rw [if_neg hi, if_neg]
    intro hc
    by_cases e : i / 64 = n / 64
    · rw [e, hk] at hc; cases hc
    · simp only [cutH, Bool.and_eq_true, decide_eq_true_eq] at hc
      omega
/-- The rest of the last block is cleared. -/
theorem cutC_other (hz : ∀ i, h (i / 64) = false → C i = 0) {i : Nat} (hi : i / 64 ≠ n / 64) : cutC C n i = onlyC C (cutH h n) i := by
  simp only [onlyC, cutC]
  by_cases hi : i < n
  · rw [if_pos hi]
    cases hh : h (i / 64)
    · rw [hz i hh]; simp
    · rw [if_pos]
      simp only [cutH, hh]
      simp; omega
  · rw [if_neg hi, if_neg]
    intro hc
    simp only [cutH, Bool.and_eq_true, decide_eq_true_eq] at hc
    omega
theorem cutC_blk (hk : cutH h n (n / 64) = true) : blkB (cutC C n) (n / 64) = (blkB (onlyC C (cutH h n)) (n / 64)).take (n % 64) ++ List.replicate (64 - n % 64) 0 := by
  have hl1 : ((blkB (onlyC C (cutH h n)) (n / 64)).take (n % 64)).length = n % 64 := by rw [List.length_take, blkB_len]; omega
  refine List.ext_getElem? fun j => ?_
  by_cases hj : j < 64
  · rw [blkB_get hj]
    have e : (64 * (n / 64) + j) / 64 = n / 64 := by omega
    by_cases h1 : j < n % 64
    · rw [List.getElem?_append_left (by omega), List.getElem?_take_of_lt h1, blkB_get hj]
      simp only [cutC, onlyC]
      rw [if_pos (by omega), e, if_pos hk]
    · rw [List.getElem?_append_right (by omega), hl1, List.getElem?_replicate, if_pos (by omega)]
      simp only [cutC]
      rw [if_neg (by omega)]
  · rw [List.getElem?_eq_none (by rw [blkB_len]; omega), List.getElem?_eq_none]
    simp [blkB_len]; omega
end

theorem trunc_nil (n : Int) (w : World) : Calls Try.prog 16 #[.pointer none, .int .i64 n] w fun e w' => e = .returned (.tuple #[.int .i64 0, .int .i64 22]) ∧ w' = w := by
  go_enter Try.func16, Try.ntmps16
  go_wp2
  go_ret2
  exact ⟨rfl, rfl⟩
def cutE (n : Int) : Nat := if n < 0 then 22 else if 65536 < n then 27 else 0
theorem trunc_bad (fb : Nat) (n : Int) (w : World) (he : cutE n ≠ 0) : Calls Try.prog 16 #[.pointer (some ⟨fb, 0, none⟩), .int .i64 n] w fun e w' => e = .returned (.tuple #[.int .i64 0, .int .i64 (cutE n : Nat)]) ∧ w' = w := by
  unfold cutE at *
  by_cases h1 : n < 0
  · rw [if_pos h1]
    clear he
    go_enter Try.func16, Try.ntmps16
    go_wp2
    go_ret2
    exact ⟨rfl, rfl⟩
  rw [if_neg h1] at he ⊢
  by_cases h2 : 65536 < n
  · rw [if_pos h2]
    clear he
    go_enter Try.func16, Try.ntmps16
    go_wp2
    go_ret2
    exact ⟨rfl, rfl⟩
  · rw [if_neg h2] at he
    exact absurd rfl he

end Go.Proofs.Ytigkelcmiknfjaa
