/- What white.Mask and the reference's Mask answer, at every pair of ints. -/
import Derived.Test.YthicbobddopcpaaDoorWBits
import Derived.Test.YthicbobddopcpaaDoorWCan
namespace Go.Proofs.YthicbobddopcpaaDoor
open Go Go.RowKit

def maskV (old mask : Int) : Int := if mBad old mask then 0 else if mMore old mask then 0 else mask
def maskE (old mask : Int) : Int := if mBad old mask then 22 else if mMore old mask then 93 else 0

set_option maxRecDepth 100000 in
set_option maxHeartbeats 1000000 in
theorem mask_any (old mask : Int) (w : World) :
    Calls Tryd.prog 25 #[.int .i64 old, .int .i64 mask] w fun e w' => e = .returned (.tuple #[.int .i64 (maskV old mask), .int .i64 (maskE old mask)]) ∧ w' = w := by
  have h1 := bad_iff old mask
  have h2 := less_iff old mask
  unfold maskV maskE
  generalize mBad old mask = b at *
  generalize mMore old mask = m at *
  generalize hy : bits .andNot .i64 (bits .or .i64 mask old) 120 = y at h1
  generalize hz : bits .andNot .i64 mask old = z at h2
  cases b with
  | true =>
    have hq : (y == 0) = false := beq_eq_false_iff_ne.2 (fun e => by simpa using h1.1 e)
    have hq2 : (y != 0) = true := by simp [bne, hq]
    clear h1 h2 hz
    go_enter Tryd.func25, Tryd.ntmps25
    go_wp2
    go_ret2
    exact ⟨rfl, rfl⟩
  | false =>
    have hy0 : y = 0 := h1.2 rfl
    cases m with
    | true =>
      have hq : (z == 0) = false := beq_eq_false_iff_ne.2 (fun e => by simpa using h2.1 e)
      have hq2 : (z != 0) = true := by simp [bne, hq]
      clear h1 h2
      subst hy0
      go_enter Tryd.func25, Tryd.ntmps25
      go_wp2
      go_ret2
      exact ⟨rfl, rfl⟩
    | false =>
      have hz0 : z = 0 := h2.2 rfl
      clear h1 h2
      subst hy0 hz0
      go_enter Tryd.func25, Tryd.ntmps25
      go_wp2
      go_ret2
      exact ⟨rfl, rfl⟩

set_option maxRecDepth 100000 in
set_option maxHeartbeats 1000000 in
theorem bit_any (x : Int) (i : Nat) (hi : i < 64) (w : World) :
    Calls Tryd.prog 42 #[.int .i64 x, .int .i64 (i : Int)] w fun e w' => e = .returned (.bool (bitI x i)) ∧ w' = w := by
  have ha := i64_and1 (x / 2 ^ i)
  have hr : ((x / 2 ^ i % 2) == 1) = bitI x i := by unfold bitI; rfl
  have hsh := shift_shr .i64 .u64 x (i : Int) (by omega) (by show (i : Int) ≤ 64; omega)
  rw [show ((i : Int)).toNat = i by simp] at hsh
  generalize bitI x i = r at *
  have hw : IntKind.u64.wrap (i : Int) = i := by rw [IntKind.wrap_u64]; omega
  go_enter Tryd.func42, Tryd.ntmps42
  go_wp2
  go_ret
  exact ⟨rfl, rfl⟩

end Go.Proofs.YthicbobddopcpaaDoor
