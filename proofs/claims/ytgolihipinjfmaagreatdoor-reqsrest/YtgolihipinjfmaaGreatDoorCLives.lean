/- Two calls that are one; what the laws' helper tells. -/
import Derived.Test.YtgolihipinjfmaaGreatDoorCGate
namespace Go.Proofs.YtgolihipinjfmaaGreatDoor.C
open Go Go.RowKit

theorem eq_two (d e : Int) (w : World) : (Op.equalIn 9999 35 (.agg #[.int .u32 d, .int .u32 e]) (.agg #[.int .u32 d, .int .u32 e])).run Tryz.prog w = .ok true w := by
  have u23 := Tryz.underlying34
  have a23 := Tryz.isAgg34
  have z23 := Tryz.sizeOf34
  rw [show (9999 : Nat) = 9998 + 1 from rfl, Op.equalIn]
  simp only [Sem.run_bind, run_underlying Tryz.underlying35, Result.andThen_ok]
  simp only [Std.Legacy.Range.forIn_eq_forIn_range', Std.Legacy.Range.size, Nat.sub_zero, Nat.add_sub_cancel, Nat.div_one, List.range'_succ, List.range'_zero, List.forIn_cons, List.forIn_nil]
  go_simp

theorem eq_call (a b : ByteArray) (c d e : Int) (w : World) : (Op.equalIn 10000 37 (.agg #[.string a, .string b, .int .i64 c, .int .u32 d, .int .u32 e]) (.agg #[.string a, .string b, .int .i64 c, .int .u32 d, .int .u32 e])).run Tryz.prog w = .ok true w := by
  have u3 := Tryz.underlying3
  have a3 := Tryz.isAgg3
  have z3 := Tryz.sizeOf3
  have u9 := Tryz.underlying9
  have a9 := Tryz.isAgg9
  have z9 := Tryz.sizeOf9
  have u23 := Tryz.underlying34
  have a23 := Tryz.isAgg34
  have z23 := Tryz.sizeOf34
  have u24 := Tryz.underlying35
  have a24 := Tryz.isAgg35
  have z24 := Tryz.sizeOf35
  have h2 := fun w => eq_two d e w
  have hS : Tryz.prog.underlying 37 = some (.struct (Tryz.prog.fieldsOf 37)) := by kernel_rfl
  have hp : Tryz.prog.stoodInHeld 37 = false := by kernel_rfl
  rw [show (10000 : Nat) = 9999 + 1 from rfl, run_equalIn_agg w 9999 37 _ _ hS hp]
  simp only [Program.fieldsOf, Tryz.underlying37]
  go_simp

end Go.Proofs.YtgolihipinjfmaaGreatDoor.C
