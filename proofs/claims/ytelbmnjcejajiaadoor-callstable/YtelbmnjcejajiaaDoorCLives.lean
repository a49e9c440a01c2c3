/- Two calls that are one; what the laws' helper tells. -/
import Derived.Test.YtelbmnjcejajiaaDoorCGate
namespace Go.Proofs.YtelbmnjcejajiaaDoor.C
open Go Go.RowKit

theorem eq_two (d e : Int) (w : World) : (Op.equalIn 9999 24 (.agg #[.int .u32 d, .int .u32 e]) (.agg #[.int .u32 d, .int .u32 e])).run Tryd.prog w = .ok true w := by
  have u23 := Tryd.underlying23
  have a23 := Tryd.isAgg23
  have z23 := Tryd.sizeOf23
  rw [show (9999 : Nat) = 9998 + 1 from rfl, Op.equalIn]
  simp only [Sem.run_bind, run_underlying Tryd.underlying24, Result.andThen_ok]
  simp only [Std.Legacy.Range.forIn_eq_forIn_range', Std.Legacy.Range.size, Nat.sub_zero, Nat.add_sub_cancel, Nat.div_one, List.range'_succ, List.range'_zero, List.forIn_cons, List.forIn_nil]
  go_simp

theorem eq_call (a b : ByteArray) (c d e : Int) (w : World) : (Op.equalIn 10000 26 (.agg #[.string a, .string b, .int .i64 c, .int .u32 d, .int .u32 e]) (.agg #[.string a, .string b, .int .i64 c, .int .u32 d, .int .u32 e])).run Tryd.prog w = .ok true w := by
  have u3 := Tryd.underlying3
  have a3 := Tryd.isAgg3
  have z3 := Tryd.sizeOf3
  have u9 := Tryd.underlying9
  have a9 := Tryd.isAgg9
  have z9 := Tryd.sizeOf9
  have u23 := Tryd.underlying23
  have a23 := Tryd.isAgg23
  have z23 := Tryd.sizeOf23
  have u24 := Tryd.underlying24
  have a24 := Tryd.isAgg24
  have z24 := Tryd.sizeOf24
  have h2 := fun w => eq_two d e w
  have hS : Tryd.prog.underlying 26 = some (.struct (Tryd.prog.fieldsOf 26)) := by kernel_rfl
  have hp : Tryd.prog.stoodInHeld 26 = false := by kernel_rfl
  rw [show (10000 : Nat) = 9999 + 1 from rfl, run_equalIn_agg w 9999 26 _ _ hS hp]
  simp only [Program.fieldsOf, Tryd.underlying26]
  go_simp

set_option maxRecDepth 100000 in
set_option maxHeartbeats 2000000 in
theorem lives_any (w : World) (hs : Sp w) (hn : Nm w) : Calls Tryd.prog 12 #[] w fun e W => e = .returned (.bool true) ∧ Below w.heap.size w W := by
  have cG : Calls Tryd.prog 8 #[.int .i64 3] w fun e W => e = .returned (.tuple #[.agg #[.string ⟨#[114, 101, 97, 100]⟩, .string ⟨#[102, 110]⟩, .int .i64 0, .int .u32 1, .int .u32 0], .bool true]) ∧ Below w.heap.size w W := by
    have hv : callV ⟨2, by decide⟩ = .agg #[.string ⟨#[114, 101, 97, 100]⟩, .string ⟨#[102, 110]⟩, .int .i64 0, .int .u32 1, .int .u32 0] := by kernel_rfl
    have := get_at ⟨2, by decide⟩ w hs hn
    rw [hv] at this
    exact this
  have cE : ∀ W, Below w.heap.size w W → Calls Tryd.prog 15 #[.int .i64 33, .int .i64 (-100), .bool true] W fun e W' => e = .returned (.int .i64 94) ∧ Below W.heap.size W W' := fun W hb => by
    have hv : gateE (cgate ⟨32, by decide⟩) (-100) true = 94 := by decide +kernel
    have := gate_at ⟨32, by decide⟩ (-100) true W (hs.below hb) (hn.below hb)
    rw [hv] at this
    exact this
  have heq := fun w => eq_call ⟨#[114, 101, 97, 100]⟩ ⟨#[102, 110]⟩ 0 1 0 w
  go_enter Tryd.func12, Tryd.ntmps12
  go_wp2_with (first | (go_at_call 8; refine cG.mono ?_; rintro e W1 ⟨rfl, hb1⟩; have hb2 := hb1.alloc hb1.size (.cells #[.string ⟨#[114, 101, 97, 100]⟩, .string ⟨#[102, 110]⟩, .int .i64 0, .int .u32 1, .int .u32 0] 26)) | (go_at_call 15; refine (cE _ hb2).mono ?_; rintro e W3 ⟨rfl, hb3⟩))
  go_ret
  exact ⟨rfl, hb2.trans (hb3.mono hb2.size)⟩

end Go.Proofs.YtelbmnjcejajiaaDoor.C
