/- What the reference's Gate answers. -/
import Derived.Test.YtelbmnjcejajiaaDoorCGate
import Derived.Test.YtelbmnjcejajiaaDoorCRefGet
namespace Go.Proofs.YtelbmnjcejajiaaDoor.C
open Go Go.RowKit

set_option maxRecDepth 100000 in
theorem rgate_go (no g dir : Int) (cap : Bool) (c0 c1 : ByteArray) (c3 c4 : Int) (ok : Bool) (w : World)
    (hget : ∀ W, Below w.heap.size w W → Calls Tryd.prog 9 #[.int .i64 no] W fun e W' => e = .returned (.tuple #[.agg #[.string c0, .string c1, .int .i64 g, .int .u32 c3, .int .u32 c4], .bool ok]) ∧ Below W.heap.size W W') :
    Calls Tryd.prog 16 #[.int .i64 no, .int .i64 dir, .bool cap] w fun e W => e = .returned (.int .i64 (gateE g dir cap)) ∧ Below w.heap.size w W := by
  have hcall := hget w (Below.refl _ _)
  clear hget
  go_enter Tryd.func16, Tryd.ntmps16
  go_wp2_with (go_at_call 9; refine hcall.mono ?_; rintro e w' ⟨rfl, hB⟩)
  all_goals
    clear hcall
    go_ret
    refine ⟨?_, hB.alloc hB.size _⟩
    simp [gateE, gateB, *]

theorem rgate_at (k : Fin 64) (dir : Int) (cap : Bool) (w : World) : Calls Tryd.prog 16 #[.int .i64 ((k.val : Int) + 1), .int .i64 dir, .bool cap] w fun e W =>
    e = .returned (.int .i64 (gateE (cgate k) dir cap)) ∧ Below w.heap.size w W :=
  rgate_go _ (cgate k) dir cap (byt (cname k)) (byt (cshape k)) (cneed0 k) (cneed1 k) true w fun W _ => rget_at k W
theorem rgate_no (no dir : Int) (cap : Bool) (hno : ∀ k : Fin 64, (k.val : Int) + 1 ≠ no) (w : World) : Calls Tryd.prog 16 #[.int .i64 no, .int .i64 dir, .bool cap] w fun e W =>
    e = .returned (.int .i64 0) ∧ Below w.heap.size w W := by
  have := rgate_go no 0 dir cap ⟨#[]⟩ ⟨#[]⟩ 0 0 false w fun W _ => rget_no no hno W
  rwa [gateE_no] at this
theorem rgate_any (no dir : Int) (cap : Bool) (w : World) : Calls Tryd.prog 16 #[.int .i64 no, .int .i64 dir, .bool cap] w fun e W =>
    ∃ E, e = .returned (.int .i64 E) ∧ gateF no dir cap E ∧ Below w.heap.size w W := by
  by_cases h : ∃ k : Fin 64, (k.val : Int) + 1 = no
  · obtain ⟨k, rfl⟩ := h
    exact (rgate_at k dir cap w).mono fun e W hp => ⟨_, hp.1, .inl ⟨k, rfl, rfl⟩, hp.2⟩
  · exact (rgate_no no dir cap (fun k hk => h ⟨k, hk⟩) w).mono fun e W hp => ⟨_, hp.1, .inr ⟨fun k hk => h ⟨k, hk⟩, rfl⟩, hp.2⟩

end Go.Proofs.YtelbmnjcejajiaaDoor.C
