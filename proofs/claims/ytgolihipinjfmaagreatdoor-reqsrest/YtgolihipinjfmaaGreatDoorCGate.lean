/- What calls.Gate answers, for every number, directory and mode. -/
import Derived.Test.YtgolihipinjfmaaGreatDoorCGet
namespace Go.Proofs.YtgolihipinjfmaaGreatDoor.C
open Go Go.RowKit Go.Shelf

/-- Whether a call is refused. -/
def gateB (g dir : Int) (cap : Bool) : Bool := cap && (g == 1 || (g == 2 && dir == -100))
def gateE (g dir : Int) (cap : Bool) : Int := if gateB g dir cap then 94 else 0

set_option maxRecDepth 100000 in
theorem gate_go (no g dir : Int) (cap : Bool) (c0 c1 : ByteArray) (c3 c4 : Int) (ok : Bool) (w : World)
    (hget : ∀ W, Below w.heap.size w W → Calls Tryz.prog 20 #[.int .i64 no] W fun e W' => e = .returned (.tuple #[.agg #[.string c0, .string c1, .int .i64 g, .int .u32 c3, .int .u32 c4], .bool ok]) ∧ Below W.heap.size W W') :
    Calls Tryz.prog 30 #[.int .i64 no, .int .i64 dir, .bool cap] w fun e W => e = .returned (.int .i64 (gateE g dir cap)) ∧ Below w.heap.size w W := by
  have hcall := hget w (Below.refl _ _)
  clear hget
  go_enter Tryz.func30, Tryz.ntmps30
  go_wp2_with (go_at_call 20; refine hcall.mono ?_; rintro e w' ⟨rfl, hB⟩)
  all_goals
    clear hcall
    go_ret
    refine ⟨?_, hB.alloc hB.size _⟩
    simp [gateE, gateB, *]

def gateF (no dir : Int) (cap : Bool) (E : Int) : Prop := (∃ k : Fin 64, (k.val : Int) + 1 = no ∧ E = gateE (cgate k) dir cap) ∨ ((∀ k : Fin 64, (k.val : Int) + 1 ≠ no) ∧ E = 0)
theorem gateF_one {no dir : Int} {cap : Bool} {E E' : Int} (h : gateF no dir cap E) (h' : gateF no dir cap E') : E = E' := by
  rcases h with ⟨k, hk, rfl⟩ | ⟨hn, rfl⟩ <;> rcases h' with ⟨j, hj, rfl⟩ | ⟨hm, rfl⟩
  · obtain rfl : j = k := Fin.ext (by omega)
    rfl
  · exact absurd hk (hm k)
  · exact absurd hj (hn j)
  · rfl
theorem gateF_off {no dir E : Int} (h : gateF no dir false E) : E = 0 := by
  rcases h with ⟨k, _, rfl⟩ | ⟨_, rfl⟩ <;> rfl
theorem gateE_no (dir : Int) (cap : Bool) : gateE 0 dir cap = 0 := by simp [gateE, gateB]

theorem gate_at (k : Fin 64) (dir : Int) (cap : Bool) (w : World) (hs : Sp w) (hn : Nm w) : Calls Tryz.prog 30 #[.int .i64 ((k.val : Int) + 1), .int .i64 dir, .bool cap] w fun e W =>
    e = .returned (.int .i64 (gateE (cgate k) dir cap)) ∧ Below w.heap.size w W :=
  gate_go _ (cgate k) dir cap (byt (cname k)) (byt (cshape k)) (cneed0 k) (cneed1 k) true w fun W hb => get_at k W (hs.below hb) (hn.below hb)
theorem gate_no (no dir : Int) (cap : Bool) (hno : ∀ k : Fin 64, (k.val : Int) + 1 ≠ no) (w : World) (hs : Sp w) : Calls Tryz.prog 30 #[.int .i64 no, .int .i64 dir, .bool cap] w fun e W =>
    e = .returned (.int .i64 0) ∧ Below w.heap.size w W := by
  have := gate_go no 0 dir cap ⟨#[]⟩ ⟨#[]⟩ 0 0 false w fun W hb => get_no no hno W (hs.below hb)
  rwa [gateE_no] at this
theorem gate_any (no dir : Int) (cap : Bool) (w : World) (hs : Sp w) (hn : Nm w) : Calls Tryz.prog 30 #[.int .i64 no, .int .i64 dir, .bool cap] w fun e W =>
    ∃ E, e = .returned (.int .i64 E) ∧ gateF no dir cap E ∧ Below w.heap.size w W := by
  by_cases h : ∃ k : Fin 64, (k.val : Int) + 1 = no
  · obtain ⟨k, rfl⟩ := h
    exact (gate_at k dir cap w hs hn).mono fun e W hp => ⟨_, hp.1, .inl ⟨k, rfl, rfl⟩, hp.2⟩
  · exact (gate_no no dir cap (fun k hk => h ⟨k, hk⟩) w hs).mono fun e W hp => ⟨_, hp.1, .inr ⟨fun k hk => h ⟨k, hk⟩, rfl⟩, hp.2⟩

end Go.Proofs.YtgolihipinjfmaaGreatDoor.C
