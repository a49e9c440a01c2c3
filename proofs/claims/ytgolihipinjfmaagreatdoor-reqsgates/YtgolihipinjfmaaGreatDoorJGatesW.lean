/- ReqsGates, walked. -/
import Derived.Test.YtgolihipinjfmaaGreatDoorJLives
import Derived.Test.YtgolihipinjfmaaGreatDoorJShort
import Derived.Test.YtgolihipinjfmaaGreatDoorJLaw
import Derived.Test.YtgolihipinjfmaaGreatDoorJRGate
import Derived.Test.YtgolihipinjfmaaGreatDoorJGate
import Derived.Test.YtgolihipinjfmaaGreatDoorGKd
namespace Go.Proofs.YtgolihipinjfmaaGreatDoor.J
open Go Go.RowKit

theorem en_pGate : ∀ args w, (callFunc 18 args).run Tryz.prog w = .ok (.enter 18 args) w := fun _ _ => by simp [callFunc, Tryz.func18]; rfl
theorem en_rGate : ∀ args w, (callFunc 19 args).run Tryz.prog w = .ok (.enter 19 args) w := fun _ _ => by simp [callFunc, Tryz.func19]; rfl

set_option maxRecDepth 100000 in
set_option maxHeartbeats 1000000 in
theorem gates_walk (r : Rq) (p : Option Addr) (c : Nat) (cap : Bool) (w : World) (hat : At w p (ints r.l)) (hc : r.l.length ≤ c) (he : Env w) :
    Calls Tryz.prog 7 #[rqV r p c, .bool cap] w fun e W => e = .returned (.bool true) ∧ Below w.heap.size w W := by
  have hB1 := on_alloc w (.cells (rqC r p c).toArray 25)
  have bB1 := Blk.new w 25 (rqC r p c)
  have cS := short_any r p c (w.alloc (.cells (rqC r p c).toArray 25)) (AtF.on hat hB1) hc
  have hl := cutR_len r
  have hs1 : w.heap.size < (w.alloc (.cells (rqC r p c).toArray 25)).heap.size := by simp
  obtain ⟨⟨b0, b1, b2, b3, b4, b5, b6, b7, b8⟩, _⟩ := rq_cells bB1
  have hEnv := fun W (h : Below w.heap.size w W) => he.below h
  clear hat he hc
  generalize cutR r = s at *
  have hl' : s.l.length ≤ 1000000 := by omega
  unfold rqV rqC at *
  go_enter Tryz.func7, Tryz.ntmps7
  go_upto_region 2 with (go_at_call 8; refine cS.mono ?_; rintro e Y ⟨q, c2, rfl, hq, hc2, hb⟩; unfold rqV rqC; have bY := bB1.on hb; obtain ⟨_, f0, f1, f2, f3, f4, f5, f6, f7, f8⟩ := rq_cells bY; obtain ⟨⟨y0, y1, y2, y3, y4, y5, y6, y7, y8⟩, _⟩ := rq_cells bY)
  have bY := (bB1.on hb).put (rqC s q c2) rfl
  have hw := below_but (on_trans hB1 hb) (but_putL w.heap.size (rqC s q c2) Y 0) (Nat.le_refl _)
  have hq2 := hq.but (but_putL w.heap.size (rqC s q c2) Y 0) hs1
  clear b0 b1 b2 b3 b4 b5 b6 b7 b8 cS bB1 hB1 hb hq
  have HX : ∃ X, putL Y w.heap.size 0 (rqC s q c2) = X := ⟨_, rfl⟩
  obtain ⟨X, hX⟩ := HX
  rw [hX] at bY hw hq2
  unfold rqC at hX
  simp only [putL] at hX
  rw [hX]
  clear hX
  have hBl := bY.lt
  have hq0 : At X q (ints s.l) := hq2.at
  have hsz := hw.size
  have hwW : ∀ W, Below X.heap.size X W → Below w.heap.size w W := fun W h => hw.trans (h.mono hsz)

  refine wp_region_left (S := fun W => Below X.heap.size X W) (Keep := KeepK [])
    (g := fun jj vv WW => (([.is (rqV s q c2), kdRq s, .is (.bool cap), .is (.int .i64 (gat s cap)), .is (rqV s q c2), .is (.bool cap), .is (.int .i64 (gat s cap)), .is (.bool true), .is (.bool true), .is (.bool true), .is (.bool true), .is (.bool true)] : List (Kd 0)).getD jj Kd.any).ok vv WW)
    (tab := [[(2, none)], [(7, some 0)], [(1, none)], [(8, some 1), (9, some 2)], [(2, none)], [(1, none)], [(11, some 4), (12, some 5)], [(10, some 3), (13, some 6)], [(14, some 7)], [(15, some 8)], [(15, some 8), (16, some 9)], [(17, some 10)]]) (tl := []) (n := 18)
    (by kernel_rfl) rfl (by kernel_rfl) keep_none (Below.refl _ _).drew ?st ?en
  case st =>
    refine ⟨fun ρ W hr hS hs => ?_, fun ρ W hr hS hs => ?_, fun ρ W hr hS hs => ?_, fun ρ W hr hS hs => ?_, fun ρ W hr hS hs => ?_, fun ρ W hr hS hs => ?_, fun ρ W hr hS hs => ?_, fun ρ W hr hS hs => ?_, fun ρ W hr hS hs => ?_, fun ρ W hr hS hs => ?_, fun ρ W hr hS hs => ?_, fun ρ W hr hS hs => ?_, trivial⟩
    · have h2 : ρ (.tmp 2) = .pointer (some ⟨w.heap.size, 0, none⟩) := hs.1
      exact step_plain rfl (leaves_load (cs := rqC s q c2) aggRq infoRq (.tmp 2) rfl h2 (bY.on hS) ⟨rfl, hS, Below.refl _ _⟩)
    · have h7 : ρ (.tmp 7) = rqV s q c2 := hs.1
      refine step_plain rfl (leaves_call1 en_own hr (.tmp 7) _ rfl h7 ((own_any s q c2 W (AtF.on hq0 hS) hl').mono ?_))
      rintro e W2 ⟨q3, c3, rfl, hq3, _, hb3⟩
      exact ⟨_, rfl, ⟨q3, c3, rfl, hq3.less (by omega)⟩, on_trans hS hb3, hb3⟩
    · have h1 : ρ (.tmp 1) = .bool cap := hs.1
      exact step_plain rfl (leaves_move (.tmp 1) rfl ⟨h1, hS, Below.refl _ _⟩)
    · obtain ⟨q3, c3, h8, hq3⟩ := hs.1
      have h9 : ρ (.tmp 9) = .bool cap := hs.2.1
      refine step_plain rfl (leaves_call2 en_pGate hr (.tmp 8) (.tmp 9) _ _ rfl h8 h9 ((gate_all s q3 c3 cap W hq3.at hl' (hEnv W (hwW W hS))).mono ?_))
      rintro e W2 ⟨rfl, hb3⟩
      exact ⟨_, rfl, rfl, on_trans hS hb3, hb3⟩
    · have h2 : ρ (.tmp 2) = .pointer (some ⟨w.heap.size, 0, none⟩) := hs.1
      exact step_plain rfl (leaves_load (cs := rqC s q c2) aggRq infoRq (.tmp 2) rfl h2 (bY.on hS) ⟨rfl, hS, Below.refl _ _⟩)
    · have h1 : ρ (.tmp 1) = .bool cap := hs.1
      exact step_plain rfl (leaves_move (.tmp 1) rfl ⟨h1, hS, Below.refl _ _⟩)
    · have h11 : ρ (.tmp 11) = rqV s q c2 := hs.1
      have h12 : ρ (.tmp 12) = .bool cap := hs.2.1
      refine step_plain rfl (leaves_call2 en_rGate hr (.tmp 11) (.tmp 12) _ _ rfl h11 h12 ((rgate_all s q c2 cap W (AtF.on hq0 hS) hl').mono ?_))
      rintro e W2 ⟨rfl, hb3⟩
      exact ⟨_, rfl, rfl, on_trans hS hb3, hb3⟩
    · have h10 : ρ (.tmp 10) = .int .i64 (gat s cap) := hs.1
      have h13 : ρ (.tmp 13) = .int .i64 (gat s cap) := hs.2.1
      refine step_plain rfl (leaves_value (v := .bool true) (w' := W) ?_ ⟨rfl, hS, Below.refl _ _⟩)
      simp [go_sem, h10, h13]
    · have h14 : ρ (.tmp 14) = .bool true := hs.1
      exact step_plain rfl (leaves_move (.tmp 14) rfl ⟨h14, hS, Below.refl _ _⟩)
    · have h15 : ρ (.tmp 15) = .bool true := hs.1
      refine step_want rfl rfl h15 (leaves_call0 en_lives hr rfl ((lives_any W (hEnv W (hwW W hS))).mono ?_))
      rintro e W2 ⟨rfl, hb3⟩
      exact ⟨_, rfl, rfl, on_trans hS hb3, hb3⟩
    · have h15 : ρ (.tmp 15) = .bool true := hs.1
      have h16 : ρ (.tmp 16) = .bool true := hs.2.1
      exact step_plain rfl (leaves_pick (.tmp 15) (.tmp 16) _ rfl true h15 ⟨h16, hS, Below.refl _ _⟩)
    · have h17 : ρ (.tmp 17) = .bool true := hs.1
      exact step_plain rfl (leaves_assign (.tmp 17) rfl ⟨h17, hS, Below.refl _ _⟩)
  case en =>
    intro W hS v0 h0 v1 h1 v2 h2 v3 h3 v4 h4 v5 h5 v6 h6 v7 h7 v8 h8 v9 h9 v10 h10 v11 h11
    obtain rfl : v11 = .bool true := h11 rfl
    have HB := hwW W hS
    clear h0 h1 h2 h3 h4 h5 h6 h7 h8 h9 h10
    simp only [ends, Act.put, List.setIfInBounds_toArray, List.set_cons_succ, List.set_cons_zero]
    go_wp2
    go_ret
    exact ⟨rfl, HB⟩

end Go.Proofs.YtgolihipinjfmaaGreatDoor.J
