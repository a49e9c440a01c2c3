/- ReqsChecks, walked. -/
import Derived.Test.YtgolihipinjfmaaGreatDoorJLives
import Derived.Test.YtgolihipinjfmaaGreatDoorJShort
import Derived.Test.YtgolihipinjfmaaGreatDoorJLaw
import Derived.Test.YtgolihipinjfmaaGreatDoorJRCheck
import Derived.Test.YtgolihipinjfmaaGreatDoorGKd
namespace Go.Proofs.YtgolihipinjfmaaGreatDoor.J
open Go Go.RowKit

theorem en_pCheck : ∀ args w, (callFunc 9 args).run Tryz.prog w = .ok (.enter 9 args) w := fun _ _ => by simp [callFunc, Tryz.func9]; rfl
theorem en_rCheck : ∀ args w, (callFunc 11 args).run Tryz.prog w = .ok (.enter 11 args) w := fun _ _ => by simp [callFunc, Tryz.func11]; rfl

set_option maxRecDepth 100000 in
set_option maxHeartbeats 1000000 in
theorem checks_walk (r : Rq) (p : Option Addr) (c : Nat) (w : World) (hat : At w p (ints r.l)) (hc : r.l.length ≤ c) (he : Env w) :
    Calls Tryz.prog 3 #[rqV r p c] w fun e W => e = .returned (.bool true) ∧ Below w.heap.size w W := by
  have hB1 := on_alloc w (.cells (rqC r p c).toArray 25)
  have bB1 := Blk.new w 25 (rqC r p c)
  have cS := short_any r p c (w.alloc (.cells (rqC r p c).toArray 25)) (AtF.on hat hB1) hc
  have hl := cutR_len r
  have hs1 : w.heap.size < (w.alloc (.cells (rqC r p c).toArray 25)).heap.size := by simp
  obtain ⟨⟨b0, b1, b2, b3, b4, b5, b6, b7, b8⟩, _⟩ := rq_cells bB1
  have hEnv := fun W (h : Below w.heap.size w W) => he.below h
  clear hat he hc
  generalize cutR r = s at *
  have hl' : s.l.length ≤ 1000000 := by omega
  unfold rqV rqC at *
  go_enter Tryz.func3, Tryz.ntmps3
  go_upto_region 2 with (go_at_call 8; refine cS.mono ?_; rintro e Y ⟨q, c2, rfl, hq, hc2, hb⟩; unfold rqV rqC; have bY := bB1.on hb; obtain ⟨_, f0, f1, f2, f3, f4, f5, f6, f7, f8⟩ := rq_cells bY; obtain ⟨⟨y0, y1, y2, y3, y4, y5, y6, y7, y8⟩, _⟩ := rq_cells bY)
  have bY := (bB1.on hb).put (rqC s q c2) rfl
  have hw := below_but (on_trans hB1 hb) (but_putL w.heap.size (rqC s q c2) Y 0) (Nat.le_refl _)
  have hq2 := hq.but (but_putL w.heap.size (rqC s q c2) Y 0) hs1
  clear b0 b1 b2 b3 b4 b5 b6 b7 b8 cS bB1 hB1 hb hq
  have HX : ∃ X, putL Y w.heap.size 0 (rqC s q c2) = X := ⟨_, rfl⟩
  obtain ⟨X, hX⟩ := HX
  rw [hX] at bY hw hq2
  unfold rqC at hX
  simp only [putL] at hX
  rw [hX]
  clear hX
  have hBl := bY.lt
  have hq0 : At X q (ints s.l) := hq2.at
  have hsz := hw.size
  have hwW : ∀ W, Below X.heap.size X W → Below w.heap.size w W := fun W h => hw.trans (h.mono hsz)

  refine wp_region_left (S := fun W => Below X.heap.size X W) (Keep := KeepK [])
    (g := fun jj vv WW => (([.is (rqV s q c2), kdRq s, .is (.int .i64 (chk s)), .is (rqV s q c2), .is (.int .i64 (chk s)), .is (.bool true), .is (.bool true), .is (.bool true), .is (.bool true), .is (.bool true)] : List (Kd 0)).getD jj Kd.any).ok vv WW)
    (tab := [[(1, none)], [(5, some 0)], [(6, some 1)], [(1, none)], [(8, some 3)], [(7, some 2), (9, some 4)], [(10, some 5)], [(11, some 6)], [(11, some 6), (12, some 7)], [(13, some 8)]]) (tl := []) (n := 14)
    (by kernel_rfl) rfl (by kernel_rfl) keep_none (Below.refl _ _).drew ?st ?en
  case st =>
    refine ⟨fun ρ W hr hS hs => ?_, fun ρ W hr hS hs => ?_, fun ρ W hr hS hs => ?_, fun ρ W hr hS hs => ?_, fun ρ W hr hS hs => ?_, fun ρ W hr hS hs => ?_, fun ρ W hr hS hs => ?_, fun ρ W hr hS hs => ?_, fun ρ W hr hS hs => ?_, fun ρ W hr hS hs => ?_, trivial⟩
    · have h1 : ρ (.tmp 1) = .pointer (some ⟨w.heap.size, 0, none⟩) := hs.1
      exact step_plain rfl (leaves_load (cs := rqC s q c2) aggRq infoRq (.tmp 1) rfl h1 (bY.on hS) ⟨rfl, hS, Below.refl _ _⟩)
    · have h5 : ρ (.tmp 5) = rqV s q c2 := hs.1
      refine step_plain rfl (leaves_call1 en_own hr (.tmp 5) _ rfl h5 ((own_any s q c2 W (AtF.on hq0 hS) hl').mono ?_))
      rintro e W2 ⟨q3, c3, rfl, hq3, _, hb3⟩
      exact ⟨_, rfl, ⟨q3, c3, rfl, hq3.less (by omega)⟩, on_trans hS hb3, hb3⟩
    · obtain ⟨q3, c3, h6, hq3⟩ := hs.1
      refine step_plain rfl (leaves_call1 en_pCheck hr (.tmp 6) _ rfl h6 ((check_any s q3 c3 W hq3.at hl' (hEnv W (hwW W hS))).mono ?_))
      rintro e W2 ⟨rfl, hb3⟩
      exact ⟨_, rfl, rfl, on_trans hS hb3, hb3⟩
    · have h1 : ρ (.tmp 1) = .pointer (some ⟨w.heap.size, 0, none⟩) := hs.1
      exact step_plain rfl (leaves_load (cs := rqC s q c2) aggRq infoRq (.tmp 1) rfl h1 (bY.on hS) ⟨rfl, hS, Below.refl _ _⟩)
    · have h8 : ρ (.tmp 8) = rqV s q c2 := hs.1
      refine step_plain rfl (leaves_call1 en_rCheck hr (.tmp 8) _ rfl h8 ((rcheck_any s q c2 W (AtF.on hq0 hS) hl').mono ?_))
      rintro e W2 ⟨rfl, hb3⟩
      exact ⟨_, rfl, rfl, on_trans hS hb3, hb3⟩
    · have h7 : ρ (.tmp 7) = .int .i64 (chk s) := hs.1
      have h9 : ρ (.tmp 9) = .int .i64 (chk s) := hs.2.1
      refine step_plain rfl (leaves_value (v := .bool true) (w' := W) ?_ ⟨rfl, hS, Below.refl _ _⟩)
      simp [go_sem, h7, h9]
    · have h10 : ρ (.tmp 10) = .bool true := hs.1
      exact step_plain rfl (leaves_move (.tmp 10) rfl ⟨h10, hS, Below.refl _ _⟩)
    · have h11 : ρ (.tmp 11) = .bool true := hs.1
      refine step_want rfl rfl h11 (leaves_call0 en_lives hr rfl ((lives_any W (hEnv W (hwW W hS))).mono ?_))
      rintro e W2 ⟨rfl, hb3⟩
      exact ⟨_, rfl, rfl, on_trans hS hb3, hb3⟩
    · have h11 : ρ (.tmp 11) = .bool true := hs.1
      have h12 : ρ (.tmp 12) = .bool true := hs.2.1
      exact step_plain rfl (leaves_pick (.tmp 11) (.tmp 12) _ rfl true h11 ⟨h12, hS, Below.refl _ _⟩)
    · have h13 : ρ (.tmp 13) = .bool true := hs.1
      exact step_plain rfl (leaves_assign (.tmp 13) rfl ⟨h13, hS, Below.refl _ _⟩)
  case en =>
    intro W hS v0 h0 v1 h1 v2 h2 v3 h3 v4 h4 v5 h5 v6 h6 v7 h7 v8 h8 v9 h9
    obtain rfl : v9 = .bool true := h9 rfl
    have HB := hwW W hS
    clear h0 h1 h2 h3 h4 h5 h6 h7 h8
    simp only [ends, Act.put, List.setIfInBounds_toArray, List.set_cons_succ, List.set_cons_zero]
    go_wp2
    go_ret
    exact ⟨rfl, HB⟩

end Go.Proofs.YtgolihipinjfmaaGreatDoor.J
