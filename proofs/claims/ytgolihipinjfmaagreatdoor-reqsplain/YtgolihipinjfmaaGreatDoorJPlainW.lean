/- ReqsPlain, walked. -/
import Derived.Test.YtgolihipinjfmaaGreatDoorJLaw
import Derived.Test.YtgolihipinjfmaaGreatDoorJPlain
import Derived.Test.YtgolihipinjfmaaGreatDoorJRCheck
import Derived.Test.YtgolihipinjfmaaGreatDoorJSame
namespace Go.Proofs.YtgolihipinjfmaaGreatDoor.J
open Go Go.RowKit

theorem bare_V (no : Int) : rqV (bare no) none 0 = .agg #[.int .i64 no, .int .i64 0, .int .i64 0, .int .i64 0, .int .i64 0, .int .i64 0, .string ⟨#[]⟩, .string ⟨#[]⟩, .slice none 0 0] := rfl

set_option maxRecDepth 100000 in
set_option maxHeartbeats 1000000 in
theorem plain_walk (r : Rq) (p : Option Addr) (c : Nat) (w : World) (hat : At w p (ints r.l)) (hc : r.l.length ≤ c) (he : Env w) :
    Calls Tryz.prog 5 #[rqV r p c] w fun e W => e = .returned (.bool true) ∧ Below w.heap.size w W := by
  have hB1 := on_alloc w (.cells (rqC r p c).toArray 25)
  have bB1 := Blk.new w 25 (rqC r p c)
  have cS := short_any r p c (w.alloc (.cells (rqC r p c).toArray 25)) (AtF.on hat hB1) hc
  have hl := cutR_len r
  have hs1 : w.heap.size < (w.alloc (.cells (rqC r p c).toArray 25)).heap.size := by simp
  obtain ⟨⟨b0, b1, b2, b3, b4, b5, b6, b7, b8⟩, _⟩ := rq_cells bB1
  have hEnv := fun W (h : Below w.heap.size w W) => he.below h
  clear hat he hc
  generalize cutR r = s at *
  have hl' : s.l.length ≤ 1000000 := by omega
  have hpl := pln_len s hl'
  unfold rqV rqC at *
  go_enter Tryz.func5, Tryz.ntmps5
  go_upto_region 2 with (go_at_call 8; refine cS.mono ?_; rintro e Y ⟨q, c2, rfl, hq, hc2, hb⟩; unfold rqV rqC; have bY := bB1.on hb; obtain ⟨_, f0, f1, f2, f3, f4, f5, f6, f7, f8⟩ := rq_cells bY; obtain ⟨⟨y0, y1, y2, y3, y4, y5, y6, y7, y8⟩, _⟩ := rq_cells bY)
  have bX := (bB1.on hb).put (rqC s q c2) rfl
  have hw := below_but (on_trans hB1 hb) (but_putL w.heap.size (rqC s q c2) Y 0) (Nat.le_refl _)
  have hq2 := (hq.but (but_putL w.heap.size (rqC s q c2) Y 0) hs1).at
  clear b0 b1 b2 b3 b4 b5 b6 b7 b8 cS bB1 hB1 hb hq y0 y1 y2 y3 y4 y5 y6 y7 y8 f0 f1 f2 f3 f4 f5 f6 f7 f8 bY
  have HX : ∃ X, putL Y w.heap.size 0 (rqC s q c2) = X := ⟨_, rfl⟩
  obtain ⟨X, hX⟩ := HX
  rw [hX] at bX hw hq2
  unfold rqC at hX
  simp only [putL] at hX
  rw [hX]
  clear hX
  have cO := own_any s q c2 X hq2 hl'
  have HPl : Hid (∀ W p3 c3, Below w.heap.size w W → At W p3 (ints s.l) → Calls Tryz.prog 15 #[rqV s p3 c3] W (OwnPost (pln s) W)) := fun W p3 c3 h1 h2 => plain_any s p3 c3 W h2 hl' (hEnv W h1)
  have HCk : Hid (∀ W, Below X.heap.size X W → Calls Tryz.prog 11 #[rqV s q c2] W fun e V => e = .returned (.int .i64 (chk s)) ∧ Below W.heap.size W V) := fun W h => rcheck_any s q c2 W (AtF.on hq2 h) hl'
  have HLv : Hid (∀ W, Below w.heap.size w W → Calls Tryz.prog 12 #[] W fun e V => e = .returned (.bool true) ∧ Below W.heap.size W V) := fun W h => lives_any W (hEnv W h)
  have HQ : Hid (∀ W, Below X.heap.size X W → At W q (ints s.l)) := fun W h => AtF.on hq2 h
  obtain ⟨⟨x0, x1, x2, x3, x4, x5, x6, x7, x8⟩, _⟩ := rq_cells bX
  unfold rqV rqC at cO
  go_upto_region 3 with (first | (go_at_call 10; refine cO.mono ?_; rintro e W1 ⟨q3, c3, rfl, hq3, _, hb3⟩; have hw1 := on_trans hw hb3; have cP := HPl.out W1 q3 c3 hw1 hq3.at; unfold rqV rqC at cP) | (go_at_call 15; refine cP.mono ?_; rintro e W2 ⟨q4, c4, rfl, hq4, hc4, hb4⟩; unfold rqV rqC))
  have hX3 := on_trans hb3 hb4
  have hX4 := hX3.alloc hX3.size (.cells (rqC (pln s) q4 c4).toArray 25)
  have bP := Blk.new W2 25 (rqC (pln s) q4 c4)
  have bX4 := bX.on hX4
  have hq5 : At (W2.alloc (.cells (rqC (pln s) q4 c4).toArray 25)) q4 (ints (pln s).l) := (hq4.alloc (.cells (rqC (pln s) q4 c4).toArray 25)).at
  obtain ⟨P, hP⟩ : ∃ P, W2.heap.size = P := ⟨_, rfl⟩
  obtain ⟨V, hV⟩ : ∃ V, W2.alloc (.cells (rqC (pln s) q4 c4).toArray 25) = V := ⟨_, rfl⟩
  rw [hV] at hX4 bP bX4 hq5
  rw [hP] at bP
  unfold rqC at hV
  rw [hV, hP]
  clear hV hP cO cP x0 x1 x2 x3 x4 x5 x6 x7 x8 hb3 hb4 hX3 hq3 hq4 bX
  have hwV := hw.trans (hX4.mono hw.size)
  unfold rqC at bP bX4
  obtain ⟨⟨x0, x1, x2, x3, x4, x5, x6, x7, x8⟩, _⟩ := rq_cells bX4
  have cC := HCk.out V hX4
  unfold rqV rqC at cC
  by_cases h0 : chk s = 0
  · have e : pln s = s := by unfold pln; rw [if_pos h0]
    rw [e] at bP hq5
    rw [h0] at cC
    have HSm : Hid (∀ W, Below V.heap.size V W → Calls Tryz.prog 16 #[rqV s q4 c4, rqV s q c2] W fun e U => e = .returned (.bool true) ∧ Below W.heap.size W U) := fun W h => same_any s q4 q c4 c2 W (AtF.on hq5 h) (AtF.on (HQ.out V hX4) h) hl'
    clear h0 e
    go_wp2_with (first | (go_at_call 11; refine cC.mono ?_; rintro e W5 ⟨rfl, hb5⟩; have cSm := HSm.out W5 hb5; unfold rqV rqC at cSm; obtain ⟨⟨g0, g1, g2, g3, g4, g5, g6, g7, g8⟩, _⟩ := rq_cells (bX4.on hb5); obtain ⟨⟨k0, k1, k2, k3, k4, k5, k6, k7, k8⟩, _⟩ := rq_cells (bP.on hb5)) | (go_at_call 16; refine cSm.mono ?_; rintro e W6 ⟨rfl, hb6⟩; have hw6 := on_trans (on_trans hwV hb5) hb6) | (go_at_call 12; refine (HLv.out _ hw6).mono ?_; rintro e W7 ⟨rfl, hb7⟩))
    go_ret
    exact ⟨rfl, on_trans hw6 hb7⟩
  · have e : pln s = bare s.no := by unfold pln; rw [if_neg h0]
    have h0b : (chk s == 0) = false := by simpa using h0
    rw [e] at bP
    have HSm : Hid (∀ W, Below V.heap.size V W → Calls Tryz.prog 16 #[rqV (bare s.no) q4 c4, rqV (bare s.no) none 0] W fun e U => e = .returned (.bool true) ∧ Below W.heap.size W U) := fun W h => same_any (bare s.no) q4 none c4 0 W (.inl rfl) (.inl rfl) (by simp [bare])
    replace bP : Blk V P 25 [.int .i64 s.no, .int .i64 0, .int .i64 0, .int .i64 0, .int .i64 0, .int .i64 0, .string ⟨#[]⟩, .string ⟨#[]⟩, .slice q4 0 c4] := bP
    replace HSm : Hid (∀ W, Below V.heap.size V W → Calls Tryz.prog 16 #[.agg #[.int .i64 s.no, .int .i64 0, .int .i64 0, .int .i64 0, .int .i64 0, .int .i64 0, .string ⟨#[]⟩, .string ⟨#[]⟩, .slice q4 0 c4], .agg #[.int .i64 s.no, .int .i64 0, .int .i64 0, .int .i64 0, .int .i64 0, .int .i64 0, .string ⟨#[]⟩, .string ⟨#[]⟩, .slice none 0 0]] W fun e U => e = .returned (.bool true) ∧ Below W.heap.size W U) := HSm
    generalize chk s = E at *
    clear h0 e
    go_wp2_with (first | (go_at_call 11; refine cC.mono ?_; rintro e W5 ⟨rfl, hb5⟩; have cSm := HSm.out W5 hb5; obtain ⟨⟨g0, g1, g2, g3, g4, g5, g6, g7, g8⟩, _⟩ := rq_cells (bX4.on hb5); obtain ⟨⟨k0, k1, k2, k3, k4, k5, k6, k7, k8⟩, _⟩ := rq_cells (bP.on hb5)) | (go_at_call 16; refine cSm.mono ?_; rintro e W6 ⟨rfl, hb6⟩; have hw6 := on_trans (on_trans hwV hb5) hb6) | (go_at_call 12; refine (HLv.out _ hw6).mono ?_; rintro e W7 ⟨rfl, hb7⟩))
    go_ret
    exact ⟨rfl, on_trans hw6 hb7⟩

end Go.Proofs.YtgolihipinjfmaaGreatDoor.J
