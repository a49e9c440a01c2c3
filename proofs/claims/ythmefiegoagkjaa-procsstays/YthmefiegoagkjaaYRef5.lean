/- What the reference's Fork does. -/
import Derived.Test.YthmefiegoagkjaaYRef4
import Derived.Deep.Cut
import Derived.Deep.CutRange
import Derived.Deep.DeepCutAuto
namespace Go.Proofs.Ythmefiegoagkjaa.Y
open Go Go.RowKit

section
variable {hi b c most : Nat} {v : Value} {nx : Int} {S : List Pr} {w : World}
set_option maxRecDepth 100000 in
set_option maxHeartbeats 4000000 in
theorem rfork_any (h : TabAt hi 34 w b v nx (most : Int) S) (ok : Ok c most nx S) (hm : most ≤ 64) (hcc : c ≤ 900) (p : Int) (pd : Bool) :
    Calls Try.prog 30 #[ptr b, .int .i64 p, .bool pd] w (TPost hi 34 b w v (forkX most nx S p) (most : Int) (forkS most nx S p pd) (.tuple #[.int .i64 (forkN most nx S p), .int .i64 (forkE most S p)])) := by
  have hl : S.length ≤ 1000 := by have := ok.len; omega
  have hnx := ok.num
  have hs := ok.sorted
  clear ok
  have cL := rlives_any h hs hl p
  have HT : Hid (∀ w1, Below w.heap.size w w1 → TabAt hi 34 w1 b v nx (most : Int) S) := fun w1 hb => h.on hb
  have y0 := h.box.cell 0 rfl
  have y2 := h.box.cell 2 rfl
  unfold forkS forkX forkN forkE
  cases hq : lv p S with
  | false =>
    rw [hq] at cL
    rw [Bool.false_and, if_neg (by decide), if_neg (by decide), if_neg (by decide), if_neg (by decide)]
    have HP : Hid (TPost hi 34 b w v nx (most : Int) S (.tuple #[.int .i64 0, .int .i64 3]) (.returned (.tuple #[.int .i64 0, .int .i64 3])) w) := ⟨rfl, v, h, .refl _ _ _⟩
    generalize TPost hi 34 b w v nx (most : Int) S (.tuple #[.int .i64 0, .int .i64 3]) = Post at *
    clear h HT hq hs y0 y2
    go_enter Try.func30, Try.ntmps30
    go_wp2_with fail
    refine cL.mono ?_
    rintro e w1 ⟨rfl, rfl⟩
    go_wp2
    exact HP.out
  | true =>
    rw [hq] at cL
    have hlt := spot_lt (lv_has hq)
    obtain ⟨g, cap, rfl, _, hcel⟩ := tab_cells h hlt
    rw [Bool.true_and, if_pos rfl]
    by_cases hr : S.length < most
    · rw [decide_eq_true hr, if_pos rfl, if_pos rfl, if_pos rfl, if_pos hr, at_get (lv_has hq)]
      have hrz : ¬ (most : Int) ≤ (S.length : Int) := by omega
      have HA : Hid (∀ W, Below w.heap.size w W → Calls Try.prog 15 #[ptr b, .int .i64 p] W fun e w' => e = .returned (.int .i64 (spot p S : Int)) ∧ w' = W) := fun W hb => rat_yes (HT.out W hb) hl (lv_has hq)
      obtain ⟨X, hX⟩ : ∃ X, S[spot p S] = X := ⟨_, rfl⟩
      have HX : Hid (∀ w1, Below w.heap.size w w1 → Cells w1 g (spot p S) X) := fun w1 hb => by rw [← hX]; exact (row_at (HT.out w1 hb).row hlt).2
      rw [hX]
      clear hX
      have HP : Hid (∀ w1 v', TabAt hi 34 w1 b v' (nx + 1) (most : Int) (S ++ [⟨nx, p, true, 0, pd, X.cap, X.cwd⟩]) → T.Goes b (.slice (some ⟨g, 0, none⟩) S.length cap) v' w w1 → TPost hi 34 b w (.slice (some ⟨g, 0, none⟩) S.length cap) (nx + 1) (most : Int) (S ++ [⟨nx, p, true, 0, pd, X.cap, X.cwd⟩]) (.tuple #[.int .i64 nx, .int .i64 0]) (.returned (.tuple #[.int .i64 nx, .int .i64 0])) w1) := fun w1 v' h1 h2 => ⟨rfl, v', h1, h2⟩
      generalize TPost hi 34 b w (.slice (some ⟨g, 0, none⟩) S.length cap) (nx + 1) (most : Int) (S ++ [⟨nx, p, true, 0, pd, X.cap, X.cwd⟩]) (.tuple #[.int .i64 nx, .int .i64 0]) = Post at *
      obtain ⟨X0, X1, X2, X3, X4, X5, X6⟩ := X
      simp only at HP
      clear h hcel hs hq
      generalize spot p S = k at *
      have hkz : (k : Int) < (S.length : Int) := by omega
      go_enter Try.func30, Try.ntmps30
      go_wp2_with fail
      refine cL.mono ?_
      rintro e w1 ⟨rfl, hw1⟩
      subst hw1
      clear cL
      go_wp2
      go_quiet (fail)
      go_wp2
      generalize hw2 : w1.drewN _ = w2
      have HB2 : Hid (Below w1.heap.size w1 w2) := by rw [← hw2]; exact on_drewN (Below.refl _ _) _
      clear hw2 y0 y2
      have hT2 := HT.out w2 HB2.out
      have y0 := hT2.box.cell 0 rfl
      have hal := on_alloc w2 (.cells #[.int .i64 0, .int .i64 0, .bool false, .int .i64 0, .bool false, .bool false, .int .i64 0] 37)
      have y0' := (hT2.on hal).box.cell 0 rfl
      obtain ⟨z0, z1, z2, z3, z4, z5, z6, _⟩ := HX.out w2 HB2.out
      obtain ⟨z0', z1', z2', z3', z4', z5', z6', _⟩ := HX.out _ (on_trans HB2.out hal)
      simp only at z0 z1 z2 z3 z4 z5 z6 z0' z1' z2' z3' z4' z5' z6'
      have hA1 := HA.out w2.drew (on_drew HB2.out)
      have hA2 := HA.out (w2.alloc (.cells #[.int .i64 0, .int .i64 0, .bool false, .int .i64 0, .bool false, .bool false, .int .i64 0] 37)).drew (on_drew (on_trans HB2.out hal))
      clear HX hT2 hal HA
      go_cut [8] (fun s8 wx => s8 = .pointer (some ⟨w2.heap.size, 0, none⟩) ∧ wx = (w2.alloc (.cells #[.int .i64 X0, .int .i64 X1, .bool X2, .int .i64 X3, .bool X4, .bool X5, .int .i64 X6] 37)).drew)
      case first =>
        go_region_with (go_at_call 15; first | (refine hA1.mono ?_; rintro e w3 ⟨rfl, rfl⟩) | (refine hA2.mono ?_; rintro e w3 ⟨rfl, rfl⟩))
        all_goals (go_wp2_with fail; go_meet; exact ⟨rfl, rfl⟩)
      case rest =>
        obtain ⟨rfl, rfl⟩ := hcut
        have HB3 : Hid (Below w1.heap.size w1 (w2.alloc (.cells #[.int .i64 X0, .int .i64 X1, .bool X2, .int .i64 X3, .bool X4, .bool X5, .int .i64 X6] 37)).drew) := on_drew (on_trans HB2.out (on_alloc w2 _))
        have HC3 : Hid (Blk (w2.alloc (.cells #[.int .i64 X0, .int .i64 X1, .bool X2, .int .i64 X3, .bool X4, .bool X5, .int .i64 X6] 37)).drew w2.heap.size 37 (prC ⟨X0, X1, X2, X3, X4, X5, X6⟩)) := (Blk.new w2 37 (prC ⟨X0, X1, X2, X3, X4, X5, X6⟩)).drew
        clear y0 z0 z1 z2 z3 z4 z5 z6 y0' z0' z1' z2' z3' z4' z5' z6' hA1 hA2
        have hS2 : w2.heap.size < (w2.alloc (.cells #[.int .i64 X0, .int .i64 X1, .bool X2, .int .i64 X3, .bool X4, .bool X5, .int .i64 X6] 37)).drew.heap.size := HC3.out.lt
        generalize (w2.alloc (.cells #[.int .i64 X0, .int .i64 X1, .bool X2, .int .i64 X3, .bool X4, .bool X5, .int .i64 X6] 37)).drew = w3 at *
        generalize w2.heap.size = xb at *
        have hT3 := HT.out w3 HB3.out
        have hlay := lay_one (hT3.on (on_drew (Below.refl _ _))) (by decide) hl ⟨nx, p, true, 0, pd, X5, X6⟩
        rw [show w3.drew.alloc (.cells (prC ⟨nx, p, true, 0, pd, X5, X6⟩).toArray 37) = (w3.alloc (.cells (prC ⟨nx, p, true, 0, pd, X5, X6⟩).toArray 37)).drew from rfl, show w3.drew.heap.size = w3.heap.size from rfl] at hlay
        obtain ⟨p5, cap5, W5, hrun, hB5, hT5, hG5, _⟩ := hlay
        have hT6 := TabAt_num hT5 (by decide) (nx + 1)
        have hG6 := T.goes_box (((T.Goes.on HB3.out).trans (.on (on_drew (Below.refl _ _)))).trans hG5) (.int .i64 (nx + 1)) 1 rfl
        have HZ : Hid _ := HP.out _ _ hT6 hG6
        have b0 := hB5.cell 0 rfl
        have g0 := hB5.free 0
        have b1 := hT5.box.cell 1 rfl
        have g1 := hT5.box.free 1
        have e1 := hT6.box.cell 1 rfl
        have hal := on_alloc w3 (.cells #[.int .i64 nx, .int .i64 p, .bool true, .int .i64 0, .bool pd, .bool X5, .int .i64 X6] 37)
        have y0 := hT3.box.cell 0 rfl
        have y0' := (hT3.on hal).box.cell 0 rfl
        have y1 := hT3.box.cell 1 rfl
        have q5 := HC3.out.cell 5 rfl
        have q6 := HC3.out.cell 6 rfl
        simp only at q5 q6
        simp only [prC] at hrun
        clear HP HT hT5 hG5 hB5 hT6 hG6 HC3 hT3 hal
        go_wp2
        clear hl hm hr hrz hkz hlt HB2 HB3
        go_cut [49] (fun _ wx => wx = W5.setCell ⟨b, 0, none⟩ (.slice p5 (S.length + 1) cap5))
        case first =>
          go_region_law (refine step_append_run rfl (.tmp 36) (.tmp 48) 31 rfl _ _ (by simp [Act.eval]) (by simp [Act.eval]) (hrun _) ?_)
          all_goals (go_wp2_with fail; go_meet; rfl)
        case rest =>
          subst hcut
          go_wp2
          exact HZ.out
    · rw [decide_eq_false hr, if_neg (by decide), if_neg (by decide), if_neg (by decide), if_neg hr]
      have hrz : (most : Int) ≤ (S.length : Int) := by omega
      have HP : Hid (∀ w1, Below w.heap.size w w1 → TPost hi 34 b w (.slice (some ⟨g, 0, none⟩) S.length cap) nx (most : Int) S (.tuple #[.int .i64 0, .int .i64 35]) (.returned (.tuple #[.int .i64 0, .int .i64 35])) w1) := fun w1 hb => ⟨rfl, _, HT.out w1 hb, .on hb⟩
      generalize TPost hi 34 b w (.slice (some ⟨g, 0, none⟩) S.length cap) nx (most : Int) S (.tuple #[.int .i64 0, .int .i64 35]) = Post at *
      clear h hcel hs hq HT
      go_enter Try.func30, Try.ntmps30
      go_wp2_with fail
      refine cL.mono ?_
      rintro e w1 ⟨rfl, hw1⟩
      subst hw1
      clear cL
      go_wp2
      go_quiet (fail)
      go_wp2
      exact HP.out _ (on_drewN (Below.refl _ _) _)
end

end Go.Proofs.Ythmefiegoagkjaa.Y
