/- What Fork does. -/
import Derived.Test.YthmefiegoagkjaaYWait
import Derived.Deep.RegionLaw
namespace Go.Proofs.Ythmefiegoagkjaa.Y
open Go Go.RowKit

/-- append by its run, as one step of a region that draws. -/
theorem step_append_run {P : Program} {ops : Array Oper} {o : Oper} {a : Act} {w w' : World} {K : Act → World → Prop} {Q : Exit → Act → World → Prop} {E : Prop} {v : Value}
    (hg : o.guard = none) (s x : Operand) (t : TypeId) (hop : o.op = Op.call { callee := Callee.builtin Builtin.append, args := #[s, x], argTypes := #[t, t] })
    (u1 u2 : Value) (hs : a.eval s = u1) (hx : a.eval x = u2) (hrun : (Builtin.append_ #[t, t] o.type #[u1, u2]).run P w = .ok v w') (hK : K (a.put o.dst v) w') :
    if Region.wanted o (yielded ops a.tmps) = true then Oper.wp P o a w K Q else E := by
  have hw : Region.wanted o (yielded ops a.tmps) = true := by simp [Region.wanted, hg]
  rw [if_pos hw]
  subst hs hx
  unfold Oper.wp
  simp [execOp, hop, resolve, invoke, builtin, hrun, Result.andThen]
  exact hK
section
variable {hi b c most : Nat} {v : Value} {nx : Int} {S : List Pr} {w : World}
set_option maxRecDepth 100000 in
set_option maxHeartbeats 4000000 in
theorem fork_any (h : TabAt hi 57 w b v (most : Int) nx S) (ok : Ok c most nx S) (hm : most ≤ 64) (hcc : c ≤ 900) (p : Int) (pd : Bool) :
    Calls Try.prog 19 #[ptr b, .int .i64 p, .bool pd] w (TPost hi 57 b w v (most : Int) (forkX most nx S p) (forkS most nx S p pd) (.tuple #[.int .i64 (forkN most nx S p), .int .i64 (forkE most S p)])) := by
  have hl : S.length ≤ 1000 := by have := ok.len; omega
  have hnx := ok.num
  have hs := ok.sorted
  clear ok
  have HT : Hid (∀ w1, Below w.heap.size w w1 → TabAt hi 57 w1 b v (most : Int) nx S) := fun w1 hb => h.on hb
  unfold forkS forkX forkN forkE
  cases hq : lv p S with
  | false =>
    have cP := living_no h hs hl hq
    rw [Bool.false_and, if_neg (by decide), if_neg (by decide), if_neg (by decide), if_neg (by decide)]
    have HP : Hid (∀ w1, Below w.heap.size w w1 → TPost hi 57 b w v (most : Int) nx S (.tuple #[.int .i64 0, .int .i64 3]) (.returned (.tuple #[.int .i64 0, .int .i64 3])) w1) := fun w1 hb => ⟨rfl, v, HT.out w1 hb, .on hb⟩
    generalize TPost hi 57 b w v (most : Int) nx S (.tuple #[.int .i64 0, .int .i64 3]) = Post at *
    clear h HT hq hs
    go_enter Try.func19, Try.ntmps19
    go_wp2_with fail
    refine cP.mono ?_
    rintro e w1 ⟨rfl, hb1⟩
    go_wp2
    exact HP.out _ hb1
  | true =>
    have hlt := spot_lt (lv_has hq)
    obtain ⟨g, cap, rfl, _, hcc⟩ := tab_cells h hlt
    have cP := living_yes h hs hl hq
    have HR : Hid (∀ w1, Below w.heap.size w w1 → Calls Try.prog 12 #[ptr b] w1 fun e w' => e = .returned (.int .i64 ((most : Int) - (S.length : Int))) ∧ ∃ q, w' = w1.drewN q) := fun w1 hb => room_any (HT.out w1 hb) (by omega) hl
    rw [Bool.true_and, if_pos rfl]
    by_cases hr : S.length < most
    · rw [decide_eq_true hr, if_pos rfl, if_pos rfl, if_pos rfl, if_pos hr, at_get (lv_has hq)]
      have hrz : ¬ (most : Int) - (S.length : Int) < 1 := by omega
      obtain ⟨X, hX⟩ : ∃ X, S[spot p S] = X := ⟨_, rfl⟩
      have HX : Hid (∀ w1, Below w.heap.size w w1 → Cells w1 g (spot p S) X) := fun w1 hb => by rw [← hX]; exact (row_at (HT.out w1 hb).row hlt).2
      rw [hX]
      clear hX
      have HP : Hid (∀ w1 v', TabAt hi 57 w1 b v' (most : Int) (nx + 1) (S ++ [⟨nx, p, true, 0, pd, X.cap, X.cwd⟩]) → T.Goes b (.slice (some ⟨g, 0, none⟩) S.length cap) v' w w1 → TPost hi 57 b w (.slice (some ⟨g, 0, none⟩) S.length cap) (most : Int) (nx + 1) (S ++ [⟨nx, p, true, 0, pd, X.cap, X.cwd⟩]) (.tuple #[.int .i64 nx, .int .i64 0]) (.returned (.tuple #[.int .i64 nx, .int .i64 0])) w1) := fun w1 v' h1 h2 => ⟨rfl, v', h1, h2⟩
      generalize TPost hi 57 b w (.slice (some ⟨g, 0, none⟩) S.length cap) (most : Int) (nx + 1) (S ++ [⟨nx, p, true, 0, pd, X.cap, X.cwd⟩]) (.tuple #[.int .i64 nx, .int .i64 0]) = Post at *
      obtain ⟨X0, X1, X2, X3, X4, X5, X6⟩ := X
      simp only at HP
      clear h hcc hq hs
      generalize spot p S = k at *
      go_enter Try.func19, Try.ntmps19
      go_wp2_with fail
      refine cP.mono ?_
      rintro e w1 ⟨rfl, hb1⟩
      go_wp2_with fail
      refine (HR.out w1 hb1).mono ?_
      rintro e w2 ⟨rfl, n2, rfl⟩
      have HB2 : Hid (Below w.heap.size w (w1.drewN n2)) := on_drewN hb1 n2
      generalize w1.drewN n2 = w2 at *
      have hT2 := HT.out w2 HB2.out
      have y0 := hT2.box.cell 0 rfl
      have y2 := hT2.box.cell 2 rfl
      have f2 := hT2.box.free 2
      obtain ⟨_, _, _, _, _, z5, z6, _⟩ := HX.out w2 HB2.out
      simp only at z5 z6
      have hal := on_alloc w2 (.cells #[.int .i64 0, .int .i64 0, .bool false, .int .i64 0, .bool false, .bool false, .int .i64 0] 37)
      have y2' := (hT2.on hal).box.cell 2 rfl
      obtain ⟨_, _, _, _, _, z5', z6', _⟩ := HX.out _ (on_trans HB2.out hal)
      simp only at z5' z6'
      clear cP HR HX hb1 hT2 hal
      go_wp2
      go_region
      have HB3 : Hid (Below w2.heap.size w2 (w2.alloc (.cells #[.int .i64 nx, .int .i64 p, .bool true, .int .i64 0, .bool pd, .bool X5, .int .i64 X6] 37)).drew) := on_drew (on_alloc w2 _)
      have HC3 : Hid (Blk (w2.alloc (.cells #[.int .i64 nx, .int .i64 p, .bool true, .int .i64 0, .bool pd, .bool X5, .int .i64 X6] 37)).drew w2.heap.size 37 (prC ⟨nx, p, true, 0, pd, X5, X6⟩)) := (Blk.new w2 37 (prC ⟨nx, p, true, 0, pd, X5, X6⟩)).drew
      clear y0 y2 f2 z5 z6 y2' z5' z6'
      generalize (w2.alloc (.cells #[.int .i64 nx, .int .i64 p, .bool true, .int .i64 0, .bool pd, .bool X5, .int .i64 X6] 37)).drew = w3 at *
      have hT2 := HT.out w2 HB2.out
      have hne : w2.heap.size ≠ b := by have := hT2.box.lt; omega
      have hgne : w2.heap.size ≠ g := by
        have := (T.own_at hT2.row (g := g) rfl).2.1
        omega
      have hT3 := HT.out w3 (on_trans HB2.out HB3.out)
      have y2 := hT3.box.cell 2 rfl
      have f2 := hT3.box.free 2
      have HT4 : Hid (TabAt hi 57 (w3.setCell ⟨b, 2, none⟩ (.int .i64 (nx + 1))) b (.slice (some ⟨g, 0, none⟩) S.length cap) (most : Int) (nx + 1) S) := TabAt_next hT3 (by decide) (nx + 1)
      have HC4 : Hid (Blk (w3.setCell ⟨b, 2, none⟩ (.int .i64 (nx + 1))) w2.heap.size 37 (prC ⟨nx, p, true, 0, pd, X5, X6⟩)) := HC3.out.but (but_set _ _ _ _) hne
      have HG4 : Hid (T.Goes b (.slice (some ⟨g, 0, none⟩) S.length cap) (.slice (some ⟨g, 0, none⟩) S.length cap) w (w3.setCell ⟨b, 2, none⟩ (.int .i64 (nx + 1)))) := T.goes_box (T.Goes.on (on_trans HB2.out HB3.out)) _ _ rfl
      clear hT2 hT3 HT HC3
      go_wp2
      clear y2 f2
      generalize w3.setCell ⟨b, 2, none⟩ (.int .i64 (nx + 1)) = w4 at *
      have hd4 : Below w4.heap.size w4 w4.drew := on_drew (Below.refl _ _)
      have hlay := lay_one (HT4.out.on hd4) (by decide) hl ⟨nx, p, true, 0, pd, X5, X6⟩
      rw [show w4.drew.alloc (.cells (prC ⟨nx, p, true, 0, pd, X5, X6⟩).toArray 37) = (w4.alloc (.cells (prC ⟨nx, p, true, 0, pd, X5, X6⟩).toArray 37)).drew from rfl, show w4.drew.heap.size = w4.heap.size from rfl] at hlay
      obtain ⟨p5, cap5, W5, hrun, hB5, hT5, hG5, _⟩ := hlay
      have HZ : Hid _ := HP.out _ _ hT5 ((HG4.out.trans (.on hd4)).trans hG5)
      have hC5 : Blk (W5.setCell ⟨b, 0, none⟩ (.slice p5 (S.length + 1) cap5)) w2.heap.size 37 (prC ⟨nx, p, true, 0, pd, X5, X6⟩) := ⟨(hG5.block _ HC4.out.lt hne (fun e => hgne (by simpa [Value.ownBlock] using e.symm))).trans HC4.out.row⟩
      have k0 := hC5.cell 0 rfl
      have b0 := hB5.cell 0 rfl
      have g0 := hB5.free 0
      have y0 := HT4.out.box.cell 0 rfl
      have y0' := (HT4.out.on (on_alloc w4 (.cells #[.int .i64 nx, .int .i64 p, .bool true, .int .i64 0, .bool pd, .bool X5, .int .i64 X6] 37))).box.cell 0 rfl
      have q0 := HC4.out.cell 0 rfl
      have q1 := HC4.out.cell 1 rfl
      have q2 := HC4.out.cell 2 rfl
      have q3 := HC4.out.cell 3 rfl
      have q4 := HC4.out.cell 4 rfl
      have q5 := HC4.out.cell 5 rfl
      have q6 := HC4.out.cell 6 rfl
      simp only at k0 q0 q1 q2 q3 q4 q5 q6
      simp only [prC] at hrun
      clear HP hT5 hG5 hB5 hC5 HT4 HC4 HG4 hd4
      go_region_law (refine step_append_run rfl (.tmp 46) (.tmp 48) 31 rfl _ _ (by simp [Act.eval]) (by simp [Act.eval]) (hrun _) ?_)
      all_goals
        go_wp2
        exact HZ.out
    · rw [decide_eq_false hr, if_neg (by decide), if_neg (by decide), if_neg (by decide), if_neg hr]
      have hrz : (most : Int) - (S.length : Int) < 1 := by omega
      have HP : Hid (∀ w1, Below w.heap.size w w1 → TPost hi 57 b w (.slice (some ⟨g, 0, none⟩) S.length cap) (most : Int) nx S (.tuple #[.int .i64 0, .int .i64 35]) (.returned (.tuple #[.int .i64 0, .int .i64 35])) w1) := fun w1 hb => ⟨rfl, _, HT.out w1 hb, .on hb⟩
      generalize TPost hi 57 b w (.slice (some ⟨g, 0, none⟩) S.length cap) (most : Int) nx S (.tuple #[.int .i64 0, .int .i64 35]) = Post at *
      clear h hcc hq hs HT
      generalize spot p S = k at *
      go_enter Try.func19, Try.ntmps19
      go_wp2_with fail
      refine cP.mono ?_
      rintro e w1 ⟨rfl, hb1⟩
      go_wp2_with fail
      refine (HR.out w1 hb1).mono ?_
      rintro e w2 ⟨rfl, n2, rfl⟩
      go_wp2
      exact HP.out _ (on_drewN hb1 n2)
end

end Go.Proofs.Ythmefiegoagkjaa.Y
