/- What the reference's calls answer. -/
import Derived.Test.YtmccfcllehfebaaZFun4
namespace Go.Proofs.Ytmccfcllehfebaa.Z
open Go Go.RowKit

set_option maxRecDepth 100000 in
set_option maxHeartbeats 2000000 in
theorem one_any (x y : Sl) (p q : Option Addr) (c d : Nat) (w : World) (h : W.At w p x.ints) (h2 : W.At w q y.ints) (hl : x.ints.length ≤ 1000) :
    Calls Try.prog 16 #[.agg (slC x (.slice p x.ints.length c)).toArray, .agg (slC y (.slice q y.ints.length d)).toArray] w fun e w' => e = .returned (.bool (oneB x y)) ∧ Below w.heap.size w w' := by
  change Calls Try.prog 16 #[.agg #[.int .i64 x.file, .int .u32 (x.rights : Int), .bool x.all, .slice p x.ints.length c, .int .i64 x.fc], .agg #[.int .i64 y.file, .int .u32 (y.rights : Int), .bool y.all, .slice q y.ints.length d, .int .i64 y.fc]] w _
  have HB : Hid (Below w.heap.size w ((w.alloc (.cells #[.int .i64 x.file, .int .u32 (x.rights : Int), .bool x.all, .slice p x.ints.length c, .int .i64 x.fc] 34)).alloc (.cells #[.int .i64 y.file, .int .u32 (y.rights : Int), .bool y.all, .slice q y.ints.length d, .int .i64 y.fc] 34))) := on_trans (on_alloc w _) (on_alloc _ _)
  have hX : Blk ((w.alloc (.cells #[.int .i64 x.file, .int .u32 (x.rights : Int), .bool x.all, .slice p x.ints.length c, .int .i64 x.fc] 34)).alloc (.cells #[.int .i64 y.file, .int .u32 (y.rights : Int), .bool y.all, .slice q y.ints.length d, .int .i64 y.fc] 34)) w.heap.size 34 (slC x (.slice p x.ints.length c)) := (Blk.new w _ (slC x (.slice p x.ints.length c))).alloc _
  have hY : Blk ((w.alloc (.cells #[.int .i64 x.file, .int .u32 (x.rights : Int), .bool x.all, .slice p x.ints.length c, .int .i64 x.fc] 34)).alloc (.cells #[.int .i64 y.file, .int .u32 (y.rights : Int), .bool y.all, .slice q y.ints.length d, .int .i64 y.fc] 34)) (w.heap.size + 1) 34 (slC y (.slice q y.ints.length d)) := by
    have := Blk.new (w.alloc (.cells #[.int .i64 x.file, .int .u32 (x.rights : Int), .bool x.all, .slice p x.ints.length c, .int .i64 x.fc] 34)) 34 (slC y (.slice q y.ints.length d))
    rwa [World.size_alloc] at this
  have cS := W.same_any x.all y.all p q c d x.ints y.ints _ (by omega) (h.on HB.out) (h2.on HB.out)
  have HO : Hid (oneB x y = (decide (x.file = y.file) && decide (x.rights = y.rights) && decide (x.fc = y.fc) && ((x.all == y.all) && decide (x.ints = y.ints)))) := rfl
  generalize oneB x y = r at *
  generalize ((x.all == y.all) && decide (x.ints = y.ints)) = s at *
  have x0 := hX.cell 0 rfl
  have x1 := hX.cell 1 rfl
  have x2 := hX.cell 2 rfl
  have x3 := hX.cell 3 rfl
  have x4 := hX.cell 4 rfl
  have y0 := hY.cell 0 rfl
  have y1 := hY.cell 1 rfl
  have y2 := hY.cell 2 rfl
  have y3 := hY.cell 3 rfl
  have y4 := hY.cell 4 rfl
  clear hX hY h h2
  by_cases e1 : x.file = y.file
  · have g1 : (x.file == y.file) = true := by simpa using e1
    rw [decide_eq_true e1, Bool.true_and] at HO
    by_cases e2 : x.rights = y.rights
    · have g2 : ((x.rights : Int) == (y.rights : Int)) = true := by rw [e2]; exact beq_self_eq_true _
      rw [decide_eq_true e2, Bool.true_and] at HO
      by_cases e3 : x.fc = y.fc
      · have g3 : (x.fc == y.fc) = true := by simpa using e3
        rw [decide_eq_true e3, Bool.true_and] at HO
        clear e1 e2 e3
        go_enter Try.func16, Try.ntmps16
        go_wp2_with fail
        generalize (w.alloc (.cells #[.int .i64 x.file, .int .u32 (x.rights : Int), .bool x.all, .slice p x.ints.length c, .int .i64 x.fc] 34)).alloc (.cells #[.int .i64 y.file, .int .u32 (y.rights : Int), .bool y.all, .slice q y.ints.length d, .int .i64 y.fc] 34) = w0 at *
        refine cS.mono ?_
        rintro e w1 ⟨rfl, hb1⟩
        have HB1 : Hid (Below w.heap.size w w1) := on_trans HB.out hb1
        clear cS HB hb1
        go_wp2
        go_ret
        exact ⟨by rw [HO.out]; rfl, HB1.out⟩
      · have g3 : (x.fc == y.fc) = false := by simpa using e3
        rw [decide_eq_false e3, Bool.false_and] at HO
        clear e1 e2 e3 cS
        go_enter Try.func16, Try.ntmps16
        go_wp2
        go_ret
        exact ⟨by rw [HO.out]; rfl, HB.out⟩
    · have g2 : ((x.rights : Int) == (y.rights : Int)) = false := by
        rw [beq_eq_false_iff_ne]; omega
      rw [decide_eq_false e2, Bool.false_and, Bool.false_and] at HO
      clear e1 e2 cS
      go_enter Try.func16, Try.ntmps16
      go_wp2
      go_ret
      exact ⟨by rw [HO.out]; rfl, HB.out⟩
  · have g1 : (x.file == y.file) = false := by simpa using e1
    rw [decide_eq_false e1, Bool.false_and, Bool.false_and, Bool.false_and] at HO
    clear e1 cS
    go_enter Try.func16, Try.ntmps16
    go_wp2
    go_ret
    exact ⟨by rw [HO.out]; rfl, HB.out⟩
set_option maxRecDepth 100000 in
set_option maxHeartbeats 1000000 in
theorem rcan_any (x : Sl) (p : Option Addr) (c : Nat) (w : World) (h : W.At w p x.ints) (hl : x.ints.length ≤ 1000) :
    Calls Try.prog 17 #[.agg (slC x (.slice p x.ints.length c)).toArray] w fun e w' => e = .returned (.bool (canS x)) ∧ Below w.heap.size w w' := by
  change Calls Try.prog 17 #[.agg #[.int .i64 x.file, .int .u32 (x.rights : Int), .bool x.all, .slice p x.ints.length c, .int .i64 x.fc]] w _
  have HB : Hid (Below w.heap.size w (w.alloc (.cells #[.int .i64 x.file, .int .u32 (x.rights : Int), .bool x.all, .slice p x.ints.length c, .int .i64 x.fc] 34))) := on_alloc w _
  have hX : Blk (w.alloc (.cells #[.int .i64 x.file, .int .u32 (x.rights : Int), .bool x.all, .slice p x.ints.length c, .int .i64 x.fc] 34)) w.heap.size 34 (slC x (.slice p x.ints.length c)) := Blk.new w _ (slC x (.slice p x.ints.length c))
  have cM := W.refMask_any 120 x.fc (w.alloc (.cells #[.int .i64 x.file, .int .u32 (x.rights : Int), .bool x.all, .slice p x.ints.length c, .int .i64 x.fc] 34))
  have cC := W.refCan_any x.all p c x.ints _ (by omega) (h.on HB.out)
  have HC : Hid (canS x = (decide (0 < x.file) && W.canB x.all x.ints && decide (W.maskE 120 x.fc = 0))) := rfl
  generalize canS x = r at *
  generalize W.canB x.all x.ints = ca at *
  generalize W.maskE 120 x.fc = E at *
  generalize W.maskV 120 x.fc = V at *
  have x0 := hX.cell 0 rfl
  have x1 := hX.cell 1 rfl
  have x2 := hX.cell 2 rfl
  have x3 := hX.cell 3 rfl
  have x4 := hX.cell 4 rfl
  clear hX h
  by_cases h1 : 0 < x.file
  · have z1 : decide (0 < x.file) = true := decide_eq_true h1
    rw [z1, Bool.true_and] at HC
    cases ca with
    | true =>
      rw [Bool.true_and] at HC
      have z2 : decide (E = 0) = (E == 0) := by rw [Bool.eq_iff_iff]; simp
      rw [z2] at HC
      go_enter Try.func17, Try.ntmps17
      go_wp2_with fail
      generalize w.alloc (.cells #[.int .i64 x.file, .int .u32 (x.rights : Int), .bool x.all, .slice p x.ints.length c, .int .i64 x.fc] 34) = w0 at *
      refine cM.mono ?_
      rintro e w1 ⟨rfl, hw1⟩
      subst hw1
      go_wp2_with fail
      refine cC.mono ?_
      rintro e w2 ⟨rfl, hb2⟩
      have HB1 : Hid (Below w.heap.size w w2) := on_trans HB.out hb2
      clear cM cC HB hb2 z2
      go_wp2
      go_ret
      exact ⟨by rw [HC.out]; rfl, HB1.out⟩
    | false =>
      rw [Bool.false_and] at HC
      go_enter Try.func17, Try.ntmps17
      go_wp2_with fail
      generalize w.alloc (.cells #[.int .i64 x.file, .int .u32 (x.rights : Int), .bool x.all, .slice p x.ints.length c, .int .i64 x.fc] 34) = w0 at *
      refine cM.mono ?_
      rintro e w1 ⟨rfl, hw1⟩
      subst hw1
      go_wp2_with fail
      refine cC.mono ?_
      rintro e w2 ⟨rfl, hb2⟩
      have HB1 : Hid (Below w.heap.size w w2) := on_trans HB.out hb2
      clear cM cC HB hb2
      go_wp2
      go_ret
      exact ⟨by rw [HC.out]; rfl, HB1.out⟩
  · have z1 : decide (0 < x.file) = false := decide_eq_false h1
    rw [z1, Bool.false_and, Bool.false_and] at HC
    clear cC
    go_enter Try.func17, Try.ntmps17
    go_wp2_with fail
    generalize w.alloc (.cells #[.int .i64 x.file, .int .u32 (x.rights : Int), .bool x.all, .slice p x.ints.length c, .int .i64 x.fc] 34) = w0 at *
    refine cM.mono ?_
    rintro e w1 ⟨rfl, hw1⟩
    subst hw1
    go_wp2
    go_ret
    exact ⟨by rw [HC.out]; rfl, HB.out⟩
set_option maxRecDepth 100000 in
set_option maxHeartbeats 2000000 in
theorem within_any (x y : Sl) (p q : Option Addr) (c d : Nat) (w : World) (h : W.At w p x.ints) (h2 : W.At w q y.ints) (hl : x.ints.length ≤ 1000) (hl2 : y.ints.length ≤ 1000) (hx : x.rights < 4294967296) (hy : y.rights < 4294967296) (hw : withinB x y = true) :
    Calls Try.prog 23 #[.agg (slC x (.slice p x.ints.length c)).toArray, .agg (slC y (.slice q y.ints.length d)).toArray] w fun e w' => e = .returned (.bool true) ∧ Below w.heap.size w w' := by
  change Calls Try.prog 23 #[.agg #[.int .i64 x.file, .int .u32 (x.rights : Int), .bool x.all, .slice p x.ints.length c, .int .i64 x.fc], .agg #[.int .i64 y.file, .int .u32 (y.rights : Int), .bool y.all, .slice q y.ints.length d, .int .i64 y.fc]] w _
  have HB : Hid (Below w.heap.size w ((w.alloc (.cells #[.int .i64 x.file, .int .u32 (x.rights : Int), .bool x.all, .slice p x.ints.length c, .int .i64 x.fc] 34)).alloc (.cells #[.int .i64 y.file, .int .u32 (y.rights : Int), .bool y.all, .slice q y.ints.length d, .int .i64 y.fc] 34))) := on_trans (on_alloc w _) (on_alloc _ _)
  have hX : Blk ((w.alloc (.cells #[.int .i64 x.file, .int .u32 (x.rights : Int), .bool x.all, .slice p x.ints.length c, .int .i64 x.fc] 34)).alloc (.cells #[.int .i64 y.file, .int .u32 (y.rights : Int), .bool y.all, .slice q y.ints.length d, .int .i64 y.fc] 34)) w.heap.size 34 (slC x (.slice p x.ints.length c)) := (Blk.new w _ (slC x (.slice p x.ints.length c))).alloc _
  have hY : Blk ((w.alloc (.cells #[.int .i64 x.file, .int .u32 (x.rights : Int), .bool x.all, .slice p x.ints.length c, .int .i64 x.fc] 34)).alloc (.cells #[.int .i64 y.file, .int .u32 (y.rights : Int), .bool y.all, .slice q y.ints.length d, .int .i64 y.fc] 34)) (w.heap.size + 1) 34 (slC y (.slice q y.ints.length d)) := by
    have := Blk.new (w.alloc (.cells #[.int .i64 x.file, .int .u32 (x.rights : Int), .bool x.all, .slice p x.ints.length c, .int .i64 x.fc] 34)) 34 (slC y (.slice q y.ints.length d))
    rwa [World.size_alloc] at this
  have cS := W.refSubset_any x.all y.all p q c d x.ints y.ints _ (by omega) (by omega) (h.on HB.out) (h2.on HB.out)
  have cR := R.refSub_any x.rights y.rights hx hy ((w.alloc (.cells #[.int .i64 x.file, .int .u32 (x.rights : Int), .bool x.all, .slice p x.ints.length c, .int .i64 x.fc] 34)).alloc (.cells #[.int .i64 y.file, .int .u32 (y.rights : Int), .bool y.all, .slice q y.ints.length d, .int .i64 y.fc] 34))
  have cM := W.refMask_any y.fc x.fc ((w.alloc (.cells #[.int .i64 x.file, .int .u32 (x.rights : Int), .bool x.all, .slice p x.ints.length c, .int .i64 x.fc] 34)).alloc (.cells #[.int .i64 y.file, .int .u32 (y.rights : Int), .bool y.all, .slice q y.ints.length d, .int .i64 y.fc] 34))
  unfold withinB at hw
  rw [Bool.and_eq_true, Bool.and_eq_true, decide_eq_true_iff] at hw
  rw [hw.1.1] at cR
  rw [hw.1.2] at cS
  rw [hw.2] at cM
  generalize W.maskV y.fc x.fc = V at *
  have x0 := hX.cell 0 rfl
  have x1 := hX.cell 1 rfl
  have x2 := hX.cell 2 rfl
  have x3 := hX.cell 3 rfl
  have x4 := hX.cell 4 rfl
  have y0 := hY.cell 0 rfl
  have y1 := hY.cell 1 rfl
  have y2 := hY.cell 2 rfl
  have y3 := hY.cell 3 rfl
  have y4 := hY.cell 4 rfl
  clear hX hY h h2 hw
  go_enter Try.func23, Try.ntmps23
  go_wp2_with fail
  generalize (w.alloc (.cells #[.int .i64 x.file, .int .u32 (x.rights : Int), .bool x.all, .slice p x.ints.length c, .int .i64 x.fc] 34)).alloc (.cells #[.int .i64 y.file, .int .u32 (y.rights : Int), .bool y.all, .slice q y.ints.length d, .int .i64 y.fc] 34) = w0 at *
  refine cM.mono ?_
  rintro e w1 ⟨rfl, hw1⟩
  subst hw1
  go_wp2_with fail
  refine cR.mono ?_
  rintro e w2 ⟨rfl, hw2⟩
  subst hw2
  go_wp2_with fail
  refine cS.mono ?_
  rintro e w3 ⟨rfl, hb3⟩
  have HB1 : Hid (Below w.heap.size w w3) := on_trans HB.out hb3
  clear cS cM cR HB hb3
  go_wp2
  go_ret
  exact ⟨rfl, HB1.out⟩
section
variable {D : Nat → Prop} {w : World} {v : Value} {S : List Sl}
set_option maxRecDepth 100000 in
set_option maxHeartbeats 1000000 in
theorem rget_any (h : RowAt D w v S) (hS : Fits S) (_hl : S.length ≤ 64) (fd : Int) (need : Nat) (hn : need < 4294967296) :
    Calls Try.prog 13 #[v, .int .i64 fd, .int .u32 (need : Int)] w fun e w' => e = .returned (.int .i64 (getE S fd need)) ∧ w' = w := by
  have HG : Hid (getE S fd need = if liveB S fd then (if R.subB need (atS S fd).rights then 0 else 93) else 9) := rfl
  generalize getE S fd need = G at *
  by_cases h1 : fd < 0
  · have z1 : decide (fd < 0) = true := decide_eq_true h1
    have HE : Hid (G = 9) := by
      have := HG.out
      rwa [if_neg (by unfold liveB inB; rw [decide_eq_false (show ¬ 0 ≤ fd by omega)]; simp)] at this
    obtain ⟨p, cap, rfl⟩ := h.slice
    clear h HG
    go_enter Try.func13, Try.ntmps13
    go_wp2
    go_ret
    exact ⟨by rw [HE.out]; rfl, rfl⟩
  · obtain ⟨k, rfl⟩ : ∃ k : Nat, fd = (k : Int) := ⟨fd.toNat, by omega⟩
    by_cases h2 : k < S.length
    · obtain ⟨b, off, cap, lv, rfl, _, hc⟩ := h.cells h2
      have y0 := hc 0 _ rfl
      have y1 := hc 1 _ rfl
      rw [live_of h2, show atS S (k : Int) = S.getD k zS from rfl] at HG
      have hfit := hS.at (k : Int)
      rw [show atS S (k : Int) = S.getD k zS from rfl] at hfit
      rw [← Nat.add_assoc] at y0 y1
      rw [Nat.add_zero] at y0
      have h2z : (k : Int) < (S.length : Int) := by omega
      have h2n : ¬ (S.length : Int) ≤ (k : Int) := by omega
      have cR := fun w1 => R.refSub_any need (S.getD k zS).rights hn hfit.1 w1
      clear h hS hc hfit
      generalize S.getD k zS = x at *
      by_cases h3 : x.file = 0
      · have z3 : (x.file == 0) = true := by simpa using h3
        have HE : Hid (G = 9) := by
          have := HG.out
          rwa [if_neg (by simpa using h3)] at this
        clear h3 HG cR
        go_enter Try.func13, Try.ntmps13
        go_wp2
        go_ret
        exact ⟨by rw [HE.out]; rfl, rfl⟩
      · have z3 : (x.file == 0) = false := by simpa using h3
        have HE : Hid (G = if R.subB need x.rights then 0 else 93) := by
          have := HG.out
          rwa [if_pos (by simpa using h3)] at this
        clear h3 HG
        cases hs : R.subB need x.rights with
        | true =>
          rw [hs] at HE cR
          clear hs
          go_enter Try.func13, Try.ntmps13
          go_wp2_with fail
          refine (cR _).mono ?_
          rintro e w1 ⟨rfl, rfl⟩
          go_wp2
          go_ret
          exact ⟨by rw [HE.out]; rfl, rfl⟩
        | false =>
          rw [hs] at HE cR
          clear hs
          go_enter Try.func13, Try.ntmps13
          go_wp2_with fail
          refine (cR _).mono ?_
          rintro e w1 ⟨rfl, rfl⟩
          go_wp2
          go_ret
          exact ⟨by rw [HE.out]; rfl, rfl⟩
    · have h2n : (S.length : Int) ≤ (k : Int) := by omega
      have HE : Hid (G = 9) := by
        have := HG.out
        rwa [if_neg (by unfold liveB inB; rw [decide_eq_false (show ¬ (k : Int) < (S.length : Int) by omega)]; simp)] at this
      obtain ⟨p, cap, rfl⟩ := h.slice
      clear h HG
      go_enter Try.func13, Try.ntmps13
      go_wp2
      go_ret
      exact ⟨by rw [HE.out]; rfl, rfl⟩
set_option maxRecDepth 100000 in
set_option maxHeartbeats 1000000 in
theorem rfree_any (h : RowAt D w v S) (hl : S.length ≤ 64) (fd : Int) :
    Calls Try.prog 15 #[v, .int .i64 fd] w fun e w' => e = .returned (.tuple #[.int .i64 (freeN S fd), .int .i64 (freeE S fd)]) ∧ w' = w := by
  cases hi : inB S fd with
  | false =>
    have e1 : freeN S fd = 0 := by unfold freeN; rw [hi]; rfl
    have e2 : freeE S fd = 22 := by unfold freeE; rw [hi]; rfl
    rw [e1, e2]
    obtain ⟨p, cap, rfl⟩ := h.slice
    clear e1 e2 h
    by_cases h1 : fd < 0
    · have z1 : decide (fd < 0) = true := decide_eq_true h1
      clear hi
      go_enter Try.func15, Try.ntmps15
      go_wp2
      go_ret2
      exact ⟨rfl, rfl⟩
    · have z1 : decide (fd < 0) = false := decide_eq_false h1
      have z2 : (S.length : Int) ≤ fd := by
        have : ¬ (0 ≤ fd ∧ fd < (S.length : Int)) := fun h => by rw [in_iff.2 h] at hi; cases hi
        omega
      clear hi
      go_enter Try.func15, Try.ntmps15
      go_wp2
      go_ret2
      exact ⟨rfl, rfl⟩
  | true =>
    obtain ⟨a, rfl⟩ : ∃ a : Nat, fd = (a : Int) := ⟨fd.toNat, by have := (in_iff.1 hi).1; omega⟩
    have ha : a < S.length := by have := (in_iff.1 hi).2; omega
    have haz : ¬ (S.length : Int) ≤ (a : Int) := by omega
    have e1 : freeN S (a : Int) = if frF S a < S.length then (frF S a : Int) else 0 := by unfold freeN; rw [hi]; simp
    have e2 : freeE S (a : Int) = if frF S a < S.length then 0 else 24 := by unfold freeE; rw [hi]; simp
    obtain ⟨z, hz0⟩ : ∃ z, frF S a = z := ⟨_, rfl⟩
    have HZ : Hid (frF S a = z) := hz0
    rw [hz0] at e1 e2
    have H1 : Hid (z < S.length → freeN S (a : Int) = (z : Int) ∧ freeE S (a : Int) = 0) := fun h => ⟨by rw [e1, if_pos h], by rw [e2, if_pos h]⟩
    have H2 : Hid (z = S.length → freeN S (a : Int) = 0 ∧ freeE S (a : Int) = 24) := fun h => ⟨by rw [e1, if_neg (by omega)], by rw [e2, if_neg (by omega)]⟩
    clear e1 e2
    generalize freeN S (a : Int) = rN at *
    generalize freeE S (a : Int) = rE at *
    obtain ⟨b, off, cap, _, rfl, _, _⟩ := h.cells ha
    have HF : Hid (∀ k, k < S.length → w.cell? ⟨b, off + k * 5, none⟩ = some (.int .i64 (S.getD k zS).file)) := fun k hk => by
      obtain ⟨b', off', cap', lv, e, _, hc⟩ := h.cells hk
      cases e
      have := hc 0 _ rfl
      rwa [Nat.add_zero] at this
    have HH : Hid (∀ k, k < S.length → (S.getD k zS).file = 0 → frF S k = k) := fun k hk h1 => frF_hit hk h1
    have HN : Hid (∀ k, k < S.length → (S.getD k zS).file ≠ 0 → frF S k = frF S (k + 1)) := fun k hk h1 => frF_next hk h1
    have HE : Hid (frF S S.length = S.length) := frF_end (Nat.le_refl _)
    clear h hi hz0
    go_enter Try.func15, Try.ntmps15
    go_wp2
    go_loop [6] (fun iv => ∃ k : Nat, k ≤ S.length ∧ iv = .int .i64 (k : Int) ∧ Hid (frF S k = z)) (fun iv => S.length - (intOf iv).toNat)
    case atStart => exact ⟨a, by omega, rfl, HZ⟩
    case round =>
      obtain ⟨k, hk, rfl, HK⟩ := hrel
      by_cases hlt : k < S.length
      · have hltz : (k : Int) < (S.length : Int) := by omega
        have x1 := HF.out k hlt
        by_cases hf : (S.getD k zS).file = 0
        · have HR : Hid (z = k) := by have := HK.out; rw [HH.out k hlt hf] at this; exact this.symm
          have z3 : ((S.getD k zS).file == 0) = true := by simpa using hf
          clear hf
          generalize (S.getD k zS).file = fl at *
          go_wp2
          go_ret2
          exact ⟨by obtain ⟨r1, r2⟩ := H1.out (by rw [HR.out]; exact hlt); rw [r1, r2, HR.out]; rfl, rfl⟩
        · have HR : Hid (frF S (k + 1) = z) := by have := HK.out; rwa [HN.out k hlt hf] at this
          have z3 : ((S.getD k zS).file == 0) = false := by simpa using hf
          clear hf
          generalize (S.getD k zS).file = fl at *
          go_wp2
          go_round
          case rel => exact ⟨k + 1, by omega, by go_num, HR⟩
          case measure => simp [intOf]; omega
      · obtain rfl : k = S.length := by omega
        have hltz : ¬ (S.length : Int) < (S.length : Int) := by omega
        have HR : Hid (z = S.length) := by have := HK.out; rw [HE.out] at this; exact this.symm
        go_wp2
        go_ret2
        exact ⟨by obtain ⟨r1, r2⟩ := H2.out HR.out; rw [r1, r2]; rfl, rfl⟩
set_option maxRecDepth 100000 in
set_option maxHeartbeats 1000000 in
theorem rall_any (h : RowAt D w v S) (hS : Fits S) (hl : S.length ≤ 64) :
    Calls Try.prog 37 #[v] w (AllPost w S) := by
  have HF : Hid (∀ wr, Below w.heap.size w wr → ∀ k, k < S.length → ∀ b off cap, v = .slice (some ⟨b, off, none⟩) S.length cap → wr.cell? ⟨b, off + k * 5, none⟩ = some (.int .i64 (S.getD k zS).file)) := fun wr hb k hk b off cap e => by
    obtain ⟨b', off', cap', lv, e', _, hc⟩ := (h.on hb).cells hk
    rw [e] at e'
    cases e'
    have := hc 0 _ rfl
    rwa [Nat.add_zero] at this
  have HPl : Hid (∀ k, k < S.length → ∃ b off cap, v = .slice (some ⟨b, off, none⟩) S.length cap) := fun k hk => by
    obtain ⟨b', off', cap', lv, e', _⟩ := h.cells hk
    exact ⟨b', off', cap', e'⟩
  have HPos : Hid (∀ k, 0 ≤ (S.getD k zS).file) := fun k => (hS.at (k : Int)).pos
  obtain ⟨pp, cc, hv⟩ := h.slice
  subst hv
  have HS : Hid (∀ k, allK S (k + 1) = if liveAt S k then allK S k ++ [(k : Int)] else allK S k) := fun k => allK_succ S k
  have HLen : Hid (∀ k, (allK S k).length ≤ k) := fun k => allK_len S k
  have HP : Hid (∀ u wr, OwnV w.heap.size 3 wr u (W.intsV (allS S)) → Below w.heap.size w wr → AllPost w S (.returned u) wr) := fun u wr h1 h2 => by
    obtain ⟨p, c, e, hat, _⟩ := ownV_at h1
    rw [W.intsV_len] at e
    exact ⟨p, c, by rw [e], W.atF_ints.2 hat, h2⟩
  generalize AllPost w S = Post at *
  have HO0 : Hid (OwnV w.heap.size 3 (w.alloc (.cells #[] 3)) (.slice (some ⟨w.heap.size, 0, none⟩) 0 0) []) := ownV_empty w _ _ (Nat.le_refl _)
  have HB0 : Hid (Below w.heap.size w (w.alloc (.cells #[] 3))) := on_alloc w _
  clear h hS
  go_enter Try.func37, Try.ntmps37
  go_wp2
  generalize w.alloc (.cells #[] 3) = w0 at *
  go_loopw [3, 4] (fun v i wr => ∃ (k : Nat) (u : Value), u = v ∧ i = .int .i64 (k : Int) ∧ k ≤ S.length ∧ Hid (OwnV w.heap.size 3 wr v (W.intsV (allK S k))) ∧ Hid (Below w.heap.size w wr)) (fun _ i _ => S.length - (intOf i).toNat)
  case atStart => exact ⟨0, _, rfl, rfl, Nat.zero_le _, HO0, HB0⟩
  case round =>
    obtain ⟨k, u, hu, rfl, hk, HO, HB⟩ := hrel
    subst hu
    clear HO0 HB0
    by_cases hlt : k < S.length
    · have hltz : (k : Int) < (S.length : Int) := by omega
      obtain ⟨b, off, cap, e⟩ := HPl.out k hlt
      cases e
      have x1 := HF.out wr HB.out k hlt b off cc rfl
      have hpos := HPos.out k
      by_cases hf : (S.getD k zS).file = 0
      · have HR : Hid (OwnV w.heap.size 3 wr u (W.intsV (allK S (k + 1)))) := by
          show OwnV _ _ _ _ _
          rw [HS.out, show liveAt S k = false by unfold liveAt; exact decide_eq_false (fun h => h hf)]
          exact HO.out
        have z3 : ¬ 0 < (S.getD k zS).file := by omega
        clear hf hpos
        generalize (S.getD k zS).file = fl at *
        go_wp2
        go_roundw
        case rel => exact ⟨k + 1, _, rfl, by go_num, by omega, HR, HB⟩
        case measure => simp [intOf]; omega
      · obtain ⟨v', W', hrun, hO2, hB2⟩ := append_one elemInt w.heap.size u (W.intsV (allK S k)) (.int .i64 (k : Int)) wr (by rw [W.intsV_len]; have := HLen.out k; omega) rfl HO.out HB.out.size
        have HR : Hid (OwnV w.heap.size 3 W' v' (Go.Proofs.Ytmccfcllehfebaa.W.intsV (allK S (k + 1)))) := by
          show OwnV _ _ _ _ _
          rw [HS.out, show liveAt S k = true by unfold liveAt; exact decide_eq_true hf]
          simpa [Go.Proofs.Ytmccfcllehfebaa.W.intsV] using hO2
        have HBn : Hid (Below w.heap.size w W') := HB.out.trans hB2
        have z3 : 0 < (S.getD k zS).file := by omega
        clear hf hpos hO2 hB2
        generalize (S.getD k zS).file = fl at *
        go_wp2_with (at_builtin; refine wpList_run_append (by rfl) _ _ _ (by rfl) _ _ (by rfl) (by rfl) hrun ?_)
        go_roundw
        case rel => exact ⟨k + 1, _, rfl, by go_num, by omega, HR, HBn⟩
        case measure => simp [intOf]; omega
    · obtain rfl : k = S.length := by omega
      have hltz : ¬ (S.length : Int) < (S.length : Int) := by omega
      have HZ : Hid _ := HP.out _ _ HO.out HB.out
      go_wp2
      exact HZ.out
end
theorem elemS : ElemS Try.prog 25 34 (.agg #[.int .i64 0, .int .u32 0, .bool false, .slice none 0 0, .int .i64 0]) 5 56 := ⟨Try.underlying25, by kernel_rfl, rfl, by decide, by decide⟩
theorem flat_set5 : ∀ (M : List SV) (k : Nat) (_ : k < M.length) (x : Sl) (v : Value), (((((flat M).set (k * 5) (.int .i64 x.file)).set (k * 5 + 1) (.int .u32 (x.rights : Int))).set (k * 5 + 2) (.bool x.all)).set (k * 5 + 3) v).set (k * 5 + 4) (.int .i64 x.fc) = flat (M.set k (x, v))
  | e :: M, 0, _, x, v => rfl
  | e :: M, k + 1, h, x, v => by
    rw [List.set_cons_succ, flat_cons, flat_cons, ← flat_set5 M k (by simpa using h) x v, show (k + 1) * 5 = k * 5 + 5 by omega, show k * 5 + 5 + 1 = k * 5 + 1 + 5 by omega, show k * 5 + 5 + 2 = k * 5 + 2 + 5 by omega, show k * 5 + 5 + 3 = k * 5 + 3 + 5 by omega, show k * 5 + 5 + 4 = k * 5 + 4 + 5 by omega]
    rfl
theorem flat_cell {D : Nat → Prop} {w : World} {M : List SV} (h : ∀ e ∈ M, IntD D w e.2 e.1.ints) : ∀ u ∈ flat M, u.oneCell' = true := fun u hu => by
  obtain ⟨e, he, hu⟩ := List.mem_flatMap.1 hu
  have hc := (h e he).cell
  simp only [slC, List.mem_cons, List.not_mem_nil, or_false] at hu
  rcases hu with rfl | rfl | rfl | rfl | rfl
  · rfl
  · rfl
  · rfl
  · exact hc
  · rfl
/-- A row of the reference's. -/
def RPost (D : Nat → Prop) (w : World) (S : List Sl) (R : Value → Value) (e : Ending) (w' : World) : Prop := ∃ v, e = .returned (R v) ∧ RowAt D w' v S ∧ Below w.heap.size w w'
section
variable {D : Nat → Prop} {w : World} {v : Value} {S : List Sl} {x : Sl}
set_option maxRecDepth 100000 in
set_option maxHeartbeats 2000000 in
theorem rwith_any (h : RowAt D w v S) (hD : Lt D w) (hl : S.length ≤ 64) {k : Nat} (hk : k < S.length) (p : Option Addr) (c : Nat) (hx : IntD D w (.slice p x.ints.length c) x.ints) :
    Calls Try.prog 31 #[v, .int .i64 (k : Int), .agg (slC x (.slice p x.ints.length c)).toArray] w (RPost D w (S.set k x) fun u => u) := by
  change Calls Try.prog 31 #[v, .int .i64 (k : Int), .agg #[.int .i64 x.file, .int .u32 (x.rights : Int), .bool x.all, .slice p x.ints.length c, .int .i64 x.fc]] w _
  obtain ⟨M, rfl, hM⟩ := h
  rw [List.length_map] at hk hl
  obtain ⟨pv, cv, rfl, hat⟩ := hM.row
  have hal1 := on_alloc w (.cells #[.int .i64 x.file, .int .u32 (x.rights : Int), .bool x.all, .slice p x.ints.length c, .int .i64 x.fc] 34)
  have hal2 := on_trans hal1 (on_alloc (w.alloc (.cells #[.int .i64 x.file, .int .u32 (x.rights : Int), .bool x.all, .slice p x.ints.length c, .int .i64 x.fc] 34)) (.cells #[] 34))
  have hX : Blk ((w.alloc (.cells #[.int .i64 x.file, .int .u32 (x.rights : Int), .bool x.all, .slice p x.ints.length c, .int .i64 x.fc] 34)).alloc (.cells #[] 34)) w.heap.size 34 (slC x (.slice p x.ints.length c)) := (Blk.new w _ (slC x (.slice p x.ints.length c))).alloc _
  have hE := rowS_empty (w.alloc (.cells #[.int .i64 x.file, .int .u32 (x.rights : Int), .bool x.all, .slice p x.ints.length c, .int .i64 x.fc] 34)) (w.heap.size + 1) 34 5 (by rw [World.size_alloc]; omega)
  rw [World.size_alloc] at hE
  have hs2 : ((w.alloc (.cells #[.int .i64 x.file, .int .u32 (x.rights : Int), .bool x.all, .slice p x.ints.length c, .int .i64 x.fc] 34)).alloc (.cells #[] 34)).heap.size = w.heap.size + 2 := by simp
  obtain ⟨v', W', hrun, hown, hgr, hgs⟩ := append_rowA elemS (w.heap.size + 1) _ 0 [] pv cv M.length (flat M) ((w.alloc (.cells #[.int .i64 x.file, .int .u32 (x.rights : Int), .bool x.all, .slice p x.ints.length c, .int .i64 x.fc] 34)).alloc (.cells #[] 34)) (by omega) (by omega) (flat_len M) (flat_cell hM.ints) hE ((hat.on hal2).at) (by rw [hs2]; omega)
  rw [Nat.zero_add, List.nil_append] at hown
  obtain ⟨p', c', rfl, hat', hc'⟩ := rowS_at hown
  obtain ⟨g, rfl⟩ : ∃ g, p' = some ⟨g, 0, none⟩ := by
    rcases hown.2 with ⟨_, h1⟩ | ⟨g, cc, cur, h0, _⟩
    · omega
    · cases h0; exact ⟨g, rfl⟩
  obtain ⟨cs, hB, hcl, hnc, _, hg, hcs⟩ := rowS_blk hown
  have hb3 : Below (w.heap.size + 1) ((w.alloc (.cells #[.int .i64 x.file, .int .u32 (x.rights : Int), .bool x.all, .slice p x.ints.length c, .int .i64 x.fc] 34)).alloc (.cells #[] 34)) W' := hgr.below ((Below.refl _ _).mono (by omega)) (Nat.le_refl _) (by rw [hs2]; omega)
  have hX3 : Blk W' w.heap.size 34 (slC x (.slice p x.ints.length c)) := hX.below hb3 (by omega)
  have h0 := fun j => hB.free j
  have hcell : ∀ i, i < 5 → ∃ u, W'.cell? ⟨g, k * 5 + i, none⟩ = some u := fun i hi => by
    have hlt : k * 5 + i < cs.length := by rw [hcl]; have : (k + 1) * 5 ≤ c' * 5 := Nat.mul_le_mul_right 5 (by omega); omega
    exact ⟨cs[k * 5 + i], hB.cell _ (List.getElem?_eq_getElem hlt)⟩
  have hst := (((((hown.stored (k * 5) (.int .i64 x.file)).1.stored (k * 5 + 1) (.int .u32 (x.rights : Int))).1.stored (k * 5 + 2) (.bool x.all)).1.stored (k * 5 + 3) (.slice p x.ints.length c)).1.stored (k * 5 + 4) (.int .i64 x.fc)).1
  rw [flat_set5 M k hk x (.slice p x.ints.length c)] at hst
  have hBut := ((((but_set W' g (k * 5) (.int .i64 x.file)).trans (but_set _ g (k * 5 + 1) (.int .u32 (x.rights : Int)))).trans (but_set _ g (k * 5 + 2) (.bool x.all))).trans (but_set _ g (k * 5 + 3) (.slice p x.ints.length c))).trans (but_set _ g (k * 5 + 4) (.int .i64 x.fc))
  have HP : Hid (RPost D w ((M.map Prod.fst).set k x) (fun u => u) (.returned (.slice (some ⟨g, 0, none⟩) M.length c')) (((((W'.setCell ⟨g, k * 5, none⟩ (.int .i64 x.file)).setCell ⟨g, k * 5 + 1, none⟩ (.int .u32 (x.rights : Int))).setCell ⟨g, k * 5 + 2, none⟩ (.bool x.all)).setCell ⟨g, k * 5 + 3, none⟩ (.slice p x.ints.length c)).setCell ⟨g, k * 5 + 4, none⟩ (.int .i64 x.fc))) := by
    have hbl : Below w.heap.size w W' := hal2.trans (hb3.mono (by omega))
    have hbl2 := below_but hbl hBut (by omega)
    refine ⟨_, rfl, ⟨M.set k (x, .slice p x.ints.length c), by rw [List.map_set], ?_, fun e he => ?_⟩, hbl2⟩
    · obtain ⟨p2, c2, e2, h2, _⟩ := rowS_at hst
      cases e2
      exact ⟨_, c', by rw [List.length_set], AtD.of h2 fun j hj => by have := hD j hj; omega⟩
    · rcases List.mem_or_eq_of_mem_set he with h7 | h7
      · exact (hM.ints e h7).on hbl2
      · rw [h7]; exact hx.on hbl2
  generalize RPost D w ((M.map Prod.fst).set k x) (fun u => u) = Post at *
  obtain ⟨u0, q0⟩ := hcell 0 (by omega)
  obtain ⟨u1, q1⟩ := hcell 1 (by omega)
  obtain ⟨u2, q2⟩ := hcell 2 (by omega)
  obtain ⟨u3, q3⟩ := hcell 3 (by omega)
  obtain ⟨u4, q4⟩ := hcell 4 (by omega)
  rw [Nat.add_zero] at q0
  have g0 := h0 (k * 5)
  have g1 := h0 (k * 5 + 1)
  have g2 := h0 (k * 5 + 2)
  have g3 := h0 (k * 5 + 3)
  have g4 := h0 (k * 5 + 4)
  have x0 := hX3.cell 0 rfl
  have x1 := hX3.cell 1 rfl
  have x2 := hX3.cell 2 rfl
  have x3 := hX3.cell 3 rfl
  have x4 := hX3.cell 4 rfl
  have hkz : (k : Int) < (M.length : Int) := by omega
  clear hX hE hgr hgs hown hat' hB hcl hnc hg hcs hb3 hX3 h0 hcell hst hBut hal1 hal2 hs2 hat hM hx hD hc'
  go_enter Try.func31, Try.ntmps31
  go_wp2_with (at_builtin; refine wpList_run_append (by rfl) _ _ _ (by rfl) _ _ (by rfl) (by rfl) (hrun _) ?_)
  exact HP.out
end

end Go.Proofs.Ytmccfcllehfebaa.Z
