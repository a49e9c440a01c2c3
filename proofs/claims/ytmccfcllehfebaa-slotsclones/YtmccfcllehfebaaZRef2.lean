/- What the reference's Put and limits answer. -/
import Derived.Test.YtmccfcllehfebaaZRef
namespace Go.Proofs.Ytmccfcllehfebaa.Z
open Go Go.RowKit

section
variable {D : Nat → Prop} {w : World} {v : Value} {S : List Sl} {x : Sl}
set_option maxRecDepth 100000 in
set_option maxHeartbeats 2000000 in
theorem rput_any (h : RowAt D w v S) (_hS : Fits S) (hD : Lt D w) (hl : S.length ≤ 64) (fd : Int) (p : Option Addr) (c : Nat) (hx : IntD D w (.slice p x.ints.length c) x.ints) (hxl : x.ints.length ≤ 1000) :
    Calls Try.prog 35 #[v, .int .i64 fd, .agg (slC x (.slice p x.ints.length c)).toArray] w (RPost D w (putS S fd x) fun u => .tuple #[u, .int .i64 (putN S fd x), .int .i64 (putE S fd x)]) := by
  change Calls Try.prog 35 #[v, .int .i64 fd, .agg #[.int .i64 x.file, .int .u32 (x.rights : Int), .bool x.all, .slice p x.ints.length c, .int .i64 x.fc]] w _
  have HB : Hid (Below w.heap.size w (w.alloc (.cells #[.int .i64 x.file, .int .u32 (x.rights : Int), .bool x.all, .slice p x.ints.length c, .int .i64 x.fc] 34))) := on_alloc w _
  have hX : Blk (w.alloc (.cells #[.int .i64 x.file, .int .u32 (x.rights : Int), .bool x.all, .slice p x.ints.length c, .int .i64 x.fc] 34)) w.heap.size 34 (slC x (.slice p x.ints.length c)) := Blk.new w _ (slC x (.slice p x.ints.length c))
  have cC := rcan_any x p c _ (hx.at.1.on HB.out) hxl
  change Calls Try.prog 17 #[.agg #[.int .i64 x.file, .int .u32 (x.rights : Int), .bool x.all, .slice p x.ints.length c, .int .i64 x.fc]] _ _ at cC
  have x0 := hX.cell 0 rfl
  have x1 := hX.cell 1 rfl
  have x2 := hX.cell 2 rfl
  have x3 := hX.cell 3 rfl
  have x4 := hX.cell 4 rfl
  have HX : Hid _ := hX
  have HF : Hid (∀ w2, Below w.heap.size w w2 → Calls Try.prog 15 #[v, .int .i64 fd] w2 fun e w' => e = .returned (.tuple #[.int .i64 (freeN S fd), .int .i64 (freeE S fd)]) ∧ w' = w2) := fun w2 hb => rfree_any (h.on hb) hl fd
  cases hc : canS x with
  | false =>
    rw [hc] at cC
    have e1 : putS S fd x = S := by unfold putS; rw [hc]; rfl
    have e2 : putN S fd x = 0 := by unfold putN; rw [hc]; rfl
    have e3 : putE S fd x = 22 := by unfold putE; rw [hc]; rfl
    rw [e1, e2, e3]
    have HP : Hid (∀ w2, Below w.heap.size w w2 → RPost D w S (fun u => .tuple #[u, .int .i64 0, .int .i64 22]) (.returned (.tuple #[v, .int .i64 0, .int .i64 22])) w2) := fun w2 hb => ⟨v, rfl, h.on hb, hb⟩
    generalize RPost D w S (fun u => .tuple #[u, .int .i64 0, .int .i64 22]) = Post at *
    clear h hD hx hX HF hc e1 e2 e3
    go_enter Try.func35, Try.ntmps35
    go_wp2_with fail
    generalize w.alloc (.cells #[.int .i64 x.file, .int .u32 (x.rights : Int), .bool x.all, .slice p x.ints.length c, .int .i64 x.fc] 34) = w0 at *
    refine cC.mono ?_
    rintro e w1 ⟨rfl, hb1⟩
    have HZ : Hid _ := HP.out w1 (on_trans HB.out hb1)
    clear HP HB HX hb1
    go_wp2
    go_ret3
    exact HZ.out
  | true =>
    rw [hc] at cC
    by_cases hE : freeE S fd = 0
    · have hi : inB S fd = true ∧ frF S fd.toNat < S.length := by
        unfold freeE at hE
        cases h3 : inB S fd with
        | false => rw [h3] at hE; simp at hE
        | true =>
          rw [h3] at hE
          refine ⟨rfl, ?_⟩
          by_cases h4 : frF S fd.toNat < S.length
          · exact h4
          · rw [if_pos rfl, if_neg h4] at hE; simp at hE
      obtain ⟨k, hk0⟩ : ∃ k, frF S fd.toNat = k := ⟨_, rfl⟩
      rw [hk0] at hi
      have hN : freeN S fd = (k : Int) := by unfold freeN; rw [hi.1, hk0, decide_eq_true hi.2]; rfl
      have e1 : putS S fd x = S.set k x := by unfold putS; rw [hc, hi.1, hk0, decide_eq_true hi.2]; rfl
      have e2 : putN S fd x = (k : Int) := by unfold putN; rw [hc]; exact hN
      have e3 : putE S fd x = 0 := by unfold putE; rw [hc]; exact hE
      rw [e1, e2, e3]
      rw [hN, hE] at HF
      have HW : Hid (∀ w2, Below w.heap.size w w2 → Calls Try.prog 31 #[v, .int .i64 (k : Int), .agg #[.int .i64 x.file, .int .u32 (x.rights : Int), .bool x.all, .slice p x.ints.length c, .int .i64 x.fc]] w2 (RPost D w2 (S.set k x) fun u => u)) := fun w2 hb => rwith_any (h.on hb) (fun j hj => Nat.lt_of_lt_of_le (hD j hj) hb.size) hl hi.2 p c (hx.on hb)
      have HP : Hid (∀ w2 u, Below w.heap.size w w2 → RowAt D w2 u (S.set k x) → RPost D w (S.set k x) (fun u => .tuple #[u, .int .i64 (k : Int), .int .i64 0]) (.returned (.tuple #[u, .int .i64 (k : Int), .int .i64 0])) w2) := fun w2 u hb h1 => ⟨u, rfl, h1, hb⟩
      generalize RPost D w (S.set k x) (fun u => .tuple #[u, .int .i64 (k : Int), .int .i64 0]) = Post at *
      clear h hD hx hX hc e1 e2 e3 hi hk0 hN hE
      go_enter Try.func35, Try.ntmps35
      go_wp2_with fail
      generalize w.alloc (.cells #[.int .i64 x.file, .int .u32 (x.rights : Int), .bool x.all, .slice p x.ints.length c, .int .i64 x.fc] 34) = w0 at *
      refine cC.mono ?_
      rintro e w1 ⟨rfl, hb1⟩
      have HB1 : Hid (Below w.heap.size w w1) := on_trans HB.out hb1
      have cF := HF.out w1 HB1.out
      have cW := HW.out w1 HB1.out
      have hX1 := HX.out.on hb1
      have y0 := hX1.cell 0 rfl
      have y1 := hX1.cell 1 rfl
      have y2 := hX1.cell 2 rfl
      have y3 := hX1.cell 3 rfl
      have y4 := hX1.cell 4 rfl
      clear HB HX hb1 HF HW hX1 x0 x1 x2 x3 x4
      go_wp2_with fail
      refine cF.mono ?_
      rintro e w2 ⟨rfl, hw2⟩
      subst hw2
      go_wp2_with fail
      refine cW.mono ?_
      rintro e w3 ⟨u, rfl, hr, hb3⟩
      have HZ : Hid _ := HP.out w3 u (on_trans HB1.out hb3) hr
      clear HP hr hb3
      go_wp2
      go_ret3
      exact HZ.out
    · have hn : (inB S fd && decide (frF S fd.toNat < S.length)) = false := by
        unfold freeE at hE
        cases h3 : inB S fd with
        | false => rfl
        | true =>
          rw [h3] at hE
          by_cases h4 : frF S fd.toNat < S.length
          · rw [if_pos rfl, if_pos h4] at hE; exact absurd rfl hE
          · rw [decide_eq_false h4]; rfl
      have e1 : putS S fd x = S := by unfold putS; rw [hc, hn]; rfl
      have e2 : putN S fd x = 0 := by unfold putN freeN; rw [hc, hn]; rfl
      have e3 : putE S fd x = freeE S fd := by unfold putE; rw [hc]; rfl
      rw [e1, e2, e3]
      have z0 : (freeE S fd != 0) = true := by simpa using hE
      have HP : Hid (∀ w2, Below w.heap.size w w2 → RPost D w S (fun u => .tuple #[u, .int .i64 0, .int .i64 (freeE S fd)]) (.returned (.tuple #[v, .int .i64 0, .int .i64 (freeE S fd)])) w2) := fun w2 hb => ⟨v, rfl, h.on hb, hb⟩
      generalize RPost D w S (fun u => .tuple #[u, .int .i64 0, .int .i64 (freeE S fd)]) = Post at *
      generalize freeE S fd = E at *
      generalize freeN S fd = N at *
      clear h hD hx hX hc e1 e2 e3 hn hE
      go_enter Try.func35, Try.ntmps35
      go_wp2_with fail
      generalize w.alloc (.cells #[.int .i64 x.file, .int .u32 (x.rights : Int), .bool x.all, .slice p x.ints.length c, .int .i64 x.fc] 34) = w0 at *
      refine cC.mono ?_
      rintro e w1 ⟨rfl, hb1⟩
      have cF := HF.out w1 (on_trans HB.out hb1)
      have HZ : Hid _ := HP.out w1 (on_trans HB.out hb1)
      clear HP HB HX hb1 HF
      go_wp2_with fail
      refine cF.mono ?_
      rintro e w2 ⟨rfl, hw2⟩
      subst hw2
      go_wp2
      go_ret3
      exact HZ.out
set_option maxRecDepth 100000 in
theorem rlim_no (h : RowAt D w v S) (hS : Fits S) (hl : S.length ≤ 64) (fd : Int) (r : Nat) (hr : r < 4294967296) (E : Int) (hE : getE S fd r = E) (h0 : E ≠ 0) :
    Calls Try.prog 32 #[v, .int .i64 fd, .int .u32 (r : Int)] w (RPost D w S fun u => .tuple #[u, .int .i64 E]) := by
  have cG := rget_any h hS hl fd r hr
  rw [hE] at cG
  have z0 : (E != 0) = true := by simpa using h0
  have HP : Hid (RPost D w S (fun u => .tuple #[u, .int .i64 E]) (.returned (.tuple #[v, .int .i64 E])) w) := ⟨v, rfl, h, Below.refl _ _⟩
  generalize RPost D w S (fun u => .tuple #[u, .int .i64 E]) = Post at *
  clear h hS hE h0
  go_enter Try.func32, Try.ntmps32
  go_wp2_with fail
  refine cG.mono ?_
  rintro e w1 ⟨rfl, hw1⟩
  subst hw1
  go_wp2
  exact HP.out
set_option maxRecDepth 100000 in
set_option maxHeartbeats 2000000 in
theorem rlim_yes (h : RowAt D w v S) (hS : Fits S) (hD : Lt D w) (hl : S.length ≤ 64) (fd : Int) (r : Nat) (hr : r < 4294967296) (hl2 : liveB S fd = true) (hs : R.subB r (atS S fd).rights = true) :
    Calls Try.prog 32 #[v, .int .i64 fd, .int .u32 (r : Int)] w (RPost D w (S.set fd.toNat (lessR r (atS S fd))) fun u => .tuple #[u, .int .i64 0]) := by
  obtain ⟨k, rfl, hk, hf⟩ := live_in hl2
  have hfit := hS.at (k : Int)
  rw [show atS S (k : Int) = S.getD k zS from rfl] at hfit hs ⊢
  rw [show (k : Int).toNat = k from rfl]
  have cG := rget_any h hS hl (k : Int) r hr
  rw [show getE S (k : Int) r = 0 by unfold getE; rw [hl2, show atS S (k : Int) = S.getD k zS from rfl, hs]; rfl] at cG
  obtain ⟨b, off, cap, lv, hv, hlv, hc⟩ := h.cells hk
  obtain ⟨p, c, rfl, hat⟩ := hlv
  have y0 := hc 0 _ rfl
  have y1 := hc 1 _ rfl
  have y2 := hc 2 _ rfl
  have y3 := hc 3 _ rfl
  have y4 := hc 4 _ rfl
  rw [← Nat.add_assoc] at y0 y1 y2 y3 y4
  rw [Nat.add_zero] at y0
  have hkz : (k : Int) < (S.length : Int) := by omega
  have HI : Hid (∀ w2, Below w.heap.size w w2 → IntD D w2 (.slice p (S.getD k zS).ints.length c) (S.getD k zS).ints) := fun w2 hb => IntD.on ⟨p, c, rfl, hat⟩ hb
  have HW : Hid (∀ w2 x p c, Below w.heap.size w w2 → IntD D w2 (.slice p x.ints.length c) x.ints → Calls Try.prog 31 #[v, .int .i64 (k : Int), .agg #[.int .i64 x.file, .int .u32 (x.rights : Int), .bool x.all, .slice p x.ints.length c, .int .i64 x.fc]] w2 (RPost D w2 (S.set k x) fun u => u)) := fun w2 x p c hb hx => rwith_any (h.on hb) (fun j hj => Nat.lt_of_lt_of_le (hD j hj) hb.size) hl hk p c hx
  have HR : Hid (∀ w2, Below w.heap.size w w2 → RowAt D w2 v S) := fun w2 hb => h.on hb
  have c28 := fun w1 => R.refHas_any r 28 (by decide) hr w1
  have c9 := fun w1 => R.refHas_any r 9 (by decide) hr w1
  have HP : Hid (∀ w2 u, Below w.heap.size w w2 → RowAt D w2 u (S.set k (lessR r (S.getD k zS))) → RPost D w (S.set k (lessR r (S.getD k zS))) (fun u => .tuple #[u, .int .i64 0]) (.returned (.tuple #[u, .int .i64 0])) w2) := fun w2 u hb h1 => ⟨u, rfl, h1, hb⟩
  have HL : Hid (lessR r (S.getD k zS) = ⟨(S.getD k zS).file, r, if r.testBit 28 then (S.getD k zS).all else false, if r.testBit 28 then (S.getD k zS).ints else [], if r.testBit 9 then (S.getD k zS).fc else 0⟩) := rfl
  generalize RPost D w (S.set k (lessR r (S.getD k zS))) (fun u => .tuple #[u, .int .i64 0]) = Post at *
  generalize lessR r (S.getD k zS) = y at *
  clear h hS hD hat hc hf hfit hs hl2
  generalize S.getD k zS = x at *
  have HAL : Hid (Below w.heap.size w (w.alloc (.cells #[.int .i64 x.file, .int .u32 (x.rights : Int), .bool x.all, .slice p x.ints.length c, .int .i64 x.fc] 34))) := on_alloc w _
  have hX : Blk (w.alloc (.cells #[.int .i64 x.file, .int .u32 (x.rights : Int), .bool x.all, .slice p x.ints.length c, .int .i64 x.fc] 34)) w.heap.size 34 [.int .i64 x.file, .int .u32 (x.rights : Int), .bool x.all, .slice p x.ints.length c, .int .i64 x.fc] := Blk.new w _ [.int .i64 x.file, .int .u32 (x.rights : Int), .bool x.all, .slice p x.ints.length c, .int .i64 x.fc]
  subst hv
  cases t28 : r.testBit 28 with
  | true =>
    rw [t28] at c28 HL
    cases t9 : r.testBit 9 with
    | true =>
      rw [t9] at c9 HL
      have hy := HL.out
      subst hy
      clear t28 t9
      go_enter Try.func32, Try.ntmps32
      go_wp2_with fail
      refine cG.mono ?_
      rintro e w1 ⟨rfl, hw1⟩
      subst hw1
      go_wp2_with fail
      refine (c28 _).mono ?_
      rintro e w2 ⟨rfl, hw2⟩
      have hX2 : Blk w2 w1.heap.size 34 [.int .i64 x.file, .int .u32 (r : Int), .bool x.all, .slice p x.ints.length c, .int .i64 x.fc] := by rw [hw2]; exact Blk.new w1 _ [.int .i64 x.file, .int .u32 (r : Int), .bool x.all, .slice p x.ints.length c, .int .i64 x.fc]
      have HB2 : Hid (Below w1.heap.size w1 w2) := by rw [hw2]; exact on_alloc _ _
      clear hw2 hX HAL y0 y1 y2 y3 y4
      have hX3 := hX2
      have HB3 : Hid _ := HB2.out
      have HX3 : Hid _ := hX3
      clear hX3 hX2 HB2
      go_wp2_with fail
      refine (c9 _).mono ?_
      rintro e w3 ⟨rfl, hw3⟩
      rw [← hw3] at HX3 HB3
      clear hw3
      have hX4 := HX3.out
      have HB4 : Hid _ := HB3.out
      have z0 := hX4.cell 0 rfl
      have z1 := hX4.cell 1 rfl
      have z2 := hX4.cell 2 rfl
      have z3 := hX4.cell 3 rfl
      have z4 := hX4.cell 4 rfl
      have cW := HW.out _ (⟨x.file, r, x.all, x.ints, x.fc⟩ : Sl) p c HB4.out (HI.out _ HB4.out)
      clear HX3 HB3 hX4 HW HI
      go_wp2_with fail
      refine cW.mono ?_
      rintro e w6 ⟨u, rfl, hr6, hb6⟩
      have HZ : Hid _ := HP.out w6 u (on_trans HB4.out hb6) hr6
      clear HP hr6 hb6 cW
      go_wp2
      exact HZ.out
    | false =>
      rw [t9] at c9 HL
      have hy := HL.out
      subst hy
      clear t28 t9
      go_enter Try.func32, Try.ntmps32
      go_wp2_with fail
      refine cG.mono ?_
      rintro e w1 ⟨rfl, hw1⟩
      subst hw1
      go_wp2_with fail
      refine (c28 _).mono ?_
      rintro e w2 ⟨rfl, hw2⟩
      have hX2 : Blk w2 w1.heap.size 34 [.int .i64 x.file, .int .u32 (r : Int), .bool x.all, .slice p x.ints.length c, .int .i64 x.fc] := by rw [hw2]; exact Blk.new w1 _ [.int .i64 x.file, .int .u32 (r : Int), .bool x.all, .slice p x.ints.length c, .int .i64 x.fc]
      have HB2 : Hid (Below w1.heap.size w1 w2) := by rw [hw2]; exact on_alloc _ _
      clear hw2 hX HAL y0 y1 y2 y3 y4
      have hX3 := hX2
      have HB3 : Hid _ := HB2.out
      have HX3 : Hid _ := hX3
      clear hX3 hX2 HB2
      go_wp2_with fail
      refine (c9 _).mono ?_
      rintro e w3 ⟨rfl, hw3⟩
      rw [← hw3] at HX3 HB3
      clear hw3
      have f4 := HX3.out.free 4
      have a4 := HX3.out.cell 4 rfl
      have hX4 := HX3.out.set 4 (.int .i64 0)
      have HB4 : Hid _ := below_but HB3.out (but_set w3 w1.heap.size 4 (.int .i64 0)) (Nat.le_refl _)
      have z0 := hX4.cell 0 rfl
      have z1 := hX4.cell 1 rfl
      have z2 := hX4.cell 2 rfl
      have z3 := hX4.cell 3 rfl
      have z4 := hX4.cell 4 rfl
      have cW := HW.out _ (⟨x.file, r, x.all, x.ints, 0⟩ : Sl) p c HB4.out (HI.out _ HB4.out)
      clear HX3 HB3 hX4 HW HI
      go_wp2_with fail
      refine cW.mono ?_
      rintro e w6 ⟨u, rfl, hr6, hb6⟩
      have HZ : Hid _ := HP.out w6 u (on_trans HB4.out hb6) hr6
      clear HP hr6 hb6 cW f4 a4
      go_wp2
      exact HZ.out
  | false =>
    rw [t28] at c28 HL
    cases t9 : r.testBit 9 with
    | true =>
      rw [t9] at c9 HL
      have hy := HL.out
      subst hy
      clear t28 t9
      go_enter Try.func32, Try.ntmps32
      go_wp2_with fail
      refine cG.mono ?_
      rintro e w1 ⟨rfl, hw1⟩
      subst hw1
      go_wp2_with fail
      refine (c28 _).mono ?_
      rintro e w2 ⟨rfl, hw2⟩
      have hX2 : Blk w2 w1.heap.size 34 [.int .i64 x.file, .int .u32 (r : Int), .bool x.all, .slice p x.ints.length c, .int .i64 x.fc] := by rw [hw2]; exact Blk.new w1 _ [.int .i64 x.file, .int .u32 (r : Int), .bool x.all, .slice p x.ints.length c, .int .i64 x.fc]
      have HB2 : Hid (Below w1.heap.size w1 w2) := by rw [hw2]; exact on_alloc _ _
      clear hw2 hX HAL y0 y1 y2 y3 y4
      have f2 := hX2.free 2
      have f3 := hX2.free 3
      have a2 := hX2.cell 2 rfl
      have a3 := hX2.cell 3 rfl
      have hX3 := (hX2.set 2 (.bool false)).set 3 (.slice none 0 0)
      have HB3 : Hid _ := below_but (below_but HB2.out (but_set w2 w1.heap.size 2 (.bool false)) (Nat.le_refl _)) (but_set _ w1.heap.size 3 (.slice none 0 0)) (Nat.le_refl _)
      have HX3 : Hid _ := hX3
      clear hX3 hX2 HB2
      go_wp2_with fail
      refine (c9 _).mono ?_
      rintro e w3 ⟨rfl, hw3⟩
      rw [← hw3] at HX3 HB3
      clear hw3 f2 f3 a2 a3
      have hX4 := HX3.out
      have HB4 : Hid _ := HB3.out
      have z0 := hX4.cell 0 rfl
      have z1 := hX4.cell 1 rfl
      have z2 := hX4.cell 2 rfl
      have z3 := hX4.cell 3 rfl
      have z4 := hX4.cell 4 rfl
      have cW := HW.out _ (⟨x.file, r, false, [], x.fc⟩ : Sl) none 0 HB4.out (.nil _ _)
      clear HX3 HB3 hX4 HW HI
      go_wp2_with fail
      refine cW.mono ?_
      rintro e w6 ⟨u, rfl, hr6, hb6⟩
      have HZ : Hid _ := HP.out w6 u (on_trans HB4.out hb6) hr6
      clear HP hr6 hb6 cW
      go_wp2
      exact HZ.out
    | false =>
      rw [t9] at c9 HL
      have hy := HL.out
      subst hy
      clear t28 t9
      go_enter Try.func32, Try.ntmps32
      go_wp2_with fail
      refine cG.mono ?_
      rintro e w1 ⟨rfl, hw1⟩
      subst hw1
      go_wp2_with fail
      refine (c28 _).mono ?_
      rintro e w2 ⟨rfl, hw2⟩
      have hX2 : Blk w2 w1.heap.size 34 [.int .i64 x.file, .int .u32 (r : Int), .bool x.all, .slice p x.ints.length c, .int .i64 x.fc] := by rw [hw2]; exact Blk.new w1 _ [.int .i64 x.file, .int .u32 (r : Int), .bool x.all, .slice p x.ints.length c, .int .i64 x.fc]
      have HB2 : Hid (Below w1.heap.size w1 w2) := by rw [hw2]; exact on_alloc _ _
      clear hw2 hX HAL y0 y1 y2 y3 y4
      have f2 := hX2.free 2
      have f3 := hX2.free 3
      have a2 := hX2.cell 2 rfl
      have a3 := hX2.cell 3 rfl
      have hX3 := (hX2.set 2 (.bool false)).set 3 (.slice none 0 0)
      have HB3 : Hid _ := below_but (below_but HB2.out (but_set w2 w1.heap.size 2 (.bool false)) (Nat.le_refl _)) (but_set _ w1.heap.size 3 (.slice none 0 0)) (Nat.le_refl _)
      have HX3 : Hid _ := hX3
      clear hX3 hX2 HB2
      go_wp2_with fail
      refine (c9 _).mono ?_
      rintro e w3 ⟨rfl, hw3⟩
      rw [← hw3] at HX3 HB3
      clear hw3 f2 f3 a2 a3
      have f4 := HX3.out.free 4
      have a4 := HX3.out.cell 4 rfl
      have hX4 := HX3.out.set 4 (.int .i64 0)
      have HB4 : Hid _ := below_but HB3.out (but_set w3 w1.heap.size 4 (.int .i64 0)) (Nat.le_refl _)
      have z0 := hX4.cell 0 rfl
      have z1 := hX4.cell 1 rfl
      have z2 := hX4.cell 2 rfl
      have z3 := hX4.cell 3 rfl
      have z4 := hX4.cell 4 rfl
      have cW := HW.out _ (⟨x.file, r, false, [], 0⟩ : Sl) none 0 HB4.out (.nil _ _)
      clear HX3 HB3 hX4 HW HI
      go_wp2_with fail
      refine cW.mono ?_
      rintro e w6 ⟨u, rfl, hr6, hb6⟩
      have HZ : Hid _ := HP.out w6 u (on_trans HB4.out hb6) hr6
      clear HP hr6 hb6 cW f4 a4
      go_wp2
      exact HZ.out
set_option maxRecDepth 100000 in
theorem rio_no (h : RowAt D w v S) (hS : Fits S) (hl : S.length ≤ 64) (fd : Int) (q : Option Addr) (l : List Int) (d : Nat) (E : Int) (hE : getE S fd 0 = E) (h0 : E ≠ 0) :
    Calls Try.prog 33 #[v, .int .i64 fd, .slice q l.length d] w (RPost D w S fun u => .tuple #[u, .int .i64 E]) := by
  have cG := rget_any h hS hl fd 0 (by decide)
  rw [hE] at cG
  have z0 : (E != 0) = true := by simpa using h0
  have HP : Hid (RPost D w S (fun u => .tuple #[u, .int .i64 E]) (.returned (.tuple #[v, .int .i64 E])) w) := ⟨v, rfl, h, Below.refl _ _⟩
  generalize RPost D w S (fun u => .tuple #[u, .int .i64 E]) = Post at *
  clear h hS hE h0
  go_enter Try.func33, Try.ntmps33
  go_wp2_with fail
  refine cG.mono ?_
  rintro e w1 ⟨rfl, hw1⟩
  subst hw1
  go_wp2
  exact HP.out
set_option maxRecDepth 100000 in
set_option maxHeartbeats 2000000 in
theorem rio_yes (h : RowAt D w v S) (hS : Fits S) (hD : Lt D w) (hl : S.length ≤ 64) (fd : Int) (q : Option Addr) (l : List Int) (d : Nat) (hq : W.At w q l) (hql : l.length ≤ 1000) (hl2 : liveB S fd = true) :
    Calls Try.prog 33 #[v, .int .i64 fd, .slice q l.length d] w (RPost D w (if decide (W.limE (atS S fd).all (atS S fd).ints l = 0) then S.set fd.toNat (lessI l (atS S fd)) else S) fun u => .tuple #[u, .int .i64 (W.limE (atS S fd).all (atS S fd).ints l)]) := by
  obtain ⟨k, rfl, hk, hf⟩ := live_in hl2
  have hfit := hS.at (k : Int)
  rw [show atS S (k : Int) = S.getD k zS from rfl] at hfit ⊢
  rw [show (k : Int).toNat = k from rfl]
  have cG := rget_any h hS hl (k : Int) 0 (by decide)
  rw [show getE S (k : Int) 0 = 0 by unfold getE; rw [hl2, sub_zero]; rfl] at cG
  obtain ⟨b, off, cap, lv, hv, hlv, hc⟩ := h.cells hk
  obtain ⟨p, c, rfl, hat⟩ := hlv
  have y0 := hc 0 _ rfl
  have y1 := hc 1 _ rfl
  have y2 := hc 2 _ rfl
  have y3 := hc 3 _ rfl
  have y4 := hc 4 _ rfl
  rw [← Nat.add_assoc] at y0 y1 y2 y3 y4
  rw [Nat.add_zero] at y0
  have hkz : (k : Int) < (S.length : Int) := by omega
  have HI : Hid (∀ w2, Below w.heap.size w w2 → IntD D w2 (.slice p (S.getD k zS).ints.length c) (S.getD k zS).ints) := fun w2 hb => IntD.on ⟨p, c, rfl, hat⟩ hb
  have HW : Hid (∀ w2 x p c, Below w.heap.size w w2 → IntD D w2 (.slice p x.ints.length c) x.ints → Calls Try.prog 31 #[v, .int .i64 (k : Int), .agg #[.int .i64 x.file, .int .u32 (x.rights : Int), .bool x.all, .slice p x.ints.length c, .int .i64 x.fc]] w2 (RPost D w2 (S.set k x) fun u => u)) := fun w2 x p c hb hx => rwith_any (h.on hb) (fun j hj => Nat.lt_of_lt_of_le (hD j hj) hb.size) hl hk p c hx
  have HR : Hid (∀ w2, Below w.heap.size w w2 → RowAt D w2 v S) := fun w2 hb => h.on hb
  have hx := hfit.len
  have HAL : Hid (Below w.heap.size w (w.alloc (.cells #[.int .i64 (S.getD k zS).file, .int .u32 ((S.getD k zS).rights : Int), .bool (S.getD k zS).all, .slice p (S.getD k zS).ints.length c, .int .i64 (S.getD k zS).fc] 34))) := on_alloc w _
  have hX : Blk (w.alloc (.cells #[.int .i64 (S.getD k zS).file, .int .u32 ((S.getD k zS).rights : Int), .bool (S.getD k zS).all, .slice p (S.getD k zS).ints.length c, .int .i64 (S.getD k zS).fc] 34)) w.heap.size 34 (slC (S.getD k zS) (.slice p (S.getD k zS).ints.length c)) := Blk.new w _ (slC (S.getD k zS) (.slice p (S.getD k zS).ints.length c))
  have cM := W.refLimit_any (S.getD k zS).all p q c d (S.getD k zS).ints l (w.alloc (.cells #[.int .i64 (S.getD k zS).file, .int .u32 ((S.getD k zS).rights : Int), .bool (S.getD k zS).all, .slice p (S.getD k zS).ints.length c, .int .i64 (S.getD k zS).fc] 34)) (by omega) hql ((W.at_ints.2 hat.at).on HAL.out) (hq.on HAL.out)
  obtain ⟨E, hE⟩ : ∃ E, W.limE (S.getD k zS).all (S.getD k zS).ints l = E := ⟨_, rfl⟩
  have HL : Hid (lessI l (S.getD k zS) = ⟨(S.getD k zS).file, (S.getD k zS).rights, false, W.limV (S.getD k zS).all (S.getD k zS).ints l, (S.getD k zS).fc⟩) := rfl
  unfold W.LimPost at cM
  rw [hE] at cM ⊢
  have HD : Hid (Lt D w) := hD
  have x0 := hX.cell 0 rfl
  have x1 := hX.cell 1 rfl
  have x2 := hX.cell 2 rfl
  have x3 := hX.cell 3 rfl
  have x4 := hX.cell 4 rfl
  have HX : Hid _ := hX
  clear hX h hS hD hat hc hf hfit hl2 hq hx
  subst hv
  by_cases h0 : E = 0
  · subst h0
    rw [if_pos (by decide)]
    have HP : Hid (∀ w2 u, Below w.heap.size w w2 → RowAt D w2 u (S.set k (lessI l (S.getD k zS))) → RPost D w (S.set k (lessI l (S.getD k zS))) (fun u => .tuple #[u, .int .i64 0]) (.returned (.tuple #[u, .int .i64 0])) w2) := fun w2 u hb h1 => ⟨u, rfl, h1, hb⟩
    generalize RPost D w (S.set k (lessI l (S.getD k zS))) (fun u => .tuple #[u, .int .i64 0]) = Post at *
    rw [HL.out] at HP
    clear hE HL HR HI
    generalize W.limV (S.getD k zS).all (S.getD k zS).ints l = V at *
    generalize S.getD k zS = x at *
    go_enter Try.func33, Try.ntmps33
    go_wp2_with fail
    refine cG.mono ?_
    rintro e w1 ⟨rfl, hw1⟩
    subst hw1
    go_wp2_with fail
    generalize w1.alloc (.cells #[.int .i64 x.file, .int .u32 (x.rights : Int), .bool x.all, .slice p x.ints.length c, .int .i64 x.fc] 34) = w2 at *
    refine cM.mono ?_
    rintro e w3 ⟨hb3, p3, c3, rfl, hat3⟩
    have hal := on_alloc w3 (.cells #[.bool false, .slice p3 V.length c3] 32)
    have HB4 : Hid (Below w1.heap.size w1 (w3.alloc (.cells #[.bool false, .slice p3 V.length c3] 32))) := on_trans (on_trans HAL.out hb3) hal
    have hX4 := (HX.out.on hb3).on hal
    have f2 := hX4.free 2
    have f3 := hX4.free 3
    have a2 := hX4.cell 2 rfl
    have a3 := hX4.cell 3 rfl
    have hX5 := (hX4.set 2 (.bool false)).set 3 (.slice p3 V.length c3)
    have z0 := hX5.cell 0 rfl
    have z1 := hX5.cell 1 rfl
    have z2 := hX5.cell 2 rfl
    have z3 := hX5.cell 3 rfl
    have z4 := hX5.cell 4 rfl
    have hU5 := (but_set (w3.alloc (.cells #[.bool false, .slice p3 V.length c3] 32)) w1.heap.size 2 (.bool false)).trans (but_set _ w1.heap.size 3 (.slice p3 V.length c3))
    have HB5 : Hid _ := below_but HB4.out hU5 (Nat.le_refl _)
    have hi5 : IntD D (((w3.alloc (.cells #[.bool false, .slice p3 V.length c3] 32)).setCell ⟨w1.heap.size, 2, none⟩ (.bool false)).setCell ⟨w1.heap.size, 3, none⟩ (.slice p3 V.length c3)) (.slice p3 V.length c3) V := by
      refine IntD.of (base := w2.heap.size) (W.atF_ints.2 ((W.atF_ints.1 (hat3.on hal)).but hU5 (by have := HX.out.lt; omega))) fun j hj => ?_
      have := HD.out j hj
      have := HAL.out.size
      omega
    have cW := HW.out _ (⟨x.file, x.rights, false, V, x.fc⟩ : Sl) p3 c3 HB5.out hi5
    clear HX HAL HD HB4 hX4 hX5 hU5 hi5 hal hb3 hat3 HW x0 x1 x2 x3 x4
    go_wp2_with fail
    refine cW.mono ?_
    rintro e w6 ⟨u, rfl, hr6, hb6⟩
    have HZ : Hid _ := HP.out w6 u (on_trans HB5.out hb6) hr6
    clear HP hr6 hb6 cW HB5 f2 f3 a2 a3 z0 z1 z2 z3 z4
    go_wp2
    exact HZ.out
  · rw [if_neg (by simpa using h0)]
    have HP : Hid (∀ w2, Below w.heap.size w w2 → RPost D w S (fun u => .tuple #[u, .int .i64 E]) (.returned (.tuple #[.slice (some ⟨b, off, none⟩) S.length cap, .int .i64 E])) w2) := fun w2 hb => ⟨_, rfl, HR.out w2 hb, hb⟩
    generalize RPost D w S (fun u => .tuple #[u, .int .i64 E]) = Post at *
    have z9 : (E != 0) = true := by simpa using h0
    clear hE HL HR HI HW HD h0
    generalize W.limV (S.getD k zS).all (S.getD k zS).ints l = V at *
    generalize S.getD k zS = x at *
    go_enter Try.func33, Try.ntmps33
    go_wp2_with fail
    refine cG.mono ?_
    rintro e w1 ⟨rfl, hw1⟩
    subst hw1
    go_wp2_with fail
    generalize w1.alloc (.cells #[.int .i64 x.file, .int .u32 (x.rights : Int), .bool x.all, .slice p x.ints.length c, .int .i64 x.fc] 34) = w2 at *
    refine cM.mono ?_
    rintro e w3 ⟨hb3, p3, c3, rfl, hat3⟩
    have hal := on_alloc w3 (.cells #[.bool false, .slice p3 V.length c3] 32)
    have HZ : Hid _ := HP.out _ (on_trans (on_trans HAL.out hb3) hal)
    clear HX HAL hal hb3 hat3 HP x0 x1 x2 x3 x4
    go_wp2
    exact HZ.out
set_option maxRecDepth 100000 in
theorem rfc_no (h : RowAt D w v S) (hS : Fits S) (hl : S.length ≤ 64) (fd : Int) (m : Int) (E : Int) (hE : getE S fd 0 = E) (h0 : E ≠ 0) :
    Calls Try.prog 34 #[v, .int .i64 fd, .int .i64 m] w (RPost D w S fun u => .tuple #[u, .int .i64 E]) := by
  have cG := rget_any h hS hl fd 0 (by decide)
  rw [hE] at cG
  have z0 : (E != 0) = true := by simpa using h0
  have HP : Hid (RPost D w S (fun u => .tuple #[u, .int .i64 E]) (.returned (.tuple #[v, .int .i64 E])) w) := ⟨v, rfl, h, Below.refl _ _⟩
  generalize RPost D w S (fun u => .tuple #[u, .int .i64 E]) = Post at *
  clear h hS hE h0
  go_enter Try.func34, Try.ntmps34
  go_wp2_with fail
  refine cG.mono ?_
  rintro e w1 ⟨rfl, hw1⟩
  subst hw1
  go_wp2
  exact HP.out
set_option maxRecDepth 100000 in
set_option maxHeartbeats 2000000 in
theorem rfc_yes (h : RowAt D w v S) (hS : Fits S) (hD : Lt D w) (hl : S.length ≤ 64) (fd m : Int) (hl2 : liveB S fd = true) :
    Calls Try.prog 34 #[v, .int .i64 fd, .int .i64 m] w (RPost D w (if decide (W.maskE (atS S fd).fc m = 0) then S.set fd.toNat (lessF m (atS S fd)) else S) fun u => .tuple #[u, .int .i64 (W.maskE (atS S fd).fc m)]) := by
  obtain ⟨k, rfl, hk, hf⟩ := live_in hl2
  have hfit := hS.at (k : Int)
  rw [show atS S (k : Int) = S.getD k zS from rfl] at hfit ⊢
  rw [show (k : Int).toNat = k from rfl]
  have cG := rget_any h hS hl (k : Int) 0 (by decide)
  rw [show getE S (k : Int) 0 = 0 by unfold getE; rw [hl2, sub_zero]; rfl] at cG
  obtain ⟨b, off, cap, lv, hv, hlv, hc⟩ := h.cells hk
  obtain ⟨p, c, rfl, hat⟩ := hlv
  have y0 := hc 0 _ rfl
  have y1 := hc 1 _ rfl
  have y2 := hc 2 _ rfl
  have y3 := hc 3 _ rfl
  have y4 := hc 4 _ rfl
  rw [← Nat.add_assoc] at y0 y1 y2 y3 y4
  rw [Nat.add_zero] at y0
  have hkz : (k : Int) < (S.length : Int) := by omega
  have HI : Hid (∀ w2, Below w.heap.size w w2 → IntD D w2 (.slice p (S.getD k zS).ints.length c) (S.getD k zS).ints) := fun w2 hb => IntD.on ⟨p, c, rfl, hat⟩ hb
  have HW : Hid (∀ w2 x p c, Below w.heap.size w w2 → IntD D w2 (.slice p x.ints.length c) x.ints → Calls Try.prog 31 #[v, .int .i64 (k : Int), .agg #[.int .i64 x.file, .int .u32 (x.rights : Int), .bool x.all, .slice p x.ints.length c, .int .i64 x.fc]] w2 (RPost D w2 (S.set k x) fun u => u)) := fun w2 x p c hb hx => rwith_any (h.on hb) (fun j hj => Nat.lt_of_lt_of_le (hD j hj) hb.size) hl hk p c hx
  have HR : Hid (∀ w2, Below w.heap.size w w2 → RowAt D w2 v S) := fun w2 hb => h.on hb
  have HAL : Hid (Below w.heap.size w (w.alloc (.cells #[.int .i64 (S.getD k zS).file, .int .u32 ((S.getD k zS).rights : Int), .bool (S.getD k zS).all, .slice p (S.getD k zS).ints.length c, .int .i64 (S.getD k zS).fc] 34))) := on_alloc w _
  have hX : Blk (w.alloc (.cells #[.int .i64 (S.getD k zS).file, .int .u32 ((S.getD k zS).rights : Int), .bool (S.getD k zS).all, .slice p (S.getD k zS).ints.length c, .int .i64 (S.getD k zS).fc] 34)) w.heap.size 34 (slC (S.getD k zS) (.slice p (S.getD k zS).ints.length c)) := Blk.new w _ (slC (S.getD k zS) (.slice p (S.getD k zS).ints.length c))
  have cM := W.refMask_any (S.getD k zS).fc m (w.alloc (.cells #[.int .i64 (S.getD k zS).file, .int .u32 ((S.getD k zS).rights : Int), .bool (S.getD k zS).all, .slice p (S.getD k zS).ints.length c, .int .i64 (S.getD k zS).fc] 34))
  obtain ⟨E, hE⟩ : ∃ E, W.maskE (S.getD k zS).fc m = E := ⟨_, rfl⟩
  have HL : Hid (lessF m (S.getD k zS) = ⟨(S.getD k zS).file, (S.getD k zS).rights, (S.getD k zS).all, (S.getD k zS).ints, W.maskV (S.getD k zS).fc m⟩) := rfl
  rw [hE] at cM ⊢
  have x0 := hX.cell 0 rfl
  have x1 := hX.cell 1 rfl
  have x2 := hX.cell 2 rfl
  have x3 := hX.cell 3 rfl
  have x4 := hX.cell 4 rfl
  have HX : Hid _ := hX
  clear hX h hS hD hat hc hf hfit hl2
  subst hv
  by_cases h0 : E = 0
  · subst h0
    rw [if_pos (by decide)]
    have HP : Hid (∀ w2 u, Below w.heap.size w w2 → RowAt D w2 u (S.set k (lessF m (S.getD k zS))) → RPost D w (S.set k (lessF m (S.getD k zS))) (fun u => .tuple #[u, .int .i64 0]) (.returned (.tuple #[u, .int .i64 0])) w2) := fun w2 u hb h1 => ⟨u, rfl, h1, hb⟩
    generalize RPost D w (S.set k (lessF m (S.getD k zS))) (fun u => .tuple #[u, .int .i64 0]) = Post at *
    rw [HL.out] at HP
    clear hE HL HR
    generalize W.maskV (S.getD k zS).fc m = V at *
    generalize S.getD k zS = x at *
    go_enter Try.func34, Try.ntmps34
    go_wp2_with fail
    refine cG.mono ?_
    rintro e w1 ⟨rfl, hw1⟩
    subst hw1
    go_wp2_with fail
    generalize w1.alloc (.cells #[.int .i64 x.file, .int .u32 (x.rights : Int), .bool x.all, .slice p x.ints.length c, .int .i64 x.fc] 34) = w2 at *
    refine cM.mono ?_
    rintro e w3 ⟨rfl, hw3⟩
    subst hw3
    have f4 := HX.out.free 4
    have hX5 := HX.out.set 4 (.int .i64 V)
    have z0 := hX5.cell 0 rfl
    have z1 := hX5.cell 1 rfl
    have z2 := hX5.cell 2 rfl
    have z3 := hX5.cell 3 rfl
    have z4 := hX5.cell 4 rfl
    have HB5 : Hid _ := below_but HAL.out (but_set w3 w1.heap.size 4 (.int .i64 V)) (Nat.le_refl _)
    have cW := HW.out _ (⟨x.file, x.rights, x.all, x.ints, V⟩ : Sl) p c HB5.out (HI.out _ HB5.out)
    clear HX HAL hX5 HW HI cM
    go_wp2_with fail
    refine cW.mono ?_
    rintro e w6 ⟨u, rfl, hr6, hb6⟩
    have HZ : Hid _ := HP.out w6 u (on_trans HB5.out hb6) hr6
    clear HP hr6 hb6 cW HB5 f4 z0 z1 z2 z3 z4
    go_wp2
    exact HZ.out
  · rw [if_neg (by simpa using h0)]
    have HP : Hid (∀ w2, Below w.heap.size w w2 → RPost D w S (fun u => .tuple #[u, .int .i64 E]) (.returned (.tuple #[.slice (some ⟨b, off, none⟩) S.length cap, .int .i64 E])) w2) := fun w2 hb => ⟨_, rfl, HR.out w2 hb, hb⟩
    generalize RPost D w S (fun u => .tuple #[u, .int .i64 E]) = Post at *
    have z9 : (E != 0) = true := by simpa using h0
    clear hE HL HR HI HW h0
    generalize W.maskV (S.getD k zS).fc m = V at *
    generalize S.getD k zS = x at *
    go_enter Try.func34, Try.ntmps34
    go_wp2_with fail
    refine cG.mono ?_
    rintro e w1 ⟨rfl, hw1⟩
    subst hw1
    go_wp2_with fail
    generalize w1.alloc (.cells #[.int .i64 x.file, .int .u32 (x.rights : Int), .bool x.all, .slice p x.ints.length c, .int .i64 x.fc] 34) = w2 at *
    refine cM.mono ?_
    rintro e w3 ⟨rfl, hw3⟩
    subst hw3
    have HZ : Hid _ := HP.out _ HAL.out
    clear HX HAL HP
    go_wp2
    exact HZ.out
theorem rlim_any (h : RowAt D w v S) (hS : Fits S) (hD : Lt D w) (hl : S.length ≤ 64) (fd : Int) (r : Nat) (hr : r < 4294967296) :
    Calls Try.prog 32 #[v, .int .i64 fd, .int .u32 (r : Int)] w (RPost D w (limS S fd r) fun u => .tuple #[u, .int .i64 (getE S fd r)]) := by
  have e1 : getE S fd r = if liveB S fd then (if R.subB r (atS S fd).rights then 0 else 93) else 9 := rfl
  unfold limS
  cases hl2 : liveB S fd with
  | false => exact rlim_no h hS hl fd r hr _ rfl (by rw [e1, hl2]; simp)
  | true =>
    cases hs : R.subB r (atS S fd).rights with
    | false => exact rlim_no h hS hl fd r hr _ rfl (by rw [e1, hl2, hs]; decide)
    | true => rw [show getE S fd r = 0 by rw [e1, hl2, hs]; rfl]; exact rlim_yes h hS hD hl fd r hr hl2 hs
theorem rio_any (h : RowAt D w v S) (hS : Fits S) (hD : Lt D w) (hl : S.length ≤ 64) (fd : Int) (q : Option Addr) (l : List Int) (d : Nat) (hq : W.At w q l) (hql : l.length ≤ 1000) :
    Calls Try.prog 33 #[v, .int .i64 fd, .slice q l.length d] w (RPost D w (ioS S fd l) fun u => .tuple #[u, .int .i64 (ioE S fd l)]) := by
  unfold ioS ioE
  cases hl2 : liveB S fd with
  | false => exact rio_no h hS hl fd q l d 9 (by unfold getE; rw [hl2]; rfl) (by decide)
  | true => exact rio_yes h hS hD hl fd q l d hq hql hl2
theorem rfc_any (h : RowAt D w v S) (hS : Fits S) (hD : Lt D w) (hl : S.length ≤ 64) (fd m : Int) :
    Calls Try.prog 34 #[v, .int .i64 fd, .int .i64 m] w (RPost D w (fcS S fd m) fun u => .tuple #[u, .int .i64 (fcE S fd m)]) := by
  unfold fcS fcE
  cases hl2 : liveB S fd with
  | false => exact rfc_no h hS hl fd m 9 (by unfold getE; rw [hl2]; rfl) (by decide)
  | true => exact rfc_yes h hS hD hl fd m hl2
end

end Go.Proofs.Ytmccfcllehfebaa.Z
