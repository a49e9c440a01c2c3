/- SlotsLess holds. -/
import Derived.Test.YtmccfcllehfebaaZWithin
namespace Go.Proofs.Ytmccfcllehfebaa.Z
open Go Go.RowKit

set_option maxRecDepth 100000 in
set_option maxHeartbeats 1000000 in
theorem less_long (x : Sl) (p : Option Addr) (c : Nat) (a : ActV) (w : World) (_hx : SlOk w x p c) (_ha : ActOk w a) (h50 : 50 < x.ints.length) : Calls Try.prog 5 #[.agg (slC x (.slice p x.ints.length c)).toArray, .agg a.cells.toArray] w fun e w' => e = .returned (.bool true) ∧ Below w.heap.size w w' := by
  change Calls Try.prog 5 #[.agg #[.int .i64 x.file, .int .u32 (x.rights : Int), .bool x.all, .slice p x.ints.length c, .int .i64 x.fc], .agg #[.int .i64 a.k, .int .i64 a.d, .int .i64 a.x.file, .int .u32 (a.x.rights : Int), .bool a.x.all, .slice a.p a.x.ints.length a.c, .int .i64 a.x.fc, .slice a.q a.m.length a.e]] w _
  have HB0 : Hid (Below w.heap.size w ((w.alloc (.cells #[.int .i64 x.file, .int .u32 (x.rights : Int), .bool x.all, .slice p x.ints.length c, .int .i64 x.fc] 34)).alloc (.cells #[.int .i64 a.k, .int .i64 a.d, .int .i64 a.x.file, .int .u32 (a.x.rights : Int), .bool a.x.all, .slice a.p a.x.ints.length a.c, .int .i64 a.x.fc, .slice a.q a.m.length a.e] 36))) := on_trans (on_alloc w _) (on_alloc _ _)
  have hX0 : Blk ((w.alloc (.cells #[.int .i64 x.file, .int .u32 (x.rights : Int), .bool x.all, .slice p x.ints.length c, .int .i64 x.fc] 34)).alloc (.cells #[.int .i64 a.k, .int .i64 a.d, .int .i64 a.x.file, .int .u32 (a.x.rights : Int), .bool a.x.all, .slice a.p a.x.ints.length a.c, .int .i64 a.x.fc, .slice a.q a.m.length a.e] 36)) w.heap.size 34 (slC x (.slice p x.ints.length c)) := (Blk.new w _ (slC x (.slice p x.ints.length c))).alloc _
  have hA0 : Blk ((w.alloc (.cells #[.int .i64 x.file, .int .u32 (x.rights : Int), .bool x.all, .slice p x.ints.length c, .int .i64 x.fc] 34)).alloc (.cells #[.int .i64 a.k, .int .i64 a.d, .int .i64 a.x.file, .int .u32 (a.x.rights : Int), .bool a.x.all, .slice a.p a.x.ints.length a.c, .int .i64 a.x.fc, .slice a.q a.m.length a.e] 36)) (w.heap.size + 1) 36 a.cells := by
    have := Blk.new (w.alloc (.cells #[.int .i64 x.file, .int .u32 (x.rights : Int), .bool x.all, .slice p x.ints.length c, .int .i64 x.fc] 34)) 36 a.cells
    rwa [World.size_alloc] at this
  have hlt0 : Lt (fun j => j = w.heap.size + 1) ((w.alloc (.cells #[.int .i64 x.file, .int .u32 (x.rights : Int), .bool x.all, .slice p x.ints.length c, .int .i64 x.fc] 34)).alloc (.cells #[.int .i64 a.k, .int .i64 a.d, .int .i64 a.x.file, .int .u32 (a.x.rights : Int), .bool a.x.all, .slice a.p a.x.ints.length a.c, .int .i64 a.x.fc, .slice a.q a.m.length a.e] 36)) := fun j hj => by rw [show j = w.heap.size + 1 from hj]; exact hA0.lt
  have cN := new_in (fun j => j = w.heap.size + 1) 3 ((w.alloc (.cells #[.int .i64 x.file, .int .u32 (x.rights : Int), .bool x.all, .slice p x.ints.length c, .int .i64 x.fc] 34)).alloc (.cells #[.int .i64 a.k, .int .i64 a.d, .int .i64 a.x.file, .int .u32 (a.x.rights : Int), .bool a.x.all, .slice a.p a.x.ints.length a.c, .int .i64 a.x.fc, .slice a.q a.m.length a.e] 36)) hlt0 (by decide) (by decide)
  have HX0 : Hid _ := hX0
  have HA0 : Hid _ := hA0
  have HD0 : Hid _ := hlt0
  have HL : Hid (∀ wr, Calls Try.prog 11 #[] wr fun e w' => e = .returned (.bool true) ∧ Below wr.heap.size wr w') := fun wr => lives_any wr
  have hlz : (50 : Int) < (x.ints.length : Int) := by omega
  clear hX0 hA0 hlt0
  go_enter Try.func5, Try.ntmps5
  go_wp2_with fail
  generalize (w.alloc (.cells #[.int .i64 x.file, .int .u32 (x.rights : Int), .bool x.all, .slice p x.ints.length c, .int .i64 x.fc] 34)).alloc (.cells #[.int .i64 a.k, .int .i64 a.d, .int .i64 a.x.file, .int .u32 (a.x.rights : Int), .bool a.x.all, .slice a.p a.x.ints.length a.c, .int .i64 a.x.fc, .slice a.q a.m.length a.e] 36) = w0 at *
  refine cN.mono ?_
  rintro e w1 ⟨tb, F, rfl, _, hb1, _⟩
  have HB : Hid (Below w.heap.size w w1) := on_trans HB0.out hb1
  have x3 := (HX0.out.on hb1).cell 3 rfl
  clear HB0 hb1 cN HX0 HA0 HD0
  go_wp2_with fail
  refine (HL.out _).mono ?_
  rintro e w9 ⟨rfl, hb9⟩
  have HB9 : Hid (Below w.heap.size w w9) := on_trans HB.out hb9
  clear hb9 HB HL
  go_wp2
  go_ret
  exact ⟨rfl, HB9.out⟩
set_option maxRecDepth 100000 in
set_option maxHeartbeats 1000000 in
theorem less_cant (x : Sl) (p : Option Addr) (c : Nat) (a : ActV) (w : World) (hx : SlOk w x p c) (_ha : ActOk w a) (h50 : x.ints.length ≤ 50) (hcan : canS x = false) : Calls Try.prog 5 #[.agg (slC x (.slice p x.ints.length c)).toArray, .agg a.cells.toArray] w fun e w' => e = .returned (.bool true) ∧ Below w.heap.size w w' := by
  change Calls Try.prog 5 #[.agg #[.int .i64 x.file, .int .u32 (x.rights : Int), .bool x.all, .slice p x.ints.length c, .int .i64 x.fc], .agg #[.int .i64 a.k, .int .i64 a.d, .int .i64 a.x.file, .int .u32 (a.x.rights : Int), .bool a.x.all, .slice a.p a.x.ints.length a.c, .int .i64 a.x.fc, .slice a.q a.m.length a.e]] w _
  have HB0 : Hid (Below w.heap.size w ((w.alloc (.cells #[.int .i64 x.file, .int .u32 (x.rights : Int), .bool x.all, .slice p x.ints.length c, .int .i64 x.fc] 34)).alloc (.cells #[.int .i64 a.k, .int .i64 a.d, .int .i64 a.x.file, .int .u32 (a.x.rights : Int), .bool a.x.all, .slice a.p a.x.ints.length a.c, .int .i64 a.x.fc, .slice a.q a.m.length a.e] 36))) := on_trans (on_alloc w _) (on_alloc _ _)
  have hX0 : Blk ((w.alloc (.cells #[.int .i64 x.file, .int .u32 (x.rights : Int), .bool x.all, .slice p x.ints.length c, .int .i64 x.fc] 34)).alloc (.cells #[.int .i64 a.k, .int .i64 a.d, .int .i64 a.x.file, .int .u32 (a.x.rights : Int), .bool a.x.all, .slice a.p a.x.ints.length a.c, .int .i64 a.x.fc, .slice a.q a.m.length a.e] 36)) w.heap.size 34 (slC x (.slice p x.ints.length c)) := (Blk.new w _ (slC x (.slice p x.ints.length c))).alloc _
  have hA0 : Blk ((w.alloc (.cells #[.int .i64 x.file, .int .u32 (x.rights : Int), .bool x.all, .slice p x.ints.length c, .int .i64 x.fc] 34)).alloc (.cells #[.int .i64 a.k, .int .i64 a.d, .int .i64 a.x.file, .int .u32 (a.x.rights : Int), .bool a.x.all, .slice a.p a.x.ints.length a.c, .int .i64 a.x.fc, .slice a.q a.m.length a.e] 36)) (w.heap.size + 1) 36 a.cells := by
    have := Blk.new (w.alloc (.cells #[.int .i64 x.file, .int .u32 (x.rights : Int), .bool x.all, .slice p x.ints.length c, .int .i64 x.fc] 34)) 36 a.cells
    rwa [World.size_alloc] at this
  have hlt0 : Lt (fun j => j = w.heap.size + 1) ((w.alloc (.cells #[.int .i64 x.file, .int .u32 (x.rights : Int), .bool x.all, .slice p x.ints.length c, .int .i64 x.fc] 34)).alloc (.cells #[.int .i64 a.k, .int .i64 a.d, .int .i64 a.x.file, .int .u32 (a.x.rights : Int), .bool a.x.all, .slice a.p a.x.ints.length a.c, .int .i64 a.x.fc, .slice a.q a.m.length a.e] 36)) := fun j hj => by rw [show j = w.heap.size + 1 from hj]; exact hA0.lt
  have cN := new_in (fun j => j = w.heap.size + 1) 3 ((w.alloc (.cells #[.int .i64 x.file, .int .u32 (x.rights : Int), .bool x.all, .slice p x.ints.length c, .int .i64 x.fc] 34)).alloc (.cells #[.int .i64 a.k, .int .i64 a.d, .int .i64 a.x.file, .int .u32 (a.x.rights : Int), .bool a.x.all, .slice a.p a.x.ints.length a.c, .int .i64 a.x.fc, .slice a.q a.m.length a.e] 36)) hlt0 (by decide) (by decide)
  have HX0 : Hid _ := hX0
  have HA0 : Hid _ := hA0
  have HD0 : Hid _ := hlt0
  have HL : Hid (∀ wr, Calls Try.prog 11 #[] wr fun e w' => e = .returned (.bool true) ∧ Below wr.heap.size wr w') := fun wr => lives_any wr
  have hlz : ¬ (50 : Int) < (x.ints.length : Int) := by omega
  have HC : Hid (∀ W, Below w.heap.size w W → Calls Try.prog 17 #[.agg #[.int .i64 x.file, .int .u32 (x.rights : Int), .bool x.all, .slice p x.ints.length c, .int .i64 x.fc]] W fun e w' => e = .returned (.bool false) ∧ Below W.heap.size W w') := fun W hb => by rw [← hcan]; exact rcan_any x p c W (hx.at_.on hb) (by omega)
  clear hX0 hA0 hlt0 hx hcan
  go_enter Try.func5, Try.ntmps5
  go_wp2_with fail
  generalize (w.alloc (.cells #[.int .i64 x.file, .int .u32 (x.rights : Int), .bool x.all, .slice p x.ints.length c, .int .i64 x.fc] 34)).alloc (.cells #[.int .i64 a.k, .int .i64 a.d, .int .i64 a.x.file, .int .u32 (a.x.rights : Int), .bool a.x.all, .slice a.p a.x.ints.length a.c, .int .i64 a.x.fc, .slice a.q a.m.length a.e] 36) = w0 at *
  refine cN.mono ?_
  rintro e w1 ⟨tb, F, rfl, _, hb1, _⟩
  have HB1 : Hid (Below w.heap.size w w1) := on_trans HB0.out hb1
  have hX1 := HX0.out.on hb1
  have x0 := hX1.cell 0 rfl
  have x1 := hX1.cell 1 rfl
  have x2 := hX1.cell 2 rfl
  have x3 := hX1.cell 3 rfl
  have x4 := hX1.cell 4 rfl
  clear HB0 hb1 cN HX0 HA0 HD0 hX1
  go_wp2_with fail
  refine (HC.out _ HB1.out).mono ?_
  rintro e w2 ⟨rfl, hb2⟩
  have HB : Hid (Below w.heap.size w w2) := on_trans HB1.out hb2
  clear hb2 HB1 HC x0 x1 x2 x3 x4
  go_wp2_with fail
  refine (HL.out _).mono ?_
  rintro e w9 ⟨rfl, hb9⟩
  have HB9 : Hid (Below w.heap.size w w9) := on_trans HB.out hb9
  clear hb9 HB HL
  go_wp2
  go_ret
  exact ⟨rfl, HB9.out⟩
set_option maxRecDepth 100000 in
set_option maxHeartbeats 2000000 in
theorem less_lim (x : Sl) (p : Option Addr) (c : Nat) (a : ActV) (w : World) (hx : SlOk w x p c) (ha : ActOk w a) (h50 : x.ints.length ≤ 50) (hcan : canS x = true) (hk : a.k = 3) : Calls Try.prog 5 #[.agg (slC x (.slice p x.ints.length c)).toArray, .agg a.cells.toArray] w fun e w' => e = .returned (.bool true) ∧ Below w.heap.size w w' := by
  change Calls Try.prog 5 #[.agg #[.int .i64 x.file, .int .u32 (x.rights : Int), .bool x.all, .slice p x.ints.length c, .int .i64 x.fc], .agg #[.int .i64 a.k, .int .i64 a.d, .int .i64 a.x.file, .int .u32 (a.x.rights : Int), .bool a.x.all, .slice a.p a.x.ints.length a.c, .int .i64 a.x.fc, .slice a.q a.m.length a.e]] w _
  have HB0 : Hid (Below w.heap.size w ((w.alloc (.cells #[.int .i64 x.file, .int .u32 (x.rights : Int), .bool x.all, .slice p x.ints.length c, .int .i64 x.fc] 34)).alloc (.cells #[.int .i64 a.k, .int .i64 a.d, .int .i64 a.x.file, .int .u32 (a.x.rights : Int), .bool a.x.all, .slice a.p a.x.ints.length a.c, .int .i64 a.x.fc, .slice a.q a.m.length a.e] 36))) := on_trans (on_alloc w _) (on_alloc _ _)
  have hX0 : Blk ((w.alloc (.cells #[.int .i64 x.file, .int .u32 (x.rights : Int), .bool x.all, .slice p x.ints.length c, .int .i64 x.fc] 34)).alloc (.cells #[.int .i64 a.k, .int .i64 a.d, .int .i64 a.x.file, .int .u32 (a.x.rights : Int), .bool a.x.all, .slice a.p a.x.ints.length a.c, .int .i64 a.x.fc, .slice a.q a.m.length a.e] 36)) w.heap.size 34 (slC x (.slice p x.ints.length c)) := (Blk.new w _ (slC x (.slice p x.ints.length c))).alloc _
  have hA0 : Blk ((w.alloc (.cells #[.int .i64 x.file, .int .u32 (x.rights : Int), .bool x.all, .slice p x.ints.length c, .int .i64 x.fc] 34)).alloc (.cells #[.int .i64 a.k, .int .i64 a.d, .int .i64 a.x.file, .int .u32 (a.x.rights : Int), .bool a.x.all, .slice a.p a.x.ints.length a.c, .int .i64 a.x.fc, .slice a.q a.m.length a.e] 36)) (w.heap.size + 1) 36 a.cells := by
    have := Blk.new (w.alloc (.cells #[.int .i64 x.file, .int .u32 (x.rights : Int), .bool x.all, .slice p x.ints.length c, .int .i64 x.fc] 34)) 36 a.cells
    rwa [World.size_alloc] at this
  have hlt0 : Lt (fun j => j = w.heap.size + 1) ((w.alloc (.cells #[.int .i64 x.file, .int .u32 (x.rights : Int), .bool x.all, .slice p x.ints.length c, .int .i64 x.fc] 34)).alloc (.cells #[.int .i64 a.k, .int .i64 a.d, .int .i64 a.x.file, .int .u32 (a.x.rights : Int), .bool a.x.all, .slice a.p a.x.ints.length a.c, .int .i64 a.x.fc, .slice a.q a.m.length a.e] 36)) := fun j hj => by rw [show j = w.heap.size + 1 from hj]; exact hA0.lt
  have cN := new_in (fun j => j = w.heap.size + 1) 3 ((w.alloc (.cells #[.int .i64 x.file, .int .u32 (x.rights : Int), .bool x.all, .slice p x.ints.length c, .int .i64 x.fc] 34)).alloc (.cells #[.int .i64 a.k, .int .i64 a.d, .int .i64 a.x.file, .int .u32 (a.x.rights : Int), .bool a.x.all, .slice a.p a.x.ints.length a.c, .int .i64 a.x.fc, .slice a.q a.m.length a.e] 36)) hlt0 (by decide) (by decide)
  have HX0 : Hid _ := hX0
  have HA0 : Hid _ := hA0
  have HD0 : Hid _ := hlt0
  have HL : Hid (∀ wr, Calls Try.prog 11 #[] wr fun e w' => e = .returned (.bool true) ∧ Below wr.heap.size wr w') := fun wr => lives_any wr
  have hlz : ¬ (50 : Int) < (x.ints.length : Int) := by omega
  have k3 : (a.k == 3) = true := by simpa using hk
  clear hk
  have HC : Hid (∀ W, Below w.heap.size w W → Calls Try.prog 17 #[.agg #[.int .i64 x.file, .int .u32 (x.rights : Int), .bool x.all, .slice p x.ints.length c, .int .i64 x.fc]] W fun e w' => e = .returned (.bool true) ∧ Below W.heap.size W w') := fun W hb => by rw [← hcan]; exact rcan_any x p c W (hx.at_.on hb) (by omega)
  have hfile : x.file ≠ 0 := by have := can_file hcan; omega
  have hfit : Fit x := ⟨hx.rights, .inr hcan⟩
  have HPut : Hid (∀ D F w0 w1 tb, Below w.heap.size w w1 → St D F w0 w1 tb [zS, zS, zS] → Calls Try.prog 18 #[ptr tb, .int .i64 1, .agg #[.int .i64 x.file, .int .u32 (x.rights : Int), .bool x.all, .slice p x.ints.length c, .int .i64 x.fc]] w1 fun e w' => (∃ N E, e = .returned (.tuple #[.int .i64 N, .int .i64 E])) ∧ ∃ F', St (Or D F') F' w0 w' tb (three x) ∧ Goes F F' w1 w') := fun D F w0 w1 tb hb h => by
    have cP := put_any (x := x) h.tab (Fits.rep 3) h.lt (by decide) 1 p c (hx.at_.on hb) (by omega)
    rw [show putS [zS, zS, zS] 1 x = three x by unfold putS; rw [hcan]; rfl] at cP
    exact cP.mono fun e w' ⟨h1, F', h2, h3⟩ => ⟨⟨_, _, h1⟩, F', h.goes h2 h3, h3⟩
  have HGet : Hid (∀ y D F w0 w1 tb, Fit y → y.file ≠ 0 → St D F w0 w1 tb (three y) → Calls Try.prog 12 #[ptr tb, .int .i64 1, .int .u32 0] w1 fun e w' => ∃ p5 c5, e = .returned (.tuple #[.agg #[.int .i64 y.file, .int .u32 (y.rights : Int), .bool y.all, .slice p5 y.ints.length c5, .int .i64 y.fc], .int .i64 0]) ∧ Below w1.heap.size w1 w' ∧ IntD D w' (.slice p5 y.ints.length c5) y.ints) := fun y D F w0 w1 tb hy hfy h => by
    have cG := get_any h.tab (three_fits hy) h.lt 1 0 (by decide)
    rw [show getX (three y) 1 0 = y by unfold getX; rw [three_live hfy, sub_zero]; rfl, show getE (three y) 1 0 = 0 by unfold getE; rw [three_live hfy, sub_zero]; rfl] at cG
    exact cG.mono fun e w' ⟨u, h1, h2, v5, h3, p5, c5, h4, h5⟩ => by
      subst h3
      subst h4
      exact ⟨p5, c5, h1, h2, p5, c5, rfl, h5⟩
  have HOwn : Hid (∀ Y, Below w.heap.size w Y → Calls Try.prog 19 #[.agg #[.int .i64 a.k, .int .i64 a.d, .int .i64 a.x.file, .int .u32 (a.x.rights : Int), .bool a.x.all, .slice a.p a.x.ints.length a.c, .int .i64 a.x.fc, .slice a.q a.m.length a.e]] Y fun e w' => Below Y.heap.size Y w' ∧ ∃ p7 c7 q7 e7, e = .returned (.agg #[.int .i64 a.k, .int .i64 a.d, .int .i64 a.x.file, .int .u32 (a.x.rights : Int), .bool a.x.all, .slice p7 (cut a.x.ints).length c7, .int .i64 a.x.fc, .slice q7 (cut a.m).length e7]) ∧ Go.Proofs.Ytmccfcllehfebaa.W.AtF (Y.heap.size + 2) w' q7 (cut a.m)) := fun Y hb => (own_any a.k a.d a.x a.p a.q a.c a.e a.m Y (ha.sl.at_.on hb) (ha.at_.on hb) ha.sl.cap ha.cap).mono fun e w' ⟨h1, p7, c7, q7, e7, h2, _, h4⟩ => ⟨h1, p7, c7, q7, e7, h2, h4⟩
  have HLim : Hid (∀ D F w0 w1 tb q7 (e7 : Nat), St D F w0 w1 tb (three x) → Go.Proofs.Ytmccfcllehfebaa.W.At w1 q7 (cut a.m) → Calls Try.prog 20 #[ptr tb, .int .i64 1, .int .u32 (a.x.rights : Int)] w1 fun e w' => ∃ E y F', e = .returned (.int .i64 E) ∧ Left x y E ∧ St (Or D F') F' w0 w' tb (three y) ∧ Goes F F' w1 w') := fun D F w0 w1 tb q7 e7 h hq7 => by
    obtain ⟨y, hy1, hy2⟩ := lim_left hfit hfile ha.sl.rights
    have cL := lim_any h.tab (three_fits hfit) 1 a.x.rights ha.sl.rights
    rw [hy1] at cL
    exact cL.mono fun e w' ⟨h1, F', h2, h3⟩ => ⟨_, y, F', h1, hy2, h.goes h2 h3, h3⟩
  have HWi : Hid (∀ y p5 c5 p6 c6 Y, Fit y → withinB y x = true → Go.Proofs.Ytmccfcllehfebaa.W.At Y p5 y.ints → Go.Proofs.Ytmccfcllehfebaa.W.At Y p6 x.ints → Calls Try.prog 23 #[.agg #[.int .i64 y.file, .int .u32 (y.rights : Int), .bool y.all, .slice p5 y.ints.length c5, .int .i64 y.fc], .agg #[.int .i64 x.file, .int .u32 (x.rights : Int), .bool x.all, .slice p6 x.ints.length c6, .int .i64 x.fc]] Y fun e w' => e = .returned (.bool true) ∧ Below Y.heap.size Y w') := fun y p5 c5 p6 c6 Y hy hw h5 h6 => within_any y x p5 p6 c5 c6 Y h5 h6 (by have := hy.len; omega) (by omega) hy.1 hx.rights hw
  have HOn : Hid (∀ p5 c5 p6 c6 Y, Go.Proofs.Ytmccfcllehfebaa.W.At Y p5 x.ints → Go.Proofs.Ytmccfcllehfebaa.W.At Y p6 x.ints → Calls Try.prog 16 #[.agg #[.int .i64 x.file, .int .u32 (x.rights : Int), .bool x.all, .slice p5 x.ints.length c5, .int .i64 x.fc], .agg #[.int .i64 x.file, .int .u32 (x.rights : Int), .bool x.all, .slice p6 x.ints.length c6, .int .i64 x.fc]] Y fun e w' => e = .returned (.bool true) ∧ Below Y.heap.size Y w') := fun p5 c5 p6 c6 Y h5 h6 => (one_any x x p5 p6 c5 c6 Y h5 h6 (by omega)).mono fun e w' ⟨h1, h2⟩ => ⟨by rw [h1, one_self], h2⟩
  have HFX : Hid (Fit x ∧ x.file ≠ 0) := ⟨hfit, hfile⟩
  clear hX0 hA0 hlt0 hx ha hcan hfit hfile
  go_enter Try.func5, Try.ntmps5
  go_wp2_with fail
  generalize (w.alloc (.cells #[.int .i64 x.file, .int .u32 (x.rights : Int), .bool x.all, .slice p x.ints.length c, .int .i64 x.fc] 34)).alloc (.cells #[.int .i64 a.k, .int .i64 a.d, .int .i64 a.x.file, .int .u32 (a.x.rights : Int), .bool a.x.all, .slice a.p a.x.ints.length a.c, .int .i64 a.x.fc, .slice a.q a.m.length a.e] 36) = w0 at *
  refine cN.mono ?_
  rintro e w1 ⟨tb, F, rfl, ht, hb1, hlow⟩
  have HS1 : Hid (St (Or (fun j => j = w.heap.size + 1) F) F w0 w1 tb [zS, zS, zS]) := St.made HD0.out ht hb1 hlow
  have HB1 : Hid (Below w.heap.size w w1) := on_trans HB0.out hb1
  have hX1 := HX0.out.on hb1
  have HX1 : Hid _ := hX1
  have HA1 : Hid (Blk w1 (w.heap.size + 1) 36 a.cells) := HA0.out.on hb1
  have x0 := hX1.cell 0 rfl
  have x1 := hX1.cell 1 rfl
  have x2 := hX1.cell 2 rfl
  have x3 := hX1.cell 3 rfl
  have x4 := hX1.cell 4 rfl
  have HLo : Hid (w.heap.size + 1 < w0.heap.size) := HA0.out.lt
  clear HB0 hb1 cN HX0 HA0 HD0 hX1 ht hlow
  go_wp2_with fail
  refine (HC.out _ HB1.out).mono ?_
  rintro e w2 ⟨rfl, hb2⟩
  have HS2 : Hid (St (Or (fun j => j = w.heap.size + 1) F) F w0 w2 tb [zS, zS, zS]) := HS1.out.on hb2
  have HB2 : Hid (Below w.heap.size w w2) := on_trans HB1.out hb2
  have hX2 := Blk.on HX1.out hb2
  have HA2 : Hid (Blk w2 (w.heap.size + 1) 36 a.cells) := HA1.out.on hb2
  have y0 := hX2.cell 0 rfl
  have y1 := hX2.cell 1 rfl
  have y2 := hX2.cell 2 rfl
  have y3 := hX2.cell 3 rfl
  have y4 := hX2.cell 4 rfl
  clear HS1 HB1 HX1 HA1 hX2 hb2 HC x0 x1 x2 x3 x4
  go_wp2_with fail
  refine (HPut.out _ _ _ _ _ HB2.out HS2.out).mono ?_
  rintro e w3 ⟨⟨N3, E3, rfl⟩, F3, h3, hg3⟩
  have HS3 : Hid _ := h3
  have HB3 : Hid (Below w.heap.size w w3) := hg3.below HB2.out (fun k hk => by have := HS2.out.low k hk; have := HLo.out; omega) HB2.out.size
  have HA3 : Hid (Blk w3 (w.heap.size + 1) 36 a.cells) := hg3.keep.blk HA2.out fun h7 => by have := HS2.out.low _ h7; have := HLo.out; omega
  clear HS2 HB2 HA2 h3 hg3 HPut y0 y1 y2 y3 y4
  go_wp2_with fail
  refine (HGet.out x _ _ _ _ _ HFX.out.1 HFX.out.2 HS3.out).mono ?_
  rintro e w4 ⟨p4, c4, rfl, hb4, hat4⟩
  have hal4 := on_alloc w4 (.cells #[.int .i64 x.file, .int .u32 (x.rights : Int), .bool x.all, .slice p4 x.ints.length c4, .int .i64 x.fc] 34)
  have HS4 : Hid _ := (HS3.out.on hb4).on hal4
  have HB4 : Hid (Below w.heap.size w (w4.alloc (.cells #[.int .i64 x.file, .int .u32 (x.rights : Int), .bool x.all, .slice p4 x.ints.length c4, .int .i64 x.fc] 34))) := on_trans (on_trans HB3.out hb4) hal4
  have hA4 := (HA3.out.on hb4).on hal4
  have HA4 : Hid _ := hA4
  have HW4 : Hid (Blk (w4.alloc (.cells #[.int .i64 x.file, .int .u32 (x.rights : Int), .bool x.all, .slice p4 x.ints.length c4, .int .i64 x.fc] 34)) w4.heap.size 34 (slC x (.slice p4 x.ints.length c4))) := Blk.new w4 _ (slC x (.slice p4 x.ints.length c4))
  have HT4 : Hid (IntD _ (w4.alloc (.cells #[.int .i64 x.file, .int .u32 (x.rights : Int), .bool x.all, .slice p4 x.ints.length c4, .int .i64 x.fc] 34)) (.slice p4 x.ints.length c4) x.ints) := IntD.on hat4 hal4
  have HK4 : Hid (∀ k, F3 k → k ≠ w4.heap.size) := fun k hk e => by have := (HS3.out.tab.sub k hk).2; have := hb4.size; omega
  have a0 := hA4.cell 0 rfl
  have a1 := hA4.cell 1 rfl
  have a2 := hA4.cell 2 rfl
  have a3 := hA4.cell 3 rfl
  have a4 := hA4.cell 4 rfl
  have a5 := hA4.cell 5 rfl
  have a6 := hA4.cell 6 rfl
  have a7 := hA4.cell 7 rfl
  clear HS3 HB3 HA3 hb4 hat4 hal4 hA4
  go_wp2_with fail
  generalize w4.alloc (.cells #[.int .i64 x.file, .int .u32 (x.rights : Int), .bool x.all, .slice p4 x.ints.length c4, .int .i64 x.fc] 34) = w4' at *
  generalize w4.heap.size = k4 at *
  refine (HOwn.out _ HB4.out).mono ?_
  rintro e w5 ⟨hb5, p7, c7, q7, e7, rfl, hq7⟩
  have hA5 := Blk.on HA4.out hb5
  have f0 := hA5.free 0
  have f1 := hA5.free 1
  have f2 := hA5.free 2
  have f3 := hA5.free 3
  have f4 := hA5.free 4
  have f5 := hA5.free 5
  have f6 := hA5.free 6
  have f7 := hA5.free 7
  have y0 := hA5.cell 0 rfl
  have y1 := hA5.cell 1 rfl
  have y2 := hA5.cell 2 rfl
  have y3 := hA5.cell 3 rfl
  have y4 := hA5.cell 4 rfl
  have y5 := hA5.cell 5 rfl
  have y6 := hA5.cell 6 rfl
  have y7 := hA5.cell 7 rfl
  have hA6 : Blk ((((((((w5.setCell ⟨(w.heap.size + 1), 0, none⟩ (.int .i64 a.k)).setCell ⟨(w.heap.size + 1), 1, none⟩ (.int .i64 a.d)).setCell ⟨(w.heap.size + 1), 2, none⟩ (.int .i64 a.x.file)).setCell ⟨(w.heap.size + 1), 3, none⟩ (.int .u32 (a.x.rights : Int))).setCell ⟨(w.heap.size + 1), 4, none⟩ (.bool a.x.all)).setCell ⟨(w.heap.size + 1), 5, none⟩ (.slice p7 (cut a.x.ints).length c7)).setCell ⟨(w.heap.size + 1), 6, none⟩ (.int .i64 a.x.fc)).setCell ⟨(w.heap.size + 1), 7, none⟩ (.slice q7 (cut a.m).length e7)) (w.heap.size + 1) 36 [.int .i64 a.k, .int .i64 a.d, .int .i64 a.x.file, .int .u32 (a.x.rights : Int), .bool a.x.all, .slice p7 (cut a.x.ints).length c7, .int .i64 a.x.fc, .slice q7 (cut a.m).length e7] := hA5.put [.int .i64 a.k, .int .i64 a.d, .int .i64 a.x.file, .int .u32 (a.x.rights : Int), .bool a.x.all, .slice p7 (cut a.x.ints).length c7, .int .i64 a.x.fc, .slice q7 (cut a.m).length e7] rfl
  have hU6 : But (w.heap.size + 1) w5 ((((((((w5.setCell ⟨(w.heap.size + 1), 0, none⟩ (.int .i64 a.k)).setCell ⟨(w.heap.size + 1), 1, none⟩ (.int .i64 a.d)).setCell ⟨(w.heap.size + 1), 2, none⟩ (.int .i64 a.x.file)).setCell ⟨(w.heap.size + 1), 3, none⟩ (.int .u32 (a.x.rights : Int))).setCell ⟨(w.heap.size + 1), 4, none⟩ (.bool a.x.all)).setCell ⟨(w.heap.size + 1), 5, none⟩ (.slice p7 (cut a.x.ints).length c7)).setCell ⟨(w.heap.size + 1), 6, none⟩ (.int .i64 a.x.fc)).setCell ⟨(w.heap.size + 1), 7, none⟩ (.slice q7 (cut a.m).length e7)) := but_putL (w.heap.size + 1) [.int .i64 a.k, .int .i64 a.d, .int .i64 a.x.file, .int .u32 (a.x.rights : Int), .bool a.x.all, .slice p7 (cut a.x.ints).length c7, .int .i64 a.x.fc, .slice q7 (cut a.m).length e7] w5 0
  have z0 : ((((((((w5.setCell ⟨(w.heap.size + 1), 0, none⟩ (.int .i64 a.k)).setCell ⟨(w.heap.size + 1), 1, none⟩ (.int .i64 a.d)).setCell ⟨(w.heap.size + 1), 2, none⟩ (.int .i64 a.x.file)).setCell ⟨(w.heap.size + 1), 3, none⟩ (.int .u32 (a.x.rights : Int))).setCell ⟨(w.heap.size + 1), 4, none⟩ (.bool a.x.all)).setCell ⟨(w.heap.size + 1), 5, none⟩ (.slice p7 (cut a.x.ints).length c7)).setCell ⟨(w.heap.size + 1), 6, none⟩ (.int .i64 a.x.fc)).setCell ⟨(w.heap.size + 1), 7, none⟩ (.slice q7 (cut a.m).length e7)).cell? ⟨w.heap.size + 1, 0, none⟩ = some (.int .i64 a.k) := hA6.cell 0 rfl
  have z3 : ((((((((w5.setCell ⟨(w.heap.size + 1), 0, none⟩ (.int .i64 a.k)).setCell ⟨(w.heap.size + 1), 1, none⟩ (.int .i64 a.d)).setCell ⟨(w.heap.size + 1), 2, none⟩ (.int .i64 a.x.file)).setCell ⟨(w.heap.size + 1), 3, none⟩ (.int .u32 (a.x.rights : Int))).setCell ⟨(w.heap.size + 1), 4, none⟩ (.bool a.x.all)).setCell ⟨(w.heap.size + 1), 5, none⟩ (.slice p7 (cut a.x.ints).length c7)).setCell ⟨(w.heap.size + 1), 6, none⟩ (.int .i64 a.x.fc)).setCell ⟨(w.heap.size + 1), 7, none⟩ (.slice q7 (cut a.m).length e7)).cell? ⟨w.heap.size + 1, 3, none⟩ = some (.int .u32 (a.x.rights : Int)) := hA6.cell 3 rfl
  have HS6 : Hid (St (Or (Or (fun j => j = w.heap.size + 1) F) F3) F3 w ((((((((w5.setCell ⟨(w.heap.size + 1), 0, none⟩ (.int .i64 a.k)).setCell ⟨(w.heap.size + 1), 1, none⟩ (.int .i64 a.d)).setCell ⟨(w.heap.size + 1), 2, none⟩ (.int .i64 a.x.file)).setCell ⟨(w.heap.size + 1), 3, none⟩ (.int .u32 (a.x.rights : Int))).setCell ⟨(w.heap.size + 1), 4, none⟩ (.bool a.x.all)).setCell ⟨(w.heap.size + 1), 5, none⟩ (.slice p7 (cut a.x.ints).length c7)).setCell ⟨(w.heap.size + 1), 6, none⟩ (.int .i64 a.x.fc)).setCell ⟨(w.heap.size + 1), 7, none⟩ (.slice q7 (cut a.m).length e7)) tb (three x)) := ⟨(HS4.out.on hb5).tab.keep (keep_but hU6 fun h7 => by
    rcases h7 with h7 | h7
    · exact h7 (.inl (.inl rfl))
    · have := (HS4.out.on hb5).low _ h7; have := HLo.out; omega), fun j hj => by rw [hU6.size]; exact (HS4.out.on hb5).lt j hj, fun k hk => by have := (HS4.out.on hb5).low k hk; have := HLo.out; omega, below_but (on_trans HB4.out hb5) hU6 (by omega)⟩
  have HW6 : Hid (Blk ((((((((w5.setCell ⟨(w.heap.size + 1), 0, none⟩ (.int .i64 a.k)).setCell ⟨(w.heap.size + 1), 1, none⟩ (.int .i64 a.d)).setCell ⟨(w.heap.size + 1), 2, none⟩ (.int .i64 a.x.file)).setCell ⟨(w.heap.size + 1), 3, none⟩ (.int .u32 (a.x.rights : Int))).setCell ⟨(w.heap.size + 1), 4, none⟩ (.bool a.x.all)).setCell ⟨(w.heap.size + 1), 5, none⟩ (.slice p7 (cut a.x.ints).length c7)).setCell ⟨(w.heap.size + 1), 6, none⟩ (.int .i64 a.x.fc)).setCell ⟨(w.heap.size + 1), 7, none⟩ (.slice q7 (cut a.m).length e7)) k4 34 (slC x (.slice p4 x.ints.length c4))) := (HW4.out.on hb5).but hU6 (blk_ne (HW4.out.on hb5) hA5 (by decide))
  have HI6 : Hid (IntD (Or (Or (fun j => j = w.heap.size + 1) F) F3) ((((((((w5.setCell ⟨(w.heap.size + 1), 0, none⟩ (.int .i64 a.k)).setCell ⟨(w.heap.size + 1), 1, none⟩ (.int .i64 a.d)).setCell ⟨(w.heap.size + 1), 2, none⟩ (.int .i64 a.x.file)).setCell ⟨(w.heap.size + 1), 3, none⟩ (.int .u32 (a.x.rights : Int))).setCell ⟨(w.heap.size + 1), 4, none⟩ (.bool a.x.all)).setCell ⟨(w.heap.size + 1), 5, none⟩ (.slice p7 (cut a.x.ints).length c7)).setCell ⟨(w.heap.size + 1), 6, none⟩ (.int .i64 a.x.fc)).setCell ⟨(w.heap.size + 1), 7, none⟩ (.slice q7 (cut a.m).length e7)) (.slice p4 x.ints.length c4) x.ints) := (IntD.on HT4.out hb5).keep (keep_but hU6 fun h7 => h7 (.inl (.inl rfl)))
  have cL := HLim.out _ _ _ _ _ q7 e7 HS6.out (Go.Proofs.Ytmccfcllehfebaa.W.at_ints.2 (((Go.Proofs.Ytmccfcllehfebaa.W.atF_ints.1 hq7).but hU6 (by have := HA4.out.lt; omega)).at))
  clear HS4 HB4 HA4 HW4 HT4 hb5 hq7 hA5 hA6 hU6 HOwn HLim a0 a1 a2 a3 a4 a5 a6 a7
  go_wp2_with fail
  refine cL.mono ?_
  rintro e w7 ⟨E, y, F7, rfl, hleft, hs7, hg7⟩
  have HLf : Hid (Left x y E) := hleft
  have HS7 : Hid _ := hs7
  have HW7 : Hid (Blk w7 k4 34 (slC x (.slice p4 x.ints.length c4))) := hg7.keep.blk HW6.out fun h7 => HK4.out k4 h7 rfl
  have HI7 : Hid _ := IntD.goes HI6.out hg7 fun j hj => (HS6.out.tab.sub j hj).1
  clear cL hleft hs7 hg7 HS6 HW6 HI6 HK4 f0 f1 f2 f3 f4 f5 f6 f7 y0 y1 y2 y3 y4 y5 y6 y7 z0 z3
  go_wp2_with fail
  refine (HGet.out y _ _ _ _ _ HLf.out.1 HLf.out.2.1 HS7.out).mono ?_
  rintro e w8 ⟨p8, c8, rfl, hb8, hi8⟩
  have hal8 := on_alloc w8 (.cells #[.int .i64 y.file, .int .u32 (y.rights : Int), .bool y.all, .slice p8 y.ints.length c8, .int .i64 y.fc] 34)
  have hW9 := (HW7.out.on hb8).on hal8
  have HW9 : Hid _ := hW9
  have g0 := hW9.cell 0 rfl
  have g1 := hW9.cell 1 rfl
  have g2 := hW9.cell 2 rfl
  have g3 := hW9.cell 3 rfl
  have g4 := hW9.cell 4 rfl
  have hN9 : Blk (w8.alloc (.cells #[.int .i64 y.file, .int .u32 (y.rights : Int), .bool y.all, .slice p8 y.ints.length c8, .int .i64 y.fc] 34)) w8.heap.size 34 (slC y (.slice p8 y.ints.length c8)) := Blk.new w8 _ (slC y (.slice p8 y.ints.length c8))
  have HN9 : Hid _ := hN9
  have HAt : Hid (Go.Proofs.Ytmccfcllehfebaa.W.At (w8.alloc (.cells #[.int .i64 y.file, .int .u32 (y.rights : Int), .bool y.all, .slice p8 y.ints.length c8, .int .i64 y.fc] 34)) p8 y.ints ∧ Go.Proofs.Ytmccfcllehfebaa.W.At (w8.alloc (.cells #[.int .i64 y.file, .int .u32 (y.rights : Int), .bool y.all, .slice p8 y.ints.length c8, .int .i64 y.fc] 34)) p4 x.ints) := ⟨(IntD.on hi8 hal8).at.1, (IntD.on (IntD.on HI7.out hb8) hal8).at.1⟩
  have HB9 : Hid (Below w.heap.size w (w8.alloc (.cells #[.int .i64 y.file, .int .u32 (y.rights : Int), .bool y.all, .slice p8 y.ints.length c8, .int .i64 y.fc] 34))) := on_trans (on_trans HS7.out.below hb8) hal8
  have cW := HWi.out y p8 c8 p4 c4 (w8.alloc (.cells #[.int .i64 y.file, .int .u32 (y.rights : Int), .bool y.all, .slice p8 y.ints.length c8, .int .i64 y.fc] 34)) HLf.out.1 HLf.out.2.2.1 HAt.out.1 HAt.out.2
  clear HS7 HW7 HI7 hb8 hi8 hal8 hW9 hN9 HGet HWi HFX
  go_wp2_with fail
  generalize w8.alloc (.cells #[.int .i64 y.file, .int .u32 (y.rights : Int), .bool y.all, .slice p8 y.ints.length c8, .int .i64 y.fc] 34) = w9 at *
  generalize w8.heap.size = k8 at *
  refine cW.mono ?_
  rintro e w10 ⟨rfl, hb10⟩
  by_cases hE : E = 0
  · subst hE
    have HB : Hid (Below w.heap.size w w10) := on_trans HB9.out hb10
    clear HB9 hb10 cW HN9 HW9 HAt HLf HOn g0 g1 g2 g3 g4
    go_wp2_with fail
    refine (HL.out _).mono ?_
    rintro e w9 ⟨rfl, hb9⟩
    have HB9 : Hid (Below w.heap.size w w9) := on_trans HB.out hb9
    clear hb9 HB HL
    go_wp2
    go_ret
    exact ⟨rfl, HB9.out⟩
  · obtain rfl := HLf.out.2.2.2 hE
    have zE : (E == 0) = false := by simpa using hE
    have hW10 := Blk.on HW9.out hb10
    have hN10 := Blk.on HN9.out hb10
    have m0 := hW10.cell 0 rfl
    have m1 := hW10.cell 1 rfl
    have m2 := hW10.cell 2 rfl
    have m3 := hW10.cell 3 rfl
    have m4 := hW10.cell 4 rfl
    have n0 := hN10.cell 0 rfl
    have n1 := hN10.cell 1 rfl
    have n2 := hN10.cell 2 rfl
    have n3 := hN10.cell 3 rfl
    have n4 := hN10.cell 4 rfl
    have cO := HOn.out p8 c8 p4 c4 w10 (HAt.out.1.on hb10) (HAt.out.2.on hb10)
    have HB10 : Hid (Below w.heap.size w w10) := on_trans HB9.out hb10
    clear HB9 hb10 cW HN9 HW9 HAt HLf HOn g0 g1 g2 g3 g4 hW10 hN10 hE
    go_wp2_with fail
    refine cO.mono ?_
    rintro e w11 ⟨rfl, hb11⟩
    have HB : Hid (Below w.heap.size w w11) := on_trans HB10.out hb11
    clear HB10 hb11 cO m0 m1 m2 m3 m4 n0 n1 n2 n3 n4
    go_wp2_with fail
    refine (HL.out _).mono ?_
    rintro e w9 ⟨rfl, hb9⟩
    have HB9 : Hid (Below w.heap.size w w9) := on_trans HB.out hb9
    clear hb9 HB HL
    go_wp2
    go_ret
    exact ⟨rfl, HB9.out⟩
set_option maxRecDepth 100000 in
set_option maxHeartbeats 2000000 in
theorem less_io (x : Sl) (p : Option Addr) (c : Nat) (a : ActV) (w : World) (hx : SlOk w x p c) (ha : ActOk w a) (h50 : x.ints.length ≤ 50) (hcan : canS x = true) (hk : a.k = 4) : Calls Try.prog 5 #[.agg (slC x (.slice p x.ints.length c)).toArray, .agg a.cells.toArray] w fun e w' => e = .returned (.bool true) ∧ Below w.heap.size w w' := by
  change Calls Try.prog 5 #[.agg #[.int .i64 x.file, .int .u32 (x.rights : Int), .bool x.all, .slice p x.ints.length c, .int .i64 x.fc], .agg #[.int .i64 a.k, .int .i64 a.d, .int .i64 a.x.file, .int .u32 (a.x.rights : Int), .bool a.x.all, .slice a.p a.x.ints.length a.c, .int .i64 a.x.fc, .slice a.q a.m.length a.e]] w _
  have HB0 : Hid (Below w.heap.size w ((w.alloc (.cells #[.int .i64 x.file, .int .u32 (x.rights : Int), .bool x.all, .slice p x.ints.length c, .int .i64 x.fc] 34)).alloc (.cells #[.int .i64 a.k, .int .i64 a.d, .int .i64 a.x.file, .int .u32 (a.x.rights : Int), .bool a.x.all, .slice a.p a.x.ints.length a.c, .int .i64 a.x.fc, .slice a.q a.m.length a.e] 36))) := on_trans (on_alloc w _) (on_alloc _ _)
  have hX0 : Blk ((w.alloc (.cells #[.int .i64 x.file, .int .u32 (x.rights : Int), .bool x.all, .slice p x.ints.length c, .int .i64 x.fc] 34)).alloc (.cells #[.int .i64 a.k, .int .i64 a.d, .int .i64 a.x.file, .int .u32 (a.x.rights : Int), .bool a.x.all, .slice a.p a.x.ints.length a.c, .int .i64 a.x.fc, .slice a.q a.m.length a.e] 36)) w.heap.size 34 (slC x (.slice p x.ints.length c)) := (Blk.new w _ (slC x (.slice p x.ints.length c))).alloc _
  have hA0 : Blk ((w.alloc (.cells #[.int .i64 x.file, .int .u32 (x.rights : Int), .bool x.all, .slice p x.ints.length c, .int .i64 x.fc] 34)).alloc (.cells #[.int .i64 a.k, .int .i64 a.d, .int .i64 a.x.file, .int .u32 (a.x.rights : Int), .bool a.x.all, .slice a.p a.x.ints.length a.c, .int .i64 a.x.fc, .slice a.q a.m.length a.e] 36)) (w.heap.size + 1) 36 a.cells := by
    have := Blk.new (w.alloc (.cells #[.int .i64 x.file, .int .u32 (x.rights : Int), .bool x.all, .slice p x.ints.length c, .int .i64 x.fc] 34)) 36 a.cells
    rwa [World.size_alloc] at this
  have hlt0 : Lt (fun j => j = w.heap.size + 1) ((w.alloc (.cells #[.int .i64 x.file, .int .u32 (x.rights : Int), .bool x.all, .slice p x.ints.length c, .int .i64 x.fc] 34)).alloc (.cells #[.int .i64 a.k, .int .i64 a.d, .int .i64 a.x.file, .int .u32 (a.x.rights : Int), .bool a.x.all, .slice a.p a.x.ints.length a.c, .int .i64 a.x.fc, .slice a.q a.m.length a.e] 36)) := fun j hj => by rw [show j = w.heap.size + 1 from hj]; exact hA0.lt
  have cN := new_in (fun j => j = w.heap.size + 1) 3 ((w.alloc (.cells #[.int .i64 x.file, .int .u32 (x.rights : Int), .bool x.all, .slice p x.ints.length c, .int .i64 x.fc] 34)).alloc (.cells #[.int .i64 a.k, .int .i64 a.d, .int .i64 a.x.file, .int .u32 (a.x.rights : Int), .bool a.x.all, .slice a.p a.x.ints.length a.c, .int .i64 a.x.fc, .slice a.q a.m.length a.e] 36)) hlt0 (by decide) (by decide)
  have HX0 : Hid _ := hX0
  have HA0 : Hid _ := hA0
  have HD0 : Hid _ := hlt0
  have HL : Hid (∀ wr, Calls Try.prog 11 #[] wr fun e w' => e = .returned (.bool true) ∧ Below wr.heap.size wr w') := fun wr => lives_any wr
  have hlz : ¬ (50 : Int) < (x.ints.length : Int) := by omega
  have k3 : (a.k == 3) = false := by simp; omega
  have k4 : (a.k == 4) = true := by simpa using hk
  clear hk
  have HC : Hid (∀ W, Below w.heap.size w W → Calls Try.prog 17 #[.agg #[.int .i64 x.file, .int .u32 (x.rights : Int), .bool x.all, .slice p x.ints.length c, .int .i64 x.fc]] W fun e w' => e = .returned (.bool true) ∧ Below W.heap.size W w') := fun W hb => by rw [← hcan]; exact rcan_any x p c W (hx.at_.on hb) (by omega)
  have hfile : x.file ≠ 0 := by have := can_file hcan; omega
  have hfit : Fit x := ⟨hx.rights, .inr hcan⟩
  have HPut : Hid (∀ D F w0 w1 tb, Below w.heap.size w w1 → St D F w0 w1 tb [zS, zS, zS] → Calls Try.prog 18 #[ptr tb, .int .i64 1, .agg #[.int .i64 x.file, .int .u32 (x.rights : Int), .bool x.all, .slice p x.ints.length c, .int .i64 x.fc]] w1 fun e w' => (∃ N E, e = .returned (.tuple #[.int .i64 N, .int .i64 E])) ∧ ∃ F', St (Or D F') F' w0 w' tb (three x) ∧ Goes F F' w1 w') := fun D F w0 w1 tb hb h => by
    have cP := put_any (x := x) h.tab (Fits.rep 3) h.lt (by decide) 1 p c (hx.at_.on hb) (by omega)
    rw [show putS [zS, zS, zS] 1 x = three x by unfold putS; rw [hcan]; rfl] at cP
    exact cP.mono fun e w' ⟨h1, F', h2, h3⟩ => ⟨⟨_, _, h1⟩, F', h.goes h2 h3, h3⟩
  have HGet : Hid (∀ y D F w0 w1 tb, Fit y → y.file ≠ 0 → St D F w0 w1 tb (three y) → Calls Try.prog 12 #[ptr tb, .int .i64 1, .int .u32 0] w1 fun e w' => ∃ p5 c5, e = .returned (.tuple #[.agg #[.int .i64 y.file, .int .u32 (y.rights : Int), .bool y.all, .slice p5 y.ints.length c5, .int .i64 y.fc], .int .i64 0]) ∧ Below w1.heap.size w1 w' ∧ IntD D w' (.slice p5 y.ints.length c5) y.ints) := fun y D F w0 w1 tb hy hfy h => by
    have cG := get_any h.tab (three_fits hy) h.lt 1 0 (by decide)
    rw [show getX (three y) 1 0 = y by unfold getX; rw [three_live hfy, sub_zero]; rfl, show getE (three y) 1 0 = 0 by unfold getE; rw [three_live hfy, sub_zero]; rfl] at cG
    exact cG.mono fun e w' ⟨u, h1, h2, v5, h3, p5, c5, h4, h5⟩ => by
      subst h3
      subst h4
      exact ⟨p5, c5, h1, h2, p5, c5, rfl, h5⟩
  have HOwn : Hid (∀ Y, Below w.heap.size w Y → Calls Try.prog 19 #[.agg #[.int .i64 a.k, .int .i64 a.d, .int .i64 a.x.file, .int .u32 (a.x.rights : Int), .bool a.x.all, .slice a.p a.x.ints.length a.c, .int .i64 a.x.fc, .slice a.q a.m.length a.e]] Y fun e w' => Below Y.heap.size Y w' ∧ ∃ p7 c7 q7 e7, e = .returned (.agg #[.int .i64 a.k, .int .i64 a.d, .int .i64 a.x.file, .int .u32 (a.x.rights : Int), .bool a.x.all, .slice p7 (cut a.x.ints).length c7, .int .i64 a.x.fc, .slice q7 (cut a.m).length e7]) ∧ Go.Proofs.Ytmccfcllehfebaa.W.AtF (Y.heap.size + 2) w' q7 (cut a.m)) := fun Y hb => (own_any a.k a.d a.x a.p a.q a.c a.e a.m Y (ha.sl.at_.on hb) (ha.at_.on hb) ha.sl.cap ha.cap).mono fun e w' ⟨h1, p7, c7, q7, e7, h2, _, h4⟩ => ⟨h1, p7, c7, q7, e7, h2, h4⟩
  have HLim : Hid (∀ D F w0 w1 tb q7 (e7 : Nat), St D F w0 w1 tb (three x) → Go.Proofs.Ytmccfcllehfebaa.W.At w1 q7 (cut a.m) → Calls Try.prog 21 #[ptr tb, .int .i64 1, .slice q7 (cut a.m).length e7] w1 fun e w' => ∃ E y F', e = .returned (.int .i64 E) ∧ Left x y E ∧ St (Or D F') F' w0 w' tb (three y) ∧ Goes F F' w1 w') := fun D F w0 w1 tb q7 e7 h hq7 => by
    obtain ⟨y, hy1, hy2⟩ := io_left hfit hfile (cut a.m)
    have cL := io_any h.tab (three_fits hfit) h.lt 1 q7 (cut a.m) e7 hq7 (by have := cut_len a.m; omega)
    rw [hy1] at cL
    exact cL.mono fun e w' ⟨h1, F', h2, h3⟩ => ⟨_, y, F', h1, hy2, h.goes h2 h3, h3⟩
  have HWi : Hid (∀ y p5 c5 p6 c6 Y, Fit y → withinB y x = true → Go.Proofs.Ytmccfcllehfebaa.W.At Y p5 y.ints → Go.Proofs.Ytmccfcllehfebaa.W.At Y p6 x.ints → Calls Try.prog 23 #[.agg #[.int .i64 y.file, .int .u32 (y.rights : Int), .bool y.all, .slice p5 y.ints.length c5, .int .i64 y.fc], .agg #[.int .i64 x.file, .int .u32 (x.rights : Int), .bool x.all, .slice p6 x.ints.length c6, .int .i64 x.fc]] Y fun e w' => e = .returned (.bool true) ∧ Below Y.heap.size Y w') := fun y p5 c5 p6 c6 Y hy hw h5 h6 => within_any y x p5 p6 c5 c6 Y h5 h6 (by have := hy.len; omega) (by omega) hy.1 hx.rights hw
  have HOn : Hid (∀ p5 c5 p6 c6 Y, Go.Proofs.Ytmccfcllehfebaa.W.At Y p5 x.ints → Go.Proofs.Ytmccfcllehfebaa.W.At Y p6 x.ints → Calls Try.prog 16 #[.agg #[.int .i64 x.file, .int .u32 (x.rights : Int), .bool x.all, .slice p5 x.ints.length c5, .int .i64 x.fc], .agg #[.int .i64 x.file, .int .u32 (x.rights : Int), .bool x.all, .slice p6 x.ints.length c6, .int .i64 x.fc]] Y fun e w' => e = .returned (.bool true) ∧ Below Y.heap.size Y w') := fun p5 c5 p6 c6 Y h5 h6 => (one_any x x p5 p6 c5 c6 Y h5 h6 (by omega)).mono fun e w' ⟨h1, h2⟩ => ⟨by rw [h1, one_self], h2⟩
  have HFX : Hid (Fit x ∧ x.file ≠ 0) := ⟨hfit, hfile⟩
  clear hX0 hA0 hlt0 hx ha hcan hfit hfile
  go_enter Try.func5, Try.ntmps5
  go_wp2_with fail
  generalize (w.alloc (.cells #[.int .i64 x.file, .int .u32 (x.rights : Int), .bool x.all, .slice p x.ints.length c, .int .i64 x.fc] 34)).alloc (.cells #[.int .i64 a.k, .int .i64 a.d, .int .i64 a.x.file, .int .u32 (a.x.rights : Int), .bool a.x.all, .slice a.p a.x.ints.length a.c, .int .i64 a.x.fc, .slice a.q a.m.length a.e] 36) = w0 at *
  refine cN.mono ?_
  rintro e w1 ⟨tb, F, rfl, ht, hb1, hlow⟩
  have HS1 : Hid (St (Or (fun j => j = w.heap.size + 1) F) F w0 w1 tb [zS, zS, zS]) := St.made HD0.out ht hb1 hlow
  have HB1 : Hid (Below w.heap.size w w1) := on_trans HB0.out hb1
  have hX1 := HX0.out.on hb1
  have HX1 : Hid _ := hX1
  have HA1 : Hid (Blk w1 (w.heap.size + 1) 36 a.cells) := HA0.out.on hb1
  have x0 := hX1.cell 0 rfl
  have x1 := hX1.cell 1 rfl
  have x2 := hX1.cell 2 rfl
  have x3 := hX1.cell 3 rfl
  have x4 := hX1.cell 4 rfl
  have HLo : Hid (w.heap.size + 1 < w0.heap.size) := HA0.out.lt
  clear HB0 hb1 cN HX0 HA0 HD0 hX1 ht hlow
  go_wp2_with fail
  refine (HC.out _ HB1.out).mono ?_
  rintro e w2 ⟨rfl, hb2⟩
  have HS2 : Hid (St (Or (fun j => j = w.heap.size + 1) F) F w0 w2 tb [zS, zS, zS]) := HS1.out.on hb2
  have HB2 : Hid (Below w.heap.size w w2) := on_trans HB1.out hb2
  have hX2 := Blk.on HX1.out hb2
  have HA2 : Hid (Blk w2 (w.heap.size + 1) 36 a.cells) := HA1.out.on hb2
  have y0 := hX2.cell 0 rfl
  have y1 := hX2.cell 1 rfl
  have y2 := hX2.cell 2 rfl
  have y3 := hX2.cell 3 rfl
  have y4 := hX2.cell 4 rfl
  clear HS1 HB1 HX1 HA1 hX2 hb2 HC x0 x1 x2 x3 x4
  go_wp2_with fail
  refine (HPut.out _ _ _ _ _ HB2.out HS2.out).mono ?_
  rintro e w3 ⟨⟨N3, E3, rfl⟩, F3, h3, hg3⟩
  have HS3 : Hid _ := h3
  have HB3 : Hid (Below w.heap.size w w3) := hg3.below HB2.out (fun k hk => by have := HS2.out.low k hk; have := HLo.out; omega) HB2.out.size
  have HA3 : Hid (Blk w3 (w.heap.size + 1) 36 a.cells) := hg3.keep.blk HA2.out fun h7 => by have := HS2.out.low _ h7; have := HLo.out; omega
  clear HS2 HB2 HA2 h3 hg3 HPut y0 y1 y2 y3 y4
  go_wp2_with fail
  refine (HGet.out x _ _ _ _ _ HFX.out.1 HFX.out.2 HS3.out).mono ?_
  rintro e w4 ⟨p4, c4, rfl, hb4, hat4⟩
  have hal4 := on_alloc w4 (.cells #[.int .i64 x.file, .int .u32 (x.rights : Int), .bool x.all, .slice p4 x.ints.length c4, .int .i64 x.fc] 34)
  have HS4 : Hid _ := (HS3.out.on hb4).on hal4
  have HB4 : Hid (Below w.heap.size w (w4.alloc (.cells #[.int .i64 x.file, .int .u32 (x.rights : Int), .bool x.all, .slice p4 x.ints.length c4, .int .i64 x.fc] 34))) := on_trans (on_trans HB3.out hb4) hal4
  have hA4 := (HA3.out.on hb4).on hal4
  have HA4 : Hid _ := hA4
  have HW4 : Hid (Blk (w4.alloc (.cells #[.int .i64 x.file, .int .u32 (x.rights : Int), .bool x.all, .slice p4 x.ints.length c4, .int .i64 x.fc] 34)) w4.heap.size 34 (slC x (.slice p4 x.ints.length c4))) := Blk.new w4 _ (slC x (.slice p4 x.ints.length c4))
  have HT4 : Hid (IntD _ (w4.alloc (.cells #[.int .i64 x.file, .int .u32 (x.rights : Int), .bool x.all, .slice p4 x.ints.length c4, .int .i64 x.fc] 34)) (.slice p4 x.ints.length c4) x.ints) := IntD.on hat4 hal4
  have HK4 : Hid (∀ k, F3 k → k ≠ w4.heap.size) := fun k hk e => by have := (HS3.out.tab.sub k hk).2; have := hb4.size; omega
  have a0 := hA4.cell 0 rfl
  have a1 := hA4.cell 1 rfl
  have a2 := hA4.cell 2 rfl
  have a3 := hA4.cell 3 rfl
  have a4 := hA4.cell 4 rfl
  have a5 := hA4.cell 5 rfl
  have a6 := hA4.cell 6 rfl
  have a7 := hA4.cell 7 rfl
  clear HS3 HB3 HA3 hb4 hat4 hal4 hA4
  go_wp2_with fail
  generalize w4.alloc (.cells #[.int .i64 x.file, .int .u32 (x.rights : Int), .bool x.all, .slice p4 x.ints.length c4, .int .i64 x.fc] 34) = w4' at *
  generalize w4.heap.size = k4 at *
  refine (HOwn.out _ HB4.out).mono ?_
  rintro e w5 ⟨hb5, p7, c7, q7, e7, rfl, hq7⟩
  have hA5 := Blk.on HA4.out hb5
  have f0 := hA5.free 0
  have f1 := hA5.free 1
  have f2 := hA5.free 2
  have f3 := hA5.free 3
  have f4 := hA5.free 4
  have f5 := hA5.free 5
  have f6 := hA5.free 6
  have f7 := hA5.free 7
  have y0 := hA5.cell 0 rfl
  have y1 := hA5.cell 1 rfl
  have y2 := hA5.cell 2 rfl
  have y3 := hA5.cell 3 rfl
  have y4 := hA5.cell 4 rfl
  have y5 := hA5.cell 5 rfl
  have y6 := hA5.cell 6 rfl
  have y7 := hA5.cell 7 rfl
  have hA6 : Blk ((((((((w5.setCell ⟨(w.heap.size + 1), 0, none⟩ (.int .i64 a.k)).setCell ⟨(w.heap.size + 1), 1, none⟩ (.int .i64 a.d)).setCell ⟨(w.heap.size + 1), 2, none⟩ (.int .i64 a.x.file)).setCell ⟨(w.heap.size + 1), 3, none⟩ (.int .u32 (a.x.rights : Int))).setCell ⟨(w.heap.size + 1), 4, none⟩ (.bool a.x.all)).setCell ⟨(w.heap.size + 1), 5, none⟩ (.slice p7 (cut a.x.ints).length c7)).setCell ⟨(w.heap.size + 1), 6, none⟩ (.int .i64 a.x.fc)).setCell ⟨(w.heap.size + 1), 7, none⟩ (.slice q7 (cut a.m).length e7)) (w.heap.size + 1) 36 [.int .i64 a.k, .int .i64 a.d, .int .i64 a.x.file, .int .u32 (a.x.rights : Int), .bool a.x.all, .slice p7 (cut a.x.ints).length c7, .int .i64 a.x.fc, .slice q7 (cut a.m).length e7] := hA5.put [.int .i64 a.k, .int .i64 a.d, .int .i64 a.x.file, .int .u32 (a.x.rights : Int), .bool a.x.all, .slice p7 (cut a.x.ints).length c7, .int .i64 a.x.fc, .slice q7 (cut a.m).length e7] rfl
  have hU6 : But (w.heap.size + 1) w5 ((((((((w5.setCell ⟨(w.heap.size + 1), 0, none⟩ (.int .i64 a.k)).setCell ⟨(w.heap.size + 1), 1, none⟩ (.int .i64 a.d)).setCell ⟨(w.heap.size + 1), 2, none⟩ (.int .i64 a.x.file)).setCell ⟨(w.heap.size + 1), 3, none⟩ (.int .u32 (a.x.rights : Int))).setCell ⟨(w.heap.size + 1), 4, none⟩ (.bool a.x.all)).setCell ⟨(w.heap.size + 1), 5, none⟩ (.slice p7 (cut a.x.ints).length c7)).setCell ⟨(w.heap.size + 1), 6, none⟩ (.int .i64 a.x.fc)).setCell ⟨(w.heap.size + 1), 7, none⟩ (.slice q7 (cut a.m).length e7)) := but_putL (w.heap.size + 1) [.int .i64 a.k, .int .i64 a.d, .int .i64 a.x.file, .int .u32 (a.x.rights : Int), .bool a.x.all, .slice p7 (cut a.x.ints).length c7, .int .i64 a.x.fc, .slice q7 (cut a.m).length e7] w5 0
  have z0 : ((((((((w5.setCell ⟨(w.heap.size + 1), 0, none⟩ (.int .i64 a.k)).setCell ⟨(w.heap.size + 1), 1, none⟩ (.int .i64 a.d)).setCell ⟨(w.heap.size + 1), 2, none⟩ (.int .i64 a.x.file)).setCell ⟨(w.heap.size + 1), 3, none⟩ (.int .u32 (a.x.rights : Int))).setCell ⟨(w.heap.size + 1), 4, none⟩ (.bool a.x.all)).setCell ⟨(w.heap.size + 1), 5, none⟩ (.slice p7 (cut a.x.ints).length c7)).setCell ⟨(w.heap.size + 1), 6, none⟩ (.int .i64 a.x.fc)).setCell ⟨(w.heap.size + 1), 7, none⟩ (.slice q7 (cut a.m).length e7)).cell? ⟨w.heap.size + 1, 0, none⟩ = some (.int .i64 a.k) := hA6.cell 0 rfl
  have z7 : ((((((((w5.setCell ⟨(w.heap.size + 1), 0, none⟩ (.int .i64 a.k)).setCell ⟨(w.heap.size + 1), 1, none⟩ (.int .i64 a.d)).setCell ⟨(w.heap.size + 1), 2, none⟩ (.int .i64 a.x.file)).setCell ⟨(w.heap.size + 1), 3, none⟩ (.int .u32 (a.x.rights : Int))).setCell ⟨(w.heap.size + 1), 4, none⟩ (.bool a.x.all)).setCell ⟨(w.heap.size + 1), 5, none⟩ (.slice p7 (cut a.x.ints).length c7)).setCell ⟨(w.heap.size + 1), 6, none⟩ (.int .i64 a.x.fc)).setCell ⟨(w.heap.size + 1), 7, none⟩ (.slice q7 (cut a.m).length e7)).cell? ⟨w.heap.size + 1, 7, none⟩ = some (.slice q7 (cut a.m).length e7) := hA6.cell 7 rfl
  have HS6 : Hid (St (Or (Or (fun j => j = w.heap.size + 1) F) F3) F3 w ((((((((w5.setCell ⟨(w.heap.size + 1), 0, none⟩ (.int .i64 a.k)).setCell ⟨(w.heap.size + 1), 1, none⟩ (.int .i64 a.d)).setCell ⟨(w.heap.size + 1), 2, none⟩ (.int .i64 a.x.file)).setCell ⟨(w.heap.size + 1), 3, none⟩ (.int .u32 (a.x.rights : Int))).setCell ⟨(w.heap.size + 1), 4, none⟩ (.bool a.x.all)).setCell ⟨(w.heap.size + 1), 5, none⟩ (.slice p7 (cut a.x.ints).length c7)).setCell ⟨(w.heap.size + 1), 6, none⟩ (.int .i64 a.x.fc)).setCell ⟨(w.heap.size + 1), 7, none⟩ (.slice q7 (cut a.m).length e7)) tb (three x)) := ⟨(HS4.out.on hb5).tab.keep (keep_but hU6 fun h7 => by
    rcases h7 with h7 | h7
    · exact h7 (.inl (.inl rfl))
    · have := (HS4.out.on hb5).low _ h7; have := HLo.out; omega), fun j hj => by rw [hU6.size]; exact (HS4.out.on hb5).lt j hj, fun k hk => by have := (HS4.out.on hb5).low k hk; have := HLo.out; omega, below_but (on_trans HB4.out hb5) hU6 (by omega)⟩
  have HW6 : Hid (Blk ((((((((w5.setCell ⟨(w.heap.size + 1), 0, none⟩ (.int .i64 a.k)).setCell ⟨(w.heap.size + 1), 1, none⟩ (.int .i64 a.d)).setCell ⟨(w.heap.size + 1), 2, none⟩ (.int .i64 a.x.file)).setCell ⟨(w.heap.size + 1), 3, none⟩ (.int .u32 (a.x.rights : Int))).setCell ⟨(w.heap.size + 1), 4, none⟩ (.bool a.x.all)).setCell ⟨(w.heap.size + 1), 5, none⟩ (.slice p7 (cut a.x.ints).length c7)).setCell ⟨(w.heap.size + 1), 6, none⟩ (.int .i64 a.x.fc)).setCell ⟨(w.heap.size + 1), 7, none⟩ (.slice q7 (cut a.m).length e7)) k4 34 (slC x (.slice p4 x.ints.length c4))) := (HW4.out.on hb5).but hU6 (blk_ne (HW4.out.on hb5) hA5 (by decide))
  have HI6 : Hid (IntD (Or (Or (fun j => j = w.heap.size + 1) F) F3) ((((((((w5.setCell ⟨(w.heap.size + 1), 0, none⟩ (.int .i64 a.k)).setCell ⟨(w.heap.size + 1), 1, none⟩ (.int .i64 a.d)).setCell ⟨(w.heap.size + 1), 2, none⟩ (.int .i64 a.x.file)).setCell ⟨(w.heap.size + 1), 3, none⟩ (.int .u32 (a.x.rights : Int))).setCell ⟨(w.heap.size + 1), 4, none⟩ (.bool a.x.all)).setCell ⟨(w.heap.size + 1), 5, none⟩ (.slice p7 (cut a.x.ints).length c7)).setCell ⟨(w.heap.size + 1), 6, none⟩ (.int .i64 a.x.fc)).setCell ⟨(w.heap.size + 1), 7, none⟩ (.slice q7 (cut a.m).length e7)) (.slice p4 x.ints.length c4) x.ints) := (IntD.on HT4.out hb5).keep (keep_but hU6 fun h7 => h7 (.inl (.inl rfl)))
  have cL := HLim.out _ _ _ _ _ q7 e7 HS6.out (Go.Proofs.Ytmccfcllehfebaa.W.at_ints.2 (((Go.Proofs.Ytmccfcllehfebaa.W.atF_ints.1 hq7).but hU6 (by have := HA4.out.lt; omega)).at))
  clear HS4 HB4 HA4 HW4 HT4 hb5 hq7 hA5 hA6 hU6 HOwn HLim a0 a1 a2 a3 a4 a5 a6 a7
  go_wp2_with fail
  refine cL.mono ?_
  rintro e w7 ⟨E, y, F7, rfl, hleft, hs7, hg7⟩
  have HLf : Hid (Left x y E) := hleft
  have HS7 : Hid _ := hs7
  have HW7 : Hid (Blk w7 k4 34 (slC x (.slice p4 x.ints.length c4))) := hg7.keep.blk HW6.out fun h7 => HK4.out k4 h7 rfl
  have HI7 : Hid _ := IntD.goes HI6.out hg7 fun j hj => (HS6.out.tab.sub j hj).1
  clear cL hleft hs7 hg7 HS6 HW6 HI6 HK4 f0 f1 f2 f3 f4 f5 f6 f7 y0 y1 y2 y3 y4 y5 y6 y7 z0 z7
  go_wp2_with fail
  refine (HGet.out y _ _ _ _ _ HLf.out.1 HLf.out.2.1 HS7.out).mono ?_
  rintro e w8 ⟨p8, c8, rfl, hb8, hi8⟩
  have hal8 := on_alloc w8 (.cells #[.int .i64 y.file, .int .u32 (y.rights : Int), .bool y.all, .slice p8 y.ints.length c8, .int .i64 y.fc] 34)
  have hW9 := (HW7.out.on hb8).on hal8
  have HW9 : Hid _ := hW9
  have g0 := hW9.cell 0 rfl
  have g1 := hW9.cell 1 rfl
  have g2 := hW9.cell 2 rfl
  have g3 := hW9.cell 3 rfl
  have g4 := hW9.cell 4 rfl
  have hN9 : Blk (w8.alloc (.cells #[.int .i64 y.file, .int .u32 (y.rights : Int), .bool y.all, .slice p8 y.ints.length c8, .int .i64 y.fc] 34)) w8.heap.size 34 (slC y (.slice p8 y.ints.length c8)) := Blk.new w8 _ (slC y (.slice p8 y.ints.length c8))
  have HN9 : Hid _ := hN9
  have HAt : Hid (Go.Proofs.Ytmccfcllehfebaa.W.At (w8.alloc (.cells #[.int .i64 y.file, .int .u32 (y.rights : Int), .bool y.all, .slice p8 y.ints.length c8, .int .i64 y.fc] 34)) p8 y.ints ∧ Go.Proofs.Ytmccfcllehfebaa.W.At (w8.alloc (.cells #[.int .i64 y.file, .int .u32 (y.rights : Int), .bool y.all, .slice p8 y.ints.length c8, .int .i64 y.fc] 34)) p4 x.ints) := ⟨(IntD.on hi8 hal8).at.1, (IntD.on (IntD.on HI7.out hb8) hal8).at.1⟩
  have HB9 : Hid (Below w.heap.size w (w8.alloc (.cells #[.int .i64 y.file, .int .u32 (y.rights : Int), .bool y.all, .slice p8 y.ints.length c8, .int .i64 y.fc] 34))) := on_trans (on_trans HS7.out.below hb8) hal8
  have cW := HWi.out y p8 c8 p4 c4 (w8.alloc (.cells #[.int .i64 y.file, .int .u32 (y.rights : Int), .bool y.all, .slice p8 y.ints.length c8, .int .i64 y.fc] 34)) HLf.out.1 HLf.out.2.2.1 HAt.out.1 HAt.out.2
  clear HS7 HW7 HI7 hb8 hi8 hal8 hW9 hN9 HGet HWi HFX
  go_wp2_with fail
  generalize w8.alloc (.cells #[.int .i64 y.file, .int .u32 (y.rights : Int), .bool y.all, .slice p8 y.ints.length c8, .int .i64 y.fc] 34) = w9 at *
  generalize w8.heap.size = k8 at *
  refine cW.mono ?_
  rintro e w10 ⟨rfl, hb10⟩
  by_cases hE : E = 0
  · subst hE
    have HB : Hid (Below w.heap.size w w10) := on_trans HB9.out hb10
    clear HB9 hb10 cW HN9 HW9 HAt HLf HOn g0 g1 g2 g3 g4
    go_wp2_with fail
    refine (HL.out _).mono ?_
    rintro e w9 ⟨rfl, hb9⟩
    have HB9 : Hid (Below w.heap.size w w9) := on_trans HB.out hb9
    clear hb9 HB HL
    go_wp2
    go_ret
    exact ⟨rfl, HB9.out⟩
  · obtain rfl := HLf.out.2.2.2 hE
    have zE : (E == 0) = false := by simpa using hE
    have hW10 := Blk.on HW9.out hb10
    have hN10 := Blk.on HN9.out hb10
    have m0 := hW10.cell 0 rfl
    have m1 := hW10.cell 1 rfl
    have m2 := hW10.cell 2 rfl
    have m3 := hW10.cell 3 rfl
    have m4 := hW10.cell 4 rfl
    have n0 := hN10.cell 0 rfl
    have n1 := hN10.cell 1 rfl
    have n2 := hN10.cell 2 rfl
    have n3 := hN10.cell 3 rfl
    have n4 := hN10.cell 4 rfl
    have cO := HOn.out p8 c8 p4 c4 w10 (HAt.out.1.on hb10) (HAt.out.2.on hb10)
    have HB10 : Hid (Below w.heap.size w w10) := on_trans HB9.out hb10
    clear HB9 hb10 cW HN9 HW9 HAt HLf HOn g0 g1 g2 g3 g4 hW10 hN10 hE
    go_wp2_with fail
    refine cO.mono ?_
    rintro e w11 ⟨rfl, hb11⟩
    have HB : Hid (Below w.heap.size w w11) := on_trans HB10.out hb11
    clear HB10 hb11 cO m0 m1 m2 m3 m4 n0 n1 n2 n3 n4
    go_wp2_with fail
    refine (HL.out _).mono ?_
    rintro e w9 ⟨rfl, hb9⟩
    have HB9 : Hid (Below w.heap.size w w9) := on_trans HB.out hb9
    clear hb9 HB HL
    go_wp2
    go_ret
    exact ⟨rfl, HB9.out⟩
set_option maxRecDepth 100000 in
set_option maxHeartbeats 2000000 in
theorem less_fc (x : Sl) (p : Option Addr) (c : Nat) (a : ActV) (w : World) (hx : SlOk w x p c) (ha : ActOk w a) (h50 : x.ints.length ≤ 50) (hcan : canS x = true) (hk : a.k ≠ 3 ∧ a.k ≠ 4) : Calls Try.prog 5 #[.agg (slC x (.slice p x.ints.length c)).toArray, .agg a.cells.toArray] w fun e w' => e = .returned (.bool true) ∧ Below w.heap.size w w' := by
  change Calls Try.prog 5 #[.agg #[.int .i64 x.file, .int .u32 (x.rights : Int), .bool x.all, .slice p x.ints.length c, .int .i64 x.fc], .agg #[.int .i64 a.k, .int .i64 a.d, .int .i64 a.x.file, .int .u32 (a.x.rights : Int), .bool a.x.all, .slice a.p a.x.ints.length a.c, .int .i64 a.x.fc, .slice a.q a.m.length a.e]] w _
  have HB0 : Hid (Below w.heap.size w ((w.alloc (.cells #[.int .i64 x.file, .int .u32 (x.rights : Int), .bool x.all, .slice p x.ints.length c, .int .i64 x.fc] 34)).alloc (.cells #[.int .i64 a.k, .int .i64 a.d, .int .i64 a.x.file, .int .u32 (a.x.rights : Int), .bool a.x.all, .slice a.p a.x.ints.length a.c, .int .i64 a.x.fc, .slice a.q a.m.length a.e] 36))) := on_trans (on_alloc w _) (on_alloc _ _)
  have hX0 : Blk ((w.alloc (.cells #[.int .i64 x.file, .int .u32 (x.rights : Int), .bool x.all, .slice p x.ints.length c, .int .i64 x.fc] 34)).alloc (.cells #[.int .i64 a.k, .int .i64 a.d, .int .i64 a.x.file, .int .u32 (a.x.rights : Int), .bool a.x.all, .slice a.p a.x.ints.length a.c, .int .i64 a.x.fc, .slice a.q a.m.length a.e] 36)) w.heap.size 34 (slC x (.slice p x.ints.length c)) := (Blk.new w _ (slC x (.slice p x.ints.length c))).alloc _
  have hA0 : Blk ((w.alloc (.cells #[.int .i64 x.file, .int .u32 (x.rights : Int), .bool x.all, .slice p x.ints.length c, .int .i64 x.fc] 34)).alloc (.cells #[.int .i64 a.k, .int .i64 a.d, .int .i64 a.x.file, .int .u32 (a.x.rights : Int), .bool a.x.all, .slice a.p a.x.ints.length a.c, .int .i64 a.x.fc, .slice a.q a.m.length a.e] 36)) (w.heap.size + 1) 36 a.cells := by
    have := Blk.new (w.alloc (.cells #[.int .i64 x.file, .int .u32 (x.rights : Int), .bool x.all, .slice p x.ints.length c, .int .i64 x.fc] 34)) 36 a.cells
    rwa [World.size_alloc] at this
  have hlt0 : Lt (fun j => j = w.heap.size + 1) ((w.alloc (.cells #[.int .i64 x.file, .int .u32 (x.rights : Int), .bool x.all, .slice p x.ints.length c, .int .i64 x.fc] 34)).alloc (.cells #[.int .i64 a.k, .int .i64 a.d, .int .i64 a.x.file, .int .u32 (a.x.rights : Int), .bool a.x.all, .slice a.p a.x.ints.length a.c, .int .i64 a.x.fc, .slice a.q a.m.length a.e] 36)) := fun j hj => by rw [show j = w.heap.size + 1 from hj]; exact hA0.lt
  have cN := new_in (fun j => j = w.heap.size + 1) 3 ((w.alloc (.cells #[.int .i64 x.file, .int .u32 (x.rights : Int), .bool x.all, .slice p x.ints.length c, .int .i64 x.fc] 34)).alloc (.cells #[.int .i64 a.k, .int .i64 a.d, .int .i64 a.x.file, .int .u32 (a.x.rights : Int), .bool a.x.all, .slice a.p a.x.ints.length a.c, .int .i64 a.x.fc, .slice a.q a.m.length a.e] 36)) hlt0 (by decide) (by decide)
  have HX0 : Hid _ := hX0
  have HA0 : Hid _ := hA0
  have HD0 : Hid _ := hlt0
  have HL : Hid (∀ wr, Calls Try.prog 11 #[] wr fun e w' => e = .returned (.bool true) ∧ Below wr.heap.size wr w') := fun wr => lives_any wr
  have hlz : ¬ (50 : Int) < (x.ints.length : Int) := by omega
  have k3 : (a.k == 3) = false := by simpa using hk.1
  have k4 : (a.k == 4) = false := by simpa using hk.2
  clear hk
  have HC : Hid (∀ W, Below w.heap.size w W → Calls Try.prog 17 #[.agg #[.int .i64 x.file, .int .u32 (x.rights : Int), .bool x.all, .slice p x.ints.length c, .int .i64 x.fc]] W fun e w' => e = .returned (.bool true) ∧ Below W.heap.size W w') := fun W hb => by rw [← hcan]; exact rcan_any x p c W (hx.at_.on hb) (by omega)
  have hfile : x.file ≠ 0 := by have := can_file hcan; omega
  have hfit : Fit x := ⟨hx.rights, .inr hcan⟩
  have HPut : Hid (∀ D F w0 w1 tb, Below w.heap.size w w1 → St D F w0 w1 tb [zS, zS, zS] → Calls Try.prog 18 #[ptr tb, .int .i64 1, .agg #[.int .i64 x.file, .int .u32 (x.rights : Int), .bool x.all, .slice p x.ints.length c, .int .i64 x.fc]] w1 fun e w' => (∃ N E, e = .returned (.tuple #[.int .i64 N, .int .i64 E])) ∧ ∃ F', St (Or D F') F' w0 w' tb (three x) ∧ Goes F F' w1 w') := fun D F w0 w1 tb hb h => by
    have cP := put_any (x := x) h.tab (Fits.rep 3) h.lt (by decide) 1 p c (hx.at_.on hb) (by omega)
    rw [show putS [zS, zS, zS] 1 x = three x by unfold putS; rw [hcan]; rfl] at cP
    exact cP.mono fun e w' ⟨h1, F', h2, h3⟩ => ⟨⟨_, _, h1⟩, F', h.goes h2 h3, h3⟩
  have HGet : Hid (∀ y D F w0 w1 tb, Fit y → y.file ≠ 0 → St D F w0 w1 tb (three y) → Calls Try.prog 12 #[ptr tb, .int .i64 1, .int .u32 0] w1 fun e w' => ∃ p5 c5, e = .returned (.tuple #[.agg #[.int .i64 y.file, .int .u32 (y.rights : Int), .bool y.all, .slice p5 y.ints.length c5, .int .i64 y.fc], .int .i64 0]) ∧ Below w1.heap.size w1 w' ∧ IntD D w' (.slice p5 y.ints.length c5) y.ints) := fun y D F w0 w1 tb hy hfy h => by
    have cG := get_any h.tab (three_fits hy) h.lt 1 0 (by decide)
    rw [show getX (three y) 1 0 = y by unfold getX; rw [three_live hfy, sub_zero]; rfl, show getE (three y) 1 0 = 0 by unfold getE; rw [three_live hfy, sub_zero]; rfl] at cG
    exact cG.mono fun e w' ⟨u, h1, h2, v5, h3, p5, c5, h4, h5⟩ => by
      subst h3
      subst h4
      exact ⟨p5, c5, h1, h2, p5, c5, rfl, h5⟩
  have HOwn : Hid (∀ Y, Below w.heap.size w Y → Calls Try.prog 19 #[.agg #[.int .i64 a.k, .int .i64 a.d, .int .i64 a.x.file, .int .u32 (a.x.rights : Int), .bool a.x.all, .slice a.p a.x.ints.length a.c, .int .i64 a.x.fc, .slice a.q a.m.length a.e]] Y fun e w' => Below Y.heap.size Y w' ∧ ∃ p7 c7 q7 e7, e = .returned (.agg #[.int .i64 a.k, .int .i64 a.d, .int .i64 a.x.file, .int .u32 (a.x.rights : Int), .bool a.x.all, .slice p7 (cut a.x.ints).length c7, .int .i64 a.x.fc, .slice q7 (cut a.m).length e7]) ∧ Go.Proofs.Ytmccfcllehfebaa.W.AtF (Y.heap.size + 2) w' q7 (cut a.m)) := fun Y hb => (own_any a.k a.d a.x a.p a.q a.c a.e a.m Y (ha.sl.at_.on hb) (ha.at_.on hb) ha.sl.cap ha.cap).mono fun e w' ⟨h1, p7, c7, q7, e7, h2, _, h4⟩ => ⟨h1, p7, c7, q7, e7, h2, h4⟩
  have HLim : Hid (∀ D F w0 w1 tb q7 (e7 : Nat), St D F w0 w1 tb (three x) → Go.Proofs.Ytmccfcllehfebaa.W.At w1 q7 (cut a.m) → Calls Try.prog 22 #[ptr tb, .int .i64 1, .int .i64 a.x.fc] w1 fun e w' => ∃ E y F', e = .returned (.int .i64 E) ∧ Left x y E ∧ St (Or D F') F' w0 w' tb (three y) ∧ Goes F F' w1 w') := fun D F w0 w1 tb q7 e7 h hq7 => by
    obtain ⟨y, hy1, hy2⟩ := fc_left hfit hfile a.x.fc
    have cL := fc_any h.tab (three_fits hfit) 1 a.x.fc
    rw [hy1] at cL
    exact cL.mono fun e w' ⟨h1, F', h2, h3⟩ => ⟨_, y, F', h1, hy2, h.goes h2 h3, h3⟩
  have HWi : Hid (∀ y p5 c5 p6 c6 Y, Fit y → withinB y x = true → Go.Proofs.Ytmccfcllehfebaa.W.At Y p5 y.ints → Go.Proofs.Ytmccfcllehfebaa.W.At Y p6 x.ints → Calls Try.prog 23 #[.agg #[.int .i64 y.file, .int .u32 (y.rights : Int), .bool y.all, .slice p5 y.ints.length c5, .int .i64 y.fc], .agg #[.int .i64 x.file, .int .u32 (x.rights : Int), .bool x.all, .slice p6 x.ints.length c6, .int .i64 x.fc]] Y fun e w' => e = .returned (.bool true) ∧ Below Y.heap.size Y w') := fun y p5 c5 p6 c6 Y hy hw h5 h6 => within_any y x p5 p6 c5 c6 Y h5 h6 (by have := hy.len; omega) (by omega) hy.1 hx.rights hw
  have HOn : Hid (∀ p5 c5 p6 c6 Y, Go.Proofs.Ytmccfcllehfebaa.W.At Y p5 x.ints → Go.Proofs.Ytmccfcllehfebaa.W.At Y p6 x.ints → Calls Try.prog 16 #[.agg #[.int .i64 x.file, .int .u32 (x.rights : Int), .bool x.all, .slice p5 x.ints.length c5, .int .i64 x.fc], .agg #[.int .i64 x.file, .int .u32 (x.rights : Int), .bool x.all, .slice p6 x.ints.length c6, .int .i64 x.fc]] Y fun e w' => e = .returned (.bool true) ∧ Below Y.heap.size Y w') := fun p5 c5 p6 c6 Y h5 h6 => (one_any x x p5 p6 c5 c6 Y h5 h6 (by omega)).mono fun e w' ⟨h1, h2⟩ => ⟨by rw [h1, one_self], h2⟩
  have HFX : Hid (Fit x ∧ x.file ≠ 0) := ⟨hfit, hfile⟩
  clear hX0 hA0 hlt0 hx ha hcan hfit hfile
  go_enter Try.func5, Try.ntmps5
  go_wp2_with fail
  generalize (w.alloc (.cells #[.int .i64 x.file, .int .u32 (x.rights : Int), .bool x.all, .slice p x.ints.length c, .int .i64 x.fc] 34)).alloc (.cells #[.int .i64 a.k, .int .i64 a.d, .int .i64 a.x.file, .int .u32 (a.x.rights : Int), .bool a.x.all, .slice a.p a.x.ints.length a.c, .int .i64 a.x.fc, .slice a.q a.m.length a.e] 36) = w0 at *
  refine cN.mono ?_
  rintro e w1 ⟨tb, F, rfl, ht, hb1, hlow⟩
  have HS1 : Hid (St (Or (fun j => j = w.heap.size + 1) F) F w0 w1 tb [zS, zS, zS]) := St.made HD0.out ht hb1 hlow
  have HB1 : Hid (Below w.heap.size w w1) := on_trans HB0.out hb1
  have hX1 := HX0.out.on hb1
  have HX1 : Hid _ := hX1
  have HA1 : Hid (Blk w1 (w.heap.size + 1) 36 a.cells) := HA0.out.on hb1
  have x0 := hX1.cell 0 rfl
  have x1 := hX1.cell 1 rfl
  have x2 := hX1.cell 2 rfl
  have x3 := hX1.cell 3 rfl
  have x4 := hX1.cell 4 rfl
  have HLo : Hid (w.heap.size + 1 < w0.heap.size) := HA0.out.lt
  clear HB0 hb1 cN HX0 HA0 HD0 hX1 ht hlow
  go_wp2_with fail
  refine (HC.out _ HB1.out).mono ?_
  rintro e w2 ⟨rfl, hb2⟩
  have HS2 : Hid (St (Or (fun j => j = w.heap.size + 1) F) F w0 w2 tb [zS, zS, zS]) := HS1.out.on hb2
  have HB2 : Hid (Below w.heap.size w w2) := on_trans HB1.out hb2
  have hX2 := Blk.on HX1.out hb2
  have HA2 : Hid (Blk w2 (w.heap.size + 1) 36 a.cells) := HA1.out.on hb2
  have y0 := hX2.cell 0 rfl
  have y1 := hX2.cell 1 rfl
  have y2 := hX2.cell 2 rfl
  have y3 := hX2.cell 3 rfl
  have y4 := hX2.cell 4 rfl
  clear HS1 HB1 HX1 HA1 hX2 hb2 HC x0 x1 x2 x3 x4
  go_wp2_with fail
  refine (HPut.out _ _ _ _ _ HB2.out HS2.out).mono ?_
  rintro e w3 ⟨⟨N3, E3, rfl⟩, F3, h3, hg3⟩
  have HS3 : Hid _ := h3
  have HB3 : Hid (Below w.heap.size w w3) := hg3.below HB2.out (fun k hk => by have := HS2.out.low k hk; have := HLo.out; omega) HB2.out.size
  have HA3 : Hid (Blk w3 (w.heap.size + 1) 36 a.cells) := hg3.keep.blk HA2.out fun h7 => by have := HS2.out.low _ h7; have := HLo.out; omega
  clear HS2 HB2 HA2 h3 hg3 HPut y0 y1 y2 y3 y4
  go_wp2_with fail
  refine (HGet.out x _ _ _ _ _ HFX.out.1 HFX.out.2 HS3.out).mono ?_
  rintro e w4 ⟨p4, c4, rfl, hb4, hat4⟩
  have hal4 := on_alloc w4 (.cells #[.int .i64 x.file, .int .u32 (x.rights : Int), .bool x.all, .slice p4 x.ints.length c4, .int .i64 x.fc] 34)
  have HS4 : Hid _ := (HS3.out.on hb4).on hal4
  have HB4 : Hid (Below w.heap.size w (w4.alloc (.cells #[.int .i64 x.file, .int .u32 (x.rights : Int), .bool x.all, .slice p4 x.ints.length c4, .int .i64 x.fc] 34))) := on_trans (on_trans HB3.out hb4) hal4
  have hA4 := (HA3.out.on hb4).on hal4
  have HA4 : Hid _ := hA4
  have HW4 : Hid (Blk (w4.alloc (.cells #[.int .i64 x.file, .int .u32 (x.rights : Int), .bool x.all, .slice p4 x.ints.length c4, .int .i64 x.fc] 34)) w4.heap.size 34 (slC x (.slice p4 x.ints.length c4))) := Blk.new w4 _ (slC x (.slice p4 x.ints.length c4))
  have HT4 : Hid (IntD _ (w4.alloc (.cells #[.int .i64 x.file, .int .u32 (x.rights : Int), .bool x.all, .slice p4 x.ints.length c4, .int .i64 x.fc] 34)) (.slice p4 x.ints.length c4) x.ints) := IntD.on hat4 hal4
  have HK4 : Hid (∀ k, F3 k → k ≠ w4.heap.size) := fun k hk e => by have := (HS3.out.tab.sub k hk).2; have := hb4.size; omega
  have a0 := hA4.cell 0 rfl
  have a1 := hA4.cell 1 rfl
  have a2 := hA4.cell 2 rfl
  have a3 := hA4.cell 3 rfl
  have a4 := hA4.cell 4 rfl
  have a5 := hA4.cell 5 rfl
  have a6 := hA4.cell 6 rfl
  have a7 := hA4.cell 7 rfl
  clear HS3 HB3 HA3 hb4 hat4 hal4 hA4
  go_wp2_with fail
  generalize w4.alloc (.cells #[.int .i64 x.file, .int .u32 (x.rights : Int), .bool x.all, .slice p4 x.ints.length c4, .int .i64 x.fc] 34) = w4' at *
  generalize w4.heap.size = k4 at *
  refine (HOwn.out _ HB4.out).mono ?_
  rintro e w5 ⟨hb5, p7, c7, q7, e7, rfl, hq7⟩
  have hA5 := Blk.on HA4.out hb5
  have f0 := hA5.free 0
  have f1 := hA5.free 1
  have f2 := hA5.free 2
  have f3 := hA5.free 3
  have f4 := hA5.free 4
  have f5 := hA5.free 5
  have f6 := hA5.free 6
  have f7 := hA5.free 7
  have y0 := hA5.cell 0 rfl
  have y1 := hA5.cell 1 rfl
  have y2 := hA5.cell 2 rfl
  have y3 := hA5.cell 3 rfl
  have y4 := hA5.cell 4 rfl
  have y5 := hA5.cell 5 rfl
  have y6 := hA5.cell 6 rfl
  have y7 := hA5.cell 7 rfl
  have hA6 : Blk ((((((((w5.setCell ⟨(w.heap.size + 1), 0, none⟩ (.int .i64 a.k)).setCell ⟨(w.heap.size + 1), 1, none⟩ (.int .i64 a.d)).setCell ⟨(w.heap.size + 1), 2, none⟩ (.int .i64 a.x.file)).setCell ⟨(w.heap.size + 1), 3, none⟩ (.int .u32 (a.x.rights : Int))).setCell ⟨(w.heap.size + 1), 4, none⟩ (.bool a.x.all)).setCell ⟨(w.heap.size + 1), 5, none⟩ (.slice p7 (cut a.x.ints).length c7)).setCell ⟨(w.heap.size + 1), 6, none⟩ (.int .i64 a.x.fc)).setCell ⟨(w.heap.size + 1), 7, none⟩ (.slice q7 (cut a.m).length e7)) (w.heap.size + 1) 36 [.int .i64 a.k, .int .i64 a.d, .int .i64 a.x.file, .int .u32 (a.x.rights : Int), .bool a.x.all, .slice p7 (cut a.x.ints).length c7, .int .i64 a.x.fc, .slice q7 (cut a.m).length e7] := hA5.put [.int .i64 a.k, .int .i64 a.d, .int .i64 a.x.file, .int .u32 (a.x.rights : Int), .bool a.x.all, .slice p7 (cut a.x.ints).length c7, .int .i64 a.x.fc, .slice q7 (cut a.m).length e7] rfl
  have hU6 : But (w.heap.size + 1) w5 ((((((((w5.setCell ⟨(w.heap.size + 1), 0, none⟩ (.int .i64 a.k)).setCell ⟨(w.heap.size + 1), 1, none⟩ (.int .i64 a.d)).setCell ⟨(w.heap.size + 1), 2, none⟩ (.int .i64 a.x.file)).setCell ⟨(w.heap.size + 1), 3, none⟩ (.int .u32 (a.x.rights : Int))).setCell ⟨(w.heap.size + 1), 4, none⟩ (.bool a.x.all)).setCell ⟨(w.heap.size + 1), 5, none⟩ (.slice p7 (cut a.x.ints).length c7)).setCell ⟨(w.heap.size + 1), 6, none⟩ (.int .i64 a.x.fc)).setCell ⟨(w.heap.size + 1), 7, none⟩ (.slice q7 (cut a.m).length e7)) := but_putL (w.heap.size + 1) [.int .i64 a.k, .int .i64 a.d, .int .i64 a.x.file, .int .u32 (a.x.rights : Int), .bool a.x.all, .slice p7 (cut a.x.ints).length c7, .int .i64 a.x.fc, .slice q7 (cut a.m).length e7] w5 0
  have z0 : ((((((((w5.setCell ⟨(w.heap.size + 1), 0, none⟩ (.int .i64 a.k)).setCell ⟨(w.heap.size + 1), 1, none⟩ (.int .i64 a.d)).setCell ⟨(w.heap.size + 1), 2, none⟩ (.int .i64 a.x.file)).setCell ⟨(w.heap.size + 1), 3, none⟩ (.int .u32 (a.x.rights : Int))).setCell ⟨(w.heap.size + 1), 4, none⟩ (.bool a.x.all)).setCell ⟨(w.heap.size + 1), 5, none⟩ (.slice p7 (cut a.x.ints).length c7)).setCell ⟨(w.heap.size + 1), 6, none⟩ (.int .i64 a.x.fc)).setCell ⟨(w.heap.size + 1), 7, none⟩ (.slice q7 (cut a.m).length e7)).cell? ⟨w.heap.size + 1, 0, none⟩ = some (.int .i64 a.k) := hA6.cell 0 rfl
  have z6 : ((((((((w5.setCell ⟨(w.heap.size + 1), 0, none⟩ (.int .i64 a.k)).setCell ⟨(w.heap.size + 1), 1, none⟩ (.int .i64 a.d)).setCell ⟨(w.heap.size + 1), 2, none⟩ (.int .i64 a.x.file)).setCell ⟨(w.heap.size + 1), 3, none⟩ (.int .u32 (a.x.rights : Int))).setCell ⟨(w.heap.size + 1), 4, none⟩ (.bool a.x.all)).setCell ⟨(w.heap.size + 1), 5, none⟩ (.slice p7 (cut a.x.ints).length c7)).setCell ⟨(w.heap.size + 1), 6, none⟩ (.int .i64 a.x.fc)).setCell ⟨(w.heap.size + 1), 7, none⟩ (.slice q7 (cut a.m).length e7)).cell? ⟨w.heap.size + 1, 6, none⟩ = some (.int .i64 a.x.fc) := hA6.cell 6 rfl
  have HS6 : Hid (St (Or (Or (fun j => j = w.heap.size + 1) F) F3) F3 w ((((((((w5.setCell ⟨(w.heap.size + 1), 0, none⟩ (.int .i64 a.k)).setCell ⟨(w.heap.size + 1), 1, none⟩ (.int .i64 a.d)).setCell ⟨(w.heap.size + 1), 2, none⟩ (.int .i64 a.x.file)).setCell ⟨(w.heap.size + 1), 3, none⟩ (.int .u32 (a.x.rights : Int))).setCell ⟨(w.heap.size + 1), 4, none⟩ (.bool a.x.all)).setCell ⟨(w.heap.size + 1), 5, none⟩ (.slice p7 (cut a.x.ints).length c7)).setCell ⟨(w.heap.size + 1), 6, none⟩ (.int .i64 a.x.fc)).setCell ⟨(w.heap.size + 1), 7, none⟩ (.slice q7 (cut a.m).length e7)) tb (three x)) := ⟨(HS4.out.on hb5).tab.keep (keep_but hU6 fun h7 => by
    rcases h7 with h7 | h7
    · exact h7 (.inl (.inl rfl))
    · have := (HS4.out.on hb5).low _ h7; have := HLo.out; omega), fun j hj => by rw [hU6.size]; exact (HS4.out.on hb5).lt j hj, fun k hk => by have := (HS4.out.on hb5).low k hk; have := HLo.out; omega, below_but (on_trans HB4.out hb5) hU6 (by omega)⟩
  have HW6 : Hid (Blk ((((((((w5.setCell ⟨(w.heap.size + 1), 0, none⟩ (.int .i64 a.k)).setCell ⟨(w.heap.size + 1), 1, none⟩ (.int .i64 a.d)).setCell ⟨(w.heap.size + 1), 2, none⟩ (.int .i64 a.x.file)).setCell ⟨(w.heap.size + 1), 3, none⟩ (.int .u32 (a.x.rights : Int))).setCell ⟨(w.heap.size + 1), 4, none⟩ (.bool a.x.all)).setCell ⟨(w.heap.size + 1), 5, none⟩ (.slice p7 (cut a.x.ints).length c7)).setCell ⟨(w.heap.size + 1), 6, none⟩ (.int .i64 a.x.fc)).setCell ⟨(w.heap.size + 1), 7, none⟩ (.slice q7 (cut a.m).length e7)) k4 34 (slC x (.slice p4 x.ints.length c4))) := (HW4.out.on hb5).but hU6 (blk_ne (HW4.out.on hb5) hA5 (by decide))
  have HI6 : Hid (IntD (Or (Or (fun j => j = w.heap.size + 1) F) F3) ((((((((w5.setCell ⟨(w.heap.size + 1), 0, none⟩ (.int .i64 a.k)).setCell ⟨(w.heap.size + 1), 1, none⟩ (.int .i64 a.d)).setCell ⟨(w.heap.size + 1), 2, none⟩ (.int .i64 a.x.file)).setCell ⟨(w.heap.size + 1), 3, none⟩ (.int .u32 (a.x.rights : Int))).setCell ⟨(w.heap.size + 1), 4, none⟩ (.bool a.x.all)).setCell ⟨(w.heap.size + 1), 5, none⟩ (.slice p7 (cut a.x.ints).length c7)).setCell ⟨(w.heap.size + 1), 6, none⟩ (.int .i64 a.x.fc)).setCell ⟨(w.heap.size + 1), 7, none⟩ (.slice q7 (cut a.m).length e7)) (.slice p4 x.ints.length c4) x.ints) := (IntD.on HT4.out hb5).keep (keep_but hU6 fun h7 => h7 (.inl (.inl rfl)))
  have cL := HLim.out _ _ _ _ _ q7 e7 HS6.out (Go.Proofs.Ytmccfcllehfebaa.W.at_ints.2 (((Go.Proofs.Ytmccfcllehfebaa.W.atF_ints.1 hq7).but hU6 (by have := HA4.out.lt; omega)).at))
  clear HS4 HB4 HA4 HW4 HT4 hb5 hq7 hA5 hA6 hU6 HOwn HLim a0 a1 a2 a3 a4 a5 a6 a7
  go_wp2_with fail
  refine cL.mono ?_
  rintro e w7 ⟨E, y, F7, rfl, hleft, hs7, hg7⟩
  have HLf : Hid (Left x y E) := hleft
  have HS7 : Hid _ := hs7
  have HW7 : Hid (Blk w7 k4 34 (slC x (.slice p4 x.ints.length c4))) := hg7.keep.blk HW6.out fun h7 => HK4.out k4 h7 rfl
  have HI7 : Hid _ := IntD.goes HI6.out hg7 fun j hj => (HS6.out.tab.sub j hj).1
  clear cL hleft hs7 hg7 HS6 HW6 HI6 HK4 f0 f1 f2 f3 f4 f5 f6 f7 y0 y1 y2 y3 y4 y5 y6 y7 z0 z6
  go_wp2_with fail
  refine (HGet.out y _ _ _ _ _ HLf.out.1 HLf.out.2.1 HS7.out).mono ?_
  rintro e w8 ⟨p8, c8, rfl, hb8, hi8⟩
  have hal8 := on_alloc w8 (.cells #[.int .i64 y.file, .int .u32 (y.rights : Int), .bool y.all, .slice p8 y.ints.length c8, .int .i64 y.fc] 34)
  have hW9 := (HW7.out.on hb8).on hal8
  have HW9 : Hid _ := hW9
  have g0 := hW9.cell 0 rfl
  have g1 := hW9.cell 1 rfl
  have g2 := hW9.cell 2 rfl
  have g3 := hW9.cell 3 rfl
  have g4 := hW9.cell 4 rfl
  have hN9 : Blk (w8.alloc (.cells #[.int .i64 y.file, .int .u32 (y.rights : Int), .bool y.all, .slice p8 y.ints.length c8, .int .i64 y.fc] 34)) w8.heap.size 34 (slC y (.slice p8 y.ints.length c8)) := Blk.new w8 _ (slC y (.slice p8 y.ints.length c8))
  have HN9 : Hid _ := hN9
  have HAt : Hid (Go.Proofs.Ytmccfcllehfebaa.W.At (w8.alloc (.cells #[.int .i64 y.file, .int .u32 (y.rights : Int), .bool y.all, .slice p8 y.ints.length c8, .int .i64 y.fc] 34)) p8 y.ints ∧ Go.Proofs.Ytmccfcllehfebaa.W.At (w8.alloc (.cells #[.int .i64 y.file, .int .u32 (y.rights : Int), .bool y.all, .slice p8 y.ints.length c8, .int .i64 y.fc] 34)) p4 x.ints) := ⟨(IntD.on hi8 hal8).at.1, (IntD.on (IntD.on HI7.out hb8) hal8).at.1⟩
  have HB9 : Hid (Below w.heap.size w (w8.alloc (.cells #[.int .i64 y.file, .int .u32 (y.rights : Int), .bool y.all, .slice p8 y.ints.length c8, .int .i64 y.fc] 34))) := on_trans (on_trans HS7.out.below hb8) hal8
  have cW := HWi.out y p8 c8 p4 c4 (w8.alloc (.cells #[.int .i64 y.file, .int .u32 (y.rights : Int), .bool y.all, .slice p8 y.ints.length c8, .int .i64 y.fc] 34)) HLf.out.1 HLf.out.2.2.1 HAt.out.1 HAt.out.2
  clear HS7 HW7 HI7 hb8 hi8 hal8 hW9 hN9 HGet HWi HFX
  go_wp2_with fail
  generalize w8.alloc (.cells #[.int .i64 y.file, .int .u32 (y.rights : Int), .bool y.all, .slice p8 y.ints.length c8, .int .i64 y.fc] 34) = w9 at *
  generalize w8.heap.size = k8 at *
  refine cW.mono ?_
  rintro e w10 ⟨rfl, hb10⟩
  by_cases hE : E = 0
  · subst hE
    have HB : Hid (Below w.heap.size w w10) := on_trans HB9.out hb10
    clear HB9 hb10 cW HN9 HW9 HAt HLf HOn g0 g1 g2 g3 g4
    go_wp2_with fail
    refine (HL.out _).mono ?_
    rintro e w9 ⟨rfl, hb9⟩
    have HB9 : Hid (Below w.heap.size w w9) := on_trans HB.out hb9
    clear hb9 HB HL
    go_wp2
    go_ret
    exact ⟨rfl, HB9.out⟩
  · obtain rfl := HLf.out.2.2.2 hE
    have zE : (E == 0) = false := by simpa using hE
    have hW10 := Blk.on HW9.out hb10
    have hN10 := Blk.on HN9.out hb10
    have m0 := hW10.cell 0 rfl
    have m1 := hW10.cell 1 rfl
    have m2 := hW10.cell 2 rfl
    have m3 := hW10.cell 3 rfl
    have m4 := hW10.cell 4 rfl
    have n0 := hN10.cell 0 rfl
    have n1 := hN10.cell 1 rfl
    have n2 := hN10.cell 2 rfl
    have n3 := hN10.cell 3 rfl
    have n4 := hN10.cell 4 rfl
    have cO := HOn.out p8 c8 p4 c4 w10 (HAt.out.1.on hb10) (HAt.out.2.on hb10)
    have HB10 : Hid (Below w.heap.size w w10) := on_trans HB9.out hb10
    clear HB9 hb10 cW HN9 HW9 HAt HLf HOn g0 g1 g2 g3 g4 hW10 hN10 hE
    go_wp2_with fail
    refine cO.mono ?_
    rintro e w11 ⟨rfl, hb11⟩
    have HB : Hid (Below w.heap.size w w11) := on_trans HB10.out hb11
    clear HB10 hb11 cO m0 m1 m2 m3 m4 n0 n1 n2 n3 n4
    go_wp2_with fail
    refine (HL.out _).mono ?_
    rintro e w9 ⟨rfl, hb9⟩
    have HB9 : Hid (Below w.heap.size w w9) := on_trans HB.out hb9
    clear hb9 HB HL
    go_wp2
    go_ret
    exact ⟨rfl, HB9.out⟩
theorem less_walk (x : Sl) (p : Option Addr) (c : Nat) (a : ActV) (w : World) (hx : SlOk w x p c) (ha : ActOk w a) : Calls Try.prog 5 #[.agg (slC x (.slice p x.ints.length c)).toArray, .agg a.cells.toArray] w fun e w' => e = .returned (.bool true) ∧ Below w.heap.size w w' := by
  by_cases h50 : 50 < x.ints.length
  · exact less_long x p c a w hx ha h50
  · cases hc : canS x with
    | false => exact less_cant x p c a w hx ha (by omega) hc
    | true =>
      by_cases h3 : a.k = 3
      · exact less_lim x p c a w hx ha (by omega) hc h3
      · by_cases h4 : a.k = 4
        · exact less_io x p c a w hx ha (by omega) hc h4
        · exact less_fc x p c a w hx ha (by omega) hc ⟨h3, h4⟩

end Go.Proofs.Ytmccfcllehfebaa.Z
