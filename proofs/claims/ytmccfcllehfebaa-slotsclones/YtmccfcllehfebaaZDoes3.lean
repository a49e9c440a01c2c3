/- does: Set. -/
import Derived.Test.YtmccfcllehfebaaZDoes2
namespace Go.Proofs.Ytmccfcllehfebaa.Z
open Go Go.RowKit

set_option maxRecDepth 100000 in
set_option maxHeartbeats 400000 in
theorem does_set_bad {D F : Nat → Prop} {w : World} {tb : Nat} {v : Value} {S : List Sl} (h : TabAt D F w tb S) (hr : RowAt D w v S) (hD : Lt D w) (hS : Fits S) (hl : S.length ≤ 64) (k0 d0 : Int) (x : Sl) (p q : Option Addr) (c d : Nat) (m : List Int) (hp : W.At w p x.ints) (hq : W.At w q m) (hpc : x.ints.length ≤ c) (hqd : m.length ≤ d) (hxr : x.rights < 4294967296) (hk : k0 = 1) (hcan : canS (withI x (cut x.ints)) = false) :
    Calls Try.prog 9 #[ptr tb, v, .agg (acC k0 d0 x (.slice p x.ints.length c) (.slice q m.length d)).toArray] w (DPost D F tb w (doX S k0 d0 (withI x (cut x.ints)) (cut m))) := by
  change Calls Try.prog 9 #[ptr tb, v, .agg #[.int .i64 k0, .int .i64 d0, .int .i64 x.file, .int .u32 (x.rights : Int), .bool x.all, .slice p x.ints.length c, .int .i64 x.fc, .slice q m.length d]] w _
  have k1 : (k0 == 1) = true := by simpa using hk
  have c1 := own_any k0 d0 x p q c d m (w.alloc (.cells #[.int .i64 k0, .int .i64 d0, .int .i64 x.file, .int .u32 (x.rights : Int), .bool x.all, .slice p x.ints.length c, .int .i64 x.fc, .slice q m.length d] 36)) (hp.on (on_alloc w _)) (hq.on (on_alloc w _)) hpc hqd
  change Calls Try.prog 19 #[.agg #[.int .i64 k0, .int .i64 d0, .int .i64 x.file, .int .u32 (x.rights : Int), .bool x.all, .slice p x.ints.length c, .int .i64 x.fc, .slice q m.length d]] _ _ at c1
  have HB0 : Hid (Below w.heap.size w (w.alloc (.cells #[.int .i64 k0, .int .i64 d0, .int .i64 x.file, .int .u32 (x.rights : Int), .bool x.all, .slice p x.ints.length c, .int .i64 x.fc, .slice q m.length d] 36))) := on_alloc w _
  have hX0 : Blk (w.alloc (.cells #[.int .i64 k0, .int .i64 d0, .int .i64 x.file, .int .u32 (x.rights : Int), .bool x.all, .slice p x.ints.length c, .int .i64 x.fc, .slice q m.length d] 36)) w.heap.size 36 (acC k0 d0 x (.slice p x.ints.length c) (.slice q m.length d)) := Blk.new w _ (acC k0 d0 x (.slice p x.ints.length c) (.slice q m.length d))
  have x0 := hX0.cell 0 rfl
  have x1 := hX0.cell 1 rfl
  have x2 := hX0.cell 2 rfl
  have x3 := hX0.cell 3 rfl
  have x4 := hX0.cell 4 rfl
  have x5 := hX0.cell 5 rfl
  have x6 := hX0.cell 6 rfl
  have x7 := hX0.cell 7 rfl
  have HX0 : Hid _ := hX0
  have HT : Hid (TabAt D F w tb S ∧ RowAt D w v S ∧ Lt D w ∧ Fits S ∧ S.length ≤ 64) := ⟨h, hr, hD, hS, hl⟩
  unfold OwnPost at c1
  have HXL : Hid ((withI x (cut x.ints)).ints.length ≤ 50 ∧ (cut m).length ≤ 50 ∧ (withI x (cut x.ints)).rights < 4294967296) := ⟨cut_len _, cut_len _, hxr⟩
  change Calls _ _ _ _ (fun e w' => Below (w.alloc (.cells #[.int .i64 k0, .int .i64 d0, .int .i64 x.file, .int .u32 (x.rights : Int), .bool x.all, .slice p x.ints.length c, .int .i64 x.fc, .slice q m.length d] 36)).heap.size (w.alloc (.cells #[.int .i64 k0, .int .i64 d0, .int .i64 x.file, .int .u32 (x.rights : Int), .bool x.all, .slice p x.ints.length c, .int .i64 x.fc, .slice q m.length d] 36)) w' ∧ ∃ p' c' q' d', e = .returned (.agg #[.int .i64 k0, .int .i64 d0, .int .i64 (withI x (cut x.ints)).file, .int .u32 ((withI x (cut x.ints)).rights : Int), .bool (withI x (cut x.ints)).all, .slice p' (withI x (cut x.ints)).ints.length c', .int .i64 (withI x (cut x.ints)).fc, .slice q' (cut m).length d']) ∧ W.AtF ((w.alloc (.cells #[.int .i64 k0, .int .i64 d0, .int .i64 x.file, .int .u32 (x.rights : Int), .bool x.all, .slice p x.ints.length c, .int .i64 x.fc, .slice q m.length d] 36)).heap.size + 2) w' p' (withI x (cut x.ints)).ints ∧ W.AtF ((w.alloc (.cells #[.int .i64 k0, .int .i64 d0, .int .i64 x.file, .int .u32 (x.rights : Int), .bool x.all, .slice p x.ints.length c, .int .i64 x.fc, .slice q m.length d] 36)).heap.size + 2) w' q' (cut m)) at c1
  generalize withI x (cut x.ints) = X at *
  generalize cut m = M at *
  have hdo : doX S k0 d0 X M = setS S d0 X := by unfold doX; subst hk; rfl
  rw [hdo]
  clear hdo
  have HP : Hid (∀ F' v' w', TabAt (Or D F') F' w' tb (setS S d0 X) → RowAt (Or D F') w' v' (setS S d0 X) → Goes F F' w w' → DPost D F tb w (setS S d0 X) (.returned (.tuple #[v', .bool true])) w') := fun F' v' w' h1 h2 h3 => ⟨F', v', rfl, h1, h2, h3⟩
  generalize DPost D F tb w (setS S d0 X) = Post at *
  clear hk
  obtain ⟨sp, sc, hv⟩ := hr.slice
  subst hv
  clear h hr hD hS hp hq hX0
  go_enter Try.func9, Try.ntmps9
  go_wp2_with fail
  generalize w.alloc (.cells #[.int .i64 k0, .int .i64 d0, .int .i64 x.file, .int .u32 (x.rights : Int), .bool x.all, .slice p x.ints.length c, .int .i64 x.fc, .slice q m.length d] 36) = w0 at *
  refine c1.mono ?_
  rintro e w1 ⟨hb1, p1, c1', q1, d1, rfl, ha1, hm1⟩
  have hX1 := HX0.out.on hb1
  have f0 := hX1.free 0
  have f1 := hX1.free 1
  have f2 := hX1.free 2
  have f3 := hX1.free 3
  have f4 := hX1.free 4
  have f5 := hX1.free 5
  have f6 := hX1.free 6
  have f7 := hX1.free 7
  have y0 := hX1.cell 0 rfl
  have y1 := hX1.cell 1 rfl
  have y2 := hX1.cell 2 rfl
  have y3 := hX1.cell 3 rfl
  have y4 := hX1.cell 4 rfl
  have y5 := hX1.cell 5 rfl
  have y6 := hX1.cell 6 rfl
  have y7 := hX1.cell 7 rfl
  have hX2 : Blk ((((((((w1.setCell ⟨w.heap.size, 0, none⟩ (.int .i64 k0)).setCell ⟨w.heap.size, 1, none⟩ (.int .i64 d0)).setCell ⟨w.heap.size, 2, none⟩ (.int .i64 X.file)).setCell ⟨w.heap.size, 3, none⟩ (.int .u32 (X.rights : Int))).setCell ⟨w.heap.size, 4, none⟩ (.bool X.all)).setCell ⟨w.heap.size, 5, none⟩ (.slice p1 X.ints.length c1')).setCell ⟨w.heap.size, 6, none⟩ (.int .i64 X.fc)).setCell ⟨w.heap.size, 7, none⟩ (.slice q1 M.length d1)) w.heap.size 36 (acC k0 d0 X (.slice p1 X.ints.length c1') (.slice q1 M.length d1)) := hX1.put (acC k0 d0 X (.slice p1 X.ints.length c1') (.slice q1 M.length d1)) rfl
  have hU1 : But w.heap.size w1 ((((((((w1.setCell ⟨w.heap.size, 0, none⟩ (.int .i64 k0)).setCell ⟨w.heap.size, 1, none⟩ (.int .i64 d0)).setCell ⟨w.heap.size, 2, none⟩ (.int .i64 X.file)).setCell ⟨w.heap.size, 3, none⟩ (.int .u32 (X.rights : Int))).setCell ⟨w.heap.size, 4, none⟩ (.bool X.all)).setCell ⟨w.heap.size, 5, none⟩ (.slice p1 X.ints.length c1')).setCell ⟨w.heap.size, 6, none⟩ (.int .i64 X.fc)).setCell ⟨w.heap.size, 7, none⟩ (.slice q1 M.length d1)) := but_putL w.heap.size (acC k0 d0 X (.slice p1 X.ints.length c1') (.slice q1 M.length d1)) w1 0
  have hs0 := HX0.out.lt
  have hB2 := below_but (on_trans HB0.out hb1) hU1 (Nat.le_refl _)
  have ha2 := W.atF_ints.2 ((W.atF_ints.1 ha1).but hU1 (by omega))
  have hm2 := W.atF_ints.2 ((W.atF_ints.1 hm1).but hU1 (by omega))
  have cO2 := own_short k0 d0 X p1 q1 c1' d1 M _ ha2.at hm2.at HXL.out.1 HXL.out.2.1
  change Calls Try.prog 19 #[.agg #[.int .i64 k0, .int .i64 d0, .int .i64 X.file, .int .u32 (X.rights : Int), .bool X.all, .slice p1 X.ints.length c1', .int .i64 X.fc, .slice q1 M.length d1]] ((((((((w1.setCell ⟨w.heap.size, 0, none⟩ (.int .i64 k0)).setCell ⟨w.heap.size, 1, none⟩ (.int .i64 d0)).setCell ⟨w.heap.size, 2, none⟩ (.int .i64 X.file)).setCell ⟨w.heap.size, 3, none⟩ (.int .u32 (X.rights : Int))).setCell ⟨w.heap.size, 4, none⟩ (.bool X.all)).setCell ⟨w.heap.size, 5, none⟩ (.slice p1 X.ints.length c1')).setCell ⟨w.heap.size, 6, none⟩ (.int .i64 X.fc)).setCell ⟨w.heap.size, 7, none⟩ (.slice q1 M.length d1)) (fun e w' => Below ((((((((w1.setCell ⟨w.heap.size, 0, none⟩ (.int .i64 k0)).setCell ⟨w.heap.size, 1, none⟩ (.int .i64 d0)).setCell ⟨w.heap.size, 2, none⟩ (.int .i64 X.file)).setCell ⟨w.heap.size, 3, none⟩ (.int .u32 (X.rights : Int))).setCell ⟨w.heap.size, 4, none⟩ (.bool X.all)).setCell ⟨w.heap.size, 5, none⟩ (.slice p1 X.ints.length c1')).setCell ⟨w.heap.size, 6, none⟩ (.int .i64 X.fc)).setCell ⟨w.heap.size, 7, none⟩ (.slice q1 M.length d1)).heap.size ((((((((w1.setCell ⟨w.heap.size, 0, none⟩ (.int .i64 k0)).setCell ⟨w.heap.size, 1, none⟩ (.int .i64 d0)).setCell ⟨w.heap.size, 2, none⟩ (.int .i64 X.file)).setCell ⟨w.heap.size, 3, none⟩ (.int .u32 (X.rights : Int))).setCell ⟨w.heap.size, 4, none⟩ (.bool X.all)).setCell ⟨w.heap.size, 5, none⟩ (.slice p1 X.ints.length c1')).setCell ⟨w.heap.size, 6, none⟩ (.int .i64 X.fc)).setCell ⟨w.heap.size, 7, none⟩ (.slice q1 M.length d1)) w' ∧ ∃ p c p' c', e = .returned (.agg #[.int .i64 k0, .int .i64 d0, .int .i64 X.file, .int .u32 (X.rights : Int), .bool X.all, .slice p X.ints.length c, .int .i64 X.fc, .slice p' M.length c']) ∧ W.AtF (((((((((w1.setCell ⟨w.heap.size, 0, none⟩ (.int .i64 k0)).setCell ⟨w.heap.size, 1, none⟩ (.int .i64 d0)).setCell ⟨w.heap.size, 2, none⟩ (.int .i64 X.file)).setCell ⟨w.heap.size, 3, none⟩ (.int .u32 (X.rights : Int))).setCell ⟨w.heap.size, 4, none⟩ (.bool X.all)).setCell ⟨w.heap.size, 5, none⟩ (.slice p1 X.ints.length c1')).setCell ⟨w.heap.size, 6, none⟩ (.int .i64 X.fc)).setCell ⟨w.heap.size, 7, none⟩ (.slice q1 M.length d1)).heap.size + 2) w' p X.ints ∧ W.AtF (((((((((w1.setCell ⟨w.heap.size, 0, none⟩ (.int .i64 k0)).setCell ⟨w.heap.size, 1, none⟩ (.int .i64 d0)).setCell ⟨w.heap.size, 2, none⟩ (.int .i64 X.file)).setCell ⟨w.heap.size, 3, none⟩ (.int .u32 (X.rights : Int))).setCell ⟨w.heap.size, 4, none⟩ (.bool X.all)).setCell ⟨w.heap.size, 5, none⟩ (.slice p1 X.ints.length c1')).setCell ⟨w.heap.size, 6, none⟩ (.int .i64 X.fc)).setCell ⟨w.heap.size, 7, none⟩ (.slice q1 M.length d1)).heap.size + 2) w' p' M) at cO2
  have z0 : ((((((((w1.setCell ⟨w.heap.size, 0, none⟩ (.int .i64 k0)).setCell ⟨w.heap.size, 1, none⟩ (.int .i64 d0)).setCell ⟨w.heap.size, 2, none⟩ (.int .i64 X.file)).setCell ⟨w.heap.size, 3, none⟩ (.int .u32 (X.rights : Int))).setCell ⟨w.heap.size, 4, none⟩ (.bool X.all)).setCell ⟨w.heap.size, 5, none⟩ (.slice p1 X.ints.length c1')).setCell ⟨w.heap.size, 6, none⟩ (.int .i64 X.fc)).setCell ⟨w.heap.size, 7, none⟩ (.slice q1 M.length d1)).cell? ⟨w.heap.size, 0, none⟩ = some (.int .i64 k0) := hX2.cell 0 rfl
  have z1 : ((((((((w1.setCell ⟨w.heap.size, 0, none⟩ (.int .i64 k0)).setCell ⟨w.heap.size, 1, none⟩ (.int .i64 d0)).setCell ⟨w.heap.size, 2, none⟩ (.int .i64 X.file)).setCell ⟨w.heap.size, 3, none⟩ (.int .u32 (X.rights : Int))).setCell ⟨w.heap.size, 4, none⟩ (.bool X.all)).setCell ⟨w.heap.size, 5, none⟩ (.slice p1 X.ints.length c1')).setCell ⟨w.heap.size, 6, none⟩ (.int .i64 X.fc)).setCell ⟨w.heap.size, 7, none⟩ (.slice q1 M.length d1)).cell? ⟨w.heap.size, 1, none⟩ = some (.int .i64 d0) := hX2.cell 1 rfl
  have z2 : ((((((((w1.setCell ⟨w.heap.size, 0, none⟩ (.int .i64 k0)).setCell ⟨w.heap.size, 1, none⟩ (.int .i64 d0)).setCell ⟨w.heap.size, 2, none⟩ (.int .i64 X.file)).setCell ⟨w.heap.size, 3, none⟩ (.int .u32 (X.rights : Int))).setCell ⟨w.heap.size, 4, none⟩ (.bool X.all)).setCell ⟨w.heap.size, 5, none⟩ (.slice p1 X.ints.length c1')).setCell ⟨w.heap.size, 6, none⟩ (.int .i64 X.fc)).setCell ⟨w.heap.size, 7, none⟩ (.slice q1 M.length d1)).cell? ⟨w.heap.size, 2, none⟩ = some (.int .i64 X.file) := hX2.cell 2 rfl
  have z3 : ((((((((w1.setCell ⟨w.heap.size, 0, none⟩ (.int .i64 k0)).setCell ⟨w.heap.size, 1, none⟩ (.int .i64 d0)).setCell ⟨w.heap.size, 2, none⟩ (.int .i64 X.file)).setCell ⟨w.heap.size, 3, none⟩ (.int .u32 (X.rights : Int))).setCell ⟨w.heap.size, 4, none⟩ (.bool X.all)).setCell ⟨w.heap.size, 5, none⟩ (.slice p1 X.ints.length c1')).setCell ⟨w.heap.size, 6, none⟩ (.int .i64 X.fc)).setCell ⟨w.heap.size, 7, none⟩ (.slice q1 M.length d1)).cell? ⟨w.heap.size, 3, none⟩ = some (.int .u32 (X.rights : Int)) := hX2.cell 3 rfl
  have z4 : ((((((((w1.setCell ⟨w.heap.size, 0, none⟩ (.int .i64 k0)).setCell ⟨w.heap.size, 1, none⟩ (.int .i64 d0)).setCell ⟨w.heap.size, 2, none⟩ (.int .i64 X.file)).setCell ⟨w.heap.size, 3, none⟩ (.int .u32 (X.rights : Int))).setCell ⟨w.heap.size, 4, none⟩ (.bool X.all)).setCell ⟨w.heap.size, 5, none⟩ (.slice p1 X.ints.length c1')).setCell ⟨w.heap.size, 6, none⟩ (.int .i64 X.fc)).setCell ⟨w.heap.size, 7, none⟩ (.slice q1 M.length d1)).cell? ⟨w.heap.size, 4, none⟩ = some (.bool X.all) := hX2.cell 4 rfl
  have z5 : ((((((((w1.setCell ⟨w.heap.size, 0, none⟩ (.int .i64 k0)).setCell ⟨w.heap.size, 1, none⟩ (.int .i64 d0)).setCell ⟨w.heap.size, 2, none⟩ (.int .i64 X.file)).setCell ⟨w.heap.size, 3, none⟩ (.int .u32 (X.rights : Int))).setCell ⟨w.heap.size, 4, none⟩ (.bool X.all)).setCell ⟨w.heap.size, 5, none⟩ (.slice p1 X.ints.length c1')).setCell ⟨w.heap.size, 6, none⟩ (.int .i64 X.fc)).setCell ⟨w.heap.size, 7, none⟩ (.slice q1 M.length d1)).cell? ⟨w.heap.size, 5, none⟩ = some (.slice p1 X.ints.length c1') := hX2.cell 5 rfl
  have z6 : ((((((((w1.setCell ⟨w.heap.size, 0, none⟩ (.int .i64 k0)).setCell ⟨w.heap.size, 1, none⟩ (.int .i64 d0)).setCell ⟨w.heap.size, 2, none⟩ (.int .i64 X.file)).setCell ⟨w.heap.size, 3, none⟩ (.int .u32 (X.rights : Int))).setCell ⟨w.heap.size, 4, none⟩ (.bool X.all)).setCell ⟨w.heap.size, 5, none⟩ (.slice p1 X.ints.length c1')).setCell ⟨w.heap.size, 6, none⟩ (.int .i64 X.fc)).setCell ⟨w.heap.size, 7, none⟩ (.slice q1 M.length d1)).cell? ⟨w.heap.size, 6, none⟩ = some (.int .i64 X.fc) := hX2.cell 6 rfl
  have z7 : ((((((((w1.setCell ⟨w.heap.size, 0, none⟩ (.int .i64 k0)).setCell ⟨w.heap.size, 1, none⟩ (.int .i64 d0)).setCell ⟨w.heap.size, 2, none⟩ (.int .i64 X.file)).setCell ⟨w.heap.size, 3, none⟩ (.int .u32 (X.rights : Int))).setCell ⟨w.heap.size, 4, none⟩ (.bool X.all)).setCell ⟨w.heap.size, 5, none⟩ (.slice p1 X.ints.length c1')).setCell ⟨w.heap.size, 6, none⟩ (.int .i64 X.fc)).setCell ⟨w.heap.size, 7, none⟩ (.slice q1 M.length d1)).cell? ⟨w.heap.size, 7, none⟩ = some (.slice q1 M.length d1) := hX2.cell 7 rfl
  have HW2 : Hid _ := hX2
  have HB2 : Hid _ := hB2
  have HL2 : Hid _ := (⟨ha2, hm2⟩ : W.AtF _ _ _ _ ∧ W.AtF _ _ _ _)
  have HS0 : Hid (w.heap.size < w0.heap.size) := hs0
  clear c1 HX0 HB0 hb1 ha1 hm1 hX1 hX2 hU1 hs0 hB2 ha2 hm2 x0 x1 x2 x3 x4 x5 x6 x7
  go_wp2_with fail
  refine cO2.mono ?_
  generalize ((((((((w1.setCell ⟨w.heap.size, 0, none⟩ (.int .i64 k0)).setCell ⟨w.heap.size, 1, none⟩ (.int .i64 d0)).setCell ⟨w.heap.size, 2, none⟩ (.int .i64 X.file)).setCell ⟨w.heap.size, 3, none⟩ (.int .u32 (X.rights : Int))).setCell ⟨w.heap.size, 4, none⟩ (.bool X.all)).setCell ⟨w.heap.size, 5, none⟩ (.slice p1 X.ints.length c1')).setCell ⟨w.heap.size, 6, none⟩ (.int .i64 X.fc)).setCell ⟨w.heap.size, 7, none⟩ (.slice q1 M.length d1)) = w2 at *
  rintro e w3 ⟨hb3, p3, c3, q3, d3, rfl, ha3, hm3⟩
  have hal := on_alloc w3 (.cells #[.int .i64 k0, .int .i64 d0, .int .i64 X.file, .int .u32 (X.rights : Int), .bool X.all, .slice p3 X.ints.length c3, .int .i64 X.fc, .slice q3 M.length d3] 36)
  have hPre : Pre D F w tb (.slice sp S.length sc) S w.heap.size w3.heap.size k0 d0 X M p1 c1' q1 d1 p3 c3 q3 d3 (w3.alloc (.cells #[.int .i64 k0, .int .i64 d0, .int .i64 X.file, .int .u32 (X.rights : Int), .bool X.all, .slice p3 X.ints.length c3, .int .i64 X.fc, .slice q3 M.length d3] 36)) := by
    obtain ⟨t1, t2, t3, _, _⟩ := HT.out
    have hbb := on_trans (on_trans HB2.out hb3) hal
    have hsz := HB2.out.size
    have hsz3 := hb3.size
    have hlow : ∀ j, D j → j < w0.heap.size + 2 := fun j hj => by have := t3 j hj; have := HS0.out; omega
    refine ⟨t1.on hbb, t2.on hbb, t3.on hbb, hbb, (HW2.out.on hb3).on hal, Blk.new w3 _ (acC k0 d0 X (.slice p3 X.ints.length c3) (.slice q3 M.length d3)), (IntD.of (HL2.out.1.on (on_trans hb3 hal)) hlow), (IntD.of (HL2.out.2.on (on_trans hb3 hal)) hlow), IntD.of (ha3.on hal) (fun j hj => ?_), IntD.of (hm3.on hal) (fun j hj => ?_), fun h7 => ?_, fun h7 => ?_, HXL.out.1, HXL.out.2.1, fun j hj => (t1.sub j hj).2⟩
    · have := t3 j hj; omega
    · have := t3 j hj; omega
    · have := (t1.sub _ h7).2; omega
    · have := (t1.sub _ h7).2; omega
  have HPre : Hid _ := hPre
  have a0 := hPre.a.cell 0 rfl
  have HSF : Hid (Fits S ∧ S.length ≤ 64) := HT.out.2.2.2
  clear HW2 HB2 HL2 HS0 hb3 ha3 hm3 hal hPre cO2 HT f0 f1 f2 f3 f4 f5 f6 f7 y0 y1 y2 y3 y4 y5 y6 y7 z0 z1 z2 z3 z4 z5 z6 z7
  have b1 := HPre.out.b.cell 1 rfl
  have b2 := HPre.out.b.cell 2 rfl
  have b3 := HPre.out.b.cell 3 rfl
  have b4 := HPre.out.b.cell 4 rfl
  have b5 := HPre.out.b.cell 5 rfl
  have b6 := HPre.out.b.cell 6 rfl
  have cT := set_any (x := X) HPre.out.tab HSF.out.1 HPre.out.lt d0 p3 c3 HPre.out.bi.at.1 (by have := HXL.out.1; omega)
  change Calls Try.prog _ #[ptr tb, .int .i64 d0, .agg #[.int .i64 X.file, .int .u32 (X.rights : Int), .bool X.all, .slice p3 X.ints.length c3, .int .i64 X.fc]] _ _ at cT
  rw [show setS S d0 X = S by unfold setS; rw [hcan]; rfl] at HP
  rw [show setS S d0 X = S by unfold setS; rw [hcan]; rfl, show setX S d0 X = zS by unfold setX; rw [hcan]; rfl, show setB S d0 X = false by unfold setB; rw [hcan]; rfl, show setE S d0 X = 22 by unfold setE; rw [hcan]; rfl] at cT
  have HCan : Hid (canS X = false) := hcan
  clear hcan 
  go_wp2_with fail
  refine cT.mono ?_
  rintro e w5 ⟨F5, u5, rfl, ht5, hg5, lv5, rfl, p5, c5, rfl, _⟩
  have HA : Hid _ := (HPre.out.aft ht5 hg5).on (on_alloc w5 (.cells #[.int .i64 0, .int .u32 0, .bool false, .slice p5 0 c5, .int .i64 0] 34))
  have cC := rcan_any X p1 c1' _ HA.out.ai.at.1 (by have := HXL.out.1; omega)
  change Calls Try.prog 17 #[.agg #[.int .i64 X.file, .int .u32 (X.rights : Int), .bool X.all, .slice p1 X.ints.length c1', .int .i64 X.fc]] (w5.alloc (.cells #[.int .i64 0, .int .u32 0, .bool false, .slice p5 0 c5, .int .i64 0] 34)) _ at cC
  rw [HCan.out] at cC
  have g1 := HA.out.a.cell 1 rfl
  have g2 := HA.out.a.cell 2 rfl
  have g3 := HA.out.a.cell 3 rfl
  have g4 := HA.out.a.cell 4 rfl
  have g5 := HA.out.a.cell 5 rfl
  have g6 := HA.out.a.cell 6 rfl
  clear ht5 hg5 cT HPre a0 b1 b2 b3 b4 b5 b6 HCan
  simp only [slC, zS, Int.natCast_zero, List.length_nil]
  go_wp2_with fail
  refine cC.mono ?_
  rintro e w6 ⟨rfl, hb6⟩
  have hA6 := HA.out.on hb6
  have HZ : Hid _ := HP.out F5 _ w6 hA6.tab hA6.row hA6.goes
  have m1 := hA6.a.cell 1 rfl
  clear HP HA hA6 hb6 cC g1 g2 g3 g4 g5 g6
  go_wp2
  exact HZ.out
set_option maxRecDepth 100000 in
set_option maxHeartbeats 400000 in
theorem does_set_neg {D F : Nat → Prop} {w : World} {tb : Nat} {v : Value} {S : List Sl} (h : TabAt D F w tb S) (hr : RowAt D w v S) (hD : Lt D w) (hS : Fits S) (hl : S.length ≤ 64) (k0 d0 : Int) (x : Sl) (p q : Option Addr) (c d : Nat) (m : List Int) (hp : W.At w p x.ints) (hq : W.At w q m) (hpc : x.ints.length ≤ c) (hqd : m.length ≤ d) (hxr : x.rights < 4294967296) (hk : k0 = 1) (hcan : canS (withI x (cut x.ints)) = true) (hneg : d0 < 0) :
    Calls Try.prog 9 #[ptr tb, v, .agg (acC k0 d0 x (.slice p x.ints.length c) (.slice q m.length d)).toArray] w (DPost D F tb w (doX S k0 d0 (withI x (cut x.ints)) (cut m))) := by
  change Calls Try.prog 9 #[ptr tb, v, .agg #[.int .i64 k0, .int .i64 d0, .int .i64 x.file, .int .u32 (x.rights : Int), .bool x.all, .slice p x.ints.length c, .int .i64 x.fc, .slice q m.length d]] w _
  have k1 : (k0 == 1) = true := by simpa using hk
  have zn : decide (d0 < 0) = true := decide_eq_true hneg
  have c1 := own_any k0 d0 x p q c d m (w.alloc (.cells #[.int .i64 k0, .int .i64 d0, .int .i64 x.file, .int .u32 (x.rights : Int), .bool x.all, .slice p x.ints.length c, .int .i64 x.fc, .slice q m.length d] 36)) (hp.on (on_alloc w _)) (hq.on (on_alloc w _)) hpc hqd
  change Calls Try.prog 19 #[.agg #[.int .i64 k0, .int .i64 d0, .int .i64 x.file, .int .u32 (x.rights : Int), .bool x.all, .slice p x.ints.length c, .int .i64 x.fc, .slice q m.length d]] _ _ at c1
  have HB0 : Hid (Below w.heap.size w (w.alloc (.cells #[.int .i64 k0, .int .i64 d0, .int .i64 x.file, .int .u32 (x.rights : Int), .bool x.all, .slice p x.ints.length c, .int .i64 x.fc, .slice q m.length d] 36))) := on_alloc w _
  have hX0 : Blk (w.alloc (.cells #[.int .i64 k0, .int .i64 d0, .int .i64 x.file, .int .u32 (x.rights : Int), .bool x.all, .slice p x.ints.length c, .int .i64 x.fc, .slice q m.length d] 36)) w.heap.size 36 (acC k0 d0 x (.slice p x.ints.length c) (.slice q m.length d)) := Blk.new w _ (acC k0 d0 x (.slice p x.ints.length c) (.slice q m.length d))
  have x0 := hX0.cell 0 rfl
  have x1 := hX0.cell 1 rfl
  have x2 := hX0.cell 2 rfl
  have x3 := hX0.cell 3 rfl
  have x4 := hX0.cell 4 rfl
  have x5 := hX0.cell 5 rfl
  have x6 := hX0.cell 6 rfl
  have x7 := hX0.cell 7 rfl
  have HX0 : Hid _ := hX0
  have HT : Hid (TabAt D F w tb S ∧ RowAt D w v S ∧ Lt D w ∧ Fits S ∧ S.length ≤ 64) := ⟨h, hr, hD, hS, hl⟩
  unfold OwnPost at c1
  have HXL : Hid ((withI x (cut x.ints)).ints.length ≤ 50 ∧ (cut m).length ≤ 50 ∧ (withI x (cut x.ints)).rights < 4294967296) := ⟨cut_len _, cut_len _, hxr⟩
  change Calls _ _ _ _ (fun e w' => Below (w.alloc (.cells #[.int .i64 k0, .int .i64 d0, .int .i64 x.file, .int .u32 (x.rights : Int), .bool x.all, .slice p x.ints.length c, .int .i64 x.fc, .slice q m.length d] 36)).heap.size (w.alloc (.cells #[.int .i64 k0, .int .i64 d0, .int .i64 x.file, .int .u32 (x.rights : Int), .bool x.all, .slice p x.ints.length c, .int .i64 x.fc, .slice q m.length d] 36)) w' ∧ ∃ p' c' q' d', e = .returned (.agg #[.int .i64 k0, .int .i64 d0, .int .i64 (withI x (cut x.ints)).file, .int .u32 ((withI x (cut x.ints)).rights : Int), .bool (withI x (cut x.ints)).all, .slice p' (withI x (cut x.ints)).ints.length c', .int .i64 (withI x (cut x.ints)).fc, .slice q' (cut m).length d']) ∧ W.AtF ((w.alloc (.cells #[.int .i64 k0, .int .i64 d0, .int .i64 x.file, .int .u32 (x.rights : Int), .bool x.all, .slice p x.ints.length c, .int .i64 x.fc, .slice q m.length d] 36)).heap.size + 2) w' p' (withI x (cut x.ints)).ints ∧ W.AtF ((w.alloc (.cells #[.int .i64 k0, .int .i64 d0, .int .i64 x.file, .int .u32 (x.rights : Int), .bool x.all, .slice p x.ints.length c, .int .i64 x.fc, .slice q m.length d] 36)).heap.size + 2) w' q' (cut m)) at c1
  generalize withI x (cut x.ints) = X at *
  generalize cut m = M at *
  have hdo : doX S k0 d0 X M = setS S d0 X := by unfold doX; subst hk; rfl
  rw [hdo]
  clear hdo
  have HP : Hid (∀ F' v' w', TabAt (Or D F') F' w' tb (setS S d0 X) → RowAt (Or D F') w' v' (setS S d0 X) → Goes F F' w w' → DPost D F tb w (setS S d0 X) (.returned (.tuple #[v', .bool true])) w') := fun F' v' w' h1 h2 h3 => ⟨F', v', rfl, h1, h2, h3⟩
  generalize DPost D F tb w (setS S d0 X) = Post at *
  clear hk
  obtain ⟨sp, sc, hv⟩ := hr.slice
  subst hv
  clear h hr hD hS hp hq hX0
  go_enter Try.func9, Try.ntmps9
  go_wp2_with fail
  generalize w.alloc (.cells #[.int .i64 k0, .int .i64 d0, .int .i64 x.file, .int .u32 (x.rights : Int), .bool x.all, .slice p x.ints.length c, .int .i64 x.fc, .slice q m.length d] 36) = w0 at *
  refine c1.mono ?_
  rintro e w1 ⟨hb1, p1, c1', q1, d1, rfl, ha1, hm1⟩
  have hX1 := HX0.out.on hb1
  have f0 := hX1.free 0
  have f1 := hX1.free 1
  have f2 := hX1.free 2
  have f3 := hX1.free 3
  have f4 := hX1.free 4
  have f5 := hX1.free 5
  have f6 := hX1.free 6
  have f7 := hX1.free 7
  have y0 := hX1.cell 0 rfl
  have y1 := hX1.cell 1 rfl
  have y2 := hX1.cell 2 rfl
  have y3 := hX1.cell 3 rfl
  have y4 := hX1.cell 4 rfl
  have y5 := hX1.cell 5 rfl
  have y6 := hX1.cell 6 rfl
  have y7 := hX1.cell 7 rfl
  have hX2 : Blk ((((((((w1.setCell ⟨w.heap.size, 0, none⟩ (.int .i64 k0)).setCell ⟨w.heap.size, 1, none⟩ (.int .i64 d0)).setCell ⟨w.heap.size, 2, none⟩ (.int .i64 X.file)).setCell ⟨w.heap.size, 3, none⟩ (.int .u32 (X.rights : Int))).setCell ⟨w.heap.size, 4, none⟩ (.bool X.all)).setCell ⟨w.heap.size, 5, none⟩ (.slice p1 X.ints.length c1')).setCell ⟨w.heap.size, 6, none⟩ (.int .i64 X.fc)).setCell ⟨w.heap.size, 7, none⟩ (.slice q1 M.length d1)) w.heap.size 36 (acC k0 d0 X (.slice p1 X.ints.length c1') (.slice q1 M.length d1)) := hX1.put (acC k0 d0 X (.slice p1 X.ints.length c1') (.slice q1 M.length d1)) rfl
  have hU1 : But w.heap.size w1 ((((((((w1.setCell ⟨w.heap.size, 0, none⟩ (.int .i64 k0)).setCell ⟨w.heap.size, 1, none⟩ (.int .i64 d0)).setCell ⟨w.heap.size, 2, none⟩ (.int .i64 X.file)).setCell ⟨w.heap.size, 3, none⟩ (.int .u32 (X.rights : Int))).setCell ⟨w.heap.size, 4, none⟩ (.bool X.all)).setCell ⟨w.heap.size, 5, none⟩ (.slice p1 X.ints.length c1')).setCell ⟨w.heap.size, 6, none⟩ (.int .i64 X.fc)).setCell ⟨w.heap.size, 7, none⟩ (.slice q1 M.length d1)) := but_putL w.heap.size (acC k0 d0 X (.slice p1 X.ints.length c1') (.slice q1 M.length d1)) w1 0
  have hs0 := HX0.out.lt
  have hB2 := below_but (on_trans HB0.out hb1) hU1 (Nat.le_refl _)
  have ha2 := W.atF_ints.2 ((W.atF_ints.1 ha1).but hU1 (by omega))
  have hm2 := W.atF_ints.2 ((W.atF_ints.1 hm1).but hU1 (by omega))
  have cO2 := own_short k0 d0 X p1 q1 c1' d1 M _ ha2.at hm2.at HXL.out.1 HXL.out.2.1
  change Calls Try.prog 19 #[.agg #[.int .i64 k0, .int .i64 d0, .int .i64 X.file, .int .u32 (X.rights : Int), .bool X.all, .slice p1 X.ints.length c1', .int .i64 X.fc, .slice q1 M.length d1]] ((((((((w1.setCell ⟨w.heap.size, 0, none⟩ (.int .i64 k0)).setCell ⟨w.heap.size, 1, none⟩ (.int .i64 d0)).setCell ⟨w.heap.size, 2, none⟩ (.int .i64 X.file)).setCell ⟨w.heap.size, 3, none⟩ (.int .u32 (X.rights : Int))).setCell ⟨w.heap.size, 4, none⟩ (.bool X.all)).setCell ⟨w.heap.size, 5, none⟩ (.slice p1 X.ints.length c1')).setCell ⟨w.heap.size, 6, none⟩ (.int .i64 X.fc)).setCell ⟨w.heap.size, 7, none⟩ (.slice q1 M.length d1)) (fun e w' => Below ((((((((w1.setCell ⟨w.heap.size, 0, none⟩ (.int .i64 k0)).setCell ⟨w.heap.size, 1, none⟩ (.int .i64 d0)).setCell ⟨w.heap.size, 2, none⟩ (.int .i64 X.file)).setCell ⟨w.heap.size, 3, none⟩ (.int .u32 (X.rights : Int))).setCell ⟨w.heap.size, 4, none⟩ (.bool X.all)).setCell ⟨w.heap.size, 5, none⟩ (.slice p1 X.ints.length c1')).setCell ⟨w.heap.size, 6, none⟩ (.int .i64 X.fc)).setCell ⟨w.heap.size, 7, none⟩ (.slice q1 M.length d1)).heap.size ((((((((w1.setCell ⟨w.heap.size, 0, none⟩ (.int .i64 k0)).setCell ⟨w.heap.size, 1, none⟩ (.int .i64 d0)).setCell ⟨w.heap.size, 2, none⟩ (.int .i64 X.file)).setCell ⟨w.heap.size, 3, none⟩ (.int .u32 (X.rights : Int))).setCell ⟨w.heap.size, 4, none⟩ (.bool X.all)).setCell ⟨w.heap.size, 5, none⟩ (.slice p1 X.ints.length c1')).setCell ⟨w.heap.size, 6, none⟩ (.int .i64 X.fc)).setCell ⟨w.heap.size, 7, none⟩ (.slice q1 M.length d1)) w' ∧ ∃ p c p' c', e = .returned (.agg #[.int .i64 k0, .int .i64 d0, .int .i64 X.file, .int .u32 (X.rights : Int), .bool X.all, .slice p X.ints.length c, .int .i64 X.fc, .slice p' M.length c']) ∧ W.AtF (((((((((w1.setCell ⟨w.heap.size, 0, none⟩ (.int .i64 k0)).setCell ⟨w.heap.size, 1, none⟩ (.int .i64 d0)).setCell ⟨w.heap.size, 2, none⟩ (.int .i64 X.file)).setCell ⟨w.heap.size, 3, none⟩ (.int .u32 (X.rights : Int))).setCell ⟨w.heap.size, 4, none⟩ (.bool X.all)).setCell ⟨w.heap.size, 5, none⟩ (.slice p1 X.ints.length c1')).setCell ⟨w.heap.size, 6, none⟩ (.int .i64 X.fc)).setCell ⟨w.heap.size, 7, none⟩ (.slice q1 M.length d1)).heap.size + 2) w' p X.ints ∧ W.AtF (((((((((w1.setCell ⟨w.heap.size, 0, none⟩ (.int .i64 k0)).setCell ⟨w.heap.size, 1, none⟩ (.int .i64 d0)).setCell ⟨w.heap.size, 2, none⟩ (.int .i64 X.file)).setCell ⟨w.heap.size, 3, none⟩ (.int .u32 (X.rights : Int))).setCell ⟨w.heap.size, 4, none⟩ (.bool X.all)).setCell ⟨w.heap.size, 5, none⟩ (.slice p1 X.ints.length c1')).setCell ⟨w.heap.size, 6, none⟩ (.int .i64 X.fc)).setCell ⟨w.heap.size, 7, none⟩ (.slice q1 M.length d1)).heap.size + 2) w' p' M) at cO2
  have z0 : ((((((((w1.setCell ⟨w.heap.size, 0, none⟩ (.int .i64 k0)).setCell ⟨w.heap.size, 1, none⟩ (.int .i64 d0)).setCell ⟨w.heap.size, 2, none⟩ (.int .i64 X.file)).setCell ⟨w.heap.size, 3, none⟩ (.int .u32 (X.rights : Int))).setCell ⟨w.heap.size, 4, none⟩ (.bool X.all)).setCell ⟨w.heap.size, 5, none⟩ (.slice p1 X.ints.length c1')).setCell ⟨w.heap.size, 6, none⟩ (.int .i64 X.fc)).setCell ⟨w.heap.size, 7, none⟩ (.slice q1 M.length d1)).cell? ⟨w.heap.size, 0, none⟩ = some (.int .i64 k0) := hX2.cell 0 rfl
  have z1 : ((((((((w1.setCell ⟨w.heap.size, 0, none⟩ (.int .i64 k0)).setCell ⟨w.heap.size, 1, none⟩ (.int .i64 d0)).setCell ⟨w.heap.size, 2, none⟩ (.int .i64 X.file)).setCell ⟨w.heap.size, 3, none⟩ (.int .u32 (X.rights : Int))).setCell ⟨w.heap.size, 4, none⟩ (.bool X.all)).setCell ⟨w.heap.size, 5, none⟩ (.slice p1 X.ints.length c1')).setCell ⟨w.heap.size, 6, none⟩ (.int .i64 X.fc)).setCell ⟨w.heap.size, 7, none⟩ (.slice q1 M.length d1)).cell? ⟨w.heap.size, 1, none⟩ = some (.int .i64 d0) := hX2.cell 1 rfl
  have z2 : ((((((((w1.setCell ⟨w.heap.size, 0, none⟩ (.int .i64 k0)).setCell ⟨w.heap.size, 1, none⟩ (.int .i64 d0)).setCell ⟨w.heap.size, 2, none⟩ (.int .i64 X.file)).setCell ⟨w.heap.size, 3, none⟩ (.int .u32 (X.rights : Int))).setCell ⟨w.heap.size, 4, none⟩ (.bool X.all)).setCell ⟨w.heap.size, 5, none⟩ (.slice p1 X.ints.length c1')).setCell ⟨w.heap.size, 6, none⟩ (.int .i64 X.fc)).setCell ⟨w.heap.size, 7, none⟩ (.slice q1 M.length d1)).cell? ⟨w.heap.size, 2, none⟩ = some (.int .i64 X.file) := hX2.cell 2 rfl
  have z3 : ((((((((w1.setCell ⟨w.heap.size, 0, none⟩ (.int .i64 k0)).setCell ⟨w.heap.size, 1, none⟩ (.int .i64 d0)).setCell ⟨w.heap.size, 2, none⟩ (.int .i64 X.file)).setCell ⟨w.heap.size, 3, none⟩ (.int .u32 (X.rights : Int))).setCell ⟨w.heap.size, 4, none⟩ (.bool X.all)).setCell ⟨w.heap.size, 5, none⟩ (.slice p1 X.ints.length c1')).setCell ⟨w.heap.size, 6, none⟩ (.int .i64 X.fc)).setCell ⟨w.heap.size, 7, none⟩ (.slice q1 M.length d1)).cell? ⟨w.heap.size, 3, none⟩ = some (.int .u32 (X.rights : Int)) := hX2.cell 3 rfl
  have z4 : ((((((((w1.setCell ⟨w.heap.size, 0, none⟩ (.int .i64 k0)).setCell ⟨w.heap.size, 1, none⟩ (.int .i64 d0)).setCell ⟨w.heap.size, 2, none⟩ (.int .i64 X.file)).setCell ⟨w.heap.size, 3, none⟩ (.int .u32 (X.rights : Int))).setCell ⟨w.heap.size, 4, none⟩ (.bool X.all)).setCell ⟨w.heap.size, 5, none⟩ (.slice p1 X.ints.length c1')).setCell ⟨w.heap.size, 6, none⟩ (.int .i64 X.fc)).setCell ⟨w.heap.size, 7, none⟩ (.slice q1 M.length d1)).cell? ⟨w.heap.size, 4, none⟩ = some (.bool X.all) := hX2.cell 4 rfl
  have z5 : ((((((((w1.setCell ⟨w.heap.size, 0, none⟩ (.int .i64 k0)).setCell ⟨w.heap.size, 1, none⟩ (.int .i64 d0)).setCell ⟨w.heap.size, 2, none⟩ (.int .i64 X.file)).setCell ⟨w.heap.size, 3, none⟩ (.int .u32 (X.rights : Int))).setCell ⟨w.heap.size, 4, none⟩ (.bool X.all)).setCell ⟨w.heap.size, 5, none⟩ (.slice p1 X.ints.length c1')).setCell ⟨w.heap.size, 6, none⟩ (.int .i64 X.fc)).setCell ⟨w.heap.size, 7, none⟩ (.slice q1 M.length d1)).cell? ⟨w.heap.size, 5, none⟩ = some (.slice p1 X.ints.length c1') := hX2.cell 5 rfl
  have z6 : ((((((((w1.setCell ⟨w.heap.size, 0, none⟩ (.int .i64 k0)).setCell ⟨w.heap.size, 1, none⟩ (.int .i64 d0)).setCell ⟨w.heap.size, 2, none⟩ (.int .i64 X.file)).setCell ⟨w.heap.size, 3, none⟩ (.int .u32 (X.rights : Int))).setCell ⟨w.heap.size, 4, none⟩ (.bool X.all)).setCell ⟨w.heap.size, 5, none⟩ (.slice p1 X.ints.length c1')).setCell ⟨w.heap.size, 6, none⟩ (.int .i64 X.fc)).setCell ⟨w.heap.size, 7, none⟩ (.slice q1 M.length d1)).cell? ⟨w.heap.size, 6, none⟩ = some (.int .i64 X.fc) := hX2.cell 6 rfl
  have z7 : ((((((((w1.setCell ⟨w.heap.size, 0, none⟩ (.int .i64 k0)).setCell ⟨w.heap.size, 1, none⟩ (.int .i64 d0)).setCell ⟨w.heap.size, 2, none⟩ (.int .i64 X.file)).setCell ⟨w.heap.size, 3, none⟩ (.int .u32 (X.rights : Int))).setCell ⟨w.heap.size, 4, none⟩ (.bool X.all)).setCell ⟨w.heap.size, 5, none⟩ (.slice p1 X.ints.length c1')).setCell ⟨w.heap.size, 6, none⟩ (.int .i64 X.fc)).setCell ⟨w.heap.size, 7, none⟩ (.slice q1 M.length d1)).cell? ⟨w.heap.size, 7, none⟩ = some (.slice q1 M.length d1) := hX2.cell 7 rfl
  have HW2 : Hid _ := hX2
  have HB2 : Hid _ := hB2
  have HL2 : Hid _ := (⟨ha2, hm2⟩ : W.AtF _ _ _ _ ∧ W.AtF _ _ _ _)
  have HS0 : Hid (w.heap.size < w0.heap.size) := hs0
  clear c1 HX0 HB0 hb1 ha1 hm1 hX1 hX2 hU1 hs0 hB2 ha2 hm2 x0 x1 x2 x3 x4 x5 x6 x7
  go_wp2_with fail
  refine cO2.mono ?_
  generalize ((((((((w1.setCell ⟨w.heap.size, 0, none⟩ (.int .i64 k0)).setCell ⟨w.heap.size, 1, none⟩ (.int .i64 d0)).setCell ⟨w.heap.size, 2, none⟩ (.int .i64 X.file)).setCell ⟨w.heap.size, 3, none⟩ (.int .u32 (X.rights : Int))).setCell ⟨w.heap.size, 4, none⟩ (.bool X.all)).setCell ⟨w.heap.size, 5, none⟩ (.slice p1 X.ints.length c1')).setCell ⟨w.heap.size, 6, none⟩ (.int .i64 X.fc)).setCell ⟨w.heap.size, 7, none⟩ (.slice q1 M.length d1)) = w2 at *
  rintro e w3 ⟨hb3, p3, c3, q3, d3, rfl, ha3, hm3⟩
  have hal := on_alloc w3 (.cells #[.int .i64 k0, .int .i64 d0, .int .i64 X.file, .int .u32 (X.rights : Int), .bool X.all, .slice p3 X.ints.length c3, .int .i64 X.fc, .slice q3 M.length d3] 36)
  have hPre : Pre D F w tb (.slice sp S.length sc) S w.heap.size w3.heap.size k0 d0 X M p1 c1' q1 d1 p3 c3 q3 d3 (w3.alloc (.cells #[.int .i64 k0, .int .i64 d0, .int .i64 X.file, .int .u32 (X.rights : Int), .bool X.all, .slice p3 X.ints.length c3, .int .i64 X.fc, .slice q3 M.length d3] 36)) := by
    obtain ⟨t1, t2, t3, _, _⟩ := HT.out
    have hbb := on_trans (on_trans HB2.out hb3) hal
    have hsz := HB2.out.size
    have hsz3 := hb3.size
    have hlow : ∀ j, D j → j < w0.heap.size + 2 := fun j hj => by have := t3 j hj; have := HS0.out; omega
    refine ⟨t1.on hbb, t2.on hbb, t3.on hbb, hbb, (HW2.out.on hb3).on hal, Blk.new w3 _ (acC k0 d0 X (.slice p3 X.ints.length c3) (.slice q3 M.length d3)), (IntD.of (HL2.out.1.on (on_trans hb3 hal)) hlow), (IntD.of (HL2.out.2.on (on_trans hb3 hal)) hlow), IntD.of (ha3.on hal) (fun j hj => ?_), IntD.of (hm3.on hal) (fun j hj => ?_), fun h7 => ?_, fun h7 => ?_, HXL.out.1, HXL.out.2.1, fun j hj => (t1.sub j hj).2⟩
    · have := t3 j hj; omega
    · have := t3 j hj; omega
    · have := (t1.sub _ h7).2; omega
    · have := (t1.sub _ h7).2; omega
  have HPre : Hid _ := hPre
  have a0 := hPre.a.cell 0 rfl
  have HSF : Hid (Fits S ∧ S.length ≤ 64) := HT.out.2.2.2
  clear HW2 HB2 HL2 HS0 hb3 ha3 hm3 hal hPre cO2 HT f0 f1 f2 f3 f4 f5 f6 f7 y0 y1 y2 y3 y4 y5 y6 y7 z0 z1 z2 z3 z4 z5 z6 z7
  have b1 := HPre.out.b.cell 1 rfl
  have b2 := HPre.out.b.cell 2 rfl
  have b3 := HPre.out.b.cell 3 rfl
  have b4 := HPre.out.b.cell 4 rfl
  have b5 := HPre.out.b.cell 5 rfl
  have b6 := HPre.out.b.cell 6 rfl
  have cT := set_any (x := X) HPre.out.tab HSF.out.1 HPre.out.lt d0 p3 c3 HPre.out.bi.at.1 (by have := HXL.out.1; omega)
  change Calls Try.prog _ #[ptr tb, .int .i64 d0, .agg #[.int .i64 X.file, .int .u32 (X.rights : Int), .bool X.all, .slice p3 X.ints.length c3, .int .i64 X.fc]] _ _ at cT
  have hin : inB S d0 = false := by unfold inB; rw [decide_eq_false (show ¬ 0 ≤ d0 by omega)]; rfl
  rw [show setS S d0 X = S by unfold setS; rw [hcan, hin]; rfl] at HP
  rw [show setS S d0 X = S by unfold setS; rw [hcan, hin]; rfl, show setX S d0 X = zS by unfold setX; rw [hcan, hin]; rfl, show setB S d0 X = false by unfold setB liveB; rw [hcan, hin]; rfl, show setE S d0 X = 9 by unfold setE; rw [hcan, hin]; rfl] at cT
  have HCan : Hid (canS X = true) := hcan
  clear hcan hin
  go_wp2_with fail
  refine cT.mono ?_
  rintro e w5 ⟨F5, u5, rfl, ht5, hg5, lv5, rfl, p5, c5, rfl, _⟩
  have HA : Hid _ := (HPre.out.aft ht5 hg5).on (on_alloc w5 (.cells #[.int .i64 0, .int .u32 0, .bool false, .slice p5 0 c5, .int .i64 0] 34))
  have cC := rcan_any X p1 c1' _ HA.out.ai.at.1 (by have := HXL.out.1; omega)
  change Calls Try.prog 17 #[.agg #[.int .i64 X.file, .int .u32 (X.rights : Int), .bool X.all, .slice p1 X.ints.length c1', .int .i64 X.fc]] (w5.alloc (.cells #[.int .i64 0, .int .u32 0, .bool false, .slice p5 0 c5, .int .i64 0] 34)) _ at cC
  rw [HCan.out] at cC
  have g1 := HA.out.a.cell 1 rfl
  have g2 := HA.out.a.cell 2 rfl
  have g3 := HA.out.a.cell 3 rfl
  have g4 := HA.out.a.cell 4 rfl
  have g5 := HA.out.a.cell 5 rfl
  have g6 := HA.out.a.cell 6 rfl
  clear ht5 hg5 cT HPre a0 b1 b2 b3 b4 b5 b6 HCan
  simp only [slC, zS, Int.natCast_zero, List.length_nil]
  go_wp2_with fail
  refine cC.mono ?_
  rintro e w6 ⟨rfl, hb6⟩
  have hA6 := HA.out.on hb6
  have HZ : Hid _ := HP.out F5 _ w6 hA6.tab hA6.row hA6.goes
  have m1 := hA6.a.cell 1 rfl
  clear HP HA hA6 hb6 cC g1 g2 g3 g4 g5 g6
  go_wp2
  exact HZ.out
set_option maxRecDepth 100000 in
set_option maxHeartbeats 400000 in
theorem does_set_big {D F : Nat → Prop} {w : World} {tb : Nat} {v : Value} {S : List Sl} (h : TabAt D F w tb S) (hr : RowAt D w v S) (hD : Lt D w) (hS : Fits S) (hl : S.length ≤ 64) (k0 d0 : Int) (x : Sl) (p q : Option Addr) (c d : Nat) (m : List Int) (hp : W.At w p x.ints) (hq : W.At w q m) (hpc : x.ints.length ≤ c) (hqd : m.length ≤ d) (hxr : x.rights < 4294967296) (hk : k0 = 1) (hcan : canS (withI x (cut x.ints)) = true) (hbig : (S.length : Int) ≤ d0) :
    Calls Try.prog 9 #[ptr tb, v, .agg (acC k0 d0 x (.slice p x.ints.length c) (.slice q m.length d)).toArray] w (DPost D F tb w (doX S k0 d0 (withI x (cut x.ints)) (cut m))) := by
  change Calls Try.prog 9 #[ptr tb, v, .agg #[.int .i64 k0, .int .i64 d0, .int .i64 x.file, .int .u32 (x.rights : Int), .bool x.all, .slice p x.ints.length c, .int .i64 x.fc, .slice q m.length d]] w _
  have k1 : (k0 == 1) = true := by simpa using hk
  have zn : decide (d0 < 0) = false := decide_eq_false (by omega)
  have c1 := own_any k0 d0 x p q c d m (w.alloc (.cells #[.int .i64 k0, .int .i64 d0, .int .i64 x.file, .int .u32 (x.rights : Int), .bool x.all, .slice p x.ints.length c, .int .i64 x.fc, .slice q m.length d] 36)) (hp.on (on_alloc w _)) (hq.on (on_alloc w _)) hpc hqd
  change Calls Try.prog 19 #[.agg #[.int .i64 k0, .int .i64 d0, .int .i64 x.file, .int .u32 (x.rights : Int), .bool x.all, .slice p x.ints.length c, .int .i64 x.fc, .slice q m.length d]] _ _ at c1
  have HB0 : Hid (Below w.heap.size w (w.alloc (.cells #[.int .i64 k0, .int .i64 d0, .int .i64 x.file, .int .u32 (x.rights : Int), .bool x.all, .slice p x.ints.length c, .int .i64 x.fc, .slice q m.length d] 36))) := on_alloc w _
  have hX0 : Blk (w.alloc (.cells #[.int .i64 k0, .int .i64 d0, .int .i64 x.file, .int .u32 (x.rights : Int), .bool x.all, .slice p x.ints.length c, .int .i64 x.fc, .slice q m.length d] 36)) w.heap.size 36 (acC k0 d0 x (.slice p x.ints.length c) (.slice q m.length d)) := Blk.new w _ (acC k0 d0 x (.slice p x.ints.length c) (.slice q m.length d))
  have x0 := hX0.cell 0 rfl
  have x1 := hX0.cell 1 rfl
  have x2 := hX0.cell 2 rfl
  have x3 := hX0.cell 3 rfl
  have x4 := hX0.cell 4 rfl
  have x5 := hX0.cell 5 rfl
  have x6 := hX0.cell 6 rfl
  have x7 := hX0.cell 7 rfl
  have HX0 : Hid _ := hX0
  have HT : Hid (TabAt D F w tb S ∧ RowAt D w v S ∧ Lt D w ∧ Fits S ∧ S.length ≤ 64) := ⟨h, hr, hD, hS, hl⟩
  unfold OwnPost at c1
  have HXL : Hid ((withI x (cut x.ints)).ints.length ≤ 50 ∧ (cut m).length ≤ 50 ∧ (withI x (cut x.ints)).rights < 4294967296) := ⟨cut_len _, cut_len _, hxr⟩
  change Calls _ _ _ _ (fun e w' => Below (w.alloc (.cells #[.int .i64 k0, .int .i64 d0, .int .i64 x.file, .int .u32 (x.rights : Int), .bool x.all, .slice p x.ints.length c, .int .i64 x.fc, .slice q m.length d] 36)).heap.size (w.alloc (.cells #[.int .i64 k0, .int .i64 d0, .int .i64 x.file, .int .u32 (x.rights : Int), .bool x.all, .slice p x.ints.length c, .int .i64 x.fc, .slice q m.length d] 36)) w' ∧ ∃ p' c' q' d', e = .returned (.agg #[.int .i64 k0, .int .i64 d0, .int .i64 (withI x (cut x.ints)).file, .int .u32 ((withI x (cut x.ints)).rights : Int), .bool (withI x (cut x.ints)).all, .slice p' (withI x (cut x.ints)).ints.length c', .int .i64 (withI x (cut x.ints)).fc, .slice q' (cut m).length d']) ∧ W.AtF ((w.alloc (.cells #[.int .i64 k0, .int .i64 d0, .int .i64 x.file, .int .u32 (x.rights : Int), .bool x.all, .slice p x.ints.length c, .int .i64 x.fc, .slice q m.length d] 36)).heap.size + 2) w' p' (withI x (cut x.ints)).ints ∧ W.AtF ((w.alloc (.cells #[.int .i64 k0, .int .i64 d0, .int .i64 x.file, .int .u32 (x.rights : Int), .bool x.all, .slice p x.ints.length c, .int .i64 x.fc, .slice q m.length d] 36)).heap.size + 2) w' q' (cut m)) at c1
  generalize withI x (cut x.ints) = X at *
  generalize cut m = M at *
  have hdo : doX S k0 d0 X M = setS S d0 X := by unfold doX; subst hk; rfl
  rw [hdo]
  clear hdo
  have HP : Hid (∀ F' v' w', TabAt (Or D F') F' w' tb (setS S d0 X) → RowAt (Or D F') w' v' (setS S d0 X) → Goes F F' w w' → DPost D F tb w (setS S d0 X) (.returned (.tuple #[v', .bool true])) w') := fun F' v' w' h1 h2 h3 => ⟨F', v', rfl, h1, h2, h3⟩
  generalize DPost D F tb w (setS S d0 X) = Post at *
  clear hk
  obtain ⟨sp, sc, hv⟩ := hr.slice
  subst hv
  clear h hr hD hS hp hq hX0
  go_enter Try.func9, Try.ntmps9
  go_wp2_with fail
  generalize w.alloc (.cells #[.int .i64 k0, .int .i64 d0, .int .i64 x.file, .int .u32 (x.rights : Int), .bool x.all, .slice p x.ints.length c, .int .i64 x.fc, .slice q m.length d] 36) = w0 at *
  refine c1.mono ?_
  rintro e w1 ⟨hb1, p1, c1', q1, d1, rfl, ha1, hm1⟩
  have hX1 := HX0.out.on hb1
  have f0 := hX1.free 0
  have f1 := hX1.free 1
  have f2 := hX1.free 2
  have f3 := hX1.free 3
  have f4 := hX1.free 4
  have f5 := hX1.free 5
  have f6 := hX1.free 6
  have f7 := hX1.free 7
  have y0 := hX1.cell 0 rfl
  have y1 := hX1.cell 1 rfl
  have y2 := hX1.cell 2 rfl
  have y3 := hX1.cell 3 rfl
  have y4 := hX1.cell 4 rfl
  have y5 := hX1.cell 5 rfl
  have y6 := hX1.cell 6 rfl
  have y7 := hX1.cell 7 rfl
  have hX2 : Blk ((((((((w1.setCell ⟨w.heap.size, 0, none⟩ (.int .i64 k0)).setCell ⟨w.heap.size, 1, none⟩ (.int .i64 d0)).setCell ⟨w.heap.size, 2, none⟩ (.int .i64 X.file)).setCell ⟨w.heap.size, 3, none⟩ (.int .u32 (X.rights : Int))).setCell ⟨w.heap.size, 4, none⟩ (.bool X.all)).setCell ⟨w.heap.size, 5, none⟩ (.slice p1 X.ints.length c1')).setCell ⟨w.heap.size, 6, none⟩ (.int .i64 X.fc)).setCell ⟨w.heap.size, 7, none⟩ (.slice q1 M.length d1)) w.heap.size 36 (acC k0 d0 X (.slice p1 X.ints.length c1') (.slice q1 M.length d1)) := hX1.put (acC k0 d0 X (.slice p1 X.ints.length c1') (.slice q1 M.length d1)) rfl
  have hU1 : But w.heap.size w1 ((((((((w1.setCell ⟨w.heap.size, 0, none⟩ (.int .i64 k0)).setCell ⟨w.heap.size, 1, none⟩ (.int .i64 d0)).setCell ⟨w.heap.size, 2, none⟩ (.int .i64 X.file)).setCell ⟨w.heap.size, 3, none⟩ (.int .u32 (X.rights : Int))).setCell ⟨w.heap.size, 4, none⟩ (.bool X.all)).setCell ⟨w.heap.size, 5, none⟩ (.slice p1 X.ints.length c1')).setCell ⟨w.heap.size, 6, none⟩ (.int .i64 X.fc)).setCell ⟨w.heap.size, 7, none⟩ (.slice q1 M.length d1)) := but_putL w.heap.size (acC k0 d0 X (.slice p1 X.ints.length c1') (.slice q1 M.length d1)) w1 0
  have hs0 := HX0.out.lt
  have hB2 := below_but (on_trans HB0.out hb1) hU1 (Nat.le_refl _)
  have ha2 := W.atF_ints.2 ((W.atF_ints.1 ha1).but hU1 (by omega))
  have hm2 := W.atF_ints.2 ((W.atF_ints.1 hm1).but hU1 (by omega))
  have cO2 := own_short k0 d0 X p1 q1 c1' d1 M _ ha2.at hm2.at HXL.out.1 HXL.out.2.1
  change Calls Try.prog 19 #[.agg #[.int .i64 k0, .int .i64 d0, .int .i64 X.file, .int .u32 (X.rights : Int), .bool X.all, .slice p1 X.ints.length c1', .int .i64 X.fc, .slice q1 M.length d1]] ((((((((w1.setCell ⟨w.heap.size, 0, none⟩ (.int .i64 k0)).setCell ⟨w.heap.size, 1, none⟩ (.int .i64 d0)).setCell ⟨w.heap.size, 2, none⟩ (.int .i64 X.file)).setCell ⟨w.heap.size, 3, none⟩ (.int .u32 (X.rights : Int))).setCell ⟨w.heap.size, 4, none⟩ (.bool X.all)).setCell ⟨w.heap.size, 5, none⟩ (.slice p1 X.ints.length c1')).setCell ⟨w.heap.size, 6, none⟩ (.int .i64 X.fc)).setCell ⟨w.heap.size, 7, none⟩ (.slice q1 M.length d1)) (fun e w' => Below ((((((((w1.setCell ⟨w.heap.size, 0, none⟩ (.int .i64 k0)).setCell ⟨w.heap.size, 1, none⟩ (.int .i64 d0)).setCell ⟨w.heap.size, 2, none⟩ (.int .i64 X.file)).setCell ⟨w.heap.size, 3, none⟩ (.int .u32 (X.rights : Int))).setCell ⟨w.heap.size, 4, none⟩ (.bool X.all)).setCell ⟨w.heap.size, 5, none⟩ (.slice p1 X.ints.length c1')).setCell ⟨w.heap.size, 6, none⟩ (.int .i64 X.fc)).setCell ⟨w.heap.size, 7, none⟩ (.slice q1 M.length d1)).heap.size ((((((((w1.setCell ⟨w.heap.size, 0, none⟩ (.int .i64 k0)).setCell ⟨w.heap.size, 1, none⟩ (.int .i64 d0)).setCell ⟨w.heap.size, 2, none⟩ (.int .i64 X.file)).setCell ⟨w.heap.size, 3, none⟩ (.int .u32 (X.rights : Int))).setCell ⟨w.heap.size, 4, none⟩ (.bool X.all)).setCell ⟨w.heap.size, 5, none⟩ (.slice p1 X.ints.length c1')).setCell ⟨w.heap.size, 6, none⟩ (.int .i64 X.fc)).setCell ⟨w.heap.size, 7, none⟩ (.slice q1 M.length d1)) w' ∧ ∃ p c p' c', e = .returned (.agg #[.int .i64 k0, .int .i64 d0, .int .i64 X.file, .int .u32 (X.rights : Int), .bool X.all, .slice p X.ints.length c, .int .i64 X.fc, .slice p' M.length c']) ∧ W.AtF (((((((((w1.setCell ⟨w.heap.size, 0, none⟩ (.int .i64 k0)).setCell ⟨w.heap.size, 1, none⟩ (.int .i64 d0)).setCell ⟨w.heap.size, 2, none⟩ (.int .i64 X.file)).setCell ⟨w.heap.size, 3, none⟩ (.int .u32 (X.rights : Int))).setCell ⟨w.heap.size, 4, none⟩ (.bool X.all)).setCell ⟨w.heap.size, 5, none⟩ (.slice p1 X.ints.length c1')).setCell ⟨w.heap.size, 6, none⟩ (.int .i64 X.fc)).setCell ⟨w.heap.size, 7, none⟩ (.slice q1 M.length d1)).heap.size + 2) w' p X.ints ∧ W.AtF (((((((((w1.setCell ⟨w.heap.size, 0, none⟩ (.int .i64 k0)).setCell ⟨w.heap.size, 1, none⟩ (.int .i64 d0)).setCell ⟨w.heap.size, 2, none⟩ (.int .i64 X.file)).setCell ⟨w.heap.size, 3, none⟩ (.int .u32 (X.rights : Int))).setCell ⟨w.heap.size, 4, none⟩ (.bool X.all)).setCell ⟨w.heap.size, 5, none⟩ (.slice p1 X.ints.length c1')).setCell ⟨w.heap.size, 6, none⟩ (.int .i64 X.fc)).setCell ⟨w.heap.size, 7, none⟩ (.slice q1 M.length d1)).heap.size + 2) w' p' M) at cO2
  have z0 : ((((((((w1.setCell ⟨w.heap.size, 0, none⟩ (.int .i64 k0)).setCell ⟨w.heap.size, 1, none⟩ (.int .i64 d0)).setCell ⟨w.heap.size, 2, none⟩ (.int .i64 X.file)).setCell ⟨w.heap.size, 3, none⟩ (.int .u32 (X.rights : Int))).setCell ⟨w.heap.size, 4, none⟩ (.bool X.all)).setCell ⟨w.heap.size, 5, none⟩ (.slice p1 X.ints.length c1')).setCell ⟨w.heap.size, 6, none⟩ (.int .i64 X.fc)).setCell ⟨w.heap.size, 7, none⟩ (.slice q1 M.length d1)).cell? ⟨w.heap.size, 0, none⟩ = some (.int .i64 k0) := hX2.cell 0 rfl
  have z1 : ((((((((w1.setCell ⟨w.heap.size, 0, none⟩ (.int .i64 k0)).setCell ⟨w.heap.size, 1, none⟩ (.int .i64 d0)).setCell ⟨w.heap.size, 2, none⟩ (.int .i64 X.file)).setCell ⟨w.heap.size, 3, none⟩ (.int .u32 (X.rights : Int))).setCell ⟨w.heap.size, 4, none⟩ (.bool X.all)).setCell ⟨w.heap.size, 5, none⟩ (.slice p1 X.ints.length c1')).setCell ⟨w.heap.size, 6, none⟩ (.int .i64 X.fc)).setCell ⟨w.heap.size, 7, none⟩ (.slice q1 M.length d1)).cell? ⟨w.heap.size, 1, none⟩ = some (.int .i64 d0) := hX2.cell 1 rfl
  have z2 : ((((((((w1.setCell ⟨w.heap.size, 0, none⟩ (.int .i64 k0)).setCell ⟨w.heap.size, 1, none⟩ (.int .i64 d0)).setCell ⟨w.heap.size, 2, none⟩ (.int .i64 X.file)).setCell ⟨w.heap.size, 3, none⟩ (.int .u32 (X.rights : Int))).setCell ⟨w.heap.size, 4, none⟩ (.bool X.all)).setCell ⟨w.heap.size, 5, none⟩ (.slice p1 X.ints.length c1')).setCell ⟨w.heap.size, 6, none⟩ (.int .i64 X.fc)).setCell ⟨w.heap.size, 7, none⟩ (.slice q1 M.length d1)).cell? ⟨w.heap.size, 2, none⟩ = some (.int .i64 X.file) := hX2.cell 2 rfl
  have z3 : ((((((((w1.setCell ⟨w.heap.size, 0, none⟩ (.int .i64 k0)).setCell ⟨w.heap.size, 1, none⟩ (.int .i64 d0)).setCell ⟨w.heap.size, 2, none⟩ (.int .i64 X.file)).setCell ⟨w.heap.size, 3, none⟩ (.int .u32 (X.rights : Int))).setCell ⟨w.heap.size, 4, none⟩ (.bool X.all)).setCell ⟨w.heap.size, 5, none⟩ (.slice p1 X.ints.length c1')).setCell ⟨w.heap.size, 6, none⟩ (.int .i64 X.fc)).setCell ⟨w.heap.size, 7, none⟩ (.slice q1 M.length d1)).cell? ⟨w.heap.size, 3, none⟩ = some (.int .u32 (X.rights : Int)) := hX2.cell 3 rfl
  have z4 : ((((((((w1.setCell ⟨w.heap.size, 0, none⟩ (.int .i64 k0)).setCell ⟨w.heap.size, 1, none⟩ (.int .i64 d0)).setCell ⟨w.heap.size, 2, none⟩ (.int .i64 X.file)).setCell ⟨w.heap.size, 3, none⟩ (.int .u32 (X.rights : Int))).setCell ⟨w.heap.size, 4, none⟩ (.bool X.all)).setCell ⟨w.heap.size, 5, none⟩ (.slice p1 X.ints.length c1')).setCell ⟨w.heap.size, 6, none⟩ (.int .i64 X.fc)).setCell ⟨w.heap.size, 7, none⟩ (.slice q1 M.length d1)).cell? ⟨w.heap.size, 4, none⟩ = some (.bool X.all) := hX2.cell 4 rfl
  have z5 : ((((((((w1.setCell ⟨w.heap.size, 0, none⟩ (.int .i64 k0)).setCell ⟨w.heap.size, 1, none⟩ (.int .i64 d0)).setCell ⟨w.heap.size, 2, none⟩ (.int .i64 X.file)).setCell ⟨w.heap.size, 3, none⟩ (.int .u32 (X.rights : Int))).setCell ⟨w.heap.size, 4, none⟩ (.bool X.all)).setCell ⟨w.heap.size, 5, none⟩ (.slice p1 X.ints.length c1')).setCell ⟨w.heap.size, 6, none⟩ (.int .i64 X.fc)).setCell ⟨w.heap.size, 7, none⟩ (.slice q1 M.length d1)).cell? ⟨w.heap.size, 5, none⟩ = some (.slice p1 X.ints.length c1') := hX2.cell 5 rfl
  have z6 : ((((((((w1.setCell ⟨w.heap.size, 0, none⟩ (.int .i64 k0)).setCell ⟨w.heap.size, 1, none⟩ (.int .i64 d0)).setCell ⟨w.heap.size, 2, none⟩ (.int .i64 X.file)).setCell ⟨w.heap.size, 3, none⟩ (.int .u32 (X.rights : Int))).setCell ⟨w.heap.size, 4, none⟩ (.bool X.all)).setCell ⟨w.heap.size, 5, none⟩ (.slice p1 X.ints.length c1')).setCell ⟨w.heap.size, 6, none⟩ (.int .i64 X.fc)).setCell ⟨w.heap.size, 7, none⟩ (.slice q1 M.length d1)).cell? ⟨w.heap.size, 6, none⟩ = some (.int .i64 X.fc) := hX2.cell 6 rfl
  have z7 : ((((((((w1.setCell ⟨w.heap.size, 0, none⟩ (.int .i64 k0)).setCell ⟨w.heap.size, 1, none⟩ (.int .i64 d0)).setCell ⟨w.heap.size, 2, none⟩ (.int .i64 X.file)).setCell ⟨w.heap.size, 3, none⟩ (.int .u32 (X.rights : Int))).setCell ⟨w.heap.size, 4, none⟩ (.bool X.all)).setCell ⟨w.heap.size, 5, none⟩ (.slice p1 X.ints.length c1')).setCell ⟨w.heap.size, 6, none⟩ (.int .i64 X.fc)).setCell ⟨w.heap.size, 7, none⟩ (.slice q1 M.length d1)).cell? ⟨w.heap.size, 7, none⟩ = some (.slice q1 M.length d1) := hX2.cell 7 rfl
  have HW2 : Hid _ := hX2
  have HB2 : Hid _ := hB2
  have HL2 : Hid _ := (⟨ha2, hm2⟩ : W.AtF _ _ _ _ ∧ W.AtF _ _ _ _)
  have HS0 : Hid (w.heap.size < w0.heap.size) := hs0
  clear c1 HX0 HB0 hb1 ha1 hm1 hX1 hX2 hU1 hs0 hB2 ha2 hm2 x0 x1 x2 x3 x4 x5 x6 x7
  go_wp2_with fail
  refine cO2.mono ?_
  generalize ((((((((w1.setCell ⟨w.heap.size, 0, none⟩ (.int .i64 k0)).setCell ⟨w.heap.size, 1, none⟩ (.int .i64 d0)).setCell ⟨w.heap.size, 2, none⟩ (.int .i64 X.file)).setCell ⟨w.heap.size, 3, none⟩ (.int .u32 (X.rights : Int))).setCell ⟨w.heap.size, 4, none⟩ (.bool X.all)).setCell ⟨w.heap.size, 5, none⟩ (.slice p1 X.ints.length c1')).setCell ⟨w.heap.size, 6, none⟩ (.int .i64 X.fc)).setCell ⟨w.heap.size, 7, none⟩ (.slice q1 M.length d1)) = w2 at *
  rintro e w3 ⟨hb3, p3, c3, q3, d3, rfl, ha3, hm3⟩
  have hal := on_alloc w3 (.cells #[.int .i64 k0, .int .i64 d0, .int .i64 X.file, .int .u32 (X.rights : Int), .bool X.all, .slice p3 X.ints.length c3, .int .i64 X.fc, .slice q3 M.length d3] 36)
  have hPre : Pre D F w tb (.slice sp S.length sc) S w.heap.size w3.heap.size k0 d0 X M p1 c1' q1 d1 p3 c3 q3 d3 (w3.alloc (.cells #[.int .i64 k0, .int .i64 d0, .int .i64 X.file, .int .u32 (X.rights : Int), .bool X.all, .slice p3 X.ints.length c3, .int .i64 X.fc, .slice q3 M.length d3] 36)) := by
    obtain ⟨t1, t2, t3, _, _⟩ := HT.out
    have hbb := on_trans (on_trans HB2.out hb3) hal
    have hsz := HB2.out.size
    have hsz3 := hb3.size
    have hlow : ∀ j, D j → j < w0.heap.size + 2 := fun j hj => by have := t3 j hj; have := HS0.out; omega
    refine ⟨t1.on hbb, t2.on hbb, t3.on hbb, hbb, (HW2.out.on hb3).on hal, Blk.new w3 _ (acC k0 d0 X (.slice p3 X.ints.length c3) (.slice q3 M.length d3)), (IntD.of (HL2.out.1.on (on_trans hb3 hal)) hlow), (IntD.of (HL2.out.2.on (on_trans hb3 hal)) hlow), IntD.of (ha3.on hal) (fun j hj => ?_), IntD.of (hm3.on hal) (fun j hj => ?_), fun h7 => ?_, fun h7 => ?_, HXL.out.1, HXL.out.2.1, fun j hj => (t1.sub j hj).2⟩
    · have := t3 j hj; omega
    · have := t3 j hj; omega
    · have := (t1.sub _ h7).2; omega
    · have := (t1.sub _ h7).2; omega
  have HPre : Hid _ := hPre
  have a0 := hPre.a.cell 0 rfl
  have HSF : Hid (Fits S ∧ S.length ≤ 64) := HT.out.2.2.2
  clear HW2 HB2 HL2 HS0 hb3 ha3 hm3 hal hPre cO2 HT f0 f1 f2 f3 f4 f5 f6 f7 y0 y1 y2 y3 y4 y5 y6 y7 z0 z1 z2 z3 z4 z5 z6 z7
  have b1 := HPre.out.b.cell 1 rfl
  have b2 := HPre.out.b.cell 2 rfl
  have b3 := HPre.out.b.cell 3 rfl
  have b4 := HPre.out.b.cell 4 rfl
  have b5 := HPre.out.b.cell 5 rfl
  have b6 := HPre.out.b.cell 6 rfl
  have cT := set_any (x := X) HPre.out.tab HSF.out.1 HPre.out.lt d0 p3 c3 HPre.out.bi.at.1 (by have := HXL.out.1; omega)
  change Calls Try.prog _ #[ptr tb, .int .i64 d0, .agg #[.int .i64 X.file, .int .u32 (X.rights : Int), .bool X.all, .slice p3 X.ints.length c3, .int .i64 X.fc]] _ _ at cT
  have hin : inB S d0 = false := by unfold inB; rw [decide_eq_false (show ¬ d0 < (S.length : Int) by omega)]; simp
  rw [show setS S d0 X = S by unfold setS; rw [hcan, hin]; rfl] at HP
  rw [show setS S d0 X = S by unfold setS; rw [hcan, hin]; rfl, show setX S d0 X = zS by unfold setX; rw [hcan, hin]; rfl, show setB S d0 X = false by unfold setB liveB; rw [hcan, hin]; rfl, show setE S d0 X = 9 by unfold setE; rw [hcan, hin]; rfl] at cT
  have HCan : Hid (canS X = true) := hcan
  clear hcan hin
  go_wp2_with fail
  refine cT.mono ?_
  rintro e w5 ⟨F5, u5, rfl, ht5, hg5, lv5, rfl, p5, c5, rfl, _⟩
  have HA : Hid _ := (HPre.out.aft ht5 hg5).on (on_alloc w5 (.cells #[.int .i64 0, .int .u32 0, .bool false, .slice p5 0 c5, .int .i64 0] 34))
  have cC := rcan_any X p1 c1' _ HA.out.ai.at.1 (by have := HXL.out.1; omega)
  change Calls Try.prog 17 #[.agg #[.int .i64 X.file, .int .u32 (X.rights : Int), .bool X.all, .slice p1 X.ints.length c1', .int .i64 X.fc]] (w5.alloc (.cells #[.int .i64 0, .int .u32 0, .bool false, .slice p5 0 c5, .int .i64 0] 34)) _ at cC
  rw [HCan.out] at cC
  have g1 := HA.out.a.cell 1 rfl
  have g2 := HA.out.a.cell 2 rfl
  have g3 := HA.out.a.cell 3 rfl
  have g4 := HA.out.a.cell 4 rfl
  have g5 := HA.out.a.cell 5 rfl
  have g6 := HA.out.a.cell 6 rfl
  clear ht5 hg5 cT HPre a0 b1 b2 b3 b4 b5 b6 HCan
  simp only [slC, zS, Int.natCast_zero, List.length_nil]
  go_wp2_with fail
  refine cC.mono ?_
  rintro e w6 ⟨rfl, hb6⟩
  have hA6 := HA.out.on hb6
  have HZ : Hid _ := HP.out F5 _ w6 hA6.tab hA6.row hA6.goes
  have m1 := hA6.a.cell 1 rfl
  clear HP HA hA6 hb6 cC g1 g2 g3 g4 g5 g6
  go_wp2
  exact HZ.out

end Go.Proofs.Ytmccfcllehfebaa.Z
