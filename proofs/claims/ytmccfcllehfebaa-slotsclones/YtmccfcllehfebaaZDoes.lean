/- does: an act done to the table and to the reference. -/
import Derived.Test.YtmccfcllehfebaaZLives
namespace Go.Proofs.Ytmccfcllehfebaa.Z
open Go Go.RowKit

/-- What an act leaves. -/
def doX (S : List Sl) (k d : Int) (X : Sl) (M : List Int) : List Sl :=
  if k = 1 then setS S d X else if k = 2 then takeS S d else if k = 3 then limS S d X.rights else if k = 4 then ioS S d M else if k = 5 then fcS S d X.fc else putS S d X
def doS (S : List Sl) (k d : Int) (x : Sl) (m : List Int) : List Sl := doX S k d (withI x (cut x.ints)) (cut m)
theorem doX_len (S : List Sl) (k d : Int) (x : Sl) (m : List Int) : (doX S k d x m).length = S.length := by
  unfold doX
  repeat' split
  · exact len_set _ _ _
  · exact len_take _ _
  · exact len_lim _ _ _
  · exact len_io _ _ _
  · exact len_fc _ _ _
  · exact len_put _ _ _
theorem doX_fits {S : List Sl} (h : Fits S) (k d : Int) {x : Sl} (m : List Int) (hx : x.rights < 4294967296) : Fits (doX S k d x m) := by
  unfold doX
  repeat' split
  · exact h.setS d hx
  · exact h.take d
  · exact h.lim d hx
  · exact h.io d m
  · exact h.fc d x.fc
  · exact h.put d hx
/-- Table and reference behind an act. -/
def DPost (D F : Nat → Prop) (tb : Nat) (w : World) (S : List Sl) (e : Ending) (w' : World) : Prop := ∃ F' v', e = .returned (.tuple #[v', .bool true]) ∧ TabAt (Or D F') F' w' tb S ∧ RowAt (Or D F') w' v' S ∧ Goes F F' w w'
/-- Ahead of an act: the table, the reference, both acts of one's own. -/
structure Pre (D F : Nat → Prop) (w : World) (tb : Nat) (v : Value) (S : List Sl) (ab bb : Nat) (k d : Int) (X : Sl) (M : List Int) (p1 : Option Addr) (c1 : Nat) (q1 : Option Addr) (e1 : Nat) (p2 : Option Addr) (c2 : Nat) (q2 : Option Addr) (e2 : Nat) (Y : World) : Prop where
  tab : TabAt D F Y tb S
  row : RowAt D Y v S
  lt : Lt D Y
  below : Below w.heap.size w Y
  a : Blk Y ab 36 (acC k d X (.slice p1 X.ints.length c1) (.slice q1 M.length e1))
  b : Blk Y bb 36 (acC k d X (.slice p2 X.ints.length c2) (.slice q2 M.length e2))
  ai : IntD D Y (.slice p1 X.ints.length c1) X.ints
  am : IntD D Y (.slice q1 M.length e1) M
  bi : IntD D Y (.slice p2 X.ints.length c2) X.ints
  bm : IntD D Y (.slice q2 M.length e2) M
  aF : ¬ F ab
  bF : ¬ F bb
  xl : X.ints.length ≤ 50
  ml : M.length ≤ 50
  low : ∀ j, F j → j < w.heap.size
section
variable {D F F' : Nat → Prop} {w Y Y' : World} {tb ab bb : Nat} {v : Value} {S S' : List Sl} {k d : Int} {X : Sl} {M : List Int} {p1 q1 p2 q2 : Option Addr} {c1 e1 c2 e2 : Nat}
theorem Pre.on (h : Pre D F w tb v S ab bb k d X M p1 c1 q1 e1 p2 c2 q2 e2 Y) (hb : Below Y.heap.size Y Y') : Pre D F w tb v S ab bb k d X M p1 c1 q1 e1 p2 c2 q2 e2 Y' :=
  ⟨h.tab.on hb, h.row.on hb, h.lt.on hb, on_trans h.below hb, h.a.on hb, h.b.on hb, h.ai.on hb, h.am.on hb, h.bi.on hb, h.bm.on hb, h.aF, h.bF, h.xl, h.ml, h.low⟩
/-- Behind a call on the table. -/
structure Aft (D F F' : Nat → Prop) (w : World) (tb : Nat) (v : Value) (S S' : List Sl) (ab : Nat) (k d : Int) (X : Sl) (M : List Int) (p1 : Option Addr) (c1 : Nat) (q1 : Option Addr) (e1 : Nat) (Y : World) : Prop where
  tab : TabAt (Or D F') F' Y tb S'
  row : RowAt (Or D F') Y v S
  lt : Lt (Or D F') Y
  goes : Goes F F' w Y
  a : Blk Y ab 36 (acC k d X (.slice p1 X.ints.length c1) (.slice q1 M.length e1))
  ai : IntD (Or D F') Y (.slice p1 X.ints.length c1) X.ints
  am : IntD (Or D F') Y (.slice q1 M.length e1) M
theorem Pre.aft (h : Pre D F w tb v S ab bb k d X M p1 c1 q1 e1 p2 c2 q2 e2 Y) (ht : TabAt (Or D F') F' Y' tb S') (hg : Goes F F' Y Y') : Aft D F F' w tb v S S' ab k d X M p1 c1 q1 e1 Y' :=
  have hF : ∀ j, F j → D j := fun j hj => (h.tab.sub j hj).1
  ⟨ht, h.row.goes hg hF, h.lt.goes ht hg, (Goes.on h.below).trans hg, hg.keep.blk h.a h.aF, h.ai.goes hg hF, h.am.goes hg hF⟩
theorem Aft.on (h : Aft D F F' w tb v S S' ab k d X M p1 c1 q1 e1 Y) (hb : Below Y.heap.size Y Y') : Aft D F F' w tb v S S' ab k d X M p1 c1 q1 e1 Y' :=
  ⟨h.tab.on hb, h.row.on hb, h.lt.on hb, h.goes.trans (.on hb), h.a.on hb, h.ai.on hb, h.am.on hb⟩
end
set_option maxRecDepth 100000 in
set_option maxHeartbeats 400000 in
theorem does_lim {D F : Nat → Prop} {w : World} {tb : Nat} {v : Value} {S : List Sl} (h : TabAt D F w tb S) (hr : RowAt D w v S) (hD : Lt D w) (hS : Fits S) (hl : S.length ≤ 64) (k0 d0 : Int) (x : Sl) (p q : Option Addr) (c d : Nat) (m : List Int) (hp : W.At w p x.ints) (hq : W.At w q m) (hpc : x.ints.length ≤ c) (hqd : m.length ≤ d) (hxr : x.rights < 4294967296) (hk : k0 = 3) :
    Calls Try.prog 9 #[ptr tb, v, .agg (acC k0 d0 x (.slice p x.ints.length c) (.slice q m.length d)).toArray] w (DPost D F tb w (doX S k0 d0 (withI x (cut x.ints)) (cut m))) := by
  change Calls Try.prog 9 #[ptr tb, v, .agg #[.int .i64 k0, .int .i64 d0, .int .i64 x.file, .int .u32 (x.rights : Int), .bool x.all, .slice p x.ints.length c, .int .i64 x.fc, .slice q m.length d]] w _
  have k1 : (k0 == 1) = false := by simp; omega
  have k2 : (k0 == 2) = false := by simp; omega
  have k3 : (k0 == 3) = true := by simpa using hk
  have c1 := own_any k0 d0 x p q c d m (w.alloc (.cells #[.int .i64 k0, .int .i64 d0, .int .i64 x.file, .int .u32 (x.rights : Int), .bool x.all, .slice p x.ints.length c, .int .i64 x.fc, .slice q m.length d] 36)) (hp.on (on_alloc w _)) (hq.on (on_alloc w _)) hpc hqd
  change Calls Try.prog 19 #[.agg #[.int .i64 k0, .int .i64 d0, .int .i64 x.file, .int .u32 (x.rights : Int), .bool x.all, .slice p x.ints.length c, .int .i64 x.fc, .slice q m.length d]] _ _ at c1
  have HB0 : Hid (Below w.heap.size w (w.alloc (.cells #[.int .i64 k0, .int .i64 d0, .int .i64 x.file, .int .u32 (x.rights : Int), .bool x.all, .slice p x.ints.length c, .int .i64 x.fc, .slice q m.length d] 36))) := on_alloc w _
  have hX0 : Blk (w.alloc (.cells #[.int .i64 k0, .int .i64 d0, .int .i64 x.file, .int .u32 (x.rights : Int), .bool x.all, .slice p x.ints.length c, .int .i64 x.fc, .slice q m.length d] 36)) w.heap.size 36 (acC k0 d0 x (.slice p x.ints.length c) (.slice q m.length d)) := Blk.new w _ (acC k0 d0 x (.slice p x.ints.length c) (.slice q m.length d))
  have x0 := hX0.cell 0 rfl
  have x1 := hX0.cell 1 rfl
  have x2 := hX0.cell 2 rfl
  have x3 := hX0.cell 3 rfl
  have x4 := hX0.cell 4 rfl
  have x5 := hX0.cell 5 rfl
  have x6 := hX0.cell 6 rfl
  have x7 := hX0.cell 7 rfl
  have HX0 : Hid _ := hX0
  have HT : Hid (TabAt D F w tb S ∧ RowAt D w v S ∧ Lt D w ∧ Fits S ∧ S.length ≤ 64) := ⟨h, hr, hD, hS, hl⟩
  unfold OwnPost at c1
  have HXL : Hid ((withI x (cut x.ints)).ints.length ≤ 50 ∧ (cut m).length ≤ 50 ∧ (withI x (cut x.ints)).rights < 4294967296) := ⟨cut_len _, cut_len _, hxr⟩
  change Calls _ _ _ _ (fun e w' => Below (w.alloc (.cells #[.int .i64 k0, .int .i64 d0, .int .i64 x.file, .int .u32 (x.rights : Int), .bool x.all, .slice p x.ints.length c, .int .i64 x.fc, .slice q m.length d] 36)).heap.size (w.alloc (.cells #[.int .i64 k0, .int .i64 d0, .int .i64 x.file, .int .u32 (x.rights : Int), .bool x.all, .slice p x.ints.length c, .int .i64 x.fc, .slice q m.length d] 36)) w' ∧ ∃ p' c' q' d', e = .returned (.agg #[.int .i64 k0, .int .i64 d0, .int .i64 (withI x (cut x.ints)).file, .int .u32 ((withI x (cut x.ints)).rights : Int), .bool (withI x (cut x.ints)).all, .slice p' (withI x (cut x.ints)).ints.length c', .int .i64 (withI x (cut x.ints)).fc, .slice q' (cut m).length d']) ∧ W.AtF ((w.alloc (.cells #[.int .i64 k0, .int .i64 d0, .int .i64 x.file, .int .u32 (x.rights : Int), .bool x.all, .slice p x.ints.length c, .int .i64 x.fc, .slice q m.length d] 36)).heap.size + 2) w' p' (withI x (cut x.ints)).ints ∧ W.AtF ((w.alloc (.cells #[.int .i64 k0, .int .i64 d0, .int .i64 x.file, .int .u32 (x.rights : Int), .bool x.all, .slice p x.ints.length c, .int .i64 x.fc, .slice q m.length d] 36)).heap.size + 2) w' q' (cut m)) at c1
  generalize withI x (cut x.ints) = X at *
  generalize cut m = M at *
  have hdo : doX S k0 d0 X M = limS S d0 X.rights := by unfold doX; subst hk; rfl
  rw [hdo]
  clear hdo
  have HP : Hid (∀ F' v' w', TabAt (Or D F') F' w' tb (limS S d0 X.rights) → RowAt (Or D F') w' v' (limS S d0 X.rights) → Goes F F' w w' → DPost D F tb w (limS S d0 X.rights) (.returned (.tuple #[v', .bool true])) w') := fun F' v' w' h1 h2 h3 => ⟨F', v', rfl, h1, h2, h3⟩
  generalize DPost D F tb w (limS S d0 X.rights) = Post at *
  clear hk
  obtain ⟨sp, sc, hv⟩ := hr.slice
  subst hv
  clear h hr hD hS hp hq hX0
  go_enter Try.func9, Try.ntmps9
  go_wp2_with fail
  generalize w.alloc (.cells #[.int .i64 k0, .int .i64 d0, .int .i64 x.file, .int .u32 (x.rights : Int), .bool x.all, .slice p x.ints.length c, .int .i64 x.fc, .slice q m.length d] 36) = w0 at *
  refine c1.mono ?_
  rintro e w1 ⟨hb1, p1, c1', q1, d1, rfl, ha1, hm1⟩
  have hX1 := HX0.out.on hb1
  have f0 := hX1.free 0
  have f1 := hX1.free 1
  have f2 := hX1.free 2
  have f3 := hX1.free 3
  have f4 := hX1.free 4
  have f5 := hX1.free 5
  have f6 := hX1.free 6
  have f7 := hX1.free 7
  have y0 := hX1.cell 0 rfl
  have y1 := hX1.cell 1 rfl
  have y2 := hX1.cell 2 rfl
  have y3 := hX1.cell 3 rfl
  have y4 := hX1.cell 4 rfl
  have y5 := hX1.cell 5 rfl
  have y6 := hX1.cell 6 rfl
  have y7 := hX1.cell 7 rfl
  have hX2 : Blk ((((((((w1.setCell ⟨w.heap.size, 0, none⟩ (.int .i64 k0)).setCell ⟨w.heap.size, 1, none⟩ (.int .i64 d0)).setCell ⟨w.heap.size, 2, none⟩ (.int .i64 X.file)).setCell ⟨w.heap.size, 3, none⟩ (.int .u32 (X.rights : Int))).setCell ⟨w.heap.size, 4, none⟩ (.bool X.all)).setCell ⟨w.heap.size, 5, none⟩ (.slice p1 X.ints.length c1')).setCell ⟨w.heap.size, 6, none⟩ (.int .i64 X.fc)).setCell ⟨w.heap.size, 7, none⟩ (.slice q1 M.length d1)) w.heap.size 36 (acC k0 d0 X (.slice p1 X.ints.length c1') (.slice q1 M.length d1)) := hX1.put (acC k0 d0 X (.slice p1 X.ints.length c1') (.slice q1 M.length d1)) rfl
  have hU1 : But w.heap.size w1 ((((((((w1.setCell ⟨w.heap.size, 0, none⟩ (.int .i64 k0)).setCell ⟨w.heap.size, 1, none⟩ (.int .i64 d0)).setCell ⟨w.heap.size, 2, none⟩ (.int .i64 X.file)).setCell ⟨w.heap.size, 3, none⟩ (.int .u32 (X.rights : Int))).setCell ⟨w.heap.size, 4, none⟩ (.bool X.all)).setCell ⟨w.heap.size, 5, none⟩ (.slice p1 X.ints.length c1')).setCell ⟨w.heap.size, 6, none⟩ (.int .i64 X.fc)).setCell ⟨w.heap.size, 7, none⟩ (.slice q1 M.length d1)) := but_putL w.heap.size (acC k0 d0 X (.slice p1 X.ints.length c1') (.slice q1 M.length d1)) w1 0
  have hs0 := HX0.out.lt
  have hB2 := below_but (on_trans HB0.out hb1) hU1 (Nat.le_refl _)
  have ha2 := W.atF_ints.2 ((W.atF_ints.1 ha1).but hU1 (by omega))
  have hm2 := W.atF_ints.2 ((W.atF_ints.1 hm1).but hU1 (by omega))
  have cO2 := own_short k0 d0 X p1 q1 c1' d1 M _ ha2.at hm2.at HXL.out.1 HXL.out.2.1
  change Calls Try.prog 19 #[.agg #[.int .i64 k0, .int .i64 d0, .int .i64 X.file, .int .u32 (X.rights : Int), .bool X.all, .slice p1 X.ints.length c1', .int .i64 X.fc, .slice q1 M.length d1]] ((((((((w1.setCell ⟨w.heap.size, 0, none⟩ (.int .i64 k0)).setCell ⟨w.heap.size, 1, none⟩ (.int .i64 d0)).setCell ⟨w.heap.size, 2, none⟩ (.int .i64 X.file)).setCell ⟨w.heap.size, 3, none⟩ (.int .u32 (X.rights : Int))).setCell ⟨w.heap.size, 4, none⟩ (.bool X.all)).setCell ⟨w.heap.size, 5, none⟩ (.slice p1 X.ints.length c1')).setCell ⟨w.heap.size, 6, none⟩ (.int .i64 X.fc)).setCell ⟨w.heap.size, 7, none⟩ (.slice q1 M.length d1)) (fun e w' => Below ((((((((w1.setCell ⟨w.heap.size, 0, none⟩ (.int .i64 k0)).setCell ⟨w.heap.size, 1, none⟩ (.int .i64 d0)).setCell ⟨w.heap.size, 2, none⟩ (.int .i64 X.file)).setCell ⟨w.heap.size, 3, none⟩ (.int .u32 (X.rights : Int))).setCell ⟨w.heap.size, 4, none⟩ (.bool X.all)).setCell ⟨w.heap.size, 5, none⟩ (.slice p1 X.ints.length c1')).setCell ⟨w.heap.size, 6, none⟩ (.int .i64 X.fc)).setCell ⟨w.heap.size, 7, none⟩ (.slice q1 M.length d1)).heap.size ((((((((w1.setCell ⟨w.heap.size, 0, none⟩ (.int .i64 k0)).setCell ⟨w.heap.size, 1, none⟩ (.int .i64 d0)).setCell ⟨w.heap.size, 2, none⟩ (.int .i64 X.file)).setCell ⟨w.heap.size, 3, none⟩ (.int .u32 (X.rights : Int))).setCell ⟨w.heap.size, 4, none⟩ (.bool X.all)).setCell ⟨w.heap.size, 5, none⟩ (.slice p1 X.ints.length c1')).setCell ⟨w.heap.size, 6, none⟩ (.int .i64 X.fc)).setCell ⟨w.heap.size, 7, none⟩ (.slice q1 M.length d1)) w' ∧ ∃ p c p' c', e = .returned (.agg #[.int .i64 k0, .int .i64 d0, .int .i64 X.file, .int .u32 (X.rights : Int), .bool X.all, .slice p X.ints.length c, .int .i64 X.fc, .slice p' M.length c']) ∧ W.AtF (((((((((w1.setCell ⟨w.heap.size, 0, none⟩ (.int .i64 k0)).setCell ⟨w.heap.size, 1, none⟩ (.int .i64 d0)).setCell ⟨w.heap.size, 2, none⟩ (.int .i64 X.file)).setCell ⟨w.heap.size, 3, none⟩ (.int .u32 (X.rights : Int))).setCell ⟨w.heap.size, 4, none⟩ (.bool X.all)).setCell ⟨w.heap.size, 5, none⟩ (.slice p1 X.ints.length c1')).setCell ⟨w.heap.size, 6, none⟩ (.int .i64 X.fc)).setCell ⟨w.heap.size, 7, none⟩ (.slice q1 M.length d1)).heap.size + 2) w' p X.ints ∧ W.AtF (((((((((w1.setCell ⟨w.heap.size, 0, none⟩ (.int .i64 k0)).setCell ⟨w.heap.size, 1, none⟩ (.int .i64 d0)).setCell ⟨w.heap.size, 2, none⟩ (.int .i64 X.file)).setCell ⟨w.heap.size, 3, none⟩ (.int .u32 (X.rights : Int))).setCell ⟨w.heap.size, 4, none⟩ (.bool X.all)).setCell ⟨w.heap.size, 5, none⟩ (.slice p1 X.ints.length c1')).setCell ⟨w.heap.size, 6, none⟩ (.int .i64 X.fc)).setCell ⟨w.heap.size, 7, none⟩ (.slice q1 M.length d1)).heap.size + 2) w' p' M) at cO2
  have z0 : ((((((((w1.setCell ⟨w.heap.size, 0, none⟩ (.int .i64 k0)).setCell ⟨w.heap.size, 1, none⟩ (.int .i64 d0)).setCell ⟨w.heap.size, 2, none⟩ (.int .i64 X.file)).setCell ⟨w.heap.size, 3, none⟩ (.int .u32 (X.rights : Int))).setCell ⟨w.heap.size, 4, none⟩ (.bool X.all)).setCell ⟨w.heap.size, 5, none⟩ (.slice p1 X.ints.length c1')).setCell ⟨w.heap.size, 6, none⟩ (.int .i64 X.fc)).setCell ⟨w.heap.size, 7, none⟩ (.slice q1 M.length d1)).cell? ⟨w.heap.size, 0, none⟩ = some (.int .i64 k0) := hX2.cell 0 rfl
  have z1 : ((((((((w1.setCell ⟨w.heap.size, 0, none⟩ (.int .i64 k0)).setCell ⟨w.heap.size, 1, none⟩ (.int .i64 d0)).setCell ⟨w.heap.size, 2, none⟩ (.int .i64 X.file)).setCell ⟨w.heap.size, 3, none⟩ (.int .u32 (X.rights : Int))).setCell ⟨w.heap.size, 4, none⟩ (.bool X.all)).setCell ⟨w.heap.size, 5, none⟩ (.slice p1 X.ints.length c1')).setCell ⟨w.heap.size, 6, none⟩ (.int .i64 X.fc)).setCell ⟨w.heap.size, 7, none⟩ (.slice q1 M.length d1)).cell? ⟨w.heap.size, 1, none⟩ = some (.int .i64 d0) := hX2.cell 1 rfl
  have z2 : ((((((((w1.setCell ⟨w.heap.size, 0, none⟩ (.int .i64 k0)).setCell ⟨w.heap.size, 1, none⟩ (.int .i64 d0)).setCell ⟨w.heap.size, 2, none⟩ (.int .i64 X.file)).setCell ⟨w.heap.size, 3, none⟩ (.int .u32 (X.rights : Int))).setCell ⟨w.heap.size, 4, none⟩ (.bool X.all)).setCell ⟨w.heap.size, 5, none⟩ (.slice p1 X.ints.length c1')).setCell ⟨w.heap.size, 6, none⟩ (.int .i64 X.fc)).setCell ⟨w.heap.size, 7, none⟩ (.slice q1 M.length d1)).cell? ⟨w.heap.size, 2, none⟩ = some (.int .i64 X.file) := hX2.cell 2 rfl
  have z3 : ((((((((w1.setCell ⟨w.heap.size, 0, none⟩ (.int .i64 k0)).setCell ⟨w.heap.size, 1, none⟩ (.int .i64 d0)).setCell ⟨w.heap.size, 2, none⟩ (.int .i64 X.file)).setCell ⟨w.heap.size, 3, none⟩ (.int .u32 (X.rights : Int))).setCell ⟨w.heap.size, 4, none⟩ (.bool X.all)).setCell ⟨w.heap.size, 5, none⟩ (.slice p1 X.ints.length c1')).setCell ⟨w.heap.size, 6, none⟩ (.int .i64 X.fc)).setCell ⟨w.heap.size, 7, none⟩ (.slice q1 M.length d1)).cell? ⟨w.heap.size, 3, none⟩ = some (.int .u32 (X.rights : Int)) := hX2.cell 3 rfl
  have z4 : ((((((((w1.setCell ⟨w.heap.size, 0, none⟩ (.int .i64 k0)).setCell ⟨w.heap.size, 1, none⟩ (.int .i64 d0)).setCell ⟨w.heap.size, 2, none⟩ (.int .i64 X.file)).setCell ⟨w.heap.size, 3, none⟩ (.int .u32 (X.rights : Int))).setCell ⟨w.heap.size, 4, none⟩ (.bool X.all)).setCell ⟨w.heap.size, 5, none⟩ (.slice p1 X.ints.length c1')).setCell ⟨w.heap.size, 6, none⟩ (.int .i64 X.fc)).setCell ⟨w.heap.size, 7, none⟩ (.slice q1 M.length d1)).cell? ⟨w.heap.size, 4, none⟩ = some (.bool X.all) := hX2.cell 4 rfl
  have z5 : ((((((((w1.setCell ⟨w.heap.size, 0, none⟩ (.int .i64 k0)).setCell ⟨w.heap.size, 1, none⟩ (.int .i64 d0)).setCell ⟨w.heap.size, 2, none⟩ (.int .i64 X.file)).setCell ⟨w.heap.size, 3, none⟩ (.int .u32 (X.rights : Int))).setCell ⟨w.heap.size, 4, none⟩ (.bool X.all)).setCell ⟨w.heap.size, 5, none⟩ (.slice p1 X.ints.length c1')).setCell ⟨w.heap.size, 6, none⟩ (.int .i64 X.fc)).setCell ⟨w.heap.size, 7, none⟩ (.slice q1 M.length d1)).cell? ⟨w.heap.size, 5, none⟩ = some (.slice p1 X.ints.length c1') := hX2.cell 5 rfl
  have z6 : ((((((((w1.setCell ⟨w.heap.size, 0, none⟩ (.int .i64 k0)).setCell ⟨w.heap.size, 1, none⟩ (.int .i64 d0)).setCell ⟨w.heap.size, 2, none⟩ (.int .i64 X.file)).setCell ⟨w.heap.size, 3, none⟩ (.int .u32 (X.rights : Int))).setCell ⟨w.heap.size, 4, none⟩ (.bool X.all)).setCell ⟨w.heap.size, 5, none⟩ (.slice p1 X.ints.length c1')).setCell ⟨w.heap.size, 6, none⟩ (.int .i64 X.fc)).setCell ⟨w.heap.size, 7, none⟩ (.slice q1 M.length d1)).cell? ⟨w.heap.size, 6, none⟩ = some (.int .i64 X.fc) := hX2.cell 6 rfl
  have z7 : ((((((((w1.setCell ⟨w.heap.size, 0, none⟩ (.int .i64 k0)).setCell ⟨w.heap.size, 1, none⟩ (.int .i64 d0)).setCell ⟨w.heap.size, 2, none⟩ (.int .i64 X.file)).setCell ⟨w.heap.size, 3, none⟩ (.int .u32 (X.rights : Int))).setCell ⟨w.heap.size, 4, none⟩ (.bool X.all)).setCell ⟨w.heap.size, 5, none⟩ (.slice p1 X.ints.length c1')).setCell ⟨w.heap.size, 6, none⟩ (.int .i64 X.fc)).setCell ⟨w.heap.size, 7, none⟩ (.slice q1 M.length d1)).cell? ⟨w.heap.size, 7, none⟩ = some (.slice q1 M.length d1) := hX2.cell 7 rfl
  have HW2 : Hid _ := hX2
  have HB2 : Hid _ := hB2
  have HL2 : Hid _ := (⟨ha2, hm2⟩ : W.AtF _ _ _ _ ∧ W.AtF _ _ _ _)
  have HS0 : Hid (w.heap.size < w0.heap.size) := hs0
  clear c1 HX0 HB0 hb1 ha1 hm1 hX1 hX2 hU1 hs0 hB2 ha2 hm2 x0 x1 x2 x3 x4 x5 x6 x7
  go_wp2_with fail
  refine cO2.mono ?_
  generalize ((((((((w1.setCell ⟨w.heap.size, 0, none⟩ (.int .i64 k0)).setCell ⟨w.heap.size, 1, none⟩ (.int .i64 d0)).setCell ⟨w.heap.size, 2, none⟩ (.int .i64 X.file)).setCell ⟨w.heap.size, 3, none⟩ (.int .u32 (X.rights : Int))).setCell ⟨w.heap.size, 4, none⟩ (.bool X.all)).setCell ⟨w.heap.size, 5, none⟩ (.slice p1 X.ints.length c1')).setCell ⟨w.heap.size, 6, none⟩ (.int .i64 X.fc)).setCell ⟨w.heap.size, 7, none⟩ (.slice q1 M.length d1)) = w2 at *
  rintro e w3 ⟨hb3, p3, c3, q3, d3, rfl, ha3, hm3⟩
  have hal := on_alloc w3 (.cells #[.int .i64 k0, .int .i64 d0, .int .i64 X.file, .int .u32 (X.rights : Int), .bool X.all, .slice p3 X.ints.length c3, .int .i64 X.fc, .slice q3 M.length d3] 36)
  have hPre : Pre D F w tb (.slice sp S.length sc) S w.heap.size w3.heap.size k0 d0 X M p1 c1' q1 d1 p3 c3 q3 d3 (w3.alloc (.cells #[.int .i64 k0, .int .i64 d0, .int .i64 X.file, .int .u32 (X.rights : Int), .bool X.all, .slice p3 X.ints.length c3, .int .i64 X.fc, .slice q3 M.length d3] 36)) := by
    obtain ⟨t1, t2, t3, _, _⟩ := HT.out
    have hbb := on_trans (on_trans HB2.out hb3) hal
    have hsz := HB2.out.size
    have hsz3 := hb3.size
    have hlow : ∀ j, D j → j < w0.heap.size + 2 := fun j hj => by have := t3 j hj; have := HS0.out; omega
    refine ⟨t1.on hbb, t2.on hbb, t3.on hbb, hbb, (HW2.out.on hb3).on hal, Blk.new w3 _ (acC k0 d0 X (.slice p3 X.ints.length c3) (.slice q3 M.length d3)), (IntD.of (HL2.out.1.on (on_trans hb3 hal)) hlow), (IntD.of (HL2.out.2.on (on_trans hb3 hal)) hlow), IntD.of (ha3.on hal) (fun j hj => ?_), IntD.of (hm3.on hal) (fun j hj => ?_), fun h7 => ?_, fun h7 => ?_, HXL.out.1, HXL.out.2.1, fun j hj => (t1.sub j hj).2⟩
    · have := t3 j hj; omega
    · have := t3 j hj; omega
    · have := (t1.sub _ h7).2; omega
    · have := (t1.sub _ h7).2; omega
  have HPre : Hid _ := hPre
  have a0 := hPre.a.cell 0 rfl
  have HSF : Hid (Fits S ∧ S.length ≤ 64) := HT.out.2.2.2
  clear HW2 HB2 HL2 HS0 hb3 ha3 hm3 hal hPre cO2 HT f0 f1 f2 f3 f4 f5 f6 f7 y0 y1 y2 y3 y4 y5 y6 y7 z0 z1 z2 z3 z4 z5 z6 z7
  have a1 := HPre.out.a.cell 1 rfl
  have a3 := HPre.out.a.cell 3 rfl
  have b1 := HPre.out.b.cell 1 rfl
  have b3 := HPre.out.b.cell 3 rfl
  have cR := rlim_any HPre.out.row HSF.out.1 HPre.out.lt HSF.out.2 d0 X.rights HXL.out.2.2
  clear a0
  have a0 := HPre.out.a.cell 0 rfl
  go_wp2_with fail
  refine cR.mono ?_
  rintro e w5 ⟨v5, rfl, hr5, hb5⟩
  have HPre5 : Hid _ := HPre.out.on hb5
  have HR5 : Hid _ := hr5
  have cT := lim_any HPre5.out.tab HSF.out.1 d0 X.rights HXL.out.2.2
  have g1 := HPre5.out.b.cell 1 rfl
  have g3 := HPre5.out.b.cell 3 rfl
  clear hr5 hb5 HPre cR a0 a1 a3 b1 b3
  generalize hE : getE S d0 X.rights = E at *
  clear hE
  have zE : (E == E) = true := beq_self_eq_true _
  go_wp2_with fail
  refine cT.mono ?_
  rintro e w6 ⟨rfl, F6, ht6, hg6⟩
  have hA := HPre5.out.aft ht6 hg6
  have HZ : Hid _ := HP.out F6 v5 w6 ht6 (RowAt.goes HR5.out hg6 fun j hj => (HPre5.out.tab.sub j hj).1) hA.goes
  clear HP HPre5 HR5 hA ht6 hg6 cT
  go_wp2
  exact HZ.out
set_option maxRecDepth 100000 in
set_option maxHeartbeats 400000 in
theorem does_io {D F : Nat → Prop} {w : World} {tb : Nat} {v : Value} {S : List Sl} (h : TabAt D F w tb S) (hr : RowAt D w v S) (hD : Lt D w) (hS : Fits S) (hl : S.length ≤ 64) (k0 d0 : Int) (x : Sl) (p q : Option Addr) (c d : Nat) (m : List Int) (hp : W.At w p x.ints) (hq : W.At w q m) (hpc : x.ints.length ≤ c) (hqd : m.length ≤ d) (hxr : x.rights < 4294967296) (hk : k0 = 4) :
    Calls Try.prog 9 #[ptr tb, v, .agg (acC k0 d0 x (.slice p x.ints.length c) (.slice q m.length d)).toArray] w (DPost D F tb w (doX S k0 d0 (withI x (cut x.ints)) (cut m))) := by
  change Calls Try.prog 9 #[ptr tb, v, .agg #[.int .i64 k0, .int .i64 d0, .int .i64 x.file, .int .u32 (x.rights : Int), .bool x.all, .slice p x.ints.length c, .int .i64 x.fc, .slice q m.length d]] w _
  have k1 : (k0 == 1) = false := by simp; omega
  have k2 : (k0 == 2) = false := by simp; omega
  have k3 : (k0 == 3) = false := by simp; omega
  have k4 : (k0 == 4) = true := by simpa using hk
  have c1 := own_any k0 d0 x p q c d m (w.alloc (.cells #[.int .i64 k0, .int .i64 d0, .int .i64 x.file, .int .u32 (x.rights : Int), .bool x.all, .slice p x.ints.length c, .int .i64 x.fc, .slice q m.length d] 36)) (hp.on (on_alloc w _)) (hq.on (on_alloc w _)) hpc hqd
  change Calls Try.prog 19 #[.agg #[.int .i64 k0, .int .i64 d0, .int .i64 x.file, .int .u32 (x.rights : Int), .bool x.all, .slice p x.ints.length c, .int .i64 x.fc, .slice q m.length d]] _ _ at c1
  have HB0 : Hid (Below w.heap.size w (w.alloc (.cells #[.int .i64 k0, .int .i64 d0, .int .i64 x.file, .int .u32 (x.rights : Int), .bool x.all, .slice p x.ints.length c, .int .i64 x.fc, .slice q m.length d] 36))) := on_alloc w _
  have hX0 : Blk (w.alloc (.cells #[.int .i64 k0, .int .i64 d0, .int .i64 x.file, .int .u32 (x.rights : Int), .bool x.all, .slice p x.ints.length c, .int .i64 x.fc, .slice q m.length d] 36)) w.heap.size 36 (acC k0 d0 x (.slice p x.ints.length c) (.slice q m.length d)) := Blk.new w _ (acC k0 d0 x (.slice p x.ints.length c) (.slice q m.length d))
  have x0 := hX0.cell 0 rfl
  have x1 := hX0.cell 1 rfl
  have x2 := hX0.cell 2 rfl
  have x3 := hX0.cell 3 rfl
  have x4 := hX0.cell 4 rfl
  have x5 := hX0.cell 5 rfl
  have x6 := hX0.cell 6 rfl
  have x7 := hX0.cell 7 rfl
  have HX0 : Hid _ := hX0
  have HT : Hid (TabAt D F w tb S ∧ RowAt D w v S ∧ Lt D w ∧ Fits S ∧ S.length ≤ 64) := ⟨h, hr, hD, hS, hl⟩
  unfold OwnPost at c1
  have HXL : Hid ((withI x (cut x.ints)).ints.length ≤ 50 ∧ (cut m).length ≤ 50 ∧ (withI x (cut x.ints)).rights < 4294967296) := ⟨cut_len _, cut_len _, hxr⟩
  change Calls _ _ _ _ (fun e w' => Below (w.alloc (.cells #[.int .i64 k0, .int .i64 d0, .int .i64 x.file, .int .u32 (x.rights : Int), .bool x.all, .slice p x.ints.length c, .int .i64 x.fc, .slice q m.length d] 36)).heap.size (w.alloc (.cells #[.int .i64 k0, .int .i64 d0, .int .i64 x.file, .int .u32 (x.rights : Int), .bool x.all, .slice p x.ints.length c, .int .i64 x.fc, .slice q m.length d] 36)) w' ∧ ∃ p' c' q' d', e = .returned (.agg #[.int .i64 k0, .int .i64 d0, .int .i64 (withI x (cut x.ints)).file, .int .u32 ((withI x (cut x.ints)).rights : Int), .bool (withI x (cut x.ints)).all, .slice p' (withI x (cut x.ints)).ints.length c', .int .i64 (withI x (cut x.ints)).fc, .slice q' (cut m).length d']) ∧ W.AtF ((w.alloc (.cells #[.int .i64 k0, .int .i64 d0, .int .i64 x.file, .int .u32 (x.rights : Int), .bool x.all, .slice p x.ints.length c, .int .i64 x.fc, .slice q m.length d] 36)).heap.size + 2) w' p' (withI x (cut x.ints)).ints ∧ W.AtF ((w.alloc (.cells #[.int .i64 k0, .int .i64 d0, .int .i64 x.file, .int .u32 (x.rights : Int), .bool x.all, .slice p x.ints.length c, .int .i64 x.fc, .slice q m.length d] 36)).heap.size + 2) w' q' (cut m)) at c1
  generalize withI x (cut x.ints) = X at *
  generalize cut m = M at *
  have hdo : doX S k0 d0 X M = ioS S d0 M := by unfold doX; subst hk; rfl
  rw [hdo]
  clear hdo
  have HP : Hid (∀ F' v' w', TabAt (Or D F') F' w' tb (ioS S d0 M) → RowAt (Or D F') w' v' (ioS S d0 M) → Goes F F' w w' → DPost D F tb w (ioS S d0 M) (.returned (.tuple #[v', .bool true])) w') := fun F' v' w' h1 h2 h3 => ⟨F', v', rfl, h1, h2, h3⟩
  generalize DPost D F tb w (ioS S d0 M) = Post at *
  clear hk
  obtain ⟨sp, sc, hv⟩ := hr.slice
  subst hv
  clear h hr hD hS hp hq hX0
  go_enter Try.func9, Try.ntmps9
  go_wp2_with fail
  generalize w.alloc (.cells #[.int .i64 k0, .int .i64 d0, .int .i64 x.file, .int .u32 (x.rights : Int), .bool x.all, .slice p x.ints.length c, .int .i64 x.fc, .slice q m.length d] 36) = w0 at *
  refine c1.mono ?_
  rintro e w1 ⟨hb1, p1, c1', q1, d1, rfl, ha1, hm1⟩
  have hX1 := HX0.out.on hb1
  have f0 := hX1.free 0
  have f1 := hX1.free 1
  have f2 := hX1.free 2
  have f3 := hX1.free 3
  have f4 := hX1.free 4
  have f5 := hX1.free 5
  have f6 := hX1.free 6
  have f7 := hX1.free 7
  have y0 := hX1.cell 0 rfl
  have y1 := hX1.cell 1 rfl
  have y2 := hX1.cell 2 rfl
  have y3 := hX1.cell 3 rfl
  have y4 := hX1.cell 4 rfl
  have y5 := hX1.cell 5 rfl
  have y6 := hX1.cell 6 rfl
  have y7 := hX1.cell 7 rfl
  have hX2 : Blk ((((((((w1.setCell ⟨w.heap.size, 0, none⟩ (.int .i64 k0)).setCell ⟨w.heap.size, 1, none⟩ (.int .i64 d0)).setCell ⟨w.heap.size, 2, none⟩ (.int .i64 X.file)).setCell ⟨w.heap.size, 3, none⟩ (.int .u32 (X.rights : Int))).setCell ⟨w.heap.size, 4, none⟩ (.bool X.all)).setCell ⟨w.heap.size, 5, none⟩ (.slice p1 X.ints.length c1')).setCell ⟨w.heap.size, 6, none⟩ (.int .i64 X.fc)).setCell ⟨w.heap.size, 7, none⟩ (.slice q1 M.length d1)) w.heap.size 36 (acC k0 d0 X (.slice p1 X.ints.length c1') (.slice q1 M.length d1)) := hX1.put (acC k0 d0 X (.slice p1 X.ints.length c1') (.slice q1 M.length d1)) rfl
  have hU1 : But w.heap.size w1 ((((((((w1.setCell ⟨w.heap.size, 0, none⟩ (.int .i64 k0)).setCell ⟨w.heap.size, 1, none⟩ (.int .i64 d0)).setCell ⟨w.heap.size, 2, none⟩ (.int .i64 X.file)).setCell ⟨w.heap.size, 3, none⟩ (.int .u32 (X.rights : Int))).setCell ⟨w.heap.size, 4, none⟩ (.bool X.all)).setCell ⟨w.heap.size, 5, none⟩ (.slice p1 X.ints.length c1')).setCell ⟨w.heap.size, 6, none⟩ (.int .i64 X.fc)).setCell ⟨w.heap.size, 7, none⟩ (.slice q1 M.length d1)) := but_putL w.heap.size (acC k0 d0 X (.slice p1 X.ints.length c1') (.slice q1 M.length d1)) w1 0
  have hs0 := HX0.out.lt
  have hB2 := below_but (on_trans HB0.out hb1) hU1 (Nat.le_refl _)
  have ha2 := W.atF_ints.2 ((W.atF_ints.1 ha1).but hU1 (by omega))
  have hm2 := W.atF_ints.2 ((W.atF_ints.1 hm1).but hU1 (by omega))
  have cO2 := own_short k0 d0 X p1 q1 c1' d1 M _ ha2.at hm2.at HXL.out.1 HXL.out.2.1
  change Calls Try.prog 19 #[.agg #[.int .i64 k0, .int .i64 d0, .int .i64 X.file, .int .u32 (X.rights : Int), .bool X.all, .slice p1 X.ints.length c1', .int .i64 X.fc, .slice q1 M.length d1]] ((((((((w1.setCell ⟨w.heap.size, 0, none⟩ (.int .i64 k0)).setCell ⟨w.heap.size, 1, none⟩ (.int .i64 d0)).setCell ⟨w.heap.size, 2, none⟩ (.int .i64 X.file)).setCell ⟨w.heap.size, 3, none⟩ (.int .u32 (X.rights : Int))).setCell ⟨w.heap.size, 4, none⟩ (.bool X.all)).setCell ⟨w.heap.size, 5, none⟩ (.slice p1 X.ints.length c1')).setCell ⟨w.heap.size, 6, none⟩ (.int .i64 X.fc)).setCell ⟨w.heap.size, 7, none⟩ (.slice q1 M.length d1)) (fun e w' => Below ((((((((w1.setCell ⟨w.heap.size, 0, none⟩ (.int .i64 k0)).setCell ⟨w.heap.size, 1, none⟩ (.int .i64 d0)).setCell ⟨w.heap.size, 2, none⟩ (.int .i64 X.file)).setCell ⟨w.heap.size, 3, none⟩ (.int .u32 (X.rights : Int))).setCell ⟨w.heap.size, 4, none⟩ (.bool X.all)).setCell ⟨w.heap.size, 5, none⟩ (.slice p1 X.ints.length c1')).setCell ⟨w.heap.size, 6, none⟩ (.int .i64 X.fc)).setCell ⟨w.heap.size, 7, none⟩ (.slice q1 M.length d1)).heap.size ((((((((w1.setCell ⟨w.heap.size, 0, none⟩ (.int .i64 k0)).setCell ⟨w.heap.size, 1, none⟩ (.int .i64 d0)).setCell ⟨w.heap.size, 2, none⟩ (.int .i64 X.file)).setCell ⟨w.heap.size, 3, none⟩ (.int .u32 (X.rights : Int))).setCell ⟨w.heap.size, 4, none⟩ (.bool X.all)).setCell ⟨w.heap.size, 5, none⟩ (.slice p1 X.ints.length c1')).setCell ⟨w.heap.size, 6, none⟩ (.int .i64 X.fc)).setCell ⟨w.heap.size, 7, none⟩ (.slice q1 M.length d1)) w' ∧ ∃ p c p' c', e = .returned (.agg #[.int .i64 k0, .int .i64 d0, .int .i64 X.file, .int .u32 (X.rights : Int), .bool X.all, .slice p X.ints.length c, .int .i64 X.fc, .slice p' M.length c']) ∧ W.AtF (((((((((w1.setCell ⟨w.heap.size, 0, none⟩ (.int .i64 k0)).setCell ⟨w.heap.size, 1, none⟩ (.int .i64 d0)).setCell ⟨w.heap.size, 2, none⟩ (.int .i64 X.file)).setCell ⟨w.heap.size, 3, none⟩ (.int .u32 (X.rights : Int))).setCell ⟨w.heap.size, 4, none⟩ (.bool X.all)).setCell ⟨w.heap.size, 5, none⟩ (.slice p1 X.ints.length c1')).setCell ⟨w.heap.size, 6, none⟩ (.int .i64 X.fc)).setCell ⟨w.heap.size, 7, none⟩ (.slice q1 M.length d1)).heap.size + 2) w' p X.ints ∧ W.AtF (((((((((w1.setCell ⟨w.heap.size, 0, none⟩ (.int .i64 k0)).setCell ⟨w.heap.size, 1, none⟩ (.int .i64 d0)).setCell ⟨w.heap.size, 2, none⟩ (.int .i64 X.file)).setCell ⟨w.heap.size, 3, none⟩ (.int .u32 (X.rights : Int))).setCell ⟨w.heap.size, 4, none⟩ (.bool X.all)).setCell ⟨w.heap.size, 5, none⟩ (.slice p1 X.ints.length c1')).setCell ⟨w.heap.size, 6, none⟩ (.int .i64 X.fc)).setCell ⟨w.heap.size, 7, none⟩ (.slice q1 M.length d1)).heap.size + 2) w' p' M) at cO2
  have z0 : ((((((((w1.setCell ⟨w.heap.size, 0, none⟩ (.int .i64 k0)).setCell ⟨w.heap.size, 1, none⟩ (.int .i64 d0)).setCell ⟨w.heap.size, 2, none⟩ (.int .i64 X.file)).setCell ⟨w.heap.size, 3, none⟩ (.int .u32 (X.rights : Int))).setCell ⟨w.heap.size, 4, none⟩ (.bool X.all)).setCell ⟨w.heap.size, 5, none⟩ (.slice p1 X.ints.length c1')).setCell ⟨w.heap.size, 6, none⟩ (.int .i64 X.fc)).setCell ⟨w.heap.size, 7, none⟩ (.slice q1 M.length d1)).cell? ⟨w.heap.size, 0, none⟩ = some (.int .i64 k0) := hX2.cell 0 rfl
  have z1 : ((((((((w1.setCell ⟨w.heap.size, 0, none⟩ (.int .i64 k0)).setCell ⟨w.heap.size, 1, none⟩ (.int .i64 d0)).setCell ⟨w.heap.size, 2, none⟩ (.int .i64 X.file)).setCell ⟨w.heap.size, 3, none⟩ (.int .u32 (X.rights : Int))).setCell ⟨w.heap.size, 4, none⟩ (.bool X.all)).setCell ⟨w.heap.size, 5, none⟩ (.slice p1 X.ints.length c1')).setCell ⟨w.heap.size, 6, none⟩ (.int .i64 X.fc)).setCell ⟨w.heap.size, 7, none⟩ (.slice q1 M.length d1)).cell? ⟨w.heap.size, 1, none⟩ = some (.int .i64 d0) := hX2.cell 1 rfl
  have z2 : ((((((((w1.setCell ⟨w.heap.size, 0, none⟩ (.int .i64 k0)).setCell ⟨w.heap.size, 1, none⟩ (.int .i64 d0)).setCell ⟨w.heap.size, 2, none⟩ (.int .i64 X.file)).setCell ⟨w.heap.size, 3, none⟩ (.int .u32 (X.rights : Int))).setCell ⟨w.heap.size, 4, none⟩ (.bool X.all)).setCell ⟨w.heap.size, 5, none⟩ (.slice p1 X.ints.length c1')).setCell ⟨w.heap.size, 6, none⟩ (.int .i64 X.fc)).setCell ⟨w.heap.size, 7, none⟩ (.slice q1 M.length d1)).cell? ⟨w.heap.size, 2, none⟩ = some (.int .i64 X.file) := hX2.cell 2 rfl
  have z3 : ((((((((w1.setCell ⟨w.heap.size, 0, none⟩ (.int .i64 k0)).setCell ⟨w.heap.size, 1, none⟩ (.int .i64 d0)).setCell ⟨w.heap.size, 2, none⟩ (.int .i64 X.file)).setCell ⟨w.heap.size, 3, none⟩ (.int .u32 (X.rights : Int))).setCell ⟨w.heap.size, 4, none⟩ (.bool X.all)).setCell ⟨w.heap.size, 5, none⟩ (.slice p1 X.ints.length c1')).setCell ⟨w.heap.size, 6, none⟩ (.int .i64 X.fc)).setCell ⟨w.heap.size, 7, none⟩ (.slice q1 M.length d1)).cell? ⟨w.heap.size, 3, none⟩ = some (.int .u32 (X.rights : Int)) := hX2.cell 3 rfl
  have z4 : ((((((((w1.setCell ⟨w.heap.size, 0, none⟩ (.int .i64 k0)).setCell ⟨w.heap.size, 1, none⟩ (.int .i64 d0)).setCell ⟨w.heap.size, 2, none⟩ (.int .i64 X.file)).setCell ⟨w.heap.size, 3, none⟩ (.int .u32 (X.rights : Int))).setCell ⟨w.heap.size, 4, none⟩ (.bool X.all)).setCell ⟨w.heap.size, 5, none⟩ (.slice p1 X.ints.length c1')).setCell ⟨w.heap.size, 6, none⟩ (.int .i64 X.fc)).setCell ⟨w.heap.size, 7, none⟩ (.slice q1 M.length d1)).cell? ⟨w.heap.size, 4, none⟩ = some (.bool X.all) := hX2.cell 4 rfl
  have z5 : ((((((((w1.setCell ⟨w.heap.size, 0, none⟩ (.int .i64 k0)).setCell ⟨w.heap.size, 1, none⟩ (.int .i64 d0)).setCell ⟨w.heap.size, 2, none⟩ (.int .i64 X.file)).setCell ⟨w.heap.size, 3, none⟩ (.int .u32 (X.rights : Int))).setCell ⟨w.heap.size, 4, none⟩ (.bool X.all)).setCell ⟨w.heap.size, 5, none⟩ (.slice p1 X.ints.length c1')).setCell ⟨w.heap.size, 6, none⟩ (.int .i64 X.fc)).setCell ⟨w.heap.size, 7, none⟩ (.slice q1 M.length d1)).cell? ⟨w.heap.size, 5, none⟩ = some (.slice p1 X.ints.length c1') := hX2.cell 5 rfl
  have z6 : ((((((((w1.setCell ⟨w.heap.size, 0, none⟩ (.int .i64 k0)).setCell ⟨w.heap.size, 1, none⟩ (.int .i64 d0)).setCell ⟨w.heap.size, 2, none⟩ (.int .i64 X.file)).setCell ⟨w.heap.size, 3, none⟩ (.int .u32 (X.rights : Int))).setCell ⟨w.heap.size, 4, none⟩ (.bool X.all)).setCell ⟨w.heap.size, 5, none⟩ (.slice p1 X.ints.length c1')).setCell ⟨w.heap.size, 6, none⟩ (.int .i64 X.fc)).setCell ⟨w.heap.size, 7, none⟩ (.slice q1 M.length d1)).cell? ⟨w.heap.size, 6, none⟩ = some (.int .i64 X.fc) := hX2.cell 6 rfl
  have z7 : ((((((((w1.setCell ⟨w.heap.size, 0, none⟩ (.int .i64 k0)).setCell ⟨w.heap.size, 1, none⟩ (.int .i64 d0)).setCell ⟨w.heap.size, 2, none⟩ (.int .i64 X.file)).setCell ⟨w.heap.size, 3, none⟩ (.int .u32 (X.rights : Int))).setCell ⟨w.heap.size, 4, none⟩ (.bool X.all)).setCell ⟨w.heap.size, 5, none⟩ (.slice p1 X.ints.length c1')).setCell ⟨w.heap.size, 6, none⟩ (.int .i64 X.fc)).setCell ⟨w.heap.size, 7, none⟩ (.slice q1 M.length d1)).cell? ⟨w.heap.size, 7, none⟩ = some (.slice q1 M.length d1) := hX2.cell 7 rfl
  have HW2 : Hid _ := hX2
  have HB2 : Hid _ := hB2
  have HL2 : Hid _ := (⟨ha2, hm2⟩ : W.AtF _ _ _ _ ∧ W.AtF _ _ _ _)
  have HS0 : Hid (w.heap.size < w0.heap.size) := hs0
  clear c1 HX0 HB0 hb1 ha1 hm1 hX1 hX2 hU1 hs0 hB2 ha2 hm2 x0 x1 x2 x3 x4 x5 x6 x7
  go_wp2_with fail
  refine cO2.mono ?_
  generalize ((((((((w1.setCell ⟨w.heap.size, 0, none⟩ (.int .i64 k0)).setCell ⟨w.heap.size, 1, none⟩ (.int .i64 d0)).setCell ⟨w.heap.size, 2, none⟩ (.int .i64 X.file)).setCell ⟨w.heap.size, 3, none⟩ (.int .u32 (X.rights : Int))).setCell ⟨w.heap.size, 4, none⟩ (.bool X.all)).setCell ⟨w.heap.size, 5, none⟩ (.slice p1 X.ints.length c1')).setCell ⟨w.heap.size, 6, none⟩ (.int .i64 X.fc)).setCell ⟨w.heap.size, 7, none⟩ (.slice q1 M.length d1)) = w2 at *
  rintro e w3 ⟨hb3, p3, c3, q3, d3, rfl, ha3, hm3⟩
  have hal := on_alloc w3 (.cells #[.int .i64 k0, .int .i64 d0, .int .i64 X.file, .int .u32 (X.rights : Int), .bool X.all, .slice p3 X.ints.length c3, .int .i64 X.fc, .slice q3 M.length d3] 36)
  have hPre : Pre D F w tb (.slice sp S.length sc) S w.heap.size w3.heap.size k0 d0 X M p1 c1' q1 d1 p3 c3 q3 d3 (w3.alloc (.cells #[.int .i64 k0, .int .i64 d0, .int .i64 X.file, .int .u32 (X.rights : Int), .bool X.all, .slice p3 X.ints.length c3, .int .i64 X.fc, .slice q3 M.length d3] 36)) := by
    obtain ⟨t1, t2, t3, _, _⟩ := HT.out
    have hbb := on_trans (on_trans HB2.out hb3) hal
    have hsz := HB2.out.size
    have hsz3 := hb3.size
    have hlow : ∀ j, D j → j < w0.heap.size + 2 := fun j hj => by have := t3 j hj; have := HS0.out; omega
    refine ⟨t1.on hbb, t2.on hbb, t3.on hbb, hbb, (HW2.out.on hb3).on hal, Blk.new w3 _ (acC k0 d0 X (.slice p3 X.ints.length c3) (.slice q3 M.length d3)), (IntD.of (HL2.out.1.on (on_trans hb3 hal)) hlow), (IntD.of (HL2.out.2.on (on_trans hb3 hal)) hlow), IntD.of (ha3.on hal) (fun j hj => ?_), IntD.of (hm3.on hal) (fun j hj => ?_), fun h7 => ?_, fun h7 => ?_, HXL.out.1, HXL.out.2.1, fun j hj => (t1.sub j hj).2⟩
    · have := t3 j hj; omega
    · have := t3 j hj; omega
    · have := (t1.sub _ h7).2; omega
    · have := (t1.sub _ h7).2; omega
  have HPre : Hid _ := hPre
  have a0 := hPre.a.cell 0 rfl
  have HSF : Hid (Fits S ∧ S.length ≤ 64) := HT.out.2.2.2
  clear HW2 HB2 HL2 HS0 hb3 ha3 hm3 hal hPre cO2 HT f0 f1 f2 f3 f4 f5 f6 f7 y0 y1 y2 y3 y4 y5 y6 y7 z0 z1 z2 z3 z4 z5 z6 z7
  have a1 := HPre.out.a.cell 1 rfl
  have a7 := HPre.out.a.cell 7 rfl
  have b1 := HPre.out.b.cell 1 rfl
  have b7 := HPre.out.b.cell 7 rfl
  have cR := rio_any HPre.out.row HSF.out.1 HPre.out.lt HSF.out.2 d0 q1 M d1 HPre.out.am.at.1 (by have := HXL.out.2.1; omega)
  clear a0
  have a0 := HPre.out.a.cell 0 rfl
  go_wp2_with fail
  refine cR.mono ?_
  rintro e w5 ⟨v5, rfl, hr5, hb5⟩
  have HPre5 : Hid _ := HPre.out.on hb5
  have HR5 : Hid _ := hr5
  have cT := io_any HPre5.out.tab HSF.out.1 HPre5.out.lt d0 q3 M d3 HPre5.out.bm.at.1 (by have := HXL.out.2.1; omega)
  have g1 := HPre5.out.b.cell 1 rfl
  have g7 := HPre5.out.b.cell 7 rfl
  clear hr5 hb5 HPre cR a0 a1 a7 b1 b7
  generalize hE : ioE S d0 M = E at *
  clear hE
  have zE : (E == E) = true := beq_self_eq_true _
  go_wp2_with fail
  refine cT.mono ?_
  rintro e w6 ⟨rfl, F6, ht6, hg6⟩
  have hA := HPre5.out.aft ht6 hg6
  have HZ : Hid _ := HP.out F6 v5 w6 ht6 (RowAt.goes HR5.out hg6 fun j hj => (HPre5.out.tab.sub j hj).1) hA.goes
  clear HP HPre5 HR5 hA ht6 hg6 cT
  go_wp2
  exact HZ.out
set_option maxRecDepth 100000 in
set_option maxHeartbeats 400000 in
theorem does_fc {D F : Nat → Prop} {w : World} {tb : Nat} {v : Value} {S : List Sl} (h : TabAt D F w tb S) (hr : RowAt D w v S) (hD : Lt D w) (hS : Fits S) (hl : S.length ≤ 64) (k0 d0 : Int) (x : Sl) (p q : Option Addr) (c d : Nat) (m : List Int) (hp : W.At w p x.ints) (hq : W.At w q m) (hpc : x.ints.length ≤ c) (hqd : m.length ≤ d) (hxr : x.rights < 4294967296) (hk : k0 = 5) :
    Calls Try.prog 9 #[ptr tb, v, .agg (acC k0 d0 x (.slice p x.ints.length c) (.slice q m.length d)).toArray] w (DPost D F tb w (doX S k0 d0 (withI x (cut x.ints)) (cut m))) := by
  change Calls Try.prog 9 #[ptr tb, v, .agg #[.int .i64 k0, .int .i64 d0, .int .i64 x.file, .int .u32 (x.rights : Int), .bool x.all, .slice p x.ints.length c, .int .i64 x.fc, .slice q m.length d]] w _
  have k1 : (k0 == 1) = false := by simp; omega
  have k2 : (k0 == 2) = false := by simp; omega
  have k3 : (k0 == 3) = false := by simp; omega
  have k4 : (k0 == 4) = false := by simp; omega
  have k5 : (k0 == 5) = true := by simpa using hk
  have c1 := own_any k0 d0 x p q c d m (w.alloc (.cells #[.int .i64 k0, .int .i64 d0, .int .i64 x.file, .int .u32 (x.rights : Int), .bool x.all, .slice p x.ints.length c, .int .i64 x.fc, .slice q m.length d] 36)) (hp.on (on_alloc w _)) (hq.on (on_alloc w _)) hpc hqd
  change Calls Try.prog 19 #[.agg #[.int .i64 k0, .int .i64 d0, .int .i64 x.file, .int .u32 (x.rights : Int), .bool x.all, .slice p x.ints.length c, .int .i64 x.fc, .slice q m.length d]] _ _ at c1
  have HB0 : Hid (Below w.heap.size w (w.alloc (.cells #[.int .i64 k0, .int .i64 d0, .int .i64 x.file, .int .u32 (x.rights : Int), .bool x.all, .slice p x.ints.length c, .int .i64 x.fc, .slice q m.length d] 36))) := on_alloc w _
  have hX0 : Blk (w.alloc (.cells #[.int .i64 k0, .int .i64 d0, .int .i64 x.file, .int .u32 (x.rights : Int), .bool x.all, .slice p x.ints.length c, .int .i64 x.fc, .slice q m.length d] 36)) w.heap.size 36 (acC k0 d0 x (.slice p x.ints.length c) (.slice q m.length d)) := Blk.new w _ (acC k0 d0 x (.slice p x.ints.length c) (.slice q m.length d))
  have x0 := hX0.cell 0 rfl
  have x1 := hX0.cell 1 rfl
  have x2 := hX0.cell 2 rfl
  have x3 := hX0.cell 3 rfl
  have x4 := hX0.cell 4 rfl
  have x5 := hX0.cell 5 rfl
  have x6 := hX0.cell 6 rfl
  have x7 := hX0.cell 7 rfl
  have HX0 : Hid _ := hX0
  have HT : Hid (TabAt D F w tb S ∧ RowAt D w v S ∧ Lt D w ∧ Fits S ∧ S.length ≤ 64) := ⟨h, hr, hD, hS, hl⟩
  unfold OwnPost at c1
  have HXL : Hid ((withI x (cut x.ints)).ints.length ≤ 50 ∧ (cut m).length ≤ 50 ∧ (withI x (cut x.ints)).rights < 4294967296) := ⟨cut_len _, cut_len _, hxr⟩
  change Calls _ _ _ _ (fun e w' => Below (w.alloc (.cells #[.int .i64 k0, .int .i64 d0, .int .i64 x.file, .int .u32 (x.rights : Int), .bool x.all, .slice p x.ints.length c, .int .i64 x.fc, .slice q m.length d] 36)).heap.size (w.alloc (.cells #[.int .i64 k0, .int .i64 d0, .int .i64 x.file, .int .u32 (x.rights : Int), .bool x.all, .slice p x.ints.length c, .int .i64 x.fc, .slice q m.length d] 36)) w' ∧ ∃ p' c' q' d', e = .returned (.agg #[.int .i64 k0, .int .i64 d0, .int .i64 (withI x (cut x.ints)).file, .int .u32 ((withI x (cut x.ints)).rights : Int), .bool (withI x (cut x.ints)).all, .slice p' (withI x (cut x.ints)).ints.length c', .int .i64 (withI x (cut x.ints)).fc, .slice q' (cut m).length d']) ∧ W.AtF ((w.alloc (.cells #[.int .i64 k0, .int .i64 d0, .int .i64 x.file, .int .u32 (x.rights : Int), .bool x.all, .slice p x.ints.length c, .int .i64 x.fc, .slice q m.length d] 36)).heap.size + 2) w' p' (withI x (cut x.ints)).ints ∧ W.AtF ((w.alloc (.cells #[.int .i64 k0, .int .i64 d0, .int .i64 x.file, .int .u32 (x.rights : Int), .bool x.all, .slice p x.ints.length c, .int .i64 x.fc, .slice q m.length d] 36)).heap.size + 2) w' q' (cut m)) at c1
  generalize withI x (cut x.ints) = X at *
  generalize cut m = M at *
  have hdo : doX S k0 d0 X M = fcS S d0 X.fc := by unfold doX; subst hk; rfl
  rw [hdo]
  clear hdo
  have HP : Hid (∀ F' v' w', TabAt (Or D F') F' w' tb (fcS S d0 X.fc) → RowAt (Or D F') w' v' (fcS S d0 X.fc) → Goes F F' w w' → DPost D F tb w (fcS S d0 X.fc) (.returned (.tuple #[v', .bool true])) w') := fun F' v' w' h1 h2 h3 => ⟨F', v', rfl, h1, h2, h3⟩
  generalize DPost D F tb w (fcS S d0 X.fc) = Post at *
  clear hk
  obtain ⟨sp, sc, hv⟩ := hr.slice
  subst hv
  clear h hr hD hS hp hq hX0
  go_enter Try.func9, Try.ntmps9
  go_wp2_with fail
  generalize w.alloc (.cells #[.int .i64 k0, .int .i64 d0, .int .i64 x.file, .int .u32 (x.rights : Int), .bool x.all, .slice p x.ints.length c, .int .i64 x.fc, .slice q m.length d] 36) = w0 at *
  refine c1.mono ?_
  rintro e w1 ⟨hb1, p1, c1', q1, d1, rfl, ha1, hm1⟩
  have hX1 := HX0.out.on hb1
  have f0 := hX1.free 0
  have f1 := hX1.free 1
  have f2 := hX1.free 2
  have f3 := hX1.free 3
  have f4 := hX1.free 4
  have f5 := hX1.free 5
  have f6 := hX1.free 6
  have f7 := hX1.free 7
  have y0 := hX1.cell 0 rfl
  have y1 := hX1.cell 1 rfl
  have y2 := hX1.cell 2 rfl
  have y3 := hX1.cell 3 rfl
  have y4 := hX1.cell 4 rfl
  have y5 := hX1.cell 5 rfl
  have y6 := hX1.cell 6 rfl
  have y7 := hX1.cell 7 rfl
  have hX2 : Blk ((((((((w1.setCell ⟨w.heap.size, 0, none⟩ (.int .i64 k0)).setCell ⟨w.heap.size, 1, none⟩ (.int .i64 d0)).setCell ⟨w.heap.size, 2, none⟩ (.int .i64 X.file)).setCell ⟨w.heap.size, 3, none⟩ (.int .u32 (X.rights : Int))).setCell ⟨w.heap.size, 4, none⟩ (.bool X.all)).setCell ⟨w.heap.size, 5, none⟩ (.slice p1 X.ints.length c1')).setCell ⟨w.heap.size, 6, none⟩ (.int .i64 X.fc)).setCell ⟨w.heap.size, 7, none⟩ (.slice q1 M.length d1)) w.heap.size 36 (acC k0 d0 X (.slice p1 X.ints.length c1') (.slice q1 M.length d1)) := hX1.put (acC k0 d0 X (.slice p1 X.ints.length c1') (.slice q1 M.length d1)) rfl
  have hU1 : But w.heap.size w1 ((((((((w1.setCell ⟨w.heap.size, 0, none⟩ (.int .i64 k0)).setCell ⟨w.heap.size, 1, none⟩ (.int .i64 d0)).setCell ⟨w.heap.size, 2, none⟩ (.int .i64 X.file)).setCell ⟨w.heap.size, 3, none⟩ (.int .u32 (X.rights : Int))).setCell ⟨w.heap.size, 4, none⟩ (.bool X.all)).setCell ⟨w.heap.size, 5, none⟩ (.slice p1 X.ints.length c1')).setCell ⟨w.heap.size, 6, none⟩ (.int .i64 X.fc)).setCell ⟨w.heap.size, 7, none⟩ (.slice q1 M.length d1)) := but_putL w.heap.size (acC k0 d0 X (.slice p1 X.ints.length c1') (.slice q1 M.length d1)) w1 0
  have hs0 := HX0.out.lt
  have hB2 := below_but (on_trans HB0.out hb1) hU1 (Nat.le_refl _)
  have ha2 := W.atF_ints.2 ((W.atF_ints.1 ha1).but hU1 (by omega))
  have hm2 := W.atF_ints.2 ((W.atF_ints.1 hm1).but hU1 (by omega))
  have cO2 := own_short k0 d0 X p1 q1 c1' d1 M _ ha2.at hm2.at HXL.out.1 HXL.out.2.1
  change Calls Try.prog 19 #[.agg #[.int .i64 k0, .int .i64 d0, .int .i64 X.file, .int .u32 (X.rights : Int), .bool X.all, .slice p1 X.ints.length c1', .int .i64 X.fc, .slice q1 M.length d1]] ((((((((w1.setCell ⟨w.heap.size, 0, none⟩ (.int .i64 k0)).setCell ⟨w.heap.size, 1, none⟩ (.int .i64 d0)).setCell ⟨w.heap.size, 2, none⟩ (.int .i64 X.file)).setCell ⟨w.heap.size, 3, none⟩ (.int .u32 (X.rights : Int))).setCell ⟨w.heap.size, 4, none⟩ (.bool X.all)).setCell ⟨w.heap.size, 5, none⟩ (.slice p1 X.ints.length c1')).setCell ⟨w.heap.size, 6, none⟩ (.int .i64 X.fc)).setCell ⟨w.heap.size, 7, none⟩ (.slice q1 M.length d1)) (fun e w' => Below ((((((((w1.setCell ⟨w.heap.size, 0, none⟩ (.int .i64 k0)).setCell ⟨w.heap.size, 1, none⟩ (.int .i64 d0)).setCell ⟨w.heap.size, 2, none⟩ (.int .i64 X.file)).setCell ⟨w.heap.size, 3, none⟩ (.int .u32 (X.rights : Int))).setCell ⟨w.heap.size, 4, none⟩ (.bool X.all)).setCell ⟨w.heap.size, 5, none⟩ (.slice p1 X.ints.length c1')).setCell ⟨w.heap.size, 6, none⟩ (.int .i64 X.fc)).setCell ⟨w.heap.size, 7, none⟩ (.slice q1 M.length d1)).heap.size ((((((((w1.setCell ⟨w.heap.size, 0, none⟩ (.int .i64 k0)).setCell ⟨w.heap.size, 1, none⟩ (.int .i64 d0)).setCell ⟨w.heap.size, 2, none⟩ (.int .i64 X.file)).setCell ⟨w.heap.size, 3, none⟩ (.int .u32 (X.rights : Int))).setCell ⟨w.heap.size, 4, none⟩ (.bool X.all)).setCell ⟨w.heap.size, 5, none⟩ (.slice p1 X.ints.length c1')).setCell ⟨w.heap.size, 6, none⟩ (.int .i64 X.fc)).setCell ⟨w.heap.size, 7, none⟩ (.slice q1 M.length d1)) w' ∧ ∃ p c p' c', e = .returned (.agg #[.int .i64 k0, .int .i64 d0, .int .i64 X.file, .int .u32 (X.rights : Int), .bool X.all, .slice p X.ints.length c, .int .i64 X.fc, .slice p' M.length c']) ∧ W.AtF (((((((((w1.setCell ⟨w.heap.size, 0, none⟩ (.int .i64 k0)).setCell ⟨w.heap.size, 1, none⟩ (.int .i64 d0)).setCell ⟨w.heap.size, 2, none⟩ (.int .i64 X.file)).setCell ⟨w.heap.size, 3, none⟩ (.int .u32 (X.rights : Int))).setCell ⟨w.heap.size, 4, none⟩ (.bool X.all)).setCell ⟨w.heap.size, 5, none⟩ (.slice p1 X.ints.length c1')).setCell ⟨w.heap.size, 6, none⟩ (.int .i64 X.fc)).setCell ⟨w.heap.size, 7, none⟩ (.slice q1 M.length d1)).heap.size + 2) w' p X.ints ∧ W.AtF (((((((((w1.setCell ⟨w.heap.size, 0, none⟩ (.int .i64 k0)).setCell ⟨w.heap.size, 1, none⟩ (.int .i64 d0)).setCell ⟨w.heap.size, 2, none⟩ (.int .i64 X.file)).setCell ⟨w.heap.size, 3, none⟩ (.int .u32 (X.rights : Int))).setCell ⟨w.heap.size, 4, none⟩ (.bool X.all)).setCell ⟨w.heap.size, 5, none⟩ (.slice p1 X.ints.length c1')).setCell ⟨w.heap.size, 6, none⟩ (.int .i64 X.fc)).setCell ⟨w.heap.size, 7, none⟩ (.slice q1 M.length d1)).heap.size + 2) w' p' M) at cO2
  have z0 : ((((((((w1.setCell ⟨w.heap.size, 0, none⟩ (.int .i64 k0)).setCell ⟨w.heap.size, 1, none⟩ (.int .i64 d0)).setCell ⟨w.heap.size, 2, none⟩ (.int .i64 X.file)).setCell ⟨w.heap.size, 3, none⟩ (.int .u32 (X.rights : Int))).setCell ⟨w.heap.size, 4, none⟩ (.bool X.all)).setCell ⟨w.heap.size, 5, none⟩ (.slice p1 X.ints.length c1')).setCell ⟨w.heap.size, 6, none⟩ (.int .i64 X.fc)).setCell ⟨w.heap.size, 7, none⟩ (.slice q1 M.length d1)).cell? ⟨w.heap.size, 0, none⟩ = some (.int .i64 k0) := hX2.cell 0 rfl
  have z1 : ((((((((w1.setCell ⟨w.heap.size, 0, none⟩ (.int .i64 k0)).setCell ⟨w.heap.size, 1, none⟩ (.int .i64 d0)).setCell ⟨w.heap.size, 2, none⟩ (.int .i64 X.file)).setCell ⟨w.heap.size, 3, none⟩ (.int .u32 (X.rights : Int))).setCell ⟨w.heap.size, 4, none⟩ (.bool X.all)).setCell ⟨w.heap.size, 5, none⟩ (.slice p1 X.ints.length c1')).setCell ⟨w.heap.size, 6, none⟩ (.int .i64 X.fc)).setCell ⟨w.heap.size, 7, none⟩ (.slice q1 M.length d1)).cell? ⟨w.heap.size, 1, none⟩ = some (.int .i64 d0) := hX2.cell 1 rfl
  have z2 : ((((((((w1.setCell ⟨w.heap.size, 0, none⟩ (.int .i64 k0)).setCell ⟨w.heap.size, 1, none⟩ (.int .i64 d0)).setCell ⟨w.heap.size, 2, none⟩ (.int .i64 X.file)).setCell ⟨w.heap.size, 3, none⟩ (.int .u32 (X.rights : Int))).setCell ⟨w.heap.size, 4, none⟩ (.bool X.all)).setCell ⟨w.heap.size, 5, none⟩ (.slice p1 X.ints.length c1')).setCell ⟨w.heap.size, 6, none⟩ (.int .i64 X.fc)).setCell ⟨w.heap.size, 7, none⟩ (.slice q1 M.length d1)).cell? ⟨w.heap.size, 2, none⟩ = some (.int .i64 X.file) := hX2.cell 2 rfl
  have z3 : ((((((((w1.setCell ⟨w.heap.size, 0, none⟩ (.int .i64 k0)).setCell ⟨w.heap.size, 1, none⟩ (.int .i64 d0)).setCell ⟨w.heap.size, 2, none⟩ (.int .i64 X.file)).setCell ⟨w.heap.size, 3, none⟩ (.int .u32 (X.rights : Int))).setCell ⟨w.heap.size, 4, none⟩ (.bool X.all)).setCell ⟨w.heap.size, 5, none⟩ (.slice p1 X.ints.length c1')).setCell ⟨w.heap.size, 6, none⟩ (.int .i64 X.fc)).setCell ⟨w.heap.size, 7, none⟩ (.slice q1 M.length d1)).cell? ⟨w.heap.size, 3, none⟩ = some (.int .u32 (X.rights : Int)) := hX2.cell 3 rfl
  have z4 : ((((((((w1.setCell ⟨w.heap.size, 0, none⟩ (.int .i64 k0)).setCell ⟨w.heap.size, 1, none⟩ (.int .i64 d0)).setCell ⟨w.heap.size, 2, none⟩ (.int .i64 X.file)).setCell ⟨w.heap.size, 3, none⟩ (.int .u32 (X.rights : Int))).setCell ⟨w.heap.size, 4, none⟩ (.bool X.all)).setCell ⟨w.heap.size, 5, none⟩ (.slice p1 X.ints.length c1')).setCell ⟨w.heap.size, 6, none⟩ (.int .i64 X.fc)).setCell ⟨w.heap.size, 7, none⟩ (.slice q1 M.length d1)).cell? ⟨w.heap.size, 4, none⟩ = some (.bool X.all) := hX2.cell 4 rfl
  have z5 : ((((((((w1.setCell ⟨w.heap.size, 0, none⟩ (.int .i64 k0)).setCell ⟨w.heap.size, 1, none⟩ (.int .i64 d0)).setCell ⟨w.heap.size, 2, none⟩ (.int .i64 X.file)).setCell ⟨w.heap.size, 3, none⟩ (.int .u32 (X.rights : Int))).setCell ⟨w.heap.size, 4, none⟩ (.bool X.all)).setCell ⟨w.heap.size, 5, none⟩ (.slice p1 X.ints.length c1')).setCell ⟨w.heap.size, 6, none⟩ (.int .i64 X.fc)).setCell ⟨w.heap.size, 7, none⟩ (.slice q1 M.length d1)).cell? ⟨w.heap.size, 5, none⟩ = some (.slice p1 X.ints.length c1') := hX2.cell 5 rfl
  have z6 : ((((((((w1.setCell ⟨w.heap.size, 0, none⟩ (.int .i64 k0)).setCell ⟨w.heap.size, 1, none⟩ (.int .i64 d0)).setCell ⟨w.heap.size, 2, none⟩ (.int .i64 X.file)).setCell ⟨w.heap.size, 3, none⟩ (.int .u32 (X.rights : Int))).setCell ⟨w.heap.size, 4, none⟩ (.bool X.all)).setCell ⟨w.heap.size, 5, none⟩ (.slice p1 X.ints.length c1')).setCell ⟨w.heap.size, 6, none⟩ (.int .i64 X.fc)).setCell ⟨w.heap.size, 7, none⟩ (.slice q1 M.length d1)).cell? ⟨w.heap.size, 6, none⟩ = some (.int .i64 X.fc) := hX2.cell 6 rfl
  have z7 : ((((((((w1.setCell ⟨w.heap.size, 0, none⟩ (.int .i64 k0)).setCell ⟨w.heap.size, 1, none⟩ (.int .i64 d0)).setCell ⟨w.heap.size, 2, none⟩ (.int .i64 X.file)).setCell ⟨w.heap.size, 3, none⟩ (.int .u32 (X.rights : Int))).setCell ⟨w.heap.size, 4, none⟩ (.bool X.all)).setCell ⟨w.heap.size, 5, none⟩ (.slice p1 X.ints.length c1')).setCell ⟨w.heap.size, 6, none⟩ (.int .i64 X.fc)).setCell ⟨w.heap.size, 7, none⟩ (.slice q1 M.length d1)).cell? ⟨w.heap.size, 7, none⟩ = some (.slice q1 M.length d1) := hX2.cell 7 rfl
  have HW2 : Hid _ := hX2
  have HB2 : Hid _ := hB2
  have HL2 : Hid _ := (⟨ha2, hm2⟩ : W.AtF _ _ _ _ ∧ W.AtF _ _ _ _)
  have HS0 : Hid (w.heap.size < w0.heap.size) := hs0
  clear c1 HX0 HB0 hb1 ha1 hm1 hX1 hX2 hU1 hs0 hB2 ha2 hm2 x0 x1 x2 x3 x4 x5 x6 x7
  go_wp2_with fail
  refine cO2.mono ?_
  generalize ((((((((w1.setCell ⟨w.heap.size, 0, none⟩ (.int .i64 k0)).setCell ⟨w.heap.size, 1, none⟩ (.int .i64 d0)).setCell ⟨w.heap.size, 2, none⟩ (.int .i64 X.file)).setCell ⟨w.heap.size, 3, none⟩ (.int .u32 (X.rights : Int))).setCell ⟨w.heap.size, 4, none⟩ (.bool X.all)).setCell ⟨w.heap.size, 5, none⟩ (.slice p1 X.ints.length c1')).setCell ⟨w.heap.size, 6, none⟩ (.int .i64 X.fc)).setCell ⟨w.heap.size, 7, none⟩ (.slice q1 M.length d1)) = w2 at *
  rintro e w3 ⟨hb3, p3, c3, q3, d3, rfl, ha3, hm3⟩
  have hal := on_alloc w3 (.cells #[.int .i64 k0, .int .i64 d0, .int .i64 X.file, .int .u32 (X.rights : Int), .bool X.all, .slice p3 X.ints.length c3, .int .i64 X.fc, .slice q3 M.length d3] 36)
  have hPre : Pre D F w tb (.slice sp S.length sc) S w.heap.size w3.heap.size k0 d0 X M p1 c1' q1 d1 p3 c3 q3 d3 (w3.alloc (.cells #[.int .i64 k0, .int .i64 d0, .int .i64 X.file, .int .u32 (X.rights : Int), .bool X.all, .slice p3 X.ints.length c3, .int .i64 X.fc, .slice q3 M.length d3] 36)) := by
    obtain ⟨t1, t2, t3, _, _⟩ := HT.out
    have hbb := on_trans (on_trans HB2.out hb3) hal
    have hsz := HB2.out.size
    have hsz3 := hb3.size
    have hlow : ∀ j, D j → j < w0.heap.size + 2 := fun j hj => by have := t3 j hj; have := HS0.out; omega
    refine ⟨t1.on hbb, t2.on hbb, t3.on hbb, hbb, (HW2.out.on hb3).on hal, Blk.new w3 _ (acC k0 d0 X (.slice p3 X.ints.length c3) (.slice q3 M.length d3)), (IntD.of (HL2.out.1.on (on_trans hb3 hal)) hlow), (IntD.of (HL2.out.2.on (on_trans hb3 hal)) hlow), IntD.of (ha3.on hal) (fun j hj => ?_), IntD.of (hm3.on hal) (fun j hj => ?_), fun h7 => ?_, fun h7 => ?_, HXL.out.1, HXL.out.2.1, fun j hj => (t1.sub j hj).2⟩
    · have := t3 j hj; omega
    · have := t3 j hj; omega
    · have := (t1.sub _ h7).2; omega
    · have := (t1.sub _ h7).2; omega
  have HPre : Hid _ := hPre
  have a0 := hPre.a.cell 0 rfl
  have HSF : Hid (Fits S ∧ S.length ≤ 64) := HT.out.2.2.2
  clear HW2 HB2 HL2 HS0 hb3 ha3 hm3 hal hPre cO2 HT f0 f1 f2 f3 f4 f5 f6 f7 y0 y1 y2 y3 y4 y5 y6 y7 z0 z1 z2 z3 z4 z5 z6 z7
  have a1 := HPre.out.a.cell 1 rfl
  have a6 := HPre.out.a.cell 6 rfl
  have b1 := HPre.out.b.cell 1 rfl
  have b6 := HPre.out.b.cell 6 rfl
  have cR := rfc_any HPre.out.row HSF.out.1 HPre.out.lt HSF.out.2 d0 X.fc
  clear a0
  have a0 := HPre.out.a.cell 0 rfl
  go_wp2_with fail
  refine cR.mono ?_
  rintro e w5 ⟨v5, rfl, hr5, hb5⟩
  have HPre5 : Hid _ := HPre.out.on hb5
  have HR5 : Hid _ := hr5
  have cT := fc_any HPre5.out.tab HSF.out.1 d0 X.fc
  have g1 := HPre5.out.b.cell 1 rfl
  have g6 := HPre5.out.b.cell 6 rfl
  clear hr5 hb5 HPre cR a0 a1 a6 b1 b6
  generalize hE : fcE S d0 X.fc = E at *
  clear hE
  have zE : (E == E) = true := beq_self_eq_true _
  go_wp2_with fail
  refine cT.mono ?_
  rintro e w6 ⟨rfl, F6, ht6, hg6⟩
  have hA := HPre5.out.aft ht6 hg6
  have HZ : Hid _ := HP.out F6 v5 w6 ht6 (RowAt.goes HR5.out hg6 fun j hj => (HPre5.out.tab.sub j hj).1) hA.goes
  clear HP HPre5 HR5 hA ht6 hg6 cT
  go_wp2
  exact HZ.out
set_option maxRecDepth 100000 in
set_option maxHeartbeats 400000 in
theorem does_put {D F : Nat → Prop} {w : World} {tb : Nat} {v : Value} {S : List Sl} (h : TabAt D F w tb S) (hr : RowAt D w v S) (hD : Lt D w) (hS : Fits S) (hl : S.length ≤ 64) (k0 d0 : Int) (x : Sl) (p q : Option Addr) (c d : Nat) (m : List Int) (hp : W.At w p x.ints) (hq : W.At w q m) (hpc : x.ints.length ≤ c) (hqd : m.length ≤ d) (hxr : x.rights < 4294967296) (hk : k0 ≠ 1 ∧ k0 ≠ 2 ∧ k0 ≠ 3 ∧ k0 ≠ 4 ∧ k0 ≠ 5) :
    Calls Try.prog 9 #[ptr tb, v, .agg (acC k0 d0 x (.slice p x.ints.length c) (.slice q m.length d)).toArray] w (DPost D F tb w (doX S k0 d0 (withI x (cut x.ints)) (cut m))) := by
  change Calls Try.prog 9 #[ptr tb, v, .agg #[.int .i64 k0, .int .i64 d0, .int .i64 x.file, .int .u32 (x.rights : Int), .bool x.all, .slice p x.ints.length c, .int .i64 x.fc, .slice q m.length d]] w _
  have k1 : (k0 == 1) = false := by simp; omega
  have k2 : (k0 == 2) = false := by simp; omega
  have k3 : (k0 == 3) = false := by simp; omega
  have k4 : (k0 == 4) = false := by simp; omega
  have k5 : (k0 == 5) = false := by simp; omega
  have c1 := own_any k0 d0 x p q c d m (w.alloc (.cells #[.int .i64 k0, .int .i64 d0, .int .i64 x.file, .int .u32 (x.rights : Int), .bool x.all, .slice p x.ints.length c, .int .i64 x.fc, .slice q m.length d] 36)) (hp.on (on_alloc w _)) (hq.on (on_alloc w _)) hpc hqd
  change Calls Try.prog 19 #[.agg #[.int .i64 k0, .int .i64 d0, .int .i64 x.file, .int .u32 (x.rights : Int), .bool x.all, .slice p x.ints.length c, .int .i64 x.fc, .slice q m.length d]] _ _ at c1
  have HB0 : Hid (Below w.heap.size w (w.alloc (.cells #[.int .i64 k0, .int .i64 d0, .int .i64 x.file, .int .u32 (x.rights : Int), .bool x.all, .slice p x.ints.length c, .int .i64 x.fc, .slice q m.length d] 36))) := on_alloc w _
  have hX0 : Blk (w.alloc (.cells #[.int .i64 k0, .int .i64 d0, .int .i64 x.file, .int .u32 (x.rights : Int), .bool x.all, .slice p x.ints.length c, .int .i64 x.fc, .slice q m.length d] 36)) w.heap.size 36 (acC k0 d0 x (.slice p x.ints.length c) (.slice q m.length d)) := Blk.new w _ (acC k0 d0 x (.slice p x.ints.length c) (.slice q m.length d))
  have x0 := hX0.cell 0 rfl
  have x1 := hX0.cell 1 rfl
  have x2 := hX0.cell 2 rfl
  have x3 := hX0.cell 3 rfl
  have x4 := hX0.cell 4 rfl
  have x5 := hX0.cell 5 rfl
  have x6 := hX0.cell 6 rfl
  have x7 := hX0.cell 7 rfl
  have HX0 : Hid _ := hX0
  have HT : Hid (TabAt D F w tb S ∧ RowAt D w v S ∧ Lt D w ∧ Fits S ∧ S.length ≤ 64) := ⟨h, hr, hD, hS, hl⟩
  unfold OwnPost at c1
  have HXL : Hid ((withI x (cut x.ints)).ints.length ≤ 50 ∧ (cut m).length ≤ 50 ∧ (withI x (cut x.ints)).rights < 4294967296) := ⟨cut_len _, cut_len _, hxr⟩
  change Calls _ _ _ _ (fun e w' => Below (w.alloc (.cells #[.int .i64 k0, .int .i64 d0, .int .i64 x.file, .int .u32 (x.rights : Int), .bool x.all, .slice p x.ints.length c, .int .i64 x.fc, .slice q m.length d] 36)).heap.size (w.alloc (.cells #[.int .i64 k0, .int .i64 d0, .int .i64 x.file, .int .u32 (x.rights : Int), .bool x.all, .slice p x.ints.length c, .int .i64 x.fc, .slice q m.length d] 36)) w' ∧ ∃ p' c' q' d', e = .returned (.agg #[.int .i64 k0, .int .i64 d0, .int .i64 (withI x (cut x.ints)).file, .int .u32 ((withI x (cut x.ints)).rights : Int), .bool (withI x (cut x.ints)).all, .slice p' (withI x (cut x.ints)).ints.length c', .int .i64 (withI x (cut x.ints)).fc, .slice q' (cut m).length d']) ∧ W.AtF ((w.alloc (.cells #[.int .i64 k0, .int .i64 d0, .int .i64 x.file, .int .u32 (x.rights : Int), .bool x.all, .slice p x.ints.length c, .int .i64 x.fc, .slice q m.length d] 36)).heap.size + 2) w' p' (withI x (cut x.ints)).ints ∧ W.AtF ((w.alloc (.cells #[.int .i64 k0, .int .i64 d0, .int .i64 x.file, .int .u32 (x.rights : Int), .bool x.all, .slice p x.ints.length c, .int .i64 x.fc, .slice q m.length d] 36)).heap.size + 2) w' q' (cut m)) at c1
  generalize withI x (cut x.ints) = X at *
  generalize cut m = M at *
  have hdo : doX S k0 d0 X M = putS S d0 X := by unfold doX; rw [if_neg hk.1, if_neg hk.2.1, if_neg hk.2.2.1, if_neg hk.2.2.2.1, if_neg hk.2.2.2.2]
  rw [hdo]
  clear hdo
  have HP : Hid (∀ F' v' w', TabAt (Or D F') F' w' tb (putS S d0 X) → RowAt (Or D F') w' v' (putS S d0 X) → Goes F F' w w' → DPost D F tb w (putS S d0 X) (.returned (.tuple #[v', .bool true])) w') := fun F' v' w' h1 h2 h3 => ⟨F', v', rfl, h1, h2, h3⟩
  generalize DPost D F tb w (putS S d0 X) = Post at *
  clear hk
  obtain ⟨sp, sc, hv⟩ := hr.slice
  subst hv
  clear h hr hD hS hp hq hX0
  go_enter Try.func9, Try.ntmps9
  go_wp2_with fail
  generalize w.alloc (.cells #[.int .i64 k0, .int .i64 d0, .int .i64 x.file, .int .u32 (x.rights : Int), .bool x.all, .slice p x.ints.length c, .int .i64 x.fc, .slice q m.length d] 36) = w0 at *
  refine c1.mono ?_
  rintro e w1 ⟨hb1, p1, c1', q1, d1, rfl, ha1, hm1⟩
  have hX1 := HX0.out.on hb1
  have f0 := hX1.free 0
  have f1 := hX1.free 1
  have f2 := hX1.free 2
  have f3 := hX1.free 3
  have f4 := hX1.free 4
  have f5 := hX1.free 5
  have f6 := hX1.free 6
  have f7 := hX1.free 7
  have y0 := hX1.cell 0 rfl
  have y1 := hX1.cell 1 rfl
  have y2 := hX1.cell 2 rfl
  have y3 := hX1.cell 3 rfl
  have y4 := hX1.cell 4 rfl
  have y5 := hX1.cell 5 rfl
  have y6 := hX1.cell 6 rfl
  have y7 := hX1.cell 7 rfl
  have hX2 : Blk ((((((((w1.setCell ⟨w.heap.size, 0, none⟩ (.int .i64 k0)).setCell ⟨w.heap.size, 1, none⟩ (.int .i64 d0)).setCell ⟨w.heap.size, 2, none⟩ (.int .i64 X.file)).setCell ⟨w.heap.size, 3, none⟩ (.int .u32 (X.rights : Int))).setCell ⟨w.heap.size, 4, none⟩ (.bool X.all)).setCell ⟨w.heap.size, 5, none⟩ (.slice p1 X.ints.length c1')).setCell ⟨w.heap.size, 6, none⟩ (.int .i64 X.fc)).setCell ⟨w.heap.size, 7, none⟩ (.slice q1 M.length d1)) w.heap.size 36 (acC k0 d0 X (.slice p1 X.ints.length c1') (.slice q1 M.length d1)) := hX1.put (acC k0 d0 X (.slice p1 X.ints.length c1') (.slice q1 M.length d1)) rfl
  have hU1 : But w.heap.size w1 ((((((((w1.setCell ⟨w.heap.size, 0, none⟩ (.int .i64 k0)).setCell ⟨w.heap.size, 1, none⟩ (.int .i64 d0)).setCell ⟨w.heap.size, 2, none⟩ (.int .i64 X.file)).setCell ⟨w.heap.size, 3, none⟩ (.int .u32 (X.rights : Int))).setCell ⟨w.heap.size, 4, none⟩ (.bool X.all)).setCell ⟨w.heap.size, 5, none⟩ (.slice p1 X.ints.length c1')).setCell ⟨w.heap.size, 6, none⟩ (.int .i64 X.fc)).setCell ⟨w.heap.size, 7, none⟩ (.slice q1 M.length d1)) := but_putL w.heap.size (acC k0 d0 X (.slice p1 X.ints.length c1') (.slice q1 M.length d1)) w1 0
  have hs0 := HX0.out.lt
  have hB2 := below_but (on_trans HB0.out hb1) hU1 (Nat.le_refl _)
  have ha2 := W.atF_ints.2 ((W.atF_ints.1 ha1).but hU1 (by omega))
  have hm2 := W.atF_ints.2 ((W.atF_ints.1 hm1).but hU1 (by omega))
  have cO2 := own_short k0 d0 X p1 q1 c1' d1 M _ ha2.at hm2.at HXL.out.1 HXL.out.2.1
  change Calls Try.prog 19 #[.agg #[.int .i64 k0, .int .i64 d0, .int .i64 X.file, .int .u32 (X.rights : Int), .bool X.all, .slice p1 X.ints.length c1', .int .i64 X.fc, .slice q1 M.length d1]] ((((((((w1.setCell ⟨w.heap.size, 0, none⟩ (.int .i64 k0)).setCell ⟨w.heap.size, 1, none⟩ (.int .i64 d0)).setCell ⟨w.heap.size, 2, none⟩ (.int .i64 X.file)).setCell ⟨w.heap.size, 3, none⟩ (.int .u32 (X.rights : Int))).setCell ⟨w.heap.size, 4, none⟩ (.bool X.all)).setCell ⟨w.heap.size, 5, none⟩ (.slice p1 X.ints.length c1')).setCell ⟨w.heap.size, 6, none⟩ (.int .i64 X.fc)).setCell ⟨w.heap.size, 7, none⟩ (.slice q1 M.length d1)) (fun e w' => Below ((((((((w1.setCell ⟨w.heap.size, 0, none⟩ (.int .i64 k0)).setCell ⟨w.heap.size, 1, none⟩ (.int .i64 d0)).setCell ⟨w.heap.size, 2, none⟩ (.int .i64 X.file)).setCell ⟨w.heap.size, 3, none⟩ (.int .u32 (X.rights : Int))).setCell ⟨w.heap.size, 4, none⟩ (.bool X.all)).setCell ⟨w.heap.size, 5, none⟩ (.slice p1 X.ints.length c1')).setCell ⟨w.heap.size, 6, none⟩ (.int .i64 X.fc)).setCell ⟨w.heap.size, 7, none⟩ (.slice q1 M.length d1)).heap.size ((((((((w1.setCell ⟨w.heap.size, 0, none⟩ (.int .i64 k0)).setCell ⟨w.heap.size, 1, none⟩ (.int .i64 d0)).setCell ⟨w.heap.size, 2, none⟩ (.int .i64 X.file)).setCell ⟨w.heap.size, 3, none⟩ (.int .u32 (X.rights : Int))).setCell ⟨w.heap.size, 4, none⟩ (.bool X.all)).setCell ⟨w.heap.size, 5, none⟩ (.slice p1 X.ints.length c1')).setCell ⟨w.heap.size, 6, none⟩ (.int .i64 X.fc)).setCell ⟨w.heap.size, 7, none⟩ (.slice q1 M.length d1)) w' ∧ ∃ p c p' c', e = .returned (.agg #[.int .i64 k0, .int .i64 d0, .int .i64 X.file, .int .u32 (X.rights : Int), .bool X.all, .slice p X.ints.length c, .int .i64 X.fc, .slice p' M.length c']) ∧ W.AtF (((((((((w1.setCell ⟨w.heap.size, 0, none⟩ (.int .i64 k0)).setCell ⟨w.heap.size, 1, none⟩ (.int .i64 d0)).setCell ⟨w.heap.size, 2, none⟩ (.int .i64 X.file)).setCell ⟨w.heap.size, 3, none⟩ (.int .u32 (X.rights : Int))).setCell ⟨w.heap.size, 4, none⟩ (.bool X.all)).setCell ⟨w.heap.size, 5, none⟩ (.slice p1 X.ints.length c1')).setCell ⟨w.heap.size, 6, none⟩ (.int .i64 X.fc)).setCell ⟨w.heap.size, 7, none⟩ (.slice q1 M.length d1)).heap.size + 2) w' p X.ints ∧ W.AtF (((((((((w1.setCell ⟨w.heap.size, 0, none⟩ (.int .i64 k0)).setCell ⟨w.heap.size, 1, none⟩ (.int .i64 d0)).setCell ⟨w.heap.size, 2, none⟩ (.int .i64 X.file)).setCell ⟨w.heap.size, 3, none⟩ (.int .u32 (X.rights : Int))).setCell ⟨w.heap.size, 4, none⟩ (.bool X.all)).setCell ⟨w.heap.size, 5, none⟩ (.slice p1 X.ints.length c1')).setCell ⟨w.heap.size, 6, none⟩ (.int .i64 X.fc)).setCell ⟨w.heap.size, 7, none⟩ (.slice q1 M.length d1)).heap.size + 2) w' p' M) at cO2
  have z0 : ((((((((w1.setCell ⟨w.heap.size, 0, none⟩ (.int .i64 k0)).setCell ⟨w.heap.size, 1, none⟩ (.int .i64 d0)).setCell ⟨w.heap.size, 2, none⟩ (.int .i64 X.file)).setCell ⟨w.heap.size, 3, none⟩ (.int .u32 (X.rights : Int))).setCell ⟨w.heap.size, 4, none⟩ (.bool X.all)).setCell ⟨w.heap.size, 5, none⟩ (.slice p1 X.ints.length c1')).setCell ⟨w.heap.size, 6, none⟩ (.int .i64 X.fc)).setCell ⟨w.heap.size, 7, none⟩ (.slice q1 M.length d1)).cell? ⟨w.heap.size, 0, none⟩ = some (.int .i64 k0) := hX2.cell 0 rfl
  have z1 : ((((((((w1.setCell ⟨w.heap.size, 0, none⟩ (.int .i64 k0)).setCell ⟨w.heap.size, 1, none⟩ (.int .i64 d0)).setCell ⟨w.heap.size, 2, none⟩ (.int .i64 X.file)).setCell ⟨w.heap.size, 3, none⟩ (.int .u32 (X.rights : Int))).setCell ⟨w.heap.size, 4, none⟩ (.bool X.all)).setCell ⟨w.heap.size, 5, none⟩ (.slice p1 X.ints.length c1')).setCell ⟨w.heap.size, 6, none⟩ (.int .i64 X.fc)).setCell ⟨w.heap.size, 7, none⟩ (.slice q1 M.length d1)).cell? ⟨w.heap.size, 1, none⟩ = some (.int .i64 d0) := hX2.cell 1 rfl
  have z2 : ((((((((w1.setCell ⟨w.heap.size, 0, none⟩ (.int .i64 k0)).setCell ⟨w.heap.size, 1, none⟩ (.int .i64 d0)).setCell ⟨w.heap.size, 2, none⟩ (.int .i64 X.file)).setCell ⟨w.heap.size, 3, none⟩ (.int .u32 (X.rights : Int))).setCell ⟨w.heap.size, 4, none⟩ (.bool X.all)).setCell ⟨w.heap.size, 5, none⟩ (.slice p1 X.ints.length c1')).setCell ⟨w.heap.size, 6, none⟩ (.int .i64 X.fc)).setCell ⟨w.heap.size, 7, none⟩ (.slice q1 M.length d1)).cell? ⟨w.heap.size, 2, none⟩ = some (.int .i64 X.file) := hX2.cell 2 rfl
  have z3 : ((((((((w1.setCell ⟨w.heap.size, 0, none⟩ (.int .i64 k0)).setCell ⟨w.heap.size, 1, none⟩ (.int .i64 d0)).setCell ⟨w.heap.size, 2, none⟩ (.int .i64 X.file)).setCell ⟨w.heap.size, 3, none⟩ (.int .u32 (X.rights : Int))).setCell ⟨w.heap.size, 4, none⟩ (.bool X.all)).setCell ⟨w.heap.size, 5, none⟩ (.slice p1 X.ints.length c1')).setCell ⟨w.heap.size, 6, none⟩ (.int .i64 X.fc)).setCell ⟨w.heap.size, 7, none⟩ (.slice q1 M.length d1)).cell? ⟨w.heap.size, 3, none⟩ = some (.int .u32 (X.rights : Int)) := hX2.cell 3 rfl
  have z4 : ((((((((w1.setCell ⟨w.heap.size, 0, none⟩ (.int .i64 k0)).setCell ⟨w.heap.size, 1, none⟩ (.int .i64 d0)).setCell ⟨w.heap.size, 2, none⟩ (.int .i64 X.file)).setCell ⟨w.heap.size, 3, none⟩ (.int .u32 (X.rights : Int))).setCell ⟨w.heap.size, 4, none⟩ (.bool X.all)).setCell ⟨w.heap.size, 5, none⟩ (.slice p1 X.ints.length c1')).setCell ⟨w.heap.size, 6, none⟩ (.int .i64 X.fc)).setCell ⟨w.heap.size, 7, none⟩ (.slice q1 M.length d1)).cell? ⟨w.heap.size, 4, none⟩ = some (.bool X.all) := hX2.cell 4 rfl
  have z5 : ((((((((w1.setCell ⟨w.heap.size, 0, none⟩ (.int .i64 k0)).setCell ⟨w.heap.size, 1, none⟩ (.int .i64 d0)).setCell ⟨w.heap.size, 2, none⟩ (.int .i64 X.file)).setCell ⟨w.heap.size, 3, none⟩ (.int .u32 (X.rights : Int))).setCell ⟨w.heap.size, 4, none⟩ (.bool X.all)).setCell ⟨w.heap.size, 5, none⟩ (.slice p1 X.ints.length c1')).setCell ⟨w.heap.size, 6, none⟩ (.int .i64 X.fc)).setCell ⟨w.heap.size, 7, none⟩ (.slice q1 M.length d1)).cell? ⟨w.heap.size, 5, none⟩ = some (.slice p1 X.ints.length c1') := hX2.cell 5 rfl
  have z6 : ((((((((w1.setCell ⟨w.heap.size, 0, none⟩ (.int .i64 k0)).setCell ⟨w.heap.size, 1, none⟩ (.int .i64 d0)).setCell ⟨w.heap.size, 2, none⟩ (.int .i64 X.file)).setCell ⟨w.heap.size, 3, none⟩ (.int .u32 (X.rights : Int))).setCell ⟨w.heap.size, 4, none⟩ (.bool X.all)).setCell ⟨w.heap.size, 5, none⟩ (.slice p1 X.ints.length c1')).setCell ⟨w.heap.size, 6, none⟩ (.int .i64 X.fc)).setCell ⟨w.heap.size, 7, none⟩ (.slice q1 M.length d1)).cell? ⟨w.heap.size, 6, none⟩ = some (.int .i64 X.fc) := hX2.cell 6 rfl
  have z7 : ((((((((w1.setCell ⟨w.heap.size, 0, none⟩ (.int .i64 k0)).setCell ⟨w.heap.size, 1, none⟩ (.int .i64 d0)).setCell ⟨w.heap.size, 2, none⟩ (.int .i64 X.file)).setCell ⟨w.heap.size, 3, none⟩ (.int .u32 (X.rights : Int))).setCell ⟨w.heap.size, 4, none⟩ (.bool X.all)).setCell ⟨w.heap.size, 5, none⟩ (.slice p1 X.ints.length c1')).setCell ⟨w.heap.size, 6, none⟩ (.int .i64 X.fc)).setCell ⟨w.heap.size, 7, none⟩ (.slice q1 M.length d1)).cell? ⟨w.heap.size, 7, none⟩ = some (.slice q1 M.length d1) := hX2.cell 7 rfl
  have HW2 : Hid _ := hX2
  have HB2 : Hid _ := hB2
  have HL2 : Hid _ := (⟨ha2, hm2⟩ : W.AtF _ _ _ _ ∧ W.AtF _ _ _ _)
  have HS0 : Hid (w.heap.size < w0.heap.size) := hs0
  clear c1 HX0 HB0 hb1 ha1 hm1 hX1 hX2 hU1 hs0 hB2 ha2 hm2 x0 x1 x2 x3 x4 x5 x6 x7
  go_wp2_with fail
  refine cO2.mono ?_
  generalize ((((((((w1.setCell ⟨w.heap.size, 0, none⟩ (.int .i64 k0)).setCell ⟨w.heap.size, 1, none⟩ (.int .i64 d0)).setCell ⟨w.heap.size, 2, none⟩ (.int .i64 X.file)).setCell ⟨w.heap.size, 3, none⟩ (.int .u32 (X.rights : Int))).setCell ⟨w.heap.size, 4, none⟩ (.bool X.all)).setCell ⟨w.heap.size, 5, none⟩ (.slice p1 X.ints.length c1')).setCell ⟨w.heap.size, 6, none⟩ (.int .i64 X.fc)).setCell ⟨w.heap.size, 7, none⟩ (.slice q1 M.length d1)) = w2 at *
  rintro e w3 ⟨hb3, p3, c3, q3, d3, rfl, ha3, hm3⟩
  have hal := on_alloc w3 (.cells #[.int .i64 k0, .int .i64 d0, .int .i64 X.file, .int .u32 (X.rights : Int), .bool X.all, .slice p3 X.ints.length c3, .int .i64 X.fc, .slice q3 M.length d3] 36)
  have hPre : Pre D F w tb (.slice sp S.length sc) S w.heap.size w3.heap.size k0 d0 X M p1 c1' q1 d1 p3 c3 q3 d3 (w3.alloc (.cells #[.int .i64 k0, .int .i64 d0, .int .i64 X.file, .int .u32 (X.rights : Int), .bool X.all, .slice p3 X.ints.length c3, .int .i64 X.fc, .slice q3 M.length d3] 36)) := by
    obtain ⟨t1, t2, t3, _, _⟩ := HT.out
    have hbb := on_trans (on_trans HB2.out hb3) hal
    have hsz := HB2.out.size
    have hsz3 := hb3.size
    have hlow : ∀ j, D j → j < w0.heap.size + 2 := fun j hj => by have := t3 j hj; have := HS0.out; omega
    refine ⟨t1.on hbb, t2.on hbb, t3.on hbb, hbb, (HW2.out.on hb3).on hal, Blk.new w3 _ (acC k0 d0 X (.slice p3 X.ints.length c3) (.slice q3 M.length d3)), (IntD.of (HL2.out.1.on (on_trans hb3 hal)) hlow), (IntD.of (HL2.out.2.on (on_trans hb3 hal)) hlow), IntD.of (ha3.on hal) (fun j hj => ?_), IntD.of (hm3.on hal) (fun j hj => ?_), fun h7 => ?_, fun h7 => ?_, HXL.out.1, HXL.out.2.1, fun j hj => (t1.sub j hj).2⟩
    · have := t3 j hj; omega
    · have := t3 j hj; omega
    · have := (t1.sub _ h7).2; omega
    · have := (t1.sub _ h7).2; omega
  have HPre : Hid _ := hPre
  have a0 := hPre.a.cell 0 rfl
  have HSF : Hid (Fits S ∧ S.length ≤ 64) := HT.out.2.2.2
  clear HW2 HB2 HL2 HS0 hb3 ha3 hm3 hal hPre cO2 HT f0 f1 f2 f3 f4 f5 f6 f7 y0 y1 y2 y3 y4 y5 y6 y7 z0 z1 z2 z3 z4 z5 z6 z7
  have b1 := HPre.out.b.cell 1 rfl
  have b2 := HPre.out.b.cell 2 rfl
  have b3 := HPre.out.b.cell 3 rfl
  have b4 := HPre.out.b.cell 4 rfl
  have b5 := HPre.out.b.cell 5 rfl
  have b6 := HPre.out.b.cell 6 rfl
  have cT := put_any (x := X) HPre.out.tab HSF.out.1 HPre.out.lt HSF.out.2 d0 p3 c3 HPre.out.bi.at.1 (by have := HXL.out.1; omega)
  change Calls Try.prog _ #[ptr tb, .int .i64 d0, .agg #[.int .i64 X.file, .int .u32 (X.rights : Int), .bool X.all, .slice p3 X.ints.length c3, .int .i64 X.fc]] _ _ at cT
  go_wp2_with fail
  refine cT.mono ?_
  rintro e w5 ⟨rfl, F5, ht5, hg5⟩
  have HA : Hid _ := HPre.out.aft ht5 hg5
  have cR := rput_any (x := X) HA.out.row HSF.out.1 HA.out.lt HSF.out.2 d0 p1 c1' HA.out.ai (by have := HXL.out.1; omega)
  change Calls Try.prog _ #[.slice sp S.length sc, .int .i64 d0, .agg #[.int .i64 X.file, .int .u32 (X.rights : Int), .bool X.all, .slice p1 X.ints.length c1', .int .i64 X.fc]] _ _ at cR
  have g1 := HA.out.a.cell 1 rfl
  have g2 := HA.out.a.cell 2 rfl
  have g3 := HA.out.a.cell 3 rfl
  have g4 := HA.out.a.cell 4 rfl
  have g5 := HA.out.a.cell 5 rfl
  have g6 := HA.out.a.cell 6 rfl
  clear ht5 hg5 cT HPre a0 b1 b2 b3 b4 b5 b6
  generalize hE : putE S d0 X = E at *
  generalize hN : putN S d0 X = N at *
  clear hE hN
  have zE : (E == E) = true := beq_self_eq_true _
  have zN : (N == N) = true := beq_self_eq_true _
  go_wp2_with fail
  refine cR.mono ?_
  rintro e w6 ⟨v6, rfl, hr6, hb6⟩
  have hA6 := HA.out.on hb6
  have HZ : Hid _ := HP.out F5 v6 w6 hA6.tab hr6 hA6.goes
  clear HP HA hA6 hr6 hb6 cR g1 g2 g3 g4 g5 g6
  go_wp2
  exact HZ.out

end Go.Proofs.Ytmccfcllehfebaa.Z
