/- What calls.Get answers, for every number. -/
import Derived.Test.YtgolihipinjfmaaGreatDoorCGroup
import Derived.Test.YtgolihipinjfmaaGreatDoorParse
import Derived.Test.YtgolihipinjfmaaGreatDoorGKd
import Derived.Test.YtgolihipinjfmaaGreatDoorGMore
import Derived.Deep.DeepCutAuto
import Derived.Deep.Cut
namespace Go.Proofs.YtgolihipinjfmaaGreatDoor.C
open Go Go.RowKit Go.Shelf

/-- The cells of a call. -/
def callC (k : Fin 64) : List Value := [.string (byt (cname k)), .string (byt (cshape k)), .int .i64 (cgate k), .int .u32 (cneed0 k : Int), .int .u32 (cneed1 k : Int)]
def noC : List Value := [.string ⟨#[]⟩, .string ⟨#[]⟩, .int .i64 0, .int .u32 0, .int .u32 0]
def callV (k : Fin 64) : Value := .agg (callC k).toArray
def noV : Value := .agg noC.toArray
theorem aggCall : ∀ w, (isAgg 37).run Tryz.prog w = .ok true w := Tryz.isAgg37
theorem infoCall : (Tryz.prog.info? 37).map (·.size) = some 5 := by kernel_rfl
theorem results_blkT {P : Program} {fn : Func} {p u : Tmp} {t : TypeId} {cs : List Value} {v1 : Value} (hagg : ∀ w, (isAgg t).run P w = .ok true w) (hi : (P.info? t).map (·.size) = some cs.length) (h : fn.results = #[.cell p t, .tmp u]) (tmps : Array Value) (w : World) {b : Nat}
    (hp : tmps.getD p undef = .pointer (some ⟨b, 0, none⟩)) (h1 : tmps.getD u undef = v1) (hb : Blk w b t cs) : (results fn tmps).run P w = .ok (.tuple #[.agg cs.toArray, v1]) w := by
  have hp' : tmps[p]?.getD undef = .pointer (some ⟨b, 0, none⟩) := by simpa using hp
  have h1' : tmps[u]?.getD undef = v1 := by simpa using h1
  simp [results, h, hp', h1', asAddr, run_loadVar_blk hagg hi hb]
theorem en_number : ∀ args w, (callFunc 33 args).run Tryz.prog w = .ok (.enter 33 args) w := fun _ _ => by simp [callFunc, Tryz.func33]; rfl

set_option maxRecDepth 100000 in
theorem get_no (no : Int) (hno : ∀ k : Fin 64, (k.val : Int) + 1 ≠ no) (w : World) (hs : Sp w) : Calls Tryz.prog 20 #[.int .i64 no] w fun e W =>
    e = .returned (.tuple #[noV, .bool false]) ∧ Below w.heap.size w W := by
  have hcall := parts_no no hno
  clear hno
  have hnil := fun (w : World) (a : Option Addr) (n c : Nat) => run_eql_slice_nil w 51 9 a n c Tryz.underlying51
  have hs1 := hs.below ((Below.refl _ w).alloc (Nat.le_refl _) (.cells noC.toArray 37))
  have bz := Blk.new w 37 noC
  have hB0 := (Below.refl _ w).alloc (Nat.le_refl _) (.cells noC.toArray 37)
  unfold noC at hs1 bz hB0
  go_enter Tryz.func20, Tryz.ntmps20
  go_wp2_with (go_at_call 32; refine (hcall _ hs1).mono ?_; rintro e w' ⟨rfl, hB⟩; have bD := bz.on hB; have x0 := bD.cell 0 rfl; have x1 := bD.cell 1 rfl; have x2 := bD.cell 2 rfl; have x3 := bD.cell 3 rfl; have x4 := bD.cell 4 rfl; have y0 := bD.free 0; have y1 := bD.free 1; have y2 := bD.free 2; have y3 := bD.free 3; have y4 := bD.free 4)
  refine bodyPost_ret (results_blkT (cs := noC) aggCall infoCall rfl _ _ rfl rfl (bD.put noC rfl)) rfl ⟨rfl, ?_⟩
  exact below_but (hB0.trans (hB.mono (by simp))) (but_putL _ noC _ _) (Nat.le_refl _)

def getS (w0 : World) (f : Bool) (x : Value) (W : World) : Prop :=
  Below w0.heap.size w0 W ∧ (f = false → ∃ B, x = .pointer (some ⟨B, 0, none⟩) ∧ w0.heap.size ≤ B ∧ ∃ a b c d e, Blk W B 37 [a, b, c, d, e])
def getG (vs : List Value) (cs : List Value) (x : Value) (j : Nat) (v : Value) (W : World) : Prop :=
  if j = 9 then (∃ B, x = .pointer (some ⟨B, 0, none⟩) ∧ Blk W B 37 cs) else if j = 8 then True else v = vs.getD j undef
theorem getS.on {w0 W W' : World} {f : Bool} {x : Value} (h : getS w0 f x W) (hb : Below W.heap.size W W') : getS w0 f x W' :=
  ⟨h.1.trans (hb.mono h.1.size), fun e => by
    obtain ⟨B, h1, h2, a, b, c, d, z, h3⟩ := h.2 e
    exact ⟨B, h1, h2, a, b, c, d, z, h3.on hb⟩⟩

/-- The call's cells, and the result's, at the end. -/
theorem get_out {w X : World} {B : Nat} {c0 c1 c2 c3 c4 : Value} (kX : Blk X B 37 [c0, c1, c2, c3, c4]) (dX : Blk X w.heap.size 37 noC) (bX : Below w.heap.size w X) (_ : w.heap.size < B) :
    X.cell? ⟨B, 0, none⟩ = some c0 ∧ X.cell? ⟨B, 1, none⟩ = some c1 ∧ X.cell? ⟨B, 2, none⟩ = some c2 ∧ X.cell? ⟨B, 3, none⟩ = some c3 ∧ X.cell? ⟨B, 4, none⟩ = some c4 ∧
    X.cell? ⟨w.heap.size, 0, none⟩ = some (.string ⟨#[]⟩) ∧ X.cell? ⟨w.heap.size, 1, none⟩ = some (.string ⟨#[]⟩) ∧ X.cell? ⟨w.heap.size, 2, none⟩ = some (.int .i64 0) ∧ X.cell? ⟨w.heap.size, 3, none⟩ = some (.int .u32 0) ∧ X.cell? ⟨w.heap.size, 4, none⟩ = some (.int .u32 0) ∧
    X.frozen? ⟨w.heap.size, 0, none⟩ = false ∧ X.frozen? ⟨w.heap.size, 1, none⟩ = false ∧ X.frozen? ⟨w.heap.size, 2, none⟩ = false ∧ X.frozen? ⟨w.heap.size, 3, none⟩ = false ∧ X.frozen? ⟨w.heap.size, 4, none⟩ = false ∧
    (Blk (putL X w.heap.size 0 [c0, c1, c2, c3, c4]) w.heap.size 37 [c0, c1, c2, c3, c4] ∧ Below w.heap.size w (putL X w.heap.size 0 [c0, c1, c2, c3, c4])) :=
  ⟨kX.cell 0 rfl, kX.cell 1 rfl, kX.cell 2 rfl, kX.cell 3 rfl, kX.cell 4 rfl, dX.cell 0 rfl, dX.cell 1 rfl, dX.cell 2 rfl, dX.cell 3 rfl, dX.cell 4 rfl, dX.free 0, dX.free 1, dX.free 2, dX.free 3, dX.free 4,
    dX.put _ rfl, below_but bX (but_putL _ _ _ _) (Nat.le_refl _)⟩

set_option maxRecDepth 100000 in
set_option maxHeartbeats 1000000 in
theorem get_at (k : Fin 64) (w : World) (hs : Sp w) (hn : Nm w) : Calls Tryz.prog 20 #[.int .i64 ((k.val : Int) + 1)] w fun e W =>
    e = .returned (.tuple #[callV k, .bool true]) ∧ Below w.heap.size w W := by
  have hcall := parts_at k
  have hl : 4 ≤ (parL k).length := by rw [(row_needs k).1]; simp
  have hnil := fun (w : World) (a : Option Addr) (n c : Nat) => run_eql_slice_nil w 51 9 a n c Tryz.underlying51
  have hs1 := hs.below ((Below.refl _ w).alloc (Nat.le_refl _) (.cells noC.toArray 37))
  have bz := Blk.new w 37 noC
  have hB0 := (Below.refl _ w).alloc (Nat.le_refl _) (.cells noC.toArray 37)
  unfold noC at hs1 bz hB0
  go_enter Tryz.func20, Tryz.ntmps20
  go_upto_region 4 with (go_at_call 32; refine (hcall _ hs1).mono ?_; rintro e w' ⟨g, hg, rfl, hrow, hB⟩)
  have bD := bz.on hB
  have hBw := hB0.trans (hB.mono (by simp))
  obtain ⟨N, hN⟩ : ∃ N, (parL k).length = N := ⟨_, rfl⟩
  have c0 := part_cell hrow 0 (by omega)
  have c2 := part_cell hrow 2 (by omega)
  have c3 := part_cell hrow 3 (by omega)
  obtain ⟨nm, hnm⟩ : ∃ nm, byt (cname k) = nm := ⟨_, rfl⟩
  obtain ⟨gt, hgt⟩ : ∃ gt, byt (cgateL k) = gt := ⟨_, rfl⟩
  obtain ⟨sh, hsh⟩ : ∃ sh, byt (cshapeL k) = sh := ⟨_, rfl⟩
  replace c0 : w'.cell? ⟨g, 0, none⟩ = some (.string nm) := by rw [← hnm]; exact c0
  replace c2 : w'.cell? ⟨g, 2, none⟩ = some (.string gt) := by rw [← hgt]; exact c2
  replace c3 : w'.cell? ⟨g, 3, none⟩ = some (.string sh) := by rw [← hsh]; exact c3
  have hnum := number_any gt (cgate k) (by rw [← hgt, byt_size]; exact (row_gate k).2) (by rw [← hgt, byt_list]; exact (row_gate k).1)
  have HNM : Hid (byt (cname k) = nm ∧ byt (cshapeL k) = sh) := ⟨hnm, hsh⟩
  obtain ⟨gv, hgv⟩ : ∃ gv, cgate k = gv := ⟨_, rfl⟩
  have HGV : Hid (cgate k = gv) := hgv
  rw [hgv] at hnum
  have hgl : g < w'.heap.size := (Array.getElem?_eq_some_iff.1 hrow).1
  have HL : Hid ((parL k).length = N) := hN
  rw [hN] at hl ⊢
  clear hnm hgt hsh hgv hN hcall hs1 bz hB0
  have q0 : 0 < N := by omega
  have q2 : 2 < N := by omega
  have q3 : 3 < N := by omega
  have hS0 : ∀ x, getS w' true x w'.drew := fun x => ⟨(Below.refl _ _).drew, fun e => by cases e⟩
  refine wp_region_four (S := getS w') (u := 8) (tu := 5) (Keep := fun i _ _ => i < 10)
    (g := getG [.slice (some ⟨g, 0, none⟩) N N, .pointer (some ⟨g, 0, none⟩), .string nm, .slice (some ⟨g, 0, none⟩) N N, .pointer (some ⟨g, 2, none⟩), .string gt, .int .i64 gv, .agg #[.string nm, .string ⟨#[]⟩, .int .i64 gv, .int .u32 0, .int .u32 0]] [.string nm, .string ⟨#[]⟩, .int .i64 gv, .int .u32 0, .int .u32 0])
    (tab := [[(4, none)], [(13, some 0)], [(14, some 1)], [(4, none)], [(16, some 3)], [(17, some 4)], [(18, some 5)], [(15, some 2), (19, some 6)], [], [(5, some 8), (20, some 7)]]) (tl := []) (n := 47)
    (by kernel_rfl) rfl (by kernel_rfl) (by kernel_rfl) ?hx ?hK (hS0 _) ?st ?en
  case hx =>
    intro j x x' v W hed hne hg
    unfold getG at hg ⊢
    by_cases h9 : j = 9
    · subst h9; exact absurd hed (by decide +kernel)
    · rw [if_neg h9] at hg ⊢; exact hg
  case hK =>
    intro x i j v w1 w2 hk hne hed _ _ hg
    unfold getG at hg ⊢
    by_cases h9 : j = 9
    · subst h9
      refine absurd hed ?_
      have : i = 0 ∨ i = 1 ∨ i = 2 ∨ i = 3 ∨ i = 4 ∨ i = 5 ∨ i = 6 ∨ i = 7 ∨ i = 8 := by omega
      rcases this with rfl | rfl | rfl | rfl | rfl | rfl | rfl | rfl | rfl <;> decide +kernel
    · rw [if_neg h9] at hg ⊢; exact hg
  case st =>
    refine ⟨fun ρ W f hf hf2 hr hS hs => ?_, fun ρ W f hf hf2 hr hS hs => ?_, fun ρ W f hf hf2 hr hS hs => ?_, fun ρ W f hf hf2 hr hS hs => ?_, fun ρ W f hf hf2 hr hS hs => ?_, fun ρ W f hf hf2 hr hS hs => ?_, fun ρ W f hf hf2 hr hS hs => ?_, fun ρ W f hf hf2 hr hS hs => ?_, fun ρ W f hf hf2 hr hS hs => ?_, fun ρ W f hf hf2 hr hS hs => ?_, trivial⟩
    · exact step4_plain rfl (by decide) (leaves_move (.tmp 4) rfl ⟨hs.1, by cases f <;> exact hS, by decide⟩)
    · have h13 : ρ (.tmp 13) = .slice (some ⟨g, 0, none⟩) N N := hs.1
      refine step4_plain rfl (by decide) (leaves_value (v := .pointer (some ⟨g, 0, none⟩)) (w' := W) ?_ ⟨rfl, by cases f <;> exact hS, by decide⟩)
      simp [go_sem, h13, hr.const]
      exact fun hh => absurd hh (by omega)
    · have h14 : ρ (.tmp 14) = .pointer (some ⟨g, 0, none⟩) := hs.1
      exact step4_plain rfl (by decide) (leaves_cell Tryz.isAgg9 (.tmp 14) rfl h14 ((hS.1.cell (p := ⟨g, 0, none⟩) hgl).trans c0) ⟨rfl, by cases f <;> exact hS, by decide⟩)
    · exact step4_plain rfl (by decide) (leaves_move (.tmp 4) rfl ⟨hs.1, by cases f <;> exact hS, by decide⟩)
    · have h16 : ρ (.tmp 16) = .slice (some ⟨g, 0, none⟩) N N := hs.1
      refine step4_plain rfl (by decide) (leaves_value (v := .pointer (some ⟨g, 2, none⟩)) (w' := W) ?_ ⟨rfl, by cases f <;> exact hS, by decide⟩)
      simp [go_sem, h16, hr.const]
      exact fun hh => absurd hh (by omega)
    · have h17 : ρ (.tmp 17) = .pointer (some ⟨g, 2, none⟩) := hs.1
      exact step4_plain rfl (by decide) (leaves_cell Tryz.isAgg9 (.tmp 17) rfl h17 ((hS.1.cell (p := ⟨g, 2, none⟩) hgl).trans c2) ⟨rfl, by cases f <;> exact hS, by decide⟩)
    · have h18 : ρ (.tmp 18) = .string gt := hs.1
      refine step4_plain rfl (by decide) (leaves_call1 en_number hr (.tmp 18) _ rfl h18 ((hnum W).mono ?_))
      rintro e W' ⟨rfl, hb⟩
      have := hS.on hb
      exact ⟨_, rfl, rfl, by cases f <;> exact this, by decide⟩
    · have h15 : ρ (.tmp 15) = .string nm := hs.1
      have h19 : ρ (.tmp 19) = .int .i64 gv := hs.2.1
      refine step4_plain rfl (by decide) (leaves_value (v := .agg #[.string nm, .string ⟨#[]⟩, .int .i64 gv, .int .u32 0, .int .u32 0]) (w' := W) ?_ ⟨rfl, by cases f <;> exact hS, by decide⟩)
      simp [go_sem, h15, h19]
    · have hft := hf (by decide)
      subst hft
      refine step4_made rfl (leaves_value (v := .pointer (some ⟨W.heap.size, 0, none⟩)) (w' := W.alloc (.cells noC.toArray 37)) ?_ ⟨trivial, ?_, by decide⟩)
      · simp [go_sem, noC]
      · exact ⟨hS.1.alloc hS.1.size _, fun _ => ⟨W.heap.size, rfl, hS.1.size, _, _, _, _, _, Blk.new W _ noC⟩⟩
    · have hff := hf2 (by decide +kernel)
      subst hff
      obtain ⟨hb, h5⟩ := hS
      obtain ⟨B, h5, hB5, a, b, c, d, e, blk⟩ := h5 rfl
      have h20 : ρ (.tmp 20) = .agg #[.string nm, .string ⟨#[]⟩, .int .i64 gv, .int .u32 0, .int .u32 0] := hs.2.1
      have k1 := blk.set 0 (.string nm)
      have k2 := k1.set 1 (.string ⟨#[]⟩)
      have k3 := k2.set 2 (.int .i64 gv)
      have k4 := k3.set 3 (.int .u32 0)
      have x0 := blk.cell 0 rfl
      have x1 := k1.cell 1 rfl
      have x2 := k2.cell 2 rfl
      have x3 := k3.cell 3 rfl
      have x4 := k4.cell 4 rfl
      have y0 := blk.free 0
      have y1 := k1.free 1
      have y2 := k2.free 2
      have y3 := k3.free 3
      have y4 := k4.free 4
      have hput := blk.put [.string nm, .string ⟨#[]⟩, .int .i64 gv, .int .u32 0, .int .u32 0] rfl
      refine step4_plain rfl (by decide) (leaves_skip (w' := putL W B 0 [.string nm, .string ⟨#[]⟩, .int .i64 gv, .int .u32 0, .int .u32 0]) ?_ ⟨⟨B, h5, hput⟩, ?_, by decide⟩)
      · simp [go_sem, h5, h20, putL, x0, x1, x2, x3, x4, y0, y1, y2, y3, y4]
      · exact ⟨below_but hb (but_putL _ _ _ _) hB5, fun _ => ⟨B, h5, hB5, _, _, _, _, _, hput⟩⟩
  case en =>
    intro x f W hf hS v0 h0 v1 h1 v2 h2 v3 h3 v4 h4 v5 h5 v6 h6 v7 h7 v8 h8 h9 hx
    clear h0 h1 h2 h3 h4 h5 h6 h7 h8
    obtain ⟨B, rfl, blk⟩ := h9 rfl
    have hv8 : v8 = .pointer (some ⟨B, 0, none⟩) := by simpa [Act.put, Act.eval] using hx
    subst hv8
    obtain ⟨hbW, hB8⟩ := hS
    have hff := hf (by decide)
    subst hff
    obtain ⟨B', hBB, hB8, _⟩ := hB8 rfl
    obtain rfl : B = B' := by simpa using hBB
    have hr1 : W.heap[g]? = some (.cells (parV k) 9 (0, 0)) := (hbW.block g hgl).trans hrow
    have hd1 : Blk W w.heap.size 37 noC := bD.below hbW (bD.lt)
    have hw1 : Below w.heap.size w W := hBw.trans (hbW.mono (Nat.le_of_lt bD.lt))
    have c3' : W.cell? ⟨g, 3, none⟩ = some (.string sh) := (hbW.cell (p := ⟨g, 3, none⟩) hgl).trans c3
    have hgB : g < B := by omega
    have hDB : w.heap.size < B := Nat.lt_of_lt_of_le bD.lt hB8
    clear hf hx hbW hB8 hBB h9 c0 c2 c3 hnum hS0 hrow hB hBw bD hgl q0 q2
    simp only [Act.put, List.setIfInBounds_toArray, List.set_cons_succ, List.set_cons_zero]
    obtain ⟨nd, hnd⟩ : ∃ nd, (parL k).drop 4 = nd := ⟨_, rfl⟩
    have HP : Hid (parL k = [cname k, cgroup k, cgateL k, cshapeL k] ++ nd) := by rw [← hnd]; exact (row_needs k).1
    have HD2 : Hid (nd.length ≤ 2) := by rw [← hnd]; exact (row_needs k).2
    have HN2 : Hid ((nd.map fun l => (parsePairs (byt l)).1) ++ List.replicate (2 - nd.length) (0 : Nat) = [cneed0 k, cneed1 k]) := by rw [← hnd]; exact row_need k
    have HS2 : Hid (nd.all (fun l => l.length ≤ 100) = true) := by rw [← hnd]; exact need_size k
    clear hnd
    have hgX : g < W.heap.size := (Array.getElem?_eq_some_iff.1 hr1).1
    by_cases hdot : sh = ⟨#[46]⟩
    case' pos =>
      have ht : (sh.toList == [46]) = true := by rw [hdot]; decide +kernel
      have hce : byt (cshape k) = ⟨#[]⟩ := by
        have h1 := HNM.out.2
        rw [hdot] at h1
        have h2 : cshapeL k = [46] := byt_inj (m := [46]) h1
        simp [cshape, h2, byt]
      have kX : Blk W B 37 [.string nm, .string (byt (cshape k)), .int .i64 gv, .int .u32 0, .int .u32 0] := by rw [hce]; exact blk
      clear hce blk
      go_upto_region 7 with fail
    case' neg =>
      have ht : (sh.toList == [46]) = false := by
        rw [beq_eq_false_iff_ne, ByteArray.toList_eq]; exact fun e => hdot (bytes_eq (t := ⟨#[46]⟩) e)
      have ht3 : ¬ sh.toList = [46] := by simpa using ht
      have hce : byt (cshape k) = sh := by
        have h1 := HNM.out.2
        have h2 : cshapeL k ≠ [46] := fun e => hdot (by rw [← h1, e]; rfl)
        rw [cshape, if_neg h2, h1]
      have kX' : Blk (W.setCell ⟨B, 1, none⟩ (.string sh)) B 37 [.string nm, .string sh, .int .i64 gv, .int .u32 0, .int .u32 0] := blk.set 1 (.string sh)
      rw [← hce] at kX'
      have kX : Hid (Blk (W.setCell ⟨B, 1, none⟩ (.string (byt (cshape k)))) B 37 [.string nm, .string (byt (cshape k)), .int .i64 gv, .int .u32 0, .int .u32 0]) := kX'
      have x1 := blk.cell 1 rfl
      have y1 := blk.free 1
      have hr2 := (Below.heap_setCell W ⟨B, 1, none⟩ (.string (byt (cshape k))) g (by show g ≠ B; omega)).trans hr1
      have hd2 := hd1.but (but_set W B 1 (.string (byt (cshape k)))) (by omega)
      have hw2 := hw1.setCell (p := ⟨B, 1, none⟩) (by show w.heap.size ≤ B; omega) (.string (byt (cshape k)))
      have hg2 : g < (W.setCell ⟨B, 1, none⟩ (.string (byt (cshape k)))).heap.size := by simp [World.setCell]; exact hgX
      rw [← hce] at ht ht3 c3'
      clear hdot kX'
      subst hce
      go_upto_region 7 with fail
      replace kX := kX.out
      clear hr1 hd1 hw1 hgX x1 y1 c3' blk
      generalize W.setCell ⟨B, 1, none⟩ (.string (byt (cshape k))) = X at *
      have hr1 := hr2
      have hd1 := hd2
      have hw1 := hw2
      have hgX := hg2
      clear hr2 hd2 hw2 hg2
    all_goals
      rcases nd with _ | ⟨a, _ | ⟨b, _ | ⟨c, r⟩⟩⟩
      · have hN4 : N = 4 := by rw [← HL.out, HP.out]; rfl
        subst hN4
        have e01 : cneed0 k = 0 ∧ cneed1 k = 0 := by have := HN2.out; simp at this; exact ⟨this.1.symm, this.2.symm⟩
        have hV : callV k = .agg #[.string nm, .string (byt (cshape k)), .int .i64 gv, .int .u32 0, .int .u32 0] := by unfold callV callC; rw [HNM.out.1, HGV.out, e01.1, e01.2]; rfl
        have hout := get_out (w := w) kX hd1 hw1 hDB
        clear HN2 HD2 HS2 HP HL e01
        go_wp2_with fail
        refine wp_loop_rounds 1 ?_
        rw [rounds_succ]
        obtain ⟨b0, b1, b2, b3, b4, d0, d1, d2, d3, d4, f0, f1, f2, f3, f4, hfin⟩ := hout
        go_wp2_with fail
        refine bodyPost_ret (results_blkT (cs := [.string nm, .string (byt (cshape k)), .int .i64 gv, .int .u32 0, .int .u32 0]) (v1 := .bool true) aggCall infoCall rfl _ _ rfl rfl hfin.1) rfl ⟨by rw [hV], hfin.2⟩
      · have hN5 : N = 5 := by rw [← HL.out, HP.out]; rfl
        subst hN5
        have e01 : cneed0 k = (parsePairs (byt a)).1 ∧ cneed1 k = 0 := by have := HN2.out; simp at this; exact ⟨this.1.symm, this.2.symm⟩
        have hpa := fun W1 (h : Below w.heap.size w W1) => parse_any (byt a) W1 (hn.below h) (by have := HS2.out; simp at this; rw [byt_size]; unfold maxLen; omega)
        have ea : (parL k).getD 4 [] = a := by rw [HP.out]; rfl
        have c4 := part_cell hr1 4 (by rw [HL.out]; omega)
        rw [ea] at c4
        obtain ⟨pa, hpe⟩ : ∃ pa, (parsePairs (byt a)).1 = pa := ⟨_, rfl⟩
        obtain ⟨ra, hra⟩ : ∃ ra, ((parsePairs (byt a)).2 : Int) = ra := ⟨_, rfl⟩
        rw [hpe] at e01
        rw [hpe, hra] at hpa
        have hV : callV k = .agg #[.string nm, .string (byt (cshape k)), .int .i64 gv, .int .u32 (pa : Int), .int .u32 0] := by unfold callV callC; rw [HNM.out.1, HGV.out, e01.1, e01.2]; rfl
        clear HN2 HD2 HS2 HP HL e01 ea hpe hra
        go_wp2_with fail
        refine wp_loop_rounds 2 ?_
        rw [rounds_succ]
        go_wp2_with (go_at_call 34; refine (hpa _ hw1).mono ?_; rintro e X1 ⟨rfl, hb1⟩; have kX1 := kX.on hb1; have q3 := kX1.cell 3 rfl; have qf := kX1.free 3)
        have hw2 := (hw1.trans (hb1.mono hw1.size)).setCell (p := ⟨B, 3, none⟩) (by show w.heap.size ≤ B; omega) (.int .u32 (pa : Int))
        have hd2 := (hd1.on hb1).but (but_set X1 B 3 (.int .u32 (pa : Int))) (by omega)
        have kX2 := kX1.set 3 (.int .u32 (pa : Int))
        have hr2 := (Below.heap_setCell X1 ⟨B, 3, none⟩ (.int .u32 (pa : Int)) g (by show g ≠ B; omega)).trans ((hb1.block g hgX).trans hr1)
        simp only [List.set_cons_succ, List.set_cons_zero] at kX2
        clear hb1 kX1 q3 qf hd1 hr1 hw1 kX hpa hgX c4
        generalize X1.setCell ⟨B, 3, none⟩ (.int .u32 (pa : Int)) = X2 at *
        have hout := get_out (w := w) kX2 hd2 hw2 hDB
        obtain ⟨b0, b1, b2, b3, b4, d0, d1, d2, d3, d4, f0, f1, f2, f3, f4, hfin⟩ := hout
        rw [rounds_succ]
        go_wp2_with fail
        refine bodyPost_ret (results_blkT (cs := [.string nm, .string (byt (cshape k)), .int .i64 gv, .int .u32 (pa : Int), .int .u32 0]) (v1 := .bool true) aggCall infoCall rfl _ _ rfl rfl hfin.1) rfl ⟨by rw [hV], hfin.2⟩
      · have hN6 : N = 6 := by rw [← HL.out, HP.out]; rfl
        subst hN6
        have e01 : cneed0 k = (parsePairs (byt a)).1 ∧ cneed1 k = (parsePairs (byt b)).1 := by have := HN2.out; simp at this; exact ⟨this.1.symm, this.2.symm⟩
        have hpa := fun W1 (h : Below w.heap.size w W1) => parse_any (byt a) W1 (hn.below h) (by have := HS2.out; simp at this; rw [byt_size]; unfold maxLen; omega)
        have hpb := fun W1 (h : Below w.heap.size w W1) => parse_any (byt b) W1 (hn.below h) (by have := HS2.out; simp at this; rw [byt_size]; unfold maxLen; omega)
        have ea : (parL k).getD 4 [] = a := by rw [HP.out]; rfl
        have eb : (parL k).getD 5 [] = b := by rw [HP.out]; rfl
        have c4 := part_cell hr1 4 (by rw [HL.out]; omega)
        rw [ea] at c4
        obtain ⟨pa, hpe⟩ : ∃ pa, (parsePairs (byt a)).1 = pa := ⟨_, rfl⟩
        obtain ⟨ra, hra⟩ : ∃ ra, ((parsePairs (byt a)).2 : Int) = ra := ⟨_, rfl⟩
        obtain ⟨pb, hpf⟩ : ∃ pb, (parsePairs (byt b)).1 = pb := ⟨_, rfl⟩
        obtain ⟨rb, hrb⟩ : ∃ rb, ((parsePairs (byt b)).2 : Int) = rb := ⟨_, rfl⟩
        rw [hpe, hpf] at e01
        rw [hpe, hra] at hpa
        rw [hpf, hrb] at hpb
        have hV : callV k = .agg #[.string nm, .string (byt (cshape k)), .int .i64 gv, .int .u32 (pa : Int), .int .u32 (pb : Int)] := by unfold callV callC; rw [HNM.out.1, HGV.out, e01.1, e01.2]
        clear HN2 HD2 HS2 e01 ea hpe hra hpf hrb
        go_wp2_with fail
        refine wp_loop_rounds 3 ?_
        rw [rounds_succ]
        go_wp2_with (go_at_call 34; refine (hpa _ hw1).mono ?_; rintro e X1 ⟨rfl, hb1⟩; have kX1 := kX.on hb1; have q3 := kX1.cell 3 rfl; have qf := kX1.free 3)
        have hw2 := (hw1.trans (hb1.mono hw1.size)).setCell (p := ⟨B, 3, none⟩) (by show w.heap.size ≤ B; omega) (.int .u32 (pa : Int))
        have hd2 := (hd1.on hb1).but (but_set X1 B 3 (.int .u32 (pa : Int))) (by omega)
        have kX2 := kX1.set 3 (.int .u32 (pa : Int))
        have hr2 := (Below.heap_setCell X1 ⟨B, 3, none⟩ (.int .u32 (pa : Int)) g (by show g ≠ B; omega)).trans ((hb1.block g hgX).trans hr1)
        simp only [List.set_cons_succ, List.set_cons_zero] at kX2
        clear hb1 kX1 q3 qf hd1 hr1 hw1 kX hpa hgX c4
        generalize X1.setCell ⟨B, 3, none⟩ (.int .u32 (pa : Int)) = X2 at *
        have hgX := (Array.getElem?_eq_some_iff.1 hr2).1
        have c5 := part_cell hr2 5 (by rw [HL.out]; omega)
        rw [eb] at c5
        rw [rounds_succ]
        go_wp2_with (go_at_call 34; refine (hpb _ hw2).mono ?_; rintro e X3 ⟨rfl, hb1⟩; have kX1 := kX2.on hb1; have q3 := kX1.cell 4 rfl; have qf := kX1.free 4)
        have hw3 := (hw2.trans (hb1.mono hw2.size)).setCell (p := ⟨B, 4, none⟩) (by show w.heap.size ≤ B; omega) (.int .u32 (pb : Int))
        have hd3 := (hd2.on hb1).but (but_set X3 B 4 (.int .u32 (pb : Int))) (by omega)
        have kX3 := kX1.set 4 (.int .u32 (pb : Int))
        simp only [List.set_cons_succ, List.set_cons_zero] at kX3
        clear hb1 kX1 q3 qf hd2 hr2 hw2 kX2 hpb hgX c5 HP HL eb
        generalize X3.setCell ⟨B, 4, none⟩ (.int .u32 (pb : Int)) = X4 at *
        have hout := get_out (w := w) kX3 hd3 hw3 hDB
        obtain ⟨b0, b1, b2, b3, b4, d0, d1, d2, d3, d4, f0, f1, f2, f3, f4, hfin⟩ := hout
        rw [rounds_succ]
        go_wp2_with fail
        refine bodyPost_ret (results_blkT (cs := [.string nm, .string (byt (cshape k)), .int .i64 gv, .int .u32 (pa : Int), .int .u32 (pb : Int)]) (v1 := .bool true) aggCall infoCall rfl _ _ rfl rfl hfin.1) rfl ⟨by rw [hV], hfin.2⟩
      · exact absurd HD2.out (by simp)

end Go.Proofs.YtgolihipinjfmaaGreatDoor.C
