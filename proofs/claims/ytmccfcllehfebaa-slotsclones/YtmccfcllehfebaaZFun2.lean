/- What Get, Take, the limits, New and Full answer and do. -/
import Derived.Test.YtmccfcllehfebaaZFun
namespace Go.Proofs.Ytmccfcllehfebaa.Z
open Go Go.RowKit

theorem results_blkT {P : Program} {fn : Func} {p u : Tmp} {t : TypeId} {cs : List Value} {v1 : Value} (hagg : ∀ w, (isAgg t).run P w = .ok true w) (hi : (P.info? t).map (·.size) = some cs.length) (h : fn.results = #[.cell p t, .tmp u]) (tmps : Array Value) (w : World) {b : Nat}
    (hp : tmps.getD p undef = .pointer (some ⟨b, 0, none⟩)) (h1 : tmps.getD u undef = v1) (hb : Blk w b t cs) : (results fn tmps).run P w = .ok (.tuple #[.agg cs.toArray, v1]) w := by
  have hp' : tmps[p]?.getD undef = .pointer (some ⟨b, 0, none⟩) := by simpa using hp
  have h1' : tmps[u]?.getD undef = v1 := by simpa using h1
  simp [results, h, hp', h1', asAddr, run_loadVar_blk hagg hi hb]
def Lt (D : Nat → Prop) (w : World) : Prop := ∀ k, D k → k < w.heap.size
/-- A call that only reads, and hands out a descriptor. -/
def GPost (D : Nat → Prop) (w : World) (x : Sl) (R : Value → Value) (e : Ending) (w' : World) : Prop := ∃ u, e = .returned (R u) ∧ Below w.heap.size w w' ∧ SlD D w' u x
/-- A table made. -/
def MadePost (D : Nat → Prop) (w : World) (S : List Sl) (e : Ending) (w' : World) : Prop := ∃ tb F, e = .returned (ptr tb) ∧ TabAt (Or D F) F w' tb S ∧ Below w.heap.size w w' ∧ ∀ k, F k → w.heap.size ≤ k
theorem zBlk (w : World) : Blk (w.alloc (.cells #[.int .i64 0, .int .u32 0, .bool false, .slice none 0 0, .int .i64 0] 34)) w.heap.size 34 (slC zS (.slice none 0 0)) := Blk.new w 34 (slC zS (.slice none 0 0))
theorem tab_or {D F : Nat → Prop} {w : World} {tb : Nat} {S : List Sl} (h : TabAt D F w tb S) : TabAt (Or D F) F w tb S := h.up (fun k hk => by
  rcases hk with h1 | h1
  · exact .inl h1
  · exact .inl (h.sub k h1).1) fun _ hk => .inr hk
theorem ups_or {D F : Nat → Prop} {w : World} {tb : Nat} {S : List Sl} (h : TabAt D F w tb S) (n : Nat) : Ups D (Or D F) n := fun k hk => by
  rcases hk with h1 | h1
  · exact .inl h1
  · exact .inl (h.sub k h1).1

section
variable {D F : Nat → Prop} {w : World} {tb : Nat} {S : List Sl}
theorem TPost.same {w' : World} {R : Value} (h : TabAt D F w tb S) (hb : Below w.heap.size w w') : TPost D F tb w S R (.returned R) w' := ⟨rfl, F, tab_or (h.on hb), .on hb⟩
set_option maxRecDepth 100000 in
set_option maxHeartbeats 1000000 in
theorem get_no (h : TabAt D F w tb S) (fd : Int) (need : Nat) (hl : liveB S fd = false) :
    Calls Try.prog 12 #[ptr tb, .int .i64 fd, .int .u32 (need : Int)] w (GPost D w zS fun u => .tuple #[u, .int .i64 9]) := by
  obtain ⟨rb, M, rfl, h⟩ := h
  have HB : Hid (Below w.heap.size w (w.alloc (.cells #[.int .i64 0, .int .u32 0, .bool false, .slice none 0 0, .int .i64 0] 34))) := on_alloc w _
  have HX : Hid (Blk (w.alloc (.cells #[.int .i64 0, .int .u32 0, .bool false, .slice none 0 0, .int .i64 0] 34)) w.heap.size 34 (slC zS (.slice none 0 0))) := zBlk w
  have cH := held_no (h.keep (keep_on HB.out)) hl
  have f := HX.out
  have f0 := f.free 0
  have f1 := f.free 1
  have f2 := f.free 2
  have f3 := f.free 3
  have f4 := f.free 4
  have x0 := f.cell 0 rfl
  have x1 := f.cell 1 rfl
  have x2 := f.cell 2 rfl
  have x3 := f.cell 3 rfl
  have x4 := f.cell 4 rfl
  simp only [zS, Int.natCast_zero] at x0 x1 x2 x3 x4
  clear h hl f
  go_enter Try.func12, Try.ntmps12
  go_wp2_with fail
  generalize w.alloc (.cells #[.int .i64 0, .int .u32 0, .bool false, .slice none 0 0, .int .i64 0] 34) = w0 at *
  refine cH.mono ?_
  rintro e w1 ⟨rfl, rfl⟩
  go_wp2
  exact bodyPost_ret (results_blkT (cs := slC zS (.slice none 0 0)) Try.isAgg34 infoS rfl _ _ rfl rfl (HX.out.put (slC zS (.slice none 0 0)) rfl)) rfl ⟨_, rfl, below_but HB.out (but_putL w.heap.size (slC zS (.slice none 0 0)) w1 0) (Nat.le_refl _), .slice none 0 0, rfl, .nil _ _⟩

set_option maxRecDepth 100000 in
set_option maxHeartbeats 1000000 in
theorem get_less (h : TabAt D F w tb S) (hS : Fits S) (fd : Int) (need : Nat) (hn : need < 4294967296) (hl : liveB S fd = true) (hr : R.subB need (atS S fd).rights = false) :
    Calls Try.prog 12 #[ptr tb, .int .i64 fd, .int .u32 (need : Int)] w (GPost D w zS fun u => .tuple #[u, .int .i64 93]) := by
  obtain ⟨k, rfl, hk, hf⟩ := live_in hl
  have hfit := (hS.at (k : Int)).1
  rw [show atS S (k : Int) = S.getD k zS from rfl] at hr hfit
  obtain ⟨rb, M, rfl, h⟩ := h
  have HB : Hid (Below w.heap.size w (w.alloc (.cells #[.int .i64 0, .int .u32 0, .bool false, .slice none 0 0, .int .i64 0] 34))) := on_alloc w _
  have HX : Hid (Blk (w.alloc (.cells #[.int .i64 0, .int .u32 0, .bool false, .slice none 0 0, .int .i64 0] 34)) w.heap.size 34 (slC zS (.slice none 0 0))) := zBlk w
  obtain ⟨e, hke, he⟩ := ent_at M (by simpa using hk)
  rw [he] at hf hr hfit
  have h0 := h.keep (keep_on HB.out)
  have cH := held_yes h0 hke hf
  have y1 := (h0.ent k e hke hf).2.1.cell 1 rfl
  have cS := fun w1 => R.sub_any need e.sl.rights hn hfit w1
  rw [hr] at cS
  have f := HX.out
  have f0 := f.free 0
  have f1 := f.free 1
  have f2 := f.free 2
  have f3 := f.free 3
  have f4 := f.free 4
  have x0 := f.cell 0 rfl
  have x1 := f.cell 1 rfl
  have x2 := f.cell 2 rfl
  have x3 := f.cell 3 rfl
  have x4 := f.cell 4 rfl
  simp only [zS, Int.natCast_zero] at x0 x1 x2 x3 x4
  clear h h0 hl f hk hS he
  go_enter Try.func12, Try.ntmps12
  go_wp2_with fail
  generalize w.alloc (.cells #[.int .i64 0, .int .u32 0, .bool false, .slice none 0 0, .int .i64 0] 34) = w0 at *
  refine cH.mono ?_
  rintro e w1 ⟨rfl, rfl⟩
  go_wp2_with fail
  refine (cS _).mono ?_
  rintro e w2 ⟨rfl, rfl⟩
  go_wp2
  exact bodyPost_ret (results_blkT (cs := slC zS (.slice none 0 0)) Try.isAgg34 infoS rfl _ _ rfl rfl (HX.out.put (slC zS (.slice none 0 0)) rfl)) rfl ⟨_, rfl, below_but HB.out (but_putL w.heap.size (slC zS (.slice none 0 0)) w2 0) (Nat.le_refl _), .slice none 0 0, rfl, .nil _ _⟩

set_option maxRecDepth 100000 in
set_option maxHeartbeats 2000000 in
theorem get_yes (h : TabAt D F w tb S) (hS : Fits S) (hD : Lt D w) (fd : Int) (need : Nat) (hn : need < 4294967296) (hl : liveB S fd = true) (hr : R.subB need (atS S fd).rights = true) :
    Calls Try.prog 12 #[ptr tb, .int .i64 fd, .int .u32 (need : Int)] w (GPost D w (atS S fd) fun u => .tuple #[u, .int .i64 0]) := by
  obtain ⟨k, rfl, hk, hf⟩ := live_in hl
  have hfit := (hS.at (k : Int))
  rw [show atS S (k : Int) = S.getD k zS from rfl] at hr hfit ⊢
  obtain ⟨rb, M, rfl, h⟩ := h
  have HB : Hid (Below w.heap.size w (w.alloc (.cells #[.int .i64 0, .int .u32 0, .bool false, .slice none 0 0, .int .i64 0] 34))) := on_alloc w _
  have HX : Hid (Blk (w.alloc (.cells #[.int .i64 0, .int .u32 0, .bool false, .slice none 0 0, .int .i64 0] 34)) w.heap.size 34 (slC zS (.slice none 0 0))) := zBlk w
  obtain ⟨e, hke, he⟩ := ent_at M (by simpa using hk)
  rw [he] at hf hr hfit ⊢
  have h0 := h.keep (keep_on HB.out)
  have cH := held_yes h0 hke hf
  obtain ⟨_, hbe, hie⟩ := h0.ent k e hke hf
  obtain ⟨x, bk, lv⟩ := e
  simp only at hf hr hfit hbe hie cH ⊢
  obtain ⟨p, c, rfl, hat⟩ := hie
  have cS := fun w1 => R.sub_any need x.rights hn hfit.1 w1
  rw [hr] at cS
  have cF := fresh_any x p c _ (W.at_ints.2 hat.at) (by have := hfit.len; omega)
  have HP : Hid (∀ u w2, Below w.heap.size w w2 → SlD D w2 u x → GPost D w x (fun u => .tuple #[u, .int .i64 0]) (.returned (.tuple #[u, .int .i64 0])) w2) := fun u w2 h1 h2 => ⟨u, rfl, h1, h2⟩
  generalize GPost D w x (fun u => .tuple #[u, .int .i64 0]) = Post at *
  have b0 := hbe.cell 0 rfl
  have b1 := hbe.cell 1 rfl
  have b2 := hbe.cell 2 rfl
  have b3 := hbe.cell 3 rfl
  have b4 := hbe.cell 4 rfl
  clear h h0 hl hk hS he hat hbe hke hfit hf
  go_enter Try.func12, Try.ntmps12
  go_wp2_with fail
  generalize w.alloc (.cells #[.int .i64 0, .int .u32 0, .bool false, .slice none 0 0, .int .i64 0] 34) = w0 at *
  refine cH.mono ?_
  rintro e w1 ⟨rfl, rfl⟩
  go_wp2_with fail
  refine (cS _).mono ?_
  rintro e w2 ⟨rfl, rfl⟩
  go_wp2_with fail
  refine cF.mono ?_
  rintro e w3 ⟨rfl, hb3, p3, c3, hB3, hat3⟩
  have HX3 : Hid (Blk w3 w.heap.size 34 (slC zS (.slice none 0 0))) := HX.out.on hb3
  have HB3 : Hid (Below w.heap.size w w3) := on_trans HB.out hb3
  have HL : Hid (IntD D (putL w3 w.heap.size 0 (slC x (.slice p3 x.ints.length c3))) (.slice p3 x.ints.length c3) x.ints) := by
    refine (IntD.of (base := w2.heap.size + 1) ?_ fun k hk => ?_)
    · exact W.atF_ints.2 ((W.atF_ints.1 hat3).but (but_putL _ _ _ _) (by have := HX.out.lt; omega))
    · have := hD k hk; have := HB.out.size; omega
  have f := HX3.out
  have f0 := f.free 0
  have f1 := f.free 1
  have f2 := f.free 2
  have f3 := f.free 3
  have f4 := f.free 4
  have x0 := f.cell 0 rfl
  have x1 := f.cell 1 rfl
  have x2 := f.cell 2 rfl
  have x3 := f.cell 3 rfl
  have x4 := f.cell 4 rfl
  simp only [zS, Int.natCast_zero] at x0 x1 x2 x3 x4
  have z0 := hB3.cell 0 rfl
  have z1 := hB3.cell 1 rfl
  have z2 := hB3.cell 2 rfl
  have z3 := hB3.cell 3 rfl
  have z4 := hB3.cell 4 rfl
  have HZ : Hid _ := HP.out (.agg (slC x (.slice p3 x.ints.length c3)).toArray) _ (below_but HB3.out (but_putL w.heap.size (slC x (.slice p3 x.ints.length c3)) w3 0) (Nat.le_refl _)) ⟨_, rfl, HL.out⟩
  clear cF cS cH HB HX hb3 hB3 hat3 f HP HL
  obtain ⟨file, rights, all, ints, fc⟩ := x
  simp only at z0 z1 z2 z3 z4
  go_wp2
  exact bodyPost_ret (results_blkT (cs := slC ⟨file, rights, all, ints, fc⟩ (.slice p3 ints.length c3)) Try.isAgg34 infoS rfl _ _ rfl (v1 := .int .i64 0) rfl (HX3.out.put (slC ⟨file, rights, all, ints, fc⟩ (.slice p3 ints.length c3)) rfl)) rfl HZ.out
theorem Keep.temp {O : Nat → Prop} {w1 w2 : World} {b : Nat} (h : Keep O w w1) (hB : But b w1 w2) (hb : w.heap.size ≤ b) : Keep O w w2 :=
  ⟨hB.os.trans h.os, hB.tape.trans h.tape, hB.output.trans h.output, by rw [hB.size]; exact h.size, fun k hk hO => (hB.block k (by omega)).trans (h.block k hk hO)⟩
theorem ups_temp (D : Nat → Prop) {b n : Nat} (h : n ≤ b) : Ups D (Or D fun j => j = b) n := fun k hk => by
  rcases hk with h1 | rfl
  · exact .inl h1
  · exact .inr h
theorem ups_down (D G : Nat → Prop) (n : Nat) : Ups (Or D G) D n := fun _ hk => .inl (.inl hk)
set_option maxRecDepth 100000 in
set_option maxHeartbeats 1000000 in
theorem take_no (h : TabAt D F w tb S) (fd : Int) (hl : liveB S fd = false) :
    Calls Try.prog 30 #[ptr tb, .int .i64 fd] w (UPost D F tb w S zS fun u => .tuple #[u, .int .i64 9]) := by
  have HT : Hid (TabAt D F w tb S) := h
  obtain ⟨rb, M, rfl, h⟩ := h
  have HB : Hid (Below w.heap.size w (w.alloc (.cells #[.int .i64 0, .int .u32 0, .bool false, .slice none 0 0, .int .i64 0] 34))) := on_alloc w _
  have HX : Hid (Blk (w.alloc (.cells #[.int .i64 0, .int .u32 0, .bool false, .slice none 0 0, .int .i64 0] 34)) w.heap.size 34 (slC zS (.slice none 0 0))) := zBlk w
  have cH := held_no (h.keep (keep_on HB.out)) hl
  have f := HX.out
  have f0 := f.free 0
  have f1 := f.free 1
  have f2 := f.free 2
  have f3 := f.free 3
  have f4 := f.free 4
  have x0 := f.cell 0 rfl
  have x1 := f.cell 1 rfl
  have x2 := f.cell 2 rfl
  have x3 := f.cell 3 rfl
  have x4 := f.cell 4 rfl
  simp only [zS, Int.natCast_zero] at x0 x1 x2 x3 x4
  clear h hl f
  go_enter Try.func30, Try.ntmps30
  go_wp2_with fail
  generalize w.alloc (.cells #[.int .i64 0, .int .u32 0, .bool false, .slice none 0 0, .int .i64 0] 34) = w0 at *
  refine cH.mono ?_
  rintro e w1 ⟨rfl, rfl⟩
  go_wp2
  have hb : Below w.heap.size w (putL w1 w.heap.size 0 (slC zS (.slice none 0 0))) := below_but HB.out (but_putL w.heap.size (slC zS (.slice none 0 0)) w1 0) (Nat.le_refl _)
  exact bodyPost_ret (results_blkT (cs := slC zS (.slice none 0 0)) Try.isAgg34 infoS rfl _ _ rfl rfl (HX.out.put (slC zS (.slice none 0 0)) rfl)) rfl ⟨F, _, rfl, tab_or (HT.out.on hb), .on hb, .slice none 0 0, rfl, .nil _ _⟩

set_option maxRecDepth 100000 in
set_option maxHeartbeats 1000000 in
theorem take_yes (h : TabAt D F w tb S) (_hD : Lt D w) (fd : Int) (hl : liveB S fd = true) :
    Calls Try.prog 30 #[ptr tb, .int .i64 fd] w (UPost D F tb w (S.set fd.toNat zS) (atS S fd) fun u => .tuple #[u, .int .i64 0]) := by
  obtain ⟨k, rfl, hk, hf⟩ := live_in hl
  rw [show atS S (k : Int) = S.getD k zS from rfl, show (k : Int).toNat = k from rfl]
  obtain ⟨rb, M, rfl, h⟩ := h
  have HB : Hid (Below w.heap.size w (w.alloc (.cells #[.int .i64 0, .int .u32 0, .bool false, .slice none 0 0, .int .i64 0] 34))) := on_alloc w _
  have HX : Hid (Blk (w.alloc (.cells #[.int .i64 0, .int .u32 0, .bool false, .slice none 0 0, .int .i64 0] 34)) w.heap.size 34 (slC zS (.slice none 0 0))) := zBlk w
  have hk' : k < M.length := by simpa using hk
  obtain ⟨e, hke, he⟩ := ent_at M hk'
  rw [he] at hf ⊢
  have hFD : ∀ j, F j → j ≠ w.heap.size := fun j hj e => by have := (h.sub j hj).2; omega
  have h0 : TabM (Or D fun j => j = w.heap.size) F (w.alloc (.cells #[.int .i64 0, .int .u32 0, .bool false, .slice none 0 0, .int .i64 0] 34)) tb rb M := (h.up (ups_temp D (Nat.le_refl _)) fun j hj => .inl (h.sub j hj).1).keep (keep_on HB.out)
  have cH := held_yes h0 hke hf
  have hrb := h0.rb_ne hke hf
  obtain ⟨_, hbe, hie⟩ := h0.ent k e hke hf
  have y0 := h0.box.cell 0 rfl
  have y1 := h0.look hke
  have g1 := h0.row.free k
  have hz : (k : Int) < (M.length : Int) := by omega
  obtain ⟨x, bk, lv⟩ := e
  simp only [Ent.ptr] at hf hbe hie cH hrb y1 ⊢
  rw [if_neg hf] at y1
  have h1 := h0.drop hk'
  obtain ⟨p, c, rfl, hat⟩ := hie
  have hie : IntD (Or D fun j => j = w.heap.size) (w.alloc (.cells #[.int .i64 0, .int .u32 0, .bool false, .slice none 0 0, .int .i64 0] 34)) (.slice p x.ints.length c) x.ints := ⟨p, c, rfl, hat⟩
  have hb1 := hbe.but (but_set (w.alloc (.cells #[.int .i64 0, .int .u32 0, .bool false, .slice none 0 0, .int .i64 0] 34)) rb k (.pointer none)) hrb
  have hX1 := HX.out.but (but_set (w.alloc (.cells #[.int .i64 0, .int .u32 0, .bool false, .slice none 0 0, .int .i64 0] 34)) rb k (.pointer none)) (fun e => hFD rb h.frow e.symm)
  have hG1 : Keep (fun j => ¬ F j) w ((w.alloc (.cells #[.int .i64 0, .int .u32 0, .bool false, .slice none 0 0, .int .i64 0] 34)).setCell ⟨rb, k, none⟩ (.pointer none)) := ((Goes.on HB.out).trans (goes_set h.frow k (.pointer none))).keep
  have hi1 : IntD (Or D fun j => j = w.heap.size) ((w.alloc (.cells #[.int .i64 0, .int .u32 0, .bool false, .slice none 0 0, .int .i64 0] 34)).setCell ⟨rb, k, none⟩ (.pointer none)) (.slice p x.ints.length c) x.ints := hie.keep (keep_but (but_set _ rb k _) fun h7 => h7 (.inl (h.sub rb h.frow).1))
  have hfrow := h.frow
  have hsub := h.sub
  have HP : Hid (∀ u w2, TabAt D F w2 tb ((M.map Ent.sl).set k zS) → Goes F F w w2 → SlD D w2 u x → UPost D F tb w ((M.map Ent.sl).set k zS) x (fun u => .tuple #[u, .int .i64 0]) (.returned (.tuple #[u, .int .i64 0])) w2) := fun u w2 h1 h2 h3 => ⟨F, u, rfl, tab_or h1, h2, h3.up (ups_or h1 _)⟩
  generalize UPost D F tb w ((M.map Ent.sl).set k zS) x (fun u => .tuple #[u, .int .i64 0]) = Post at *
  clear h h0 hl hk he hie hbe hke hf hat
  have hB2 := but_putL w.heap.size (slC x (.slice p x.ints.length c)) ((w.alloc (.cells #[.int .i64 0, .int .u32 0, .bool false, .slice none 0 0, .int .i64 0] 34)).setCell ⟨rb, k, none⟩ (.pointer none)) 0
  have h2 := h1.keep (keep_but hB2 fun h7 => by
    rcases h7 with h7 | h7
    · exact h7 (.inr rfl)
    · exact hFD _ h7 rfl)
  have hi2 := hi1.keep (keep_but hB2 fun h7 => h7 (.inr rfl))
  have HZ : Hid _ := HP.out (.agg (slC x (.slice p x.ints.length c)).toArray) _ ⟨rb, _, by rw [List.map_set]; rfl, h2.up (ups_down _ _ _) fun j hj => (hsub j hj).1⟩ ⟨hG1.temp hB2 (Nat.le_refl _), fun _ h => .inl h⟩ ⟨_, rfl, hi2.up (ups_down _ _ _)⟩
  have HX1 : Hid _ := hX1
  have f := HX1.out
  have f0 := f.free 0
  have f1 := f.free 1
  have f2 := f.free 2
  have f3 := f.free 3
  have f4 := f.free 4
  have x0 := f.cell 0 rfl
  have x1 := f.cell 1 rfl
  have x2 := f.cell 2 rfl
  have x3 := f.cell 3 rfl
  have x4 := f.cell 4 rfl
  simp only [zS, Int.natCast_zero] at x0 x1 x2 x3 x4
  have b0 := hb1.cell 0 rfl
  have b1 := hb1.cell 1 rfl
  have b2 := hb1.cell 2 rfl
  have b3 := hb1.cell 3 rfl
  have b4 := hb1.cell 4 rfl
  clear h1 h2 hi1 hi2 hB2 hb1 hX1 hG1 HB HX HP hFD hfrow hsub f
  obtain ⟨file, rights, all, ints, fc⟩ := x
  simp only at b0 b1 b2 b3 b4
  go_enter Try.func30, Try.ntmps30
  go_wp2_with fail
  refine cH.mono ?_
  rintro e w1 ⟨rfl, rfl⟩
  go_wp2
  exact bodyPost_ret (results_blkT (cs := slC ⟨file, rights, all, ints, fc⟩ (.slice p ints.length c)) Try.isAgg34 infoS rfl _ _ rfl (v1 := .int .i64 0) rfl (HX1.out.put (slC ⟨file, rights, all, ints, fc⟩ (.slice p ints.length c)) rfl)) rfl HZ.out

theorem take_any (h : TabAt D F w tb S) (hD : Lt D w) (fd : Int) :
    Calls Try.prog 30 #[ptr tb, .int .i64 fd] w (UPost D F tb w (takeS S fd) (takeX S fd) fun u => .tuple #[u, .int .i64 (heldE S fd)]) := by
  unfold takeS takeX heldE
  cases hl : liveB S fd with
  | false => exact take_no h fd hl
  | true => exact take_yes h hD fd hl
theorem get_any (h : TabAt D F w tb S) (hS : Fits S) (hD : Lt D w) (fd : Int) (need : Nat) (hn : need < 4294967296) :
    Calls Try.prog 12 #[ptr tb, .int .i64 fd, .int .u32 (need : Int)] w (GPost D w (getX S fd need) fun u => .tuple #[u, .int .i64 (getE S fd need)]) := by
  unfold getX getE
  cases hl : liveB S fd with
  | false => exact get_no h fd need hl
  | true =>
    cases hr : R.subB need (atS S fd).rights with
    | false => exact get_less h hS fd need hn hl hr
    | true => exact get_yes h hS hD fd need hn hl hr
end

end Go.Proofs.Ytmccfcllehfebaa.Z
