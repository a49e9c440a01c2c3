/- A file of package sparse in memory: its box, its map, its blocks; what of memory is its own, and what its calls turn. -/
import Derived.Test.YtigkelcmiknfjaaSMap
import Derived.Test.YtigkelcmiknfjaaSRef
import Derived.Test.YtigkelcmiknfjaaGRow
namespace Go.Proofs.Ytigkelcmiknfjaa
open Go Go.RowKit Go.Maps

/-- Nothing that lay is turned but what is in F; more may be laid. -/
structure Foot (F : Nat → Prop) (w w' : World) : Prop where
  os : w'.os = w.os
  tape : w'.tape = w.tape
  output : w'.output = w.output
  size : w.heap.size ≤ w'.heap.size
  block : ∀ k, k < w.heap.size → ¬ F k → w'.heap[k]? = w.heap[k]?
/-- And what is its own behind it was so before, or is new. -/
structure Goes (F F' : Nat → Prop) (w w' : World) : Prop where
  foot : Foot F w w'
  new : ∀ x, F' x → F x ∨ w.heap.size ≤ x
section
variable {F F1 F2 : Nat → Prop} {w w0 w1 w2 w' : World} {b base : Nat}
theorem Foot.of_below (h : Below w.heap.size w w') : Foot F w w' := ⟨h.os, h.tape, h.output, h.size, fun k hk _ => h.block k hk⟩
theorem Foot.of_but (h : But b w w') (hb : F b) : Foot F w w' := ⟨h.os, h.tape, h.output, by rw [h.size]; exact Nat.le_refl _, fun k _ hk => h.block k fun e => hk (e ▸ hb)⟩
theorem Foot.of_grown (h : w.grownBy w' (some b)) (hb : F b) : Foot F w w' := ⟨h.os, h.tape, h.output, h.size, fun k hk hn => h.block k hk fun e => hn (by cases e; exact hb)⟩
theorem Foot.less (h : Foot F w w') (hl : ∀ x, F x → F1 x) : Foot F1 w w' := ⟨h.os, h.tape, h.output, h.size, fun k hk hn => h.block k hk fun e => hn (hl k e)⟩
theorem Goes.refl (F : Nat → Prop) (w : World) : Goes F F w w := ⟨.of_below (Below.refl _ _), fun _ h => .inl h⟩
theorem Goes.trans (h : Goes F F1 w w1) (k : Goes F1 F2 w1 w2) : Goes F F2 w w2 := by
  refine ⟨⟨k.foot.os.trans h.foot.os, k.foot.tape.trans h.foot.tape, k.foot.output.trans h.foot.output, Nat.le_trans h.foot.size k.foot.size, fun j hj hn => ?_⟩, fun x hx => ?_⟩
  · refine (k.foot.block j (Nat.lt_of_lt_of_le hj h.foot.size) fun e => ?_).trans (h.foot.block j hj hn)
    rcases h.new j e with h1 | h1
    · exact hn h1
    · omega
  · rcases k.new x hx with h1 | h1
    · exact h.new x h1
    · exact .inr (Nat.le_trans h.foot.size h1)
theorem Goes.of_below (h : Below w.heap.size w w') : Goes F F w w' := ⟨.of_below h, fun _ h => .inl h⟩
theorem Goes.below (h : Goes F F1 w w') (h0 : Below base w0 w) (hF : ∀ x, F x → base ≤ x) (hs : base ≤ w.heap.size) : Below base w0 w' ∧ ∀ x, F1 x → base ≤ x := by
  refine ⟨⟨h.foot.os.trans h0.os, h.foot.tape.trans h0.tape, h.foot.output.trans h0.output, Nat.le_trans h0.size h.foot.size, fun k hk => (h.foot.block k (by omega) fun e => ?_).trans (h0.block k hk)⟩, fun x hx => ?_⟩
  · have := hF k e
    omega
  · rcases h.new x hx with h1 | h1
    · exact hF x h1
    · omega
end

/-- A block's bytes. -/
def blkB (C : Nat → UInt8) (k : Nat) : List UInt8 := (List.range 64).map fun i => C (64 * k + i)
theorem blkB_len (C : Nat → UInt8) (k : Nat) : (blkB C k).length = 64 := by simp [blkB]
theorem blkB_congr {C C' : Nat → UInt8} {k : Nat} (h : ∀ i, i / 64 = k → C' i = C i) : blkB C' k = blkB C k := by
  unfold blkB
  refine List.map_congr_left fun i hi => h _ ?_
  have := List.mem_range.1 hi
  omega
theorem blkB_get {C : Nat → UInt8} {k j : Nat} (h : j < 64) : (blkB C k)[j]? = some (C (64 * k + j)) := by simp [blkB, h]

/-- What of memory is a file's own. -/
def foot (fb : Nat) (mv : Value) (D : DataW Nat) (h : Nat → Bool) (x : Nat) : Prop := x = fb ∨ mv = .map (some x) ∨ ∃ k, h k = true ∧ x = gOf D k

/-- A file in memory: its size, its bytes, its blocks. -/
structure FileM (w : World) (fb : Nat) (mv : Value) (D : DataW Nat) (sz : Nat) (C : Nat → UInt8) (h : Nat → Bool) : Prop where
  box : Blk w fb 51 [mv, .int .i64 sz]
  map : (mv = .map none ∧ D = .map []) ∨ ∃ mb, mv = .map (some mb) ∧ w.ownsMap Try.prog 3 ptrElem mb (Maps.size D) D
  is : MapIs D h
  blk : ∀ k, h k = true → Blk w (gOf D k) 63 (bytesV (blkB C k))
  zero : ∀ i, h (i / 64) = false → C i = 0

def FileAt (w : World) (fb : Nat) (F : Nat → Prop) (sz : Nat) (C : Nat → UInt8) (h : Nat → Bool) : Prop := ∃ mv D, FileM w fb mv D sz C h ∧ F = foot fb mv D h

section
variable {w w' : World} {fb sz : Nat} {mv : Value} {D : DataW Nat} {C C' : Nat → UInt8} {h : Nat → Bool} {F : Nat → Prop}
theorem FileM.lt (f : FileM w fb mv D sz C h) {x : Nat} (hx : foot fb mv D h x) : x < w.heap.size := by
  rcases hx with rfl | hx | ⟨k, hk, rfl⟩
  · exact f.box.lt
  · rcases f.map with ⟨e, _⟩ | ⟨mb, e, hm⟩
    · rw [e] at hx; cases hx
    · rw [e] at hx; cases hx; exact hm.lt
  · exact (f.blk k hk).lt
/-- Its blocks are boxes, maps, arrays. -/
theorem FileM.kind (f : FileM w fb mv D sz C h) {x : Nat} (hx : foot fb mv D h x) {cs : Array Value} {t : TypeId} {fr : Nat × Nat} (e : w.heap[x]? = some (.cells cs t fr)) : t = 51 ∨ t = 63 := by
  rcases hx with rfl | hx | ⟨k, hk, rfl⟩
  · rw [f.box.row] at e; simp at e; exact .inl e.2.1.symm
  · rcases f.map with ⟨e', _⟩ | ⟨mb, e', hm⟩
    · rw [e'] at hx; cases hx
    · rw [e'] at hx; cases hx
      obtain ⟨es, clock, hb⟩ := owns_is hm
      rw [hb] at e; cases e
  · rw [(f.blk k hk).row] at e; simp at e; exact .inr e.2.1.symm
theorem FileM.same (f : FileM w fb mv D sz C h) (hs : ∀ x, foot fb mv D h x → w'.heap[x]? = w.heap[x]?) : FileM w' fb mv D sz C h := by
  refine ⟨⟨(hs fb (.inl rfl)).trans f.box.row⟩, ?_, f.is, fun k hk => ⟨(hs _ (.inr (.inr ⟨k, hk, rfl⟩))).trans (f.blk k hk).row⟩, f.zero⟩
  rcases f.map with h0 | ⟨mb, e, hm⟩
  · exact .inl h0
  · exact .inr ⟨mb, e, owns_block hm (hs mb (.inr (.inl e)))⟩
theorem FileM.on (f : FileM w fb mv D sz C h) (hb : Below w.heap.size w w') : FileM w' fb mv D sz C h := f.same fun x hx => hb.block x (f.lt hx)
theorem FileM.congr (f : FileM w fb mv D sz C h) (hc : ∀ i, C' i = C i) : FileM w fb mv D sz C' h := by
  have : C' = C := funext hc
  subst this; exact f
theorem FileAt.on (f : FileAt w fb F sz C h) (hb : Below w.heap.size w w') : FileAt w' fb F sz C h := by
  obtain ⟨mv, D, f, e⟩ := f
  exact ⟨mv, D, f.on hb, e⟩
theorem FileAt.drew (f : FileAt w fb F sz C h) : FileAt w.drew fb F sz C h := f.on (on_drew (Below.refl _ _))
theorem FileAt.drewN (f : FileAt w fb F sz C h) (q : Nat) : FileAt (w.drewN q) fb F sz C h := f.on (on_drewN (Below.refl _ _) q)
theorem Goes.drewN {F F' : Nat → Prop} {w w' : World} (g : Goes F F' w w') (q : Nat) : Goes F F' w (w'.drewN q) := ⟨⟨g.foot.os, g.foot.tape, g.foot.output, g.foot.size, g.foot.block⟩, g.new⟩
theorem FileAt.lt (f : FileAt w fb F sz C h) {x : Nat} (hx : F x) : x < w.heap.size := by
  obtain ⟨mv, D, f, rfl⟩ := f
  exact f.lt hx
theorem FileAt.kind (f : FileAt w fb F sz C h) {x : Nat} (hx : F x) {cs : Array Value} {t : TypeId} {fr : Nat × Nat} (e : w.heap[x]? = some (.cells cs t fr)) : t = 51 ∨ t = 63 := by
  obtain ⟨mv, D, f, rfl⟩ := f
  exact f.kind hx e
theorem FileAt.self (f : FileAt w fb F sz C h) : F fb := by
  obtain ⟨mv, D, f, rfl⟩ := f
  exact .inl rfl
theorem FileAt.small (f : FileAt w fb F sz C h) {k : Nat} (hk : h k = true) : k < 1024 := by
  obtain ⟨mv, D, f, rfl⟩ := f
  exact f.is.small k hk
theorem FileAt.zero (f : FileAt w fb F sz C h) {i : Nat} (hk : h (i / 64) = false) : C i = 0 := by
  obtain ⟨mv, D, f, rfl⟩ := f
  exact f.zero i hk
theorem FileAt.box (f : FileAt w fb F sz C h) : ∃ mv, Blk w fb 51 [mv, .int .i64 sz] := by
  obtain ⟨mv, D, f, rfl⟩ := f
  exact ⟨mv, f.box⟩
/-- A row of another kind stays while the file is turned. -/
theorem FileAt.row (f : FileAt w fb F sz C h) (hg : Foot F w w') {hi : Nat} {e : TypeId} {v : Value} {s : List Value} (ho : OwnV hi e w v s) (h1 : e ≠ 51) (h2 : e ≠ 63) : OwnV hi e w' v s := by
  refine ⟨ho.1, ?_⟩
  rcases ho.2 with h0 | ⟨g, cap, cur, rfl, hbs, hg', h3⟩
  · exact .inl h0
  · refine .inr ⟨g, cap, cur, rfl, hbs, (hg.block g (Array.getElem?_eq_some_iff.1 hg').1 fun hF => ?_).trans hg', h3⟩
    rcases f.kind hF hg' with h7 | h7
    · exact h1 h7
    · exact h2 h7
theorem FileAt.blk (f : FileAt w fb F sz C h) (hg : Foot F w w') {b : Nat} {t : TypeId} {cs : List Value} (hb : Blk w b t cs) (h1 : t ≠ 51) (h2 : t ≠ 63) : Blk w' b t cs := by
  refine ⟨(hg.block b hb.lt fun hF => ?_).trans hb.row⟩
  rcases f.kind hF hb.row with h7 | h7
  · exact h1 h7
  · exact h2 h7

theorem FileM.fb_map (f : FileM w fb mv D sz C h) {mb : Nat} (e : mv = .map (some mb)) : fb ≠ mb := fun e' => by
  subst e'
  rcases f.map with ⟨e2, _⟩ | ⟨mb', e2, hm⟩
  · rw [e] at e2; cases e2
  · rw [e] at e2; cases e2
    obtain ⟨es, clock, hb⟩ := owns_is hm
    rw [f.box.row] at hb; cases hb
theorem FileM.fb_blk (f : FileM w fb mv D sz C h) {k : Nat} (hk : h k = true) : gOf D k ≠ fb := fun e => by
  have h1 := (f.blk k hk).row
  rw [e, f.box.row] at h1
  simp at h1
theorem FileM.map_blk (f : FileM w fb mv D sz C h) {mb : Nat} (e : mv = .map (some mb)) {k : Nat} (hk : h k = true) : gOf D k ≠ mb := fun e' => by
  rcases f.map with ⟨e2, _⟩ | ⟨mb', e2, hm⟩
  · rw [e] at e2; cases e2
  · rw [e] at e2; cases e2
    obtain ⟨es, clock, hb⟩ := owns_is hm
    rw [← e', (f.blk k hk).row] at hb; cases hb
theorem FileM.owns (f : FileM w fb mv D sz C h) {mb : Nat} (e : mv = .map (some mb)) : w.ownsMap Try.prog 3 ptrElem mb (Maps.size D) D := by
  rcases f.map with ⟨e2, _⟩ | ⟨mb', e2, hm⟩
  · rw [e] at e2; cases e2
  · rw [e] at e2; cases e2; exact hm
theorem FileM.size_le (f : FileM w fb mv D sz C h) : Maps.size D ≤ 1024 := by rw [f.is.count]; exact cntF_le _ _

/-- Another size. -/
theorem FileM.sized (f : FileM w fb mv D sz C h) (s : Nat) : FileM (w.setCell ⟨fb, 1, none⟩ (.int .i64 s)) fb mv D s C h := by
  have hb := but_set w fb 1 (.int .i64 s)
  refine ⟨f.box.set 1 _, ?_, f.is, fun k hk => (f.blk k hk).but hb (f.fb_blk hk), f.zero⟩
  rcases f.map with h0 | ⟨mb, e, hm⟩
  · exact .inl h0
  · exact .inr ⟨mb, e, owns_block hm (hb.block mb fun e' => f.fb_map e e'.symm)⟩
theorem FileAt.sized (f : FileAt w fb F sz C h) (s : Nat) : FileAt (w.setCell ⟨fb, 1, none⟩ (.int .i64 s)) fb F s C h ∧ Goes F F w (w.setCell ⟨fb, 1, none⟩ (.int .i64 s)) := by
  have hs := f.self
  obtain ⟨mv, D, f, e⟩ := f
  exact ⟨⟨mv, D, f.sized s, e⟩, .of_but (but_set w fb 1 _) hs, fun _ h => .inl h⟩
/-- A file of no bytes. -/
theorem fileM_new (w : World) : FileM (w.alloc (.cells #[.map none, .int .i64 0] 51)) w.heap.size (.map none) (.map []) 0 (fun _ => 0) (fun _ => false) :=
  ⟨Blk.new w _ [.map none, .int .i64 0], .inl ⟨rfl, rfl⟩, mapIs_empty, (fun _ h => by cases h), fun _ _ => rfl⟩
/-- A map laid. -/
theorem FileM.mapped (f : FileM w fb (.map none) D sz C h) : FileM ((w.alloc (.map #[] 0)).setCell ⟨fb, 0, none⟩ (.map (some w.heap.size))) fb (.map (some w.heap.size)) D sz C h := by
  have hD : D = .map [] := by
    rcases f.map with h0 | ⟨mb, e, _⟩
    · exact h0.2
    · cases e
  have hb := but_set (w.alloc (.map #[] 0)) fb 0 (.map (some w.heap.size))
  have hlt := f.box.lt
  refine ⟨(f.box.alloc _).set 0 _, .inr ⟨_, rfl, ?_⟩, f.is, fun k hk => ((f.blk k hk).alloc _).but hb (f.fb_blk hk), f.zero⟩
  rw [hD]
  exact owns_block (World.ownsMap_made w _ _ _) (hb.block _ (by omega))
/-- A block laid. -/
theorem FileM.laid {mb g : Nat} {w2 : World} {cs : Array Value} (f : FileM w fb (.map (some mb)) D sz C h) {k : Nat} (hk : h k = false) (hl : k < 1024) (hgs : w.heap.size = g) (hcs : cs = (bytesV (List.replicate 64 0)).toArray)
    (ho : w2.ownsMap Try.prog 3 ptrElem mb (Maps.size D + 1) (D.put (ky k) (.held g)))
    (hg : (w.alloc (.cells cs 63)).grownBy w2 (some mb)) :
    FileM w2 fb (.map (some mb)) (D.put (ky k) (.held g)) sz C (upd h k true) ∧ gOf (D.put (ky k) (.held g)) k = g := by
  subst hgs hcs
  have hal := on_alloc w (.cells (bytesV (List.replicate 64 0)).toArray 63)
  have hsz : (w.alloc (.cells (bytesV (List.replicate 64 0)).toArray 63)).heap.size = w.heap.size + 1 := by simp
  have hm := (f.owns rfl).lt
  have hgk : gOf (D.put (ky k) (.held w.heap.size)) k = w.heap.size := gOf_put f.is.tidy.isMap k _
  refine ⟨⟨⟨?_⟩, .inr ⟨mb, rfl, owns_exact ho⟩, f.is.put hk hl fun j hj e => ?_, fun j hj => ?_, fun i hi => f.zero i ?_⟩, hgk⟩
  · rw [hg.block fb (by rw [hsz]; have := f.box.lt; omega) fun e => f.fb_map rfl (by simpa using e)]
    exact (f.box.alloc _).row
  · have := (f.blk j hj).lt
    omega
  · by_cases e : j = k
    · subst e
      rw [hgk]
      have hz : blkB C j = List.replicate 64 0 := by
        refine List.ext_getElem? fun i => ?_
        by_cases hi : i < 64
        · rw [blkB_get hi, f.zero _ (by rw [show (64 * j + i) / 64 = j by omega]; exact hk), List.getElem?_replicate, if_pos hi]
        · rw [List.getElem?_eq_none (by rw [blkB_len]; omega), List.getElem?_eq_none (by simp; omega)]
      rw [hz]
      refine ⟨(hg.block _ (by omega) fun e => ?_).trans (Blk.new w _ _).row⟩
      simp at e; omega
    · rw [upd_other true e] at hj
      rw [gOf_put_other _ e]
      refine ⟨(hg.block _ (by rw [hsz]; have := (f.blk j hj).lt; omega) fun e => ?_).trans ((f.blk j hj).alloc _).row⟩
      exact f.map_blk rfl hj (by simpa using e)
  · by_cases e : i / 64 = k
    · rw [e, upd_same] at hi; cases hi
    · rw [upd_other true e] at hi; exact hi
/-- Bytes laid into a block. -/
theorem FileM.wrote (f : FileM w fb mv D sz C h) {k : Nat} (hk : h k = true) (hb : But (gOf D k) w w') (hr : Blk w' (gOf D k) 63 (bytesV (blkB C' k))) (ho : ∀ i, i / 64 ≠ k → C' i = C i) : FileM w' fb mv D sz C' h := by
  refine ⟨f.box.but hb fun e => f.fb_blk hk e.symm, ?_, f.is, fun j hj => ?_, fun i hi => ?_⟩
  · rcases f.map with h0 | ⟨mb, e, hm⟩
    · exact .inl h0
    · exact .inr ⟨mb, e, owns_block hm (hb.block mb fun e' => f.map_blk e hk e'.symm)⟩
  · by_cases e : j = k
    · subst e; exact hr
    · rw [blkB_congr fun i hi => ho i (by omega)]
      exact (f.blk j hj).but hb fun e' => e (f.is.inj j k hj hk e')
  · have : i / 64 ≠ k := fun e => by rw [e, hk] at hi; cases hi
    rw [ho i this]; exact f.zero i hi
/-- A block struck. -/
theorem FileM.struck {mb m : Nat} (f : FileM w fb (.map (some mb)) D sz C h) {k : Nat} (hk : h k = true) (ho : w'.ownsMap Try.prog 3 ptrElem mb m (D.del (ky k))) (hg : w.grownBy w' (some mb)) (hz : ∀ i, i / 64 = k → C' i = 0) (hc : ∀ i, i / 64 ≠ k → C' i = C i) :
    FileM w' fb (.map (some mb)) (D.del (ky k)) sz C' (upd h k false) := by
  refine ⟨⟨?_⟩, .inr ⟨mb, rfl, owns_exact ho⟩, f.is.del hk, fun j hj => ?_, fun i hi => ?_⟩
  · rw [hg.block fb f.box.lt fun e => f.fb_map rfl (by simpa using e)]
    exact f.box.row
  · have e : j ≠ k := fun e => by subst e; rw [upd_same] at hj; cases hj
    rw [upd_other false e] at hj
    rw [gOf_del_other e, blkB_congr fun i hi => hc i (by omega)]
    refine ⟨(hg.block _ (f.blk j hj).lt fun e => ?_).trans (f.blk j hj).row⟩
    exact f.map_blk rfl hj (by simpa using e)
  · by_cases e : i / 64 = k
    · exact hz i e
    · rw [upd_other false e] at hi
      rw [hc i e]; exact f.zero i hi
end

end Go.Proofs.Ytigkelcmiknfjaa
