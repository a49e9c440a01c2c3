/- Memory, of no program: rows of values, blocks of cells, rows of one's own, growth. -/
import Derived.WalkKit
import Derived.WalkLawsBesides
import Derived.WalkSpells
import Derived.Laws.Rows
import Derived.BigQuiet
import Derived.Deep.QuietTactic
import Derived.RangeFuncRecord
import Derived.Laws.ResultCell
import Derived.Laws.AppendOwn
import Derived.Laws.OwnMore
import Derived.ArgAppend
namespace Go.Proofs.YtgolihipinjfmaaGreatDoor
open Go Go.RowKit

theorem on_alloc (w : World) (o : Obj) : Below w.heap.size w (w.alloc o) := (Below.refl _ w).alloc (Nat.le_refl _) o
theorem on_trans {w w1 w2 : World} (h : Below w.heap.size w w1) (h2 : Below w1.heap.size w1 w2) : Below w.heap.size w w2 := h.trans (h2.mono h.size)
theorem on_drewN {w w1 : World} (h : Below w.heap.size w w1) (q : Nat) : Below w.heap.size w (w1.drewN q) := ⟨h.os, h.tape, h.output, h.size, h.block⟩
theorem on_drew {w w1 : World} (h : Below w.heap.size w w1) : Below w.heap.size w w1.drew := ⟨h.os, h.tape, h.output, h.size, h.block⟩

/-- All blocks but one are as they were. -/
structure But (b : Nat) (w w' : World) : Prop where
  os : w'.os = w.os
  tape : w'.tape = w.tape
  output : w'.output = w.output
  size : w'.heap.size = w.heap.size
  block : ∀ k, k ≠ b → w'.heap[k]? = w.heap[k]?
theorem But.refl (b : Nat) (w : World) : But b w w := ⟨rfl, rfl, rfl, rfl, fun _ _ => rfl⟩
theorem But.trans {b : Nat} {w w1 w2 : World} (h : But b w w1) (k : But b w1 w2) : But b w w2 :=
  ⟨k.os.trans h.os, k.tape.trans h.tape, k.output.trans h.output, k.size.trans h.size, fun j hj => (k.block j hj).trans (h.block j hj)⟩
theorem but_set (w : World) (b o : Nat) (v : Value) : But b w (w.setCell ⟨b, o, none⟩ v) :=
  ⟨rfl, rfl, rfl, by simp [World.setCell], fun k hk => by simp [World.setCell, Array.getElem?_modify, Ne.symm hk]⟩
theorem below_but {B b : Nat} {w0 w w' : World} (h : Below B w0 w) (k : But b w w') (hb : B ≤ b) : Below B w0 w' :=
  ⟨k.os.trans h.os, k.tape.trans h.tape, k.output.trans h.output, by rw [k.size]; exact h.size, fun j hj => (k.block j (by omega)).trans (h.block j hj)⟩

/-- A slice at 'p', in a block not older than 'base', reads as these values. -/
def AtF (base : Nat) (w : World) (p : Option Addr) (l : List Value) : Prop :=
  l = [] ∨ ∃ b off, p = some ⟨b, off, none⟩ ∧ base ≤ b ∧ b < w.heap.size ∧ ∀ (j : Nat) v, l[j]? = some v → w.cell? ⟨b, off + j, none⟩ = some v
abbrev At (w : World) (p : Option Addr) (l : List Value) : Prop := AtF 0 w p l
section
variable {base base' b : Nat} {w w' : World} {p : Option Addr} {l : List Value}
theorem AtF.nil (base : Nat) (w : World) (p : Option Addr) : AtF base w p [] := .inl rfl
theorem AtF.less (h : AtF base w p l) (hb : base' ≤ base) : AtF base' w p l := by
  rcases h with h | ⟨b, off, hp, hl, hlt, hc⟩
  · exact .inl h
  · exact .inr ⟨b, off, hp, Nat.le_trans hb hl, hlt, hc⟩
theorem AtF.at (h : AtF base w p l) : At w p l := h.less (Nat.zero_le _)
theorem AtF.below {B : Nat} (h : AtF base w p l) (hb : Below B w w') (hB : w.heap.size ≤ B) : AtF base w' p l := by
  rcases h with h | ⟨b, off, hp, hl, hlt, hc⟩
  · exact .inl h
  · exact .inr ⟨b, off, hp, hl, Nat.lt_of_lt_of_le hlt hb.size, fun j v hj => (hb.cell (p := ⟨b, off + j, none⟩) (Nat.lt_of_lt_of_le hlt hB)).trans (hc j v hj)⟩
theorem AtF.on (h : AtF base w p l) (hb : Below w.heap.size w w') : AtF base w' p l := h.below hb (Nat.le_refl _)
theorem AtF.alloc (h : AtF base w p l) (o : Obj) : AtF base (w.alloc o) p l := h.on (on_alloc w o)
theorem AtF.drew (h : AtF base w p l) : AtF base w.drew p l := h.on (on_drew (Below.refl _ _))
theorem AtF.but (h : AtF base w p l) (k : But b w w') (hb : b < base) : AtF base w' p l := by
  rcases h with h | ⟨g, off, hp, hl, hlt, hc⟩
  · exact .inl h
  · refine .inr ⟨g, off, hp, hl, by rw [k.size]; exact hlt, fun j v hj => ?_⟩
    rw [← hc j v hj]
    simp only [World.cell?, k.block g (by omega)]
theorem AtF.take (h : AtF base w p l) (k : Nat) : AtF base w p (l.take k) := by
  rcases h with rfl | ⟨b, off, hp, hl, hlt, hc⟩
  · exact .inl (by simp)
  · refine .inr ⟨b, off, hp, hl, hlt, fun j v hj => hc j v ?_⟩
    rw [List.getElem?_take] at hj
    split at hj
    · exact hj
    · cases hj
/-- Its place, where it is not empty. -/
theorem AtF.place (h : AtF base w p l) {k : Nat} (hk : k < l.length) : ∃ b off, p = some ⟨b, off, none⟩ ∧ base ≤ b ∧ b < w.heap.size ∧ ∀ (j : Nat) v, l[j]? = some v → w.cell? ⟨b, off + j, none⟩ = some v :=
  h.resolve_left fun e => by rw [e] at hk; simp at hk
end

/-- A block of cells. -/
structure Blk (w : World) (b : Nat) (t : TypeId) (cs : List Value) : Prop where
  row : w.heap[b]? = some (.cells cs.toArray t (0, 0))
/-- Cells laid from a place on. -/
def putL (w : World) (b : Nat) : Nat → List Value → World
  | _, [] => w
  | i, v :: r => putL (w.setCell ⟨b, i, none⟩ v) b (i + 1) r
section
variable {w w' : World} {b B c : Nat} {t : TypeId} {cs : List Value}
theorem Blk.lt (h : Blk w b t cs) : b < w.heap.size := (Array.getElem?_eq_some_iff.1 h.row).1
theorem Blk.cell (h : Blk w b t cs) (i : Nat) {v : Value} (hi : cs[i]? = some v) : w.cell? ⟨b, i, none⟩ = some v := by
  rw [cell_of_row _ _ i _ _ _ h.row]
  simpa using hi
theorem Blk.free (h : Blk w b t cs) (k : Nat) : w.frozen? ⟨b, k, none⟩ = false := by simp [World.frozen?, h.row]
theorem Blk.new (w : World) (t : TypeId) (cs : List Value) : Blk (w.alloc (.cells cs.toArray t)) w.heap.size t cs := ⟨World.alloc_heap_new w _⟩
theorem Blk.below (h : Blk w b t cs) (hb : Below B w w') (hB : b < B) : Blk w' b t cs := ⟨(hb.block b hB).trans h.row⟩
theorem Blk.on (h : Blk w b t cs) (hb : Below w.heap.size w w') : Blk w' b t cs := h.below hb h.lt
theorem Blk.alloc (h : Blk w b t cs) (o : Obj) : Blk (w.alloc o) b t cs := h.on (on_alloc w o)
theorem Blk.drew (h : Blk w b t cs) : Blk w.drew b t cs := ⟨h.row⟩
theorem Blk.but (h : Blk w c t cs) (k : But b w w') (hne : c ≠ b) : Blk w' c t cs := ⟨(k.block c hne).trans h.row⟩
theorem Blk.set (h : Blk w b t cs) (i : Nat) (v : Value) : Blk (w.setCell ⟨b, i, none⟩ v) b t (cs.set i v) :=
  ⟨by simp [World.setCell, Array.getElem?_modify, h.row]⟩
theorem but_putL (b : Nat) : ∀ (vs : List Value) (w : World) (i : Nat), But b w (putL w b i vs)
  | [], w, _ => But.refl b w
  | v :: r, w, i => (but_set w b i v).trans (but_putL b r _ (i + 1))
theorem blk_putL : ∀ (vs : List Value) (w : World) (i : Nat) (cs : List Value), Blk w b t cs → i + vs.length = cs.length → Blk (putL w b i vs) b t (cs.take i ++ vs)
  | [], w, i, cs, h, hl => by rw [List.append_nil, List.take_of_length_le (by simp at hl; omega)]; exact h
  | v :: r, w, i, cs, h, hl => by
    have hi : i < cs.length := by simp at hl; omega
    have := blk_putL r _ (i + 1) (cs.set i v) (h.set i v) (by simp at hl ⊢; omega)
    have e : (cs.set i v).take (i + 1) ++ r = cs.take i ++ v :: r := by
      rw [List.take_add_one, List.take_set_of_le (Nat.le_refl _)]
      simp [hi]
    rw [e] at this
    exact this
theorem Blk.put (h : Blk w b t cs) (vs : List Value) (hl : vs.length = cs.length) : Blk (putL w b 0 vs) b t vs := by
  have := blk_putL vs w 0 cs h (by omega)
  simpa using this
end

theorem run_loadVar_blk {P : Program} {w : World} {b : Nat} {t : TypeId} {cs : List Value} (hagg : ∀ w, (isAgg t).run P w = .ok true w) (hi : (P.info? t).map (·.size) = some cs.length) (h : Blk w b t cs) :
    (loadVar t ⟨b, 0, none⟩).run P w = .ok (.agg cs.toArray) w := by
  have hl : (loadCells ⟨b, 0, none⟩ cs.length).run P w = .ok cs.toArray w :=
    run_loadCells_list (P := P) w ⟨b, 0, none⟩ cs (fun j v hv => by
      have e : (⟨b, 0, none⟩ : Addr).add j = ⟨b, j, none⟩ := by unfold Addr.add; split <;> simp_all
      rw [e]; exact h.cell j hv)
  cases hq : P.info? t with
  | none => simp [hq] at hi
  | some i =>
    have hs : i.size = cs.length := by simpa [hq] using hi
    simp [loadVar, Sem.run_bind, hagg, sizeOf, typeInfo, hq, hs, hl]

/-- A row of one's own. -/
abbrev OwnV (hi : Nat) (e : TypeId) (W : World) (v : Value) (s : List Value) : Prop := W.ownsRow hi e 1 v s.length s
section
variable {hi hi' b : Nat} {e : TypeId} {w w' : World} {v : Value} {s : List Value}
theorem row_base {e : TypeId} {size n : Nat} {xs : List Value} (h : w.ownsRow hi e size v n xs) (j : Nat) (ej : v.ownBlock = some j) : hi ≤ j := by
  rcases h.2 with ⟨rfl, _⟩ | ⟨g, cap, cur, rfl, hb, _⟩
  · simp [Value.ownBlock] at ej
  · simp [Value.ownBlock] at ej; omega
theorem ownV_on (h : OwnV hi e w v s) (hb : Below w.heap.size w w') : OwnV hi e w' v s := by
  refine ⟨h.1, ?_⟩
  rcases h.2 with h0 | ⟨g, cap, cur, rfl, hbs, hg, h3, h4, h5, h6⟩
  · exact .inl h0
  · exact .inr ⟨g, cap, cur, rfl, hbs, (hb.block g (Array.getElem?_eq_some_iff.1 hg).1).trans hg, h3, h4, h5, h6⟩
theorem ownV_but (h : OwnV hi e w v s) (hb : But b w w') (hlt : b < hi) : OwnV hi e w' v s := by
  refine ⟨h.1, ?_⟩
  rcases h.2 with h0 | ⟨g, cap, cur, rfl, hbs, hg, h3, h4, h5, h6⟩
  · exact .inl h0
  · exact .inr ⟨g, cap, cur, rfl, hbs, (hb.block g (by omega)).trans hg, h3, h4, h5, h6⟩
theorem ownV_less (h : OwnV hi e w v s) (hl : hi' ≤ hi) : OwnV hi' e w v s := by
  refine ⟨h.1, ?_⟩
  rcases h.2 with h0 | ⟨g, cap, cur, h1, h2, h3⟩
  · exact .inl h0
  · exact .inr ⟨g, cap, cur, h1, Nat.le_trans hl h2, h3⟩
theorem ownV_nil (hi : Nat) (e : TypeId) (W : World) : OwnV hi e W (.slice none 0 0) [] := World.ownsRow_nil _ _ _ _
theorem ownV_empty (W : World) (hi : Nat) (e : TypeId) (h : hi ≤ W.heap.size) : OwnV hi e (W.alloc (.cells #[] e)) (.slice (some ⟨W.heap.size, 0, none⟩) 0 0) [] :=
  World.ownsRow_made W #[] 0 h (by unfold maxLen; omega) rfl
theorem ownV_at (h : OwnV hi e w v s) : ∃ p cap, v = .slice p s.length cap ∧ AtF hi w p s ∧ s.length ≤ cap := by
  rcases h.2 with ⟨h0, h1⟩ | ⟨g, cap, cur, rfl, hb, hg, hc, _, hs, ht⟩
  · have e : s = [] := List.eq_nil_of_length_eq_zero h1
    subst e
    exact ⟨none, 0, by rw [h0]; rfl, .nil _ _ _, Nat.le_refl _⟩
  · refine ⟨some ⟨g, 0, none⟩, cap, rfl, .inr ⟨g, 0, rfl, hb, (Array.getElem?_eq_some_iff.1 hg).1, fun j u hu => ?_⟩, hc⟩
    have hj := (List.getElem?_eq_some_iff.1 hu).1
    rw [← ht, List.getElem?_take_of_lt (by omega)] at hu
    simp only [World.cell?, hg, Nat.zero_add]
    simpa using hu
end

theorem at_news {w : World} {a : Addr} {l : List Value} (h : At w (some a) l) : ∀ (j : Nat) u, l[j]? = some u → w.cell? (a.add j) = some u := fun j u hu => by
  have hjl := (List.getElem?_eq_some_iff.1 hu).1
  obtain ⟨bb, off, e, _, _, hc⟩ := h.place hjl
  cases e
  rw [← hc j u hu]
  congr 1
  unfold Addr.add
  split <;> simp_all

/-- What is asked of a slice's type: its elements are of one cell. -/
structure ElemOk (P : Program) (t e : TypeId) (z : Value) (bytes : Nat) : Prop where
  slice : P.underlying t = some (.slice e)
  info : (P.info? e).map (fun i => (i.zero, i.size, i.bytes)) = some (some z, 1, bytes)
  one : z.cells.size = 1
  few : bytes ≤ 1000

/-- Nothing that lay is turned but one row of one's own; more may be laid. -/
structure RowGrow (hi : Nat) (e : TypeId) (w w' : World) : Prop where
  os : w'.os = w.os
  tape : w'.tape = w.tape
  output : w'.output = w.output
  size : w.heap.size ≤ w'.heap.size
  block : ∃ r : Option Nat, (∀ g, r = some g → hi ≤ g ∧ ∃ cs fr, w.heap[g]? = some (.cells cs e fr)) ∧ ∀ k, k < w.heap.size → r ≠ some k → w'.heap[k]? = w.heap[k]?
section
variable {hi B b : Nat} {e t : TypeId} {w0 w w' : World} {cs : List Value}
theorem RowGrow.below (h : RowGrow hi e w w') (h0 : Below B w0 w) (hB : B ≤ hi) (hs : B ≤ w.heap.size) : Below B w0 w' := by
  obtain ⟨r, h1, h2⟩ := h.block
  refine ⟨h.os.trans h0.os, h.tape.trans h0.tape, h.output.trans h0.output, Nat.le_trans h0.size h.size, fun k hk => (h2 k (by omega) fun e => ?_).trans (h0.block k hk)⟩
  have := (h1 k e).1
  omega
theorem RowGrow.blk (h : RowGrow hi e w w') (hb : Blk w b t cs) (hne : t ≠ e) : Blk w' b t cs := by
  obtain ⟨r, h1, h2⟩ := h.block
  refine ⟨(h2 b hb.lt fun e' => ?_).trans hb.row⟩
  obtain ⟨_, cs', fr, h3⟩ := h1 b e'
  rw [hb.row] at h3
  simp at h3
  exact hne h3.2.1
end

/-- append onto a row of one's own, whatever list. -/
theorem append_row {P : Program} {t e : TypeId} {z : Value} {bytes : Nat} (E : ElemOk P t e z bytes) (hi : Nat) (v : Value) (s : List Value) (p : Option Addr) (cap : Nat) (l : List Value) (W : World) (hs : s.length ≤ 1000000) (hl : l.length ≤ 1000000)
    (hone : ∀ u ∈ l, u.oneCell' = true) (hown : OwnV hi e W v s) (h : At W p l) (hhi : hi ≤ W.heap.size) :
    ∃ v' W', (Builtin.append_ #[t, t] t #[v, .slice p l.length cap]).run P W = .ok v' W' ∧ OwnV hi e W' v' (s ++ l) ∧ RowGrow hi e W W' := by
  obtain ⟨i0, hi0, hz0, hz1, hz2⟩ := info_parts E.info
  cases p with
  | none =>
    obtain rfl : l = [] := by
      rcases h with e | ⟨b, off, e, _⟩
      · exact e
      · cases e
    refine ⟨v, W, ?_, by rw [List.append_nil]; exact hown, rfl, rfl, rfl, Nat.le_refl _, none, (fun g e => by cases e), fun _ _ _ => rfl⟩
    rcases hown.2 with ⟨rfl, _⟩ | ⟨g, c, cur, rfl, _, _, hnc, _⟩
    · simp [Builtin.append_, run_underlying E.slice, sizeOf, typeInfo, hi0, Builtin.lenOf, Builtin.firstCells]
    · simp [Builtin.append_, run_underlying E.slice, sizeOf, typeInfo, hi0, Builtin.lenOf, Builtin.firstCells, hnc, storeCells]
  | some a =>
    have hfew := E.few
    have hbytes : (s.length + l.length) * bytes ≤ 140737488355328 := by
      have : (s.length + l.length) * bytes ≤ 2000000 * 1000 := Nat.mul_le_mul (by omega) hfew
      omega
    obtain ⟨v', W', hrun, h1, hg, _⟩ := run_append_own (P := P) W hi t t e i0 z 1 bytes E.slice hi0 hz0 hz1 hz2 E.one (by decide) v s.length _ hown
      a l.length cap l (by simp) (at_news h) hone (by unfold maxLen; omega) hbytes hhi
    refine ⟨v', W', hrun, ?_, hg.os, hg.tape, hg.output, hg.size, v.ownBlock, fun g e => ?_, fun k hk hne => hg.block k hk fun e => hne e.symm⟩
    · show W'.ownsRow hi e 1 v' (s ++ l).length (s ++ l)
      rw [List.length_append]; exact h1
    · rcases hown.2 with ⟨rfl, _⟩ | ⟨g', c, cur, rfl, hb, hg', _⟩
      · simp [Value.ownBlock] at e
      · simp [Value.ownBlock] at e
        subst e
        exact ⟨hb, cur, _, hg'⟩
theorem at_row1 (w : World) (e : TypeId) (x : Value) : AtF w.heap.size (w.alloc (.cells #[x] e)) (some ⟨w.heap.size, 0, none⟩) [x] :=
  .inr ⟨w.heap.size, 0, rfl, Nat.le_refl _, by simp, fun j v hj => by
    rw [cell_of_row _ _ _ _ _ _ (World.alloc_heap_new w _), Nat.zero_add]
    simpa using hj⟩
/-- One value more. -/
theorem append_one {P : Program} {t e : TypeId} {z : Value} {bytes : Nat} (E : ElemOk P t e z bytes) (hi : Nat) (v : Value) (s : List Value) (x : Value) (W : World) (hs : s.length ≤ 1000000) (hx : x.oneCell' = true) (hown : OwnV hi e W v s) (hhi : hi ≤ W.heap.size) :
    ∃ v' W', (Builtin.append_ #[t, t] t #[v, .slice (some ⟨W.heap.size, 0, none⟩) 1 1]).run P (W.alloc (.cells #[x] e)) = .ok v' W' ∧ OwnV hi e W' v' (s ++ [x]) ∧ Below hi W W' := by
  obtain ⟨v', W', h1, h2, h3⟩ := append_row E hi v s (some ⟨W.heap.size, 0, none⟩) 1 [x] (W.alloc (.cells #[x] e)) hs (by simp) (fun u hu => by simp at hu; subst hu; exact hx) (ownV_on hown (on_alloc _ _)) (at_row1 W e x).at (by simp; omega)
  exact ⟨v', W', h1, h2, h3.below ((on_alloc W _).mono hhi) (Nat.le_refl _) (by simp; omega)⟩

end Go.Proofs.YtgolihipinjfmaaGreatDoor
