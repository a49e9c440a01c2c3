/- Memory, of no program: rows of values, blocks of cells, rows of one's own, growth. -/
import Derived.WalkKit
import Derived.WalkLawsBesides
import Derived.WalkSpells
import Derived.Laws.Rows
import Derived.BigQuiet
import Derived.Deep.QuietTactic
import Derived.RangeFuncRecord
import Derived.Laws.ResultCell
import Derived.Laws.AppendOwn
import Derived.Laws.OwnMore
import Derived.ArgAppend
import Derived.Test.YthmefiegoagkjaaA1
import Derived.Laws.CopyRow
import Derived.Laws.IdiomCopy
import Derived.Lib.SliceRun
import Derived.Laws.MakeOwn
import Derived.Lib.AppendZerosOnto
import Derived.Lib.Overlaps
import Derived.Maps.AppendAt
namespace Go.Proofs.Ythmefiegoagkjaa
open Go Go.RowKit

theorem on_alloc (w : World) (o : Obj) : Below w.heap.size w (w.alloc o) := (Below.refl _ w).alloc (Nat.le_refl _) o
theorem on_trans {w w1 w2 : World} (h : Below w.heap.size w w1) (h2 : Below w1.heap.size w1 w2) : Below w.heap.size w w2 := h.trans (h2.mono h.size)
theorem on_drewN {w w1 : World} (h : Below w.heap.size w w1) (q : Nat) : Below w.heap.size w (w1.drewN q) := ⟨h.os, h.tape, h.output, h.size, h.block⟩
theorem on_drew {w w1 : World} (h : Below w.heap.size w w1) : Below w.heap.size w w1.drew := ⟨h.os, h.tape, h.output, h.size, h.block⟩

/-- All blocks but one are as they were. -/
structure But (b : Nat) (w w' : World) : Prop where
  os : w'.os = w.os
  tape : w'.tape = w.tape
  output : w'.output = w.output
  size : w'.heap.size = w.heap.size
  block : ∀ k, k ≠ b → w'.heap[k]? = w.heap[k]?
theorem But.refl (b : Nat) (w : World) : But b w w := ⟨rfl, rfl, rfl, rfl, fun _ _ => rfl⟩
theorem But.trans {b : Nat} {w w1 w2 : World} (h : But b w w1) (k : But b w1 w2) : But b w w2 :=
  ⟨k.os.trans h.os, k.tape.trans h.tape, k.output.trans h.output, k.size.trans h.size, fun j hj => (k.block j hj).trans (h.block j hj)⟩
theorem but_set (w : World) (b o : Nat) (v : Value) : But b w (w.setCell ⟨b, o, none⟩ v) :=
  ⟨rfl, rfl, rfl, by simp [World.setCell], fun k hk => by simp [World.setCell, Array.getElem?_modify, Ne.symm hk]⟩
theorem below_but {B b : Nat} {w0 w w' : World} (h : Below B w0 w) (k : But b w w') (hb : B ≤ b) : Below B w0 w' :=
  ⟨k.os.trans h.os, k.tape.trans h.tape, k.output.trans h.output, by rw [k.size]; exact h.size, fun j hj => (k.block j (by omega)).trans (h.block j hj)⟩

/-- A slice at 'p', in a block not older than 'base', reads as these values. -/
def AtF (base : Nat) (w : World) (p : Option Addr) (l : List Value) : Prop :=
  l = [] ∨ ∃ b off, p = some ⟨b, off, none⟩ ∧ base ≤ b ∧ b < w.heap.size ∧ ∀ (j : Nat) v, l[j]? = some v → w.cell? ⟨b, off + j, none⟩ = some v
abbrev At (w : World) (p : Option Addr) (l : List Value) : Prop := AtF 0 w p l
section
variable {base base' b : Nat} {w w' : World} {p : Option Addr} {l : List Value}
theorem AtF.nil (base : Nat) (w : World) (p : Option Addr) : AtF base w p [] := .inl rfl
theorem AtF.less (h : AtF base w p l) (hb : base' ≤ base) : AtF base' w p l := by
  rcases h with h | ⟨b, off, hp, hl, hlt, hc⟩
  · exact .inl h
  · exact .inr ⟨b, off, hp, Nat.le_trans hb hl, hlt, hc⟩
theorem AtF.at (h : AtF base w p l) : At w p l := h.less (Nat.zero_le _)
theorem AtF.below {B : Nat} (h : AtF base w p l) (hb : Below B w w') (hB : w.heap.size ≤ B) : AtF base w' p l := by
  rcases h with h | ⟨b, off, hp, hl, hlt, hc⟩
  · exact .inl h
  · exact .inr ⟨b, off, hp, hl, Nat.lt_of_lt_of_le hlt hb.size, fun j v hj => (hb.cell (p := ⟨b, off + j, none⟩) (Nat.lt_of_lt_of_le hlt hB)).trans (hc j v hj)⟩
theorem AtF.on (h : AtF base w p l) (hb : Below w.heap.size w w') : AtF base w' p l := h.below hb (Nat.le_refl _)
theorem AtF.alloc (h : AtF base w p l) (o : Obj) : AtF base (w.alloc o) p l := h.on (on_alloc w o)
theorem AtF.drew (h : AtF base w p l) : AtF base w.drew p l := h.on (on_drew (Below.refl _ _))
theorem AtF.but (h : AtF base w p l) (k : But b w w') (hb : b < base) : AtF base w' p l := by
  rcases h with h | ⟨g, off, hp, hl, hlt, hc⟩
  · exact .inl h
  · refine .inr ⟨g, off, hp, hl, by rw [k.size]; exact hlt, fun j v hj => ?_⟩
    rw [← hc j v hj]
    simp only [World.cell?, k.block g (by omega)]
theorem AtF.take (h : AtF base w p l) (k : Nat) : AtF base w p (l.take k) := by
  rcases h with rfl | ⟨b, off, hp, hl, hlt, hc⟩
  · exact .inl (by simp)
  · refine .inr ⟨b, off, hp, hl, hlt, fun j v hj => hc j v ?_⟩
    rw [List.getElem?_take] at hj
    split at hj
    · exact hj
    · cases hj
/-- Its place, where it is not empty. -/
theorem AtF.place (h : AtF base w p l) {k : Nat} (hk : k < l.length) : ∃ b off, p = some ⟨b, off, none⟩ ∧ base ≤ b ∧ b < w.heap.size ∧ ∀ (j : Nat) v, l[j]? = some v → w.cell? ⟨b, off + j, none⟩ = some v :=
  h.resolve_left fun e => by rw [e] at hk; simp at hk
end

/-- A block of cells. -/
structure Blk (w : World) (b : Nat) (t : TypeId) (cs : List Value) : Prop where
  row : w.heap[b]? = some (.cells cs.toArray t (0, 0))
/-- Cells laid from a place on. -/
def putL (w : World) (b : Nat) : Nat → List Value → World
  | _, [] => w
  | i, v :: r => putL (w.setCell ⟨b, i, none⟩ v) b (i + 1) r
section
variable {w w' : World} {b B c : Nat} {t : TypeId} {cs : List Value}
theorem Blk.lt (h : Blk w b t cs) : b < w.heap.size := (Array.getElem?_eq_some_iff.1 h.row).1
theorem Blk.cell (h : Blk w b t cs) (i : Nat) {v : Value} (hi : cs[i]? = some v) : w.cell? ⟨b, i, none⟩ = some v := by
  rw [cell_of_row _ _ i _ _ _ h.row]
  simpa using hi
theorem Blk.free (h : Blk w b t cs) (k : Nat) : w.frozen? ⟨b, k, none⟩ = false := by simp [World.frozen?, h.row]
theorem Blk.new (w : World) (t : TypeId) (cs : List Value) : Blk (w.alloc (.cells cs.toArray t)) w.heap.size t cs := ⟨World.alloc_heap_new w _⟩
theorem Blk.below (h : Blk w b t cs) (hb : Below B w w') (hB : b < B) : Blk w' b t cs := ⟨(hb.block b hB).trans h.row⟩
theorem Blk.on (h : Blk w b t cs) (hb : Below w.heap.size w w') : Blk w' b t cs := h.below hb h.lt
theorem Blk.alloc (h : Blk w b t cs) (o : Obj) : Blk (w.alloc o) b t cs := h.on (on_alloc w o)
theorem Blk.drew (h : Blk w b t cs) : Blk w.drew b t cs := ⟨h.row⟩
theorem Blk.but (h : Blk w c t cs) (k : But b w w') (hne : c ≠ b) : Blk w' c t cs := ⟨(k.block c hne).trans h.row⟩
theorem Blk.set (h : Blk w b t cs) (i : Nat) (v : Value) : Blk (w.setCell ⟨b, i, none⟩ v) b t (cs.set i v) :=
  ⟨by simp [World.setCell, Array.getElem?_modify, h.row]⟩
theorem but_putL (b : Nat) : ∀ (vs : List Value) (w : World) (i : Nat), But b w (putL w b i vs)
  | [], w, _ => But.refl b w
  | v :: r, w, i => (but_set w b i v).trans (but_putL b r _ (i + 1))
theorem blk_putL : ∀ (vs : List Value) (w : World) (i : Nat) (cs : List Value), Blk w b t cs → i + vs.length = cs.length → Blk (putL w b i vs) b t (cs.take i ++ vs)
  | [], w, i, cs, h, hl => by rw [List.append_nil, List.take_of_length_le (by simp at hl; omega)]; exact h
  | v :: r, w, i, cs, h, hl => by
    have hi : i < cs.length := by simp at hl; omega
    have := blk_putL r _ (i + 1) (cs.set i v) (h.set i v) (by simp at hl ⊢; omega)
    have e : (cs.set i v).take (i + 1) ++ r = cs.take i ++ v :: r := by
      rw [List.take_add_one, List.take_set_of_le (Nat.le_refl _)]
      simp [hi]
    rw [e] at this
    exact this
theorem Blk.put (h : Blk w b t cs) (vs : List Value) (hl : vs.length = cs.length) : Blk (putL w b 0 vs) b t vs := by
  have := blk_putL vs w 0 cs h (by omega)
  simpa using this
end

theorem run_loadVar_blk {P : Program} {w : World} {b : Nat} {t : TypeId} {cs : List Value} (hagg : ∀ w, (isAgg t).run P w = .ok true w) (hi : (P.info? t).map (·.size) = some cs.length) (h : Blk w b t cs) :
    (loadVar t ⟨b, 0, none⟩).run P w = .ok (.agg cs.toArray) w := by
  have hl : (loadCells ⟨b, 0, none⟩ cs.length).run P w = .ok cs.toArray w :=
    run_loadCells_list (P := P) w ⟨b, 0, none⟩ cs (fun j v hv => by
      have e : (⟨b, 0, none⟩ : Addr).add j = ⟨b, j, none⟩ := by unfold Addr.add; split <;> simp_all
      rw [e]; exact h.cell j hv)
  cases hq : P.info? t with
  | none => simp [hq] at hi
  | some i =>
    have hs : i.size = cs.length := by simpa [hq] using hi
    simp [loadVar, Sem.run_bind, hagg, sizeOf, typeInfo, hq, hs, hl]

/-- A row of one's own. -/
abbrev OwnV (hi : Nat) (e : TypeId) (W : World) (v : Value) (s : List Value) : Prop := W.ownsRow hi e 1 v s.length s
section
variable {hi hi' b : Nat} {e : TypeId} {w w' : World} {v : Value} {s : List Value}
theorem row_base {e : TypeId} {size n : Nat} {xs : List Value} (h : w.ownsRow hi e size v n xs) (j : Nat) (ej : v.ownBlock = some j) : hi ≤ j := by
  rcases h.2 with ⟨rfl, _⟩ | ⟨g, cap, cur, rfl, hb, _⟩
  · simp [Value.ownBlock] at ej
  · simp [Value.ownBlock] at ej; omega
theorem ownV_on (h : OwnV hi e w v s) (hb : Below w.heap.size w w') : OwnV hi e w' v s := by
  refine ⟨h.1, ?_⟩
  rcases h.2 with h0 | ⟨g, cap, cur, rfl, hbs, hg, h3, h4, h5, h6⟩
  · exact .inl h0
  · exact .inr ⟨g, cap, cur, rfl, hbs, (hb.block g (Array.getElem?_eq_some_iff.1 hg).1).trans hg, h3, h4, h5, h6⟩
theorem ownV_but (h : OwnV hi e w v s) (hb : But b w w') (hlt : b < hi) : OwnV hi e w' v s := by
  refine ⟨h.1, ?_⟩
  rcases h.2 with h0 | ⟨g, cap, cur, rfl, hbs, hg, h3, h4, h5, h6⟩
  · exact .inl h0
  · exact .inr ⟨g, cap, cur, rfl, hbs, (hb.block g (by omega)).trans hg, h3, h4, h5, h6⟩
theorem ownV_less (h : OwnV hi e w v s) (hl : hi' ≤ hi) : OwnV hi' e w v s := by
  refine ⟨h.1, ?_⟩
  rcases h.2 with h0 | ⟨g, cap, cur, h1, h2, h3⟩
  · exact .inl h0
  · exact .inr ⟨g, cap, cur, h1, Nat.le_trans hl h2, h3⟩
theorem ownV_nil (hi : Nat) (e : TypeId) (W : World) : OwnV hi e W (.slice none 0 0) [] := World.ownsRow_nil _ _ _ _
theorem ownV_empty (W : World) (hi : Nat) (e : TypeId) (h : hi ≤ W.heap.size) : OwnV hi e (W.alloc (.cells #[] e)) (.slice (some ⟨W.heap.size, 0, none⟩) 0 0) [] :=
  World.ownsRow_made W #[] 0 h (by unfold maxLen; omega) rfl
theorem ownV_at (h : OwnV hi e w v s) : ∃ p cap, v = .slice p s.length cap ∧ AtF hi w p s ∧ s.length ≤ cap := by
  rcases h.2 with ⟨h0, h1⟩ | ⟨g, cap, cur, rfl, hb, hg, hc, _, hs, ht⟩
  · have e : s = [] := List.eq_nil_of_length_eq_zero h1
    subst e
    exact ⟨none, 0, by rw [h0]; rfl, .nil _ _ _, Nat.le_refl _⟩
  · refine ⟨some ⟨g, 0, none⟩, cap, rfl, .inr ⟨g, 0, rfl, hb, (Array.getElem?_eq_some_iff.1 hg).1, fun j u hu => ?_⟩, hc⟩
    have hj := (List.getElem?_eq_some_iff.1 hu).1
    rw [← ht, List.getElem?_take_of_lt (by omega)] at hu
    simp only [World.cell?, hg, Nat.zero_add]
    simpa using hu
end

theorem at_news {w : World} {a : Addr} {l : List Value} (h : At w (some a) l) : ∀ (j : Nat) u, l[j]? = some u → w.cell? (a.add j) = some u := fun j u hu => by
  have hjl := (List.getElem?_eq_some_iff.1 hu).1
  obtain ⟨bb, off, e, _, _, hc⟩ := h.place hjl
  cases e
  rw [← hc j u hu]
  congr 1
  unfold Addr.add
  split <;> simp_all

/-- What is asked of a slice's type: its elements are of one cell. -/
structure ElemOk (P : Program) (t e : TypeId) (z : Value) (bytes : Nat) : Prop where
  slice : P.underlying t = some (.slice e)
  info : (P.info? e).map (fun i => (i.zero, i.size, i.bytes)) = some (some z, 1, bytes)
  one : z.cells.size = 1
  few : bytes ≤ 1000

/-- Nothing that lay is turned but one row of one's own; more may be laid. -/
structure RowGrow (hi : Nat) (e : TypeId) (w w' : World) : Prop where
  os : w'.os = w.os
  tape : w'.tape = w.tape
  output : w'.output = w.output
  size : w.heap.size ≤ w'.heap.size
  block : ∃ r : Option Nat, (∀ g, r = some g → hi ≤ g ∧ ∃ cs fr, w.heap[g]? = some (.cells cs e fr)) ∧ ∀ k, k < w.heap.size → r ≠ some k → w'.heap[k]? = w.heap[k]?
section
variable {hi B b : Nat} {e t : TypeId} {w0 w w' : World} {cs : List Value}
theorem RowGrow.below (h : RowGrow hi e w w') (h0 : Below B w0 w) (hB : B ≤ hi) (hs : B ≤ w.heap.size) : Below B w0 w' := by
  obtain ⟨r, h1, h2⟩ := h.block
  refine ⟨h.os.trans h0.os, h.tape.trans h0.tape, h.output.trans h0.output, Nat.le_trans h0.size h.size, fun k hk => (h2 k (by omega) fun e => ?_).trans (h0.block k hk)⟩
  have := (h1 k e).1
  omega
theorem RowGrow.blk (h : RowGrow hi e w w') (hb : Blk w b t cs) (hne : t ≠ e) : Blk w' b t cs := by
  obtain ⟨r, h1, h2⟩ := h.block
  refine ⟨(h2 b hb.lt fun e' => ?_).trans hb.row⟩
  obtain ⟨_, cs', fr, h3⟩ := h1 b e'
  rw [hb.row] at h3
  simp at h3
  exact hne h3.2.1
end

/-- append onto a row of one's own, whatever list. -/
theorem append_row {P : Program} {t e : TypeId} {z : Value} {bytes : Nat} (E : ElemOk P t e z bytes) (hi : Nat) (v : Value) (s : List Value) (p : Option Addr) (cap : Nat) (l : List Value) (W : World) (hs : s.length ≤ 1000000) (hl : l.length ≤ 1000000)
    (hone : ∀ u ∈ l, u.oneCell' = true) (hown : OwnV hi e W v s) (h : At W p l) (hhi : hi ≤ W.heap.size) :
    ∃ v' W', (Builtin.append_ #[t, t] t #[v, .slice p l.length cap]).run P W = .ok v' W' ∧ OwnV hi e W' v' (s ++ l) ∧ RowGrow hi e W W' := by
  obtain ⟨i0, hi0, hz0, hz1, hz2⟩ := info_parts E.info
  cases p with
  | none =>
    obtain rfl : l = [] := by
      rcases h with e | ⟨b, off, e, _⟩
      · exact e
      · cases e
    refine ⟨v, W, ?_, by rw [List.append_nil]; exact hown, rfl, rfl, rfl, Nat.le_refl _, none, (fun g e => by cases e), fun _ _ _ => rfl⟩
    rcases hown.2 with ⟨rfl, _⟩ | ⟨g, c, cur, rfl, _, _, hnc, _⟩
    · simp [Builtin.append_, run_underlying E.slice, sizeOf, typeInfo, hi0, Builtin.lenOf, Builtin.firstCells]
    · simp [Builtin.append_, run_underlying E.slice, sizeOf, typeInfo, hi0, Builtin.lenOf, Builtin.firstCells, hnc, storeCells]
  | some a =>
    have hfew := E.few
    have hbytes : (s.length + l.length) * bytes ≤ 140737488355328 := by
      have : (s.length + l.length) * bytes ≤ 2000000 * 1000 := Nat.mul_le_mul (by omega) hfew
      omega
    obtain ⟨v', W', hrun, h1, hg, _⟩ := run_append_own (P := P) W hi t t e i0 z 1 bytes E.slice hi0 hz0 hz1 hz2 E.one (by decide) v s.length _ hown
      a l.length cap l (by simp) (at_news h) hone (by unfold maxLen; omega) hbytes hhi
    refine ⟨v', W', hrun, ?_, hg.os, hg.tape, hg.output, hg.size, v.ownBlock, fun g e => ?_, fun k hk hne => hg.block k hk fun e => hne e.symm⟩
    · show W'.ownsRow hi e 1 v' (s ++ l).length (s ++ l)
      rw [List.length_append]; exact h1
    · rcases hown.2 with ⟨rfl, _⟩ | ⟨g', c, cur, rfl, hb, hg', _⟩
      · simp [Value.ownBlock] at e
      · simp [Value.ownBlock] at e
        subst e
        exact ⟨hb, cur, _, hg'⟩
theorem at_row1 (w : World) (e : TypeId) (x : Value) : AtF w.heap.size (w.alloc (.cells #[x] e)) (some ⟨w.heap.size, 0, none⟩) [x] :=
  .inr ⟨w.heap.size, 0, rfl, Nat.le_refl _, by simp, fun j v hj => by
    rw [cell_of_row _ _ _ _ _ _ (World.alloc_heap_new w _), Nat.zero_add]
    simpa using hj⟩
/-- One value more. -/
theorem append_one {P : Program} {t e : TypeId} {z : Value} {bytes : Nat} (E : ElemOk P t e z bytes) (hi : Nat) (v : Value) (s : List Value) (x : Value) (W : World) (hs : s.length ≤ 1000000) (hx : x.oneCell' = true) (hown : OwnV hi e W v s) (hhi : hi ≤ W.heap.size) :
    ∃ v' W', (Builtin.append_ #[t, t] t #[v, .slice (some ⟨W.heap.size, 0, none⟩) 1 1]).run P (W.alloc (.cells #[x] e)) = .ok v' W' ∧ OwnV hi e W' v' (s ++ [x]) ∧ Below hi W W' := by
  obtain ⟨v', W', h1, h2, h3⟩ := append_row E hi v s (some ⟨W.heap.size, 0, none⟩) 1 [x] (W.alloc (.cells #[x] e)) hs (by simp) (fun u hu => by simp at hu; subst hu; exact hx) (ownV_on hown (on_alloc _ _)) (at_row1 W e x).at (by simp; omega)
  exact ⟨v', W', h1, h2, h3.below ((on_alloc W _).mono hhi) (Nat.le_refl _) (by simp; omega)⟩

end Go.Proofs.Ythmefiegoagkjaa

namespace Go.Proofs.Ythmefiegoagkjaa
open Go Go.RowKit

/-- A predicate that growth keeps, and a store to a block below 'hi' that is not its own. -/
structure Kd (hi : Nat) where
  ok : Value → World → Prop
  blk : Option Nat
  on : ∀ v w w', ok v w → Below w.heap.size w w' → ok v w'
  but : ∀ v w w' b, ok v w → But b w w' → b < hi → blk ≠ some b → ok v w'

def Kd.any {hi : Nat} : Kd hi := ⟨fun _ _ => True, none, fun _ _ _ _ _ => trivial, fun _ _ _ _ _ _ _ _ => trivial⟩
def Kd.is {hi : Nat} (u : Value) : Kd hi := ⟨fun v _ => v = u, none, fun _ _ _ h _ => h, fun _ _ _ _ h _ _ _ => h⟩
/-- A slice that reads as a list. -/
def Kd.sl {hi : Nat} (l : List Value) : Kd hi :=
  ⟨fun v W => ∃ p c, v = .slice p l.length c ∧ AtF hi W p l ∧ l.length ≤ c, none,
   fun _ _ _ ⟨p, c, h1, h2, h3⟩ hb => ⟨p, c, h1, h2.on hb, h3⟩, fun _ _ _ _ ⟨p, c, h1, h2, h3⟩ hb hlt _ => ⟨p, c, h1, h2.but hb hlt, h3⟩⟩
/-- A row of one's own. -/
def Kd.own {hi : Nat} (e : TypeId) (l : List Value) : Kd hi :=
  ⟨fun v W => OwnV hi e W v l, none, fun _ _ _ h hb => ownV_on h hb, fun _ _ _ _ h hb hlt _ => ownV_but h hb hlt⟩
/-- An empty slice without room. -/
def Kd.empty {hi : Nat} : Kd hi := ⟨fun v _ => ∃ b, v = .slice (some ⟨b, 0, none⟩) 0 0, none, fun _ _ _ h _ => h, fun _ _ _ _ h _ _ _ => h⟩
/-- A block's cells. -/
def Kd.box {hi : Nat} (b : Nat) (t : TypeId) (cs : List Value) : Kd hi :=
  ⟨fun _ W => Blk W b t cs, some b, fun _ _ _ h hb => h.on hb, fun _ _ _ _ h hb _ hne => h.but hb fun e => hne (congrArg some e)⟩
/-- Both. -/
def Kd.and {hi : Nat} (k : Kd hi) (A : World → Prop) (hA : ∀ w w', A w → Below w.heap.size w w' → A w') (hB : ∀ w w' b, A w → But b w w' → b < hi → A w') : Kd hi :=
  ⟨fun v W => k.ok v W ∧ A W, k.blk, fun v w w' h hb => ⟨k.on v w w' h.1 hb, hA w w' h.2 hb⟩, fun v w w' b h hb hlt hne => ⟨k.but v w w' b h.1 hb hlt hne, hB w w' b h.2 hb hlt⟩⟩

theorem blk_none {hi : Nat} {k : Kd hi} {b : Nat} (h : k.blk = none) : k.blk ≠ some b := by rw [h]; simp
theorem blk_other {hi : Nat} {k : Kd hi} {b b' : Nat} (h : k.blk = some b') (hne : b' ≠ b) : k.blk ≠ some b := by rw [h]; simpa using hne

/-- An operation leaves all blocks as they were, but for the box that it stores to. -/
def KeepK (kp : List (Nat × Nat)) (i : Nat) (w w' : World) : Prop := match kp.lookup i with | none => Below w.heap.size w w' | some b => But b w w'

theorem keep_kd {hi : Nat} {ops : Array Oper} {kp : List (Nat × Nat)} {ks : List (Kd hi)} {tl : Till} (h : ∀ i b, kp.lookup i = some b → b < hi ∧ ∀ j, j ≠ i → (ks.getD j .any).blk ≠ some b) :
    ∀ i j v w w', KeepK kp i w w' → j ≠ i → edge ops j i = false → (∀ u, tl.lookup j = some u → u ≠ i ∧ edge ops i u = false) → (ks.getD j .any).ok v w → (ks.getD j .any).ok v w' := by
  intro i j v w w' hk hne _ _ hok
  unfold KeepK at hk
  cases hb : kp.lookup i with
  | none => rw [hb] at hk; exact Kd.on _ v w w' hok hk
  | some b =>
    rw [hb] at hk
    exact Kd.but _ v w w' b hok hk (h i b hb).1 ((h i b hb).2 j hne)
theorem keep_none {hi : Nat} {ops : Array Oper} {ks : List (Kd hi)} {tl : Till} : ∀ i j v w w', KeepK [] i w w' → j ≠ i → edge ops j i = false → (∀ u, tl.lookup j = some u → u ≠ i ∧ edge ops i u = false) → (ks.getD j .any).ok v w → (ks.getD j .any).ok v w' :=
  keep_kd (fun i b h => by simp at h)
/-- One store alone. -/
theorem keep_one {hi n b : Nat} {ops : Array Oper} {ks : List (Kd hi)} {tl : Till} (hb : b < hi) (h : ∀ j, j ≠ n → (ks.getD j .any).blk = none) :
    ∀ i j v w w', KeepK [(n, b)] i w w' → j ≠ i → edge ops j i = false → (∀ u, tl.lookup j = some u → u ≠ i ∧ edge ops i u = false) → (ks.getD j .any).ok v w → (ks.getD j .any).ok v w' := by
  refine keep_kd fun i b' hk => ?_
  have : i = n ∧ b' = b := by
    simp only [List.lookup] at hk
    split at hk
    · rename_i h7
      exact ⟨by simpa using h7, by simpa using hk.symm⟩
    · cases hk
  obtain ⟨rfl, rfl⟩ := this
  exact ⟨hb, fun j hj => blk_none (h j hj)⟩

section
variable {P : Program} {o : Oper} {ρ : Operand → Value} {w : World} {post : Value → World → Prop}

theorem leaves_append {w' : World} {v : Value} (s x : Operand) (t : TypeId) (ho : o.op = .call { callee := .builtin .append, args := #[s, x], argTypes := #[t, t] }) (hrun : (Builtin.append_ #[t, t] o.type #[ρ s, ρ x]).run P w = .ok v w') (hp : post v w') : leaves P o ρ w post := by
  refine leaves_value (v := v) (w' := w') ?_ hp
  obtain ⟨dst, op, ty, pos, after, guard⟩ := o
  simp only at ho
  subst ho
  rw [BigFrame.execOp_builtin, BigFrame.builtin_append]
  simp only [List.map_toArray, List.map_cons, List.map_nil]
  rw [Sem.run_bind, hrun]
  rfl
theorem wpList_run_append {ops : Array Oper} {rest : List Oper} {a : Act} {w' : World} {v : Value} {Q : Exit → Act → World → Prop} (hgd : o.guard = none) (s x : Operand) (t : TypeId)
    (ho : o.op = .call { callee := .builtin .append, args := #[s, x], argTypes := #[t, t] }) (u1 u2 : Value) (h1 : a.eval s = u1) (h2 : a.eval x = u2)
    (hrun : (Builtin.append_ #[t, t] o.type #[u1, u2]).run P w = .ok v w') (h : wpList P ops Q rest (a.put o.dst v) w') : wpList P ops Q (o :: rest) a w := by
  subst h1 h2
  refine wpList_plain hgd fun K hK => ?_
  exact leaves_wp (leaves_append (post := fun u W => u = v ∧ W = w') s x t ho hrun ⟨rfl, rfl⟩) fun u W h2 => by
    obtain ⟨rfl, rfl⟩ := h2
    exact hK _ _ h
theorem leaves_call {f : FuncId} (he : ∀ args w, (callFunc f args).run P w = .ok (.enter f args) w) (hr : Reads ρ) (xs : Array Operand) (ats : Array TypeId)
    (ho : o.op = .call { callee := .value (.func f), args := xs, argTypes := ats }) (vs : Array Value) (hv : xs.map ρ = vs)
    (hc : Calls P f vs w fun e w' => ∃ v, e = .returned v ∧ post v w') : leaves P o ρ w post := by
  refine leaves_enter (f := f) (args := vs) (w' := w) ?_ hc
  obtain ⟨dst, op, ty, pos, after, guard⟩ := o
  simp only at ho
  subst ho hv
  have hfv := hr.fn f
  simp [execOp, resolve, hfv, Deferred.ofValue, invoke, he]
theorem leaves_call0 {f : FuncId} (he : ∀ args w, (callFunc f args).run P w = .ok (.enter f args) w) (hr : Reads ρ) (ho : o.op = .call { callee := .value (.func f), args := #[], argTypes := #[] })
    (hc : Calls P f #[] w fun e w' => ∃ v, e = .returned v ∧ post v w') : leaves P o ρ w post := leaves_call he hr #[] #[] ho #[] (by simp) hc
theorem leaves_call1 {f : FuncId} (he : ∀ args w, (callFunc f args).run P w = .ok (.enter f args) w) (hr : Reads ρ) (x : Operand) (t : TypeId) (ho : o.op = .call { callee := .value (.func f), args := #[x], argTypes := #[t] }) {u : Value} (hv : ρ x = u)
    (hc : Calls P f #[u] w fun e w' => ∃ v, e = .returned v ∧ post v w') : leaves P o ρ w post := leaves_call he hr #[x] #[t] ho #[u] (by simp [hv]) hc
theorem leaves_call2 {f : FuncId} (he : ∀ args w, (callFunc f args).run P w = .ok (.enter f args) w) (hr : Reads ρ) (x y : Operand) (t s : TypeId) (ho : o.op = .call { callee := .value (.func f), args := #[x, y], argTypes := #[t, s] }) {u v : Value} (hu : ρ x = u) (hv : ρ y = v)
    (hc : Calls P f #[u, v] w fun e w' => ∃ v, e = .returned v ∧ post v w') : leaves P o ρ w post := leaves_call he hr #[x, y] #[t, s] ho #[u, v] (by simp [hu, hv]) hc
theorem leaves_call3 {f : FuncId} (he : ∀ args w, (callFunc f args).run P w = .ok (.enter f args) w) (hr : Reads ρ) (x y z : Operand) (t s r : TypeId) (ho : o.op = .call { callee := .value (.func f), args := #[x, y, z], argTypes := #[t, s, r] }) {u v q : Value} (hu : ρ x = u) (hv : ρ y = v) (hq : ρ z = q)
    (hc : Calls P f #[u, v, q] w fun e w' => ∃ v, e = .returned v ∧ post v w') : leaves P o ρ w post := leaves_call he hr #[x, y, z] #[t, s, r] ho #[u, v, q] (by simp [hu, hv, hq]) hc
theorem leaves_pick (c x y : Operand) (ho : o.op = .pick c x y) (b : Bool) (hb : ρ c = .bool b) (h : post (if b then ρ x else ρ y) w) : leaves P o ρ w post := by
  refine leaves_value (v := if b then ρ x else ρ y) (w' := w) ?_ h
  obtain ⟨dst, op, ty, pos, after, guard⟩ := o
  simp only at ho
  subst ho
  cases b <;> simp [execOp, hb, asBool]
/-- A struct out of its block. -/
theorem leaves_load {t : TypeId} {b : Nat} {cs : List Value} (hagg : ∀ w, (isAgg t).run P w = .ok true w) (hi : (P.info? t).map (·.size) = some cs.length) (x : Operand) (ho : o.op = .load t x) (hx : ρ x = .pointer (some ⟨b, 0, none⟩)) (hb : Blk w b t cs)
    (h : post (.agg cs.toArray) w) : leaves P o ρ w post := by
  refine leaves_value (v := .agg cs.toArray) (w' := w) ?_ h
  unfold execOp
  simp only [ho, hx, Instr.loadAt, Instr.sureAddr, Sem.run_bind, Sem.run_pure, Result.andThen_ok, run_loadVar_blk hagg hi hb]
/-- One cell. -/
theorem leaves_cell {t : TypeId} {b k : Nat} {v : Value} (hagg : ∀ w, (isAgg t).run P w = .ok false w) (x : Operand) (ho : o.op = .load t x) (hx : ρ x = .pointer (some ⟨b, k, none⟩)) (hb : w.cell? ⟨b, k, none⟩ = some v)
    (h : post v w) : leaves P o ρ w post := by
  refine leaves_value (v := v) (w' := w) ?_ h
  obtain ⟨dst, op, ty, pos, after, guard⟩ := o
  simp only at ho
  subst ho
  simp [go_sem, hx, hb, hagg]
end

end Go.Proofs.Ythmefiegoagkjaa

namespace Go.Proofs.Ythmefiegoagkjaa
open Go Go.RowKit

/-- append onto an empty slice: a copy. -/
theorem append_copy {P : Program} {t e : TypeId} {z : Value} {bytes : Nat} (E : ElemOk P t e z bytes) (hi b : Nat) (p : Option Addr) (cap : Nat) (l : List Value) (w : World) (hl : l.length ≤ 1000000) (hone : ∀ u ∈ l, u.oneCell' = true)
    (ho : OwnV hi e w (.slice (some ⟨b, 0, none⟩) 0 0) []) (hhi : hi ≤ w.heap.size) (h : At w p l) :
    ∃ v' w', (Builtin.append_ #[t, t] t #[.slice (some ⟨b, 0, none⟩) 0 0, .slice p l.length cap]).run P w = .ok v' w' ∧ Below w.heap.size w w' ∧ OwnV hi e w' v' l := by
  obtain ⟨i0, hi0, hz0, hz1, hz2⟩ := info_parts E.info
  by_cases hnil : l = []
  · subst hnil
    refine ⟨_, w, ?_, Below.refl _ _, ho⟩
    cases p with
    | none => simp [Builtin.append_, run_underlying E.slice, sizeOf, typeInfo, hi0, Builtin.lenOf, Builtin.firstCells, storeCells]
    | some a => exact run_append_room_cells (P := P) w t t e i0 E.slice hi0 b 0 0 0 a 0 cap [] (by simp) (fun j u hu => by simp at hu) (fun u hu => by simp at hu) (Nat.le_refl _) (fun j hj => by simp at hj) (fun j hj => by simp at hj)
  · obtain ⟨bb, off, rfl, _, hlt, hc⟩ := h.resolve_left hnil
    have hpos : 0 < l.length := List.length_pos_iff.2 hnil
    have hfew := E.few
    have hbytes : (0 + l.length) * bytes ≤ 140737488355328 := by
      have : (0 + l.length) * bytes ≤ 2000000 * 1000 := Nat.mul_le_mul (by omega) hfew
      omega
    obtain ⟨v', w', hrun, hown, hg⟩ := run_append_arg_grows (P := P) w t t e i0 z 1 bytes E.slice hi0 hz0 hz1 hz2 E.one (by decide) ⟨b, 0, none⟩ 0 0 [] rfl (fun j u hu => by simp at hu)
      ⟨bb, off, none⟩ l.length cap l (by simp) (at_news h) (by omega) (by unfold maxLen; omega) hbytes
    rw [Nat.zero_add, List.nil_append] at hown
    exact ⟨_, w', hrun, ⟨hg.os, hg.tape, hg.output, hg.size, fun k hk => hg.block k hk (by simp)⟩, ownV_less hown hhi⟩

/-- An empty row of one's own, without room. -/
def Kd.mt {hi : Nat} (e : TypeId) : Kd hi :=
  ⟨fun v W => (∃ b, v = .slice (some ⟨b, 0, none⟩) 0 0) ∧ OwnV hi e W v [], none, fun _ _ _ h hb => ⟨h.1, ownV_on h.2 hb⟩, fun _ _ _ _ h hb hlt _ => ⟨h.1, ownV_but h.2 hb hlt⟩⟩

theorem results_blk {P : Program} {fn : Func} {p : Tmp} {t : TypeId} {cs : List Value} (hagg : ∀ w, (isAgg t).run P w = .ok true w) (hi : (P.info? t).map (·.size) = some cs.length) (h : fn.results = #[.cell p t]) (tmps : Array Value) (w : World) {b : Nat}
    (hp : tmps.getD p undef = .pointer (some ⟨b, 0, none⟩)) (hb : Blk w b t cs) : (results fn tmps).run P w = .ok (.agg cs.toArray) w := by
  have hp' : tmps[p]?.getD undef = .pointer (some ⟨b, 0, none⟩) := by simpa using hp
  simp [results, h, hp', asAddr, run_loadVar_blk hagg hi hb]
theorem results_blk2 {P : Program} {fn : Func} {p u x : Tmp} {t : TypeId} {cs : List Value} {v1 v2 : Value} (hagg : ∀ w, (isAgg t).run P w = .ok true w) (hi : (P.info? t).map (·.size) = some cs.length) (h : fn.results = #[.cell p t, .tmp u, .tmp x]) (tmps : Array Value) (w : World) {b : Nat}
    (hp : tmps.getD p undef = .pointer (some ⟨b, 0, none⟩)) (h1 : tmps.getD u undef = v1) (h2 : tmps.getD x undef = v2) (hb : Blk w b t cs) : (results fn tmps).run P w = .ok (.tuple #[.agg cs.toArray, v1, v2]) w := by
  have hp' : tmps[p]?.getD undef = .pointer (some ⟨b, 0, none⟩) := by simpa using hp
  have h1' : tmps[u]?.getD undef = v1 := by simpa using h1
  have h2' : tmps[x]?.getD undef = v2 := by simpa using h2
  simp [results, h, hp', h1', h2', asAddr, run_loadVar_blk hagg hi hb]

end Go.Proofs.Ythmefiegoagkjaa

namespace Go.Proofs.Ythmefiegoagkjaa
open Go Go.RowKit

section
variable {hi hi' b g cap : Nat} {e e' t : TypeId} {w w' : World} {v : Value} {s cs : List Value}
theorem ownV_ty (h : OwnV hi e w v s) (hb : But b w w') (hk : Blk w b t cs) (hne : t ≠ e) : OwnV hi e w' v s := by
  refine ⟨h.1, ?_⟩
  rcases h.2 with h0 | ⟨g, cap, cur, rfl, hbs, hg, h3, h4, h5, h6⟩
  · exact .inl h0
  · refine .inr ⟨g, cap, cur, rfl, hbs, (hb.block g fun e' => ?_).trans hg, h3, h4, h5, h6⟩
    subst e'
    rw [hk.row] at hg
    simp at hg
    exact hne hg.2
theorem ownV_grow (h : OwnV hi' e' w v s) (hg : RowGrow hi e w w') (hne : e' ≠ e) : OwnV hi' e' w' v s := by
  obtain ⟨r, h1, h2⟩ := hg.block
  refine ⟨h.1, ?_⟩
  rcases h.2 with h0 | ⟨g, cap, cur, rfl, hbs, hg, h3, h4, h5, h6⟩
  · exact .inl h0
  · refine .inr ⟨g, cap, cur, rfl, hbs, (h2 g (Array.getElem?_eq_some_iff.1 hg).1 fun e' => ?_).trans hg, h3, h4, h5, h6⟩
    obtain ⟨_, cs', fr, h7⟩ := h1 g e'
    rw [hg] at h7
    simp at h7
    exact hne h7.2.1
theorem ownV_place (h : OwnV hi e w v s) {k : Nat} (hk : k < s.length) : ∃ g cap, v = .slice (some ⟨g, 0, none⟩) s.length cap ∧ hi ≤ g ∧ g < w.heap.size := by
  rcases h.2 with ⟨_, h1⟩ | ⟨g, cap, cur, rfl, hb, hg, _⟩
  · omega
  · exact ⟨g, cap, rfl, hb, (Array.getElem?_eq_some_iff.1 hg).1⟩
theorem ownV_row (h : OwnV hi e w (.slice (some ⟨g, 0, none⟩) s.length cap) s) : ∃ cur, w.heap[g]? = some (.cells cur e (0, 0)) := by
  rcases h.2 with ⟨h0, _⟩ | ⟨g', cap', cur, h0, _, hg, _⟩
  · cases h0
  · cases h0; exact ⟨cur, hg⟩
theorem ownV_apart {g' cap' : Nat} {s' : List Value} (h : OwnV hi e w (.slice (some ⟨g, 0, none⟩) s.length cap) s) (h' : OwnV hi' e' w (.slice (some ⟨g', 0, none⟩) s'.length cap') s') (hne : e ≠ e') : g ≠ g' := fun ee => by
  subst ee
  obtain ⟨c1, h1⟩ := ownV_row h
  obtain ⟨c2, h2⟩ := ownV_row h'
  rw [h1] at h2
  simp at h2
  exact hne h2.2
theorem ownV_set (h : OwnV hi e w (.slice (some ⟨g, 0, none⟩) s.length cap) s) (k : Nat) (x : Value) : OwnV hi e (w.setCell ⟨g, k, none⟩ x) (.slice (some ⟨g, 0, none⟩) s.length cap) (s.set k x) := by
  have := (h.stored k x).1
  show World.ownsRow _ hi e 1 _ (s.set k x).length (s.set k x)
  rw [List.length_set]
  exact this
theorem RowGrow.of_alloc {o : Obj} (h : RowGrow hi e (w.alloc o) w') : RowGrow hi e w w' := by
  obtain ⟨r, h1, h2⟩ := h.block
  have hb := on_alloc w o
  refine ⟨h.os.trans hb.os, h.tape.trans hb.tape, h.output.trans hb.output, Nat.le_trans hb.size h.size, ?_⟩
  cases r with
  | none => exact ⟨none, (fun g e => by cases e), fun k hk _ => (h2 k (by simp; omega) (by simp)).trans (hb.block k hk)⟩
  | some g =>
    by_cases hg : g < w.heap.size
    · refine ⟨some g, fun g' e => ?_, fun k hk hne => (h2 k (by simp; omega) hne).trans (hb.block k hk)⟩
      cases e
      obtain ⟨h3, cs', fr, h4⟩ := h1 g rfl
      exact ⟨h3, cs', fr, (hb.block g hg).symm.trans h4⟩
    · exact ⟨none, (fun g e => by cases e), fun k hk _ => (h2 k (by simp; omega) (by simp; omega)).trans (hb.block k hk)⟩
end
/-- One value more, and what is kept. -/
theorem append_one_grow {P : Program} {t e : TypeId} {z : Value} {bytes : Nat} (E : ElemOk P t e z bytes) (hi : Nat) (v : Value) (s : List Value) (x : Value) (W : World) (hs : s.length ≤ 1000000) (hx : x.oneCell' = true) (hown : OwnV hi e W v s) (hhi : hi ≤ W.heap.size) :
    ∃ v' W', (Builtin.append_ #[t, t] t #[v, .slice (some ⟨W.heap.size, 0, none⟩) 1 1]).run P (W.alloc (.cells #[x] e)) = .ok v' W' ∧ OwnV hi e W' v' (s ++ [x]) ∧ RowGrow hi e W W' := by
  obtain ⟨v', W', h1, h2, h3⟩ := append_row E hi v s (some ⟨W.heap.size, 0, none⟩) 1 [x] (W.alloc (.cells #[x] e)) hs (by simp) (fun u hu => by simp at hu; subst hu; exact hx) (ownV_on hown (on_alloc _ _)) (at_row1 W e x).at (by simp; omega)
  exact ⟨v', W', h1, h2, h3.of_alloc⟩

end Go.Proofs.Ythmefiegoagkjaa

namespace Go.Proofs.Ythmefiegoagkjaa
open Go Go.RowKit

/-- What is asked of a slice's type: its elements are of 'size' cells. -/
structure ElemS (P : Program) (t e : TypeId) (z : Value) (size bytes : Nat) : Prop where
  slice : P.underlying t = some (.slice e)
  info : (P.info? e).map (fun i => (i.zero, i.size, i.bytes)) = some (some z, size, bytes)
  cells : z.cells.size = size
  pos : 0 < size
  few : bytes ≤ 100000
section
variable {hi size n : Nat} {e : TypeId} {w w' : World} {v : Value} {s : List Value}
theorem rowS_at (h : w.ownsRow hi e size v n s) : ∃ p cap, v = .slice p n cap ∧ AtF hi w p s ∧ n ≤ cap := by
  rcases h.2 with ⟨h0, h1⟩ | ⟨g, cap, cur, rfl, hb, hg, hc, _, hs, ht⟩
  · have hl := h.1
    rw [h1, Nat.zero_mul] at hl
    have e : s = [] := List.eq_nil_of_length_eq_zero hl
    subst e h1
    exact ⟨none, 0, h0, .nil _ _ _, Nat.le_refl _⟩
  · refine ⟨some ⟨g, 0, none⟩, cap, rfl, .inr ⟨g, 0, rfl, hb, (Array.getElem?_eq_some_iff.1 hg).1, fun j u hu => ?_⟩, hc⟩
    rw [← ht] at hu
    have hj := (List.getElem?_eq_some_iff.1 hu).1
    rw [List.length_take] at hj
    rw [List.getElem?_take_of_lt (by omega)] at hu
    simp only [World.cell?, hg, Nat.zero_add]
    simpa using hu
theorem rowS_on (h : w.ownsRow hi e size v n s) (hb : Below w.heap.size w w') : w'.ownsRow hi e size v n s := by
  refine ⟨h.1, ?_⟩
  rcases h.2 with h0 | ⟨g, cap, cur, rfl, hbs, hg, h3⟩
  · exact .inl h0
  · exact .inr ⟨g, cap, cur, rfl, hbs, (hb.block g (Array.getElem?_eq_some_iff.1 hg).1).trans hg, h3⟩
theorem rowS_but {b : Nat} {_t : TypeId} {_cs : List Value} (h : w.ownsRow hi e size v n s) (hb : But b w w') (hlt : b < hi ∨ ∀ g cap, v = .slice (some ⟨g, 0, none⟩) n cap → g ≠ b) : w'.ownsRow hi e size v n s := by
  refine ⟨h.1, ?_⟩
  rcases h.2 with h0 | ⟨g, cap, cur, rfl, hbs, hg, h3⟩
  · exact .inl h0
  · refine .inr ⟨g, cap, cur, rfl, hbs, (hb.block g ?_).trans hg, h3⟩
    rcases hlt with h7 | h7
    · omega
    · exact h7 g cap rfl
theorem rowS_empty (W : World) (hi : Nat) (e : TypeId) (size : Nat) (h : hi ≤ W.heap.size) : (W.alloc (.cells #[] e)).ownsRow hi e size (.slice (some ⟨W.heap.size, 0, none⟩) 0 0) 0 [] :=
  World.ownsRow_made W #[] 0 h (by unfold maxLen; omega) (by simp)
end
/-- append of one struct onto a row of one's own. -/
theorem append_struct {P : Program} {t e : TypeId} {z : Value} {size bytes : Nat} (E : ElemS P t e z size bytes) (hi : Nat) (v : Value) (n : Nat) (s l : List Value) (W : World) (hn : n ≤ 1000000) (hl : l.length = size)
    (hone : ∀ u ∈ l, u.oneCell' = true) (hown : W.ownsRow hi e size v n s) (hhi : hi ≤ W.heap.size) :
    ∃ v' W', (Builtin.append_ #[t, t] t #[v, .slice (some ⟨W.heap.size, 0, none⟩) 1 1]).run P (W.alloc (.cells l.toArray e)) = .ok v' W' ∧ W'.ownsRow hi e size v' (n + 1) (s ++ l) ∧ RowGrow hi e W W' := by
  obtain ⟨i0, hi0, hz0, hz1, hz2⟩ := info_parts E.info
  have hfew := E.few
  have hbytes : (n + 1) * bytes ≤ 140737488355328 := by
    have : (n + 1) * bytes ≤ 1000001 * 100000 := Nat.mul_le_mul (by omega) hfew
    omega
  have hB := Blk.new W e l
  have hown1 := rowS_on hown (on_alloc W (.cells l.toArray e))
  obtain ⟨v', W', hrun, h1, hg, _⟩ := run_append_own (P := P) (W.alloc (.cells l.toArray e)) hi t t e i0 z size bytes E.slice hi0 hz0 hz1 hz2 E.cells E.pos v n s hown1
    ⟨W.heap.size, 0, none⟩ 1 1 l (by simp [hl]) (fun j u hu => by
      have e : (⟨W.heap.size, 0, none⟩ : Addr).add j = ⟨W.heap.size, j, none⟩ := by unfold Addr.add; split <;> simp_all
      rw [e]; exact hB.cell j hu) hone (by unfold maxLen; omega) hbytes (by simp; omega)
  refine ⟨v', W', hrun, h1, RowGrow.of_alloc (o := .cells l.toArray e) ⟨hg.os, hg.tape, hg.output, hg.size, v.ownBlock, fun g e' => ?_, fun k hk hne => hg.block k hk fun e => hne e.symm⟩⟩
  rcases hown1.2 with ⟨rfl, _⟩ | ⟨g', c, cur, rfl, hb, hg', _⟩
  · simp [Value.ownBlock] at e'
  · simp [Value.ownBlock] at e'
    subst e'
    exact ⟨hb, cur, _, hg'⟩

end Go.Proofs.Ythmefiegoagkjaa

namespace Go.Proofs.Ythmefiegoagkjaa
open Go Go.RowKit

theorem but_setRow (w : World) (g : Nat) (cs : Array Value) : But g w (w.setRow g cs) :=
  ⟨rfl, rfl, rfl, by simp [World.setRow], fun k hk => by simp [World.setRow, Array.getElem?_modify, Ne.symm hk]⟩
theorem blk_setRow {w : World} {g : Nat} {t : TypeId} {cs : List Value} (h : Blk w g t cs) (vs : List Value) : Blk (w.setRow g vs.toArray) g t vs := ⟨setRow_heap w g cs.toArray _ t _ h.row⟩
/-- Bytes copied into a block, from a place on. -/
theorem copy_into {P : Program} {T e : TypeId} {z : Value} {bytes : Nat} (E : ElemOk P T e z bytes) {w : World} {g : Nat} {t : TypeId} {cs : List Value} (hb : Blk w g t cs) (o n dCap sLen sCap : Nat) (a : Addr) (l : List Value) (hl : l.length = Nat.min sLen n) (hn : o + n = cs.length)
    (hsrc : ∀ (j : Nat) v, l[j]? = some v → w.cell? (a.add j) = some v) (hone : ∀ v ∈ l, v.oneCell' = true) :
    ∃ w', (∀ ty, (Builtin.copy_ #[T, T] ty #[.slice (some ⟨g, o, none⟩) n dCap, .slice (some a) sLen sCap]).run P w = .ok (.int .i64 (l.length : Nat)) w') ∧ But g w w' ∧ Blk w' g t (cs.take o ++ l ++ cs.drop (o + l.length)) := by
  have hs : (P.info? e).map (·.size) = some 1 := by
    obtain ⟨i, hi, _, h1, _⟩ := info_parts E.info
    simp [hi, h1]
  have hle : l.length ≤ n := by rw [hl]; exact Nat.min_le_right _ _
  refine ⟨_, fun ty => run_copy_row P w T T ty e g o n dCap a sLen sCap cs.toArray t l E.slice hs hb.row hl hsrc (by simp; omega) hone, but_setRow _ _ _, ?_⟩
  have := blk_setRow hb (cs.take o ++ l ++ cs.drop (o + l.length))
  simpa using this
theorem but_setCells (b : Nat) : ∀ (vs : List Value) (o : Nat) (w : World), But b w (w.setCells b o vs)
  | [], _, w => But.refl b w
  | v :: r, o, w => (but_set w b o v).trans (but_setCells b r (o + 1) _)
theorem blk_setCells {b : Nat} {t : TypeId} : ∀ (vs : List Value) (o : Nat) (w : World) (cs : List Value), Blk w b t cs → o + vs.length ≤ cs.length → Blk (w.setCells b o vs) b t (cs.take o ++ vs ++ cs.drop (o + vs.length))
  | [], o, w, cs, h, _ => by simpa [World.setCells] using h
  | v :: r, o, w, cs, h, hl => by
    have := blk_setCells r (o + 1) _ (cs.set o v) (h.set o v) (by simp at hl ⊢; omega)
    rw [list_seg_step cs o v r (by simpa using hl)] at this
    exact this
/-- A block's end cleared. -/
theorem clear_end {P : Program} {T e : TypeId} {z : Value} {bytes : Nat} (E : ElemOk P T e z bytes) (hz : ∀ w, (zeroValue e).run P w = .ok z w) (hzc : z.cells = #[z]) (hzo : z.oneCell' = true) {w : World} {g : Nat} {t : TypeId} {cs : List Value} (hb : Blk w g t cs) (o n dCap : Nat) (hn : o + n = cs.length) (hpos : 0 < n) :
    ∃ w', (∀ ty, (Builtin.clear_ #[T] ty #[.slice (some ⟨g, o, none⟩) n dCap]).run P w = .ok (.tuple #[]) w') ∧ But g w w' ∧ Blk w' g t (cs.take o ++ List.replicate n z) := by
  refine ⟨_, fun ty => Lib.run_clear_slice w T e ty z E.slice hz hzc hzo g o n dCap hpos (fun j hj => ?_) (fun j hj => hb.free _), but_setCells _ _ _ _, ?_⟩
  · have : o + j < cs.length := by omega
    rw [hb.cell (o + j) (List.getElem?_eq_getElem this)]; rfl
  · have := blk_setCells (List.replicate n z) o w cs hb (by simp; omega)
    rw [List.length_replicate, hn, List.drop_length, List.append_nil] at this
    exact this

theorem made_list (z : Value) (n : Nat) : (madeCells #[z] n).toList = List.replicate n z := by
  refine List.ext_getElem (by simp [size_madeCells]) fun i h1 h2 => ?_
  simp [madeCells, Nat.mod_one]
/-- A slice made. -/
theorem make_row {P : Program} {T e : TypeId} {z : Value} {bytes : Nat} (E : ElemOk P T e z bytes) (hz : z.cells = #[z]) (n : Nat) (hn : n ≤ 1000000) (w : World) :
    ∃ w', (Instr.makeSlice T (.int .i64 (n : Int)) (.int .i64 (n : Int))).run P w = .ok (.slice (some ⟨w.heap.size, 0, none⟩) n n) w' ∧ Blk w' w.heap.size e (List.replicate n z) ∧ Below w.heap.size w w' ∧ w'.heap.size = w.heap.size + 1 := by
  obtain ⟨i, hi, h0, h1, h2⟩ := info_parts E.info
  have hf := E.few
  have hb : (i.bytes : Int) * (n : Int) ≤ 281474976710656 := by
    have : i.bytes * n ≤ 1000 * 1000000 := Nat.mul_le_mul (by omega) hn
    have h7 : ((i.bytes * n : Nat) : Int) ≤ 281474976710656 := by omega
    rwa [Int.natCast_mul] at h7
  have hr := run_make (P := P) w T e i z E.slice hi h0 .i64 .i64 n n (by omega) (Int.le_refl _) hb (by omega)
  simp only [Int.toNat_natCast, h1, Nat.mul_one, hz] at hr
  refine ⟨_, hr, ⟨?_⟩, on_alloc _ _, by simp⟩
  rw [World.alloc_heap_new, ← made_list z n]
/-- A slice from a place on. -/
theorem slice_from {P : Program} {T e : TypeId} {z : Value} {bytes : Nat} (E : ElemOk P T e z bytes) (sb so m c n : Nat) (hn : n ≤ m) : ∃ x, (∀ w, (Instr.slice T (.slice (some ⟨sb, so, none⟩) m c) (some (.int .i64 (n : Int))) none none).run P w = .ok (.slice (some ⟨sb, x, none⟩) (m - n) (c - n)) w) ∧ (n < c → x = so + n) := by
  have hu : P.underlying T = some (.slice (P.elem T)) := by
    have := E.slice
    simp [Program.elem, this]
  have hel : P.elem T = e := by
    have := E.slice
    simp [Program.elem, this]
  obtain ⟨i, hi, _, h1, _⟩ := info_parts E.info
  refine ⟨if c = n then so else so + n, fun w => ?_, fun h => by rw [if_neg (by omega)]⟩
  have hs : (sizeOf e).run P w = .ok 1 w := by simp [sizeOf, typeInfo, hi, h1]
  rw [run_slice_l w T _ m c hu .i64 n (by omega) (by omega), hel, hs]
  simp only [Result.andThen, sliced, Int.toNat_natCast, Nat.mul_one]
  by_cases hc : c = n
  · rw [if_pos hc, if_pos hc]
  · rw [if_neg hc, if_neg hc]
    simp only [Option.map, Addr.add]
    split
    · simp_all
    · rfl

section
variable {P : Program} {o : Oper} {w w' : World} {ops : Array Oper} {rest : List Oper} {a : Act} {v : Value} {Q : Exit → Act → World → Prop}
theorem leaves_copy {ρ : Operand → Value} {post : Value → World → Prop} (d x : Operand) (dT sT : TypeId) (ho : o.op = Op.call { callee := Callee.builtin Builtin.copy, args := #[d, x], argTypes := #[dT, sT] })
    (hr : (Builtin.copy_ #[dT, sT] o.type #[ρ d, ρ x]).run P w = .ok v w') (hp : post v w') : leaves P o ρ w post := by
  refine leaves_value (v := v) (w' := w') ?_ hp
  obtain ⟨dst, op, ty, pos, after, guard⟩ := o
  simp only at ho
  subst ho
  rw [BigFrame.execOp_builtin, BigFrame.builtin_copy]
  simp only [List.map_toArray, List.map_cons, List.map_nil]
  rw [Sem.run_bind, hr]
  rfl
theorem leaves_slice {ρ : Operand → Value} {post : Value → World → Prop} (x l : Operand) (t : TypeId) (ho : o.op = Op.slice t x (some l) none none)
    (hr : (Instr.sliceAt t (ρ x) (some (ρ l)) none none).run P w = .ok v w') (hp : post v w') : leaves P o ρ w post := by
  refine leaves_value (v := v) (w' := w') ?_ hp
  obtain ⟨dst, op, ty, pos, after, guard⟩ := o
  simp only at ho
  subst ho
  simp [execOp, hr, Result.andThen]
theorem wpList_run_copy (hgd : o.guard = none) (d x : Operand) (dT sT : TypeId) (hop : o.op = Op.call { callee := Callee.builtin Builtin.copy, args := #[d, x], argTypes := #[dT, sT] })
    (u1 u2 : Value) (h1 : a.eval d = u1) (h2 : a.eval x = u2) (hr : (Builtin.copy_ #[dT, sT] o.type #[u1, u2]).run P w = .ok v w') (h : wpList P ops Q rest (a.put o.dst v) w') : wpList P ops Q (o :: rest) a w := by
  subst h1 h2
  refine wpList_plain hgd fun K' hK' => ?_
  unfold Oper.wp
  simp [execOp, hop, resolve, invoke, builtin, hr, Result.andThen]
  exact hK' _ _ h
end

end Go.Proofs.Ythmefiegoagkjaa

namespace Go.Proofs.Ythmefiegoagkjaa
open Go Go.RowKit

/-- append of a list of structs onto a row of one's own. -/
theorem append_rowS {P : Program} {t e : TypeId} {z : Value} {size bytes : Nat} (E : ElemS P t e z size bytes) (hi : Nat) (v : Value) (n : Nat) (s : List Value) (p : Option Addr) (cap m : Nat) (l : List Value) (W : World) (hn : n ≤ 1000000) (hm : m ≤ 1000000) (hl : l.length = m * size)
    (hone : ∀ u ∈ l, u.oneCell' = true) (hown : W.ownsRow hi e size v n s) (h : At W p l) (hhi : hi ≤ W.heap.size) :
    ∃ v' W', (∀ ty, (Builtin.append_ #[t, t] ty #[v, .slice p m cap]).run P W = .ok v' W') ∧ W'.ownsRow hi e size v' (n + m) (s ++ l) ∧ RowGrow hi e W W' := by
  obtain ⟨i0, hi0, hz0, hz1, hz2⟩ := info_parts E.info
  cases p with
  | none =>
    obtain rfl : l = [] := by
      rcases h with e | ⟨b, off, e, _⟩
      · exact e
      · cases e
    obtain rfl : m = 0 := by
      have := E.pos
      rcases Nat.mul_eq_zero.1 (show m * size = 0 by rw [← hl]; rfl) with h | h
      · exact h
      · omega
    refine ⟨v, W, fun ty => ?_, by rw [List.append_nil]; exact hown, rfl, rfl, rfl, Nat.le_refl _, none, (fun g e => by cases e), fun _ _ _ => rfl⟩
    rcases hown.2 with ⟨rfl, _⟩ | ⟨g, c, cur, rfl, _, _, hnc, _⟩
    · simp [Builtin.append_, run_underlying E.slice, sizeOf, typeInfo, hi0, Builtin.lenOf, Builtin.firstCells]
    · simp [Builtin.append_, run_underlying E.slice, sizeOf, typeInfo, hi0, Builtin.lenOf, Builtin.firstCells, hnc, storeCells]
  | some a =>
    have hfew := E.few
    have hbytes : (n + m) * bytes ≤ 140737488355328 := by
      have : (n + m) * bytes ≤ 2000000 * 100000 := Nat.mul_le_mul (by omega) hfew
      omega
    have key := fun ty => run_append_own (P := P) W hi t ty e i0 z size bytes E.slice hi0 hz0 hz1 hz2 E.cells E.pos v n s hown a m cap l hl (at_news h) hone (by unfold maxLen; omega) hbytes hhi
    obtain ⟨v', W', hrun, h1, hg, _⟩ := key t
    refine ⟨v', W', fun ty => ?_, h1, hg.os, hg.tape, hg.output, hg.size, v.ownBlock, fun g e' => ?_, fun k hk hne => hg.block k hk fun e => hne e.symm⟩
    · rw [← hrun]; rfl
    · rcases hown.2 with ⟨rfl, _⟩ | ⟨g', c, cur, rfl, hb, hg', _⟩
      · simp [Value.ownBlock] at e'
      · simp [Value.ownBlock] at e'
        subst e'
        exact ⟨hb, cur, _, hg'⟩

/-- And where the new row lies. -/
structure Grows (v v' : Value) (w w' : World) : Prop where
  os : w'.os = w.os
  tape : w'.tape = w.tape
  output : w'.output = w.output
  size : w.heap.size ≤ w'.heap.size
  block : ∀ k, k < w.heap.size → v.ownBlock ≠ some k → w'.heap[k]? = w.heap[k]?
  lies : ∀ x, v'.ownBlock = some x → v.ownBlock = some x ∨ w.heap.size ≤ x
/-- append of a list of structs onto a row of one's own, and where it lies. -/
theorem append_rowA {P : Program} {t e : TypeId} {z : Value} {size bytes : Nat} (E : ElemS P t e z size bytes) (hi : Nat) (v : Value) (n : Nat) (s : List Value) (p : Option Addr) (cap m : Nat) (l : List Value) (W : World) (hn : n ≤ 1000000) (hm : m ≤ 1000000) (hl : l.length = m * size)
    (hone : ∀ u ∈ l, u.oneCell' = true) (hown : W.ownsRow hi e size v n s) (h : At W p l) (hhi : hi ≤ W.heap.size) :
    ∃ v' W', (∀ ty, (Builtin.append_ #[t, t] ty #[v, .slice p m cap]).run P W = .ok v' W') ∧ W'.ownsRow hi e size v' (n + m) (s ++ l) ∧ RowGrow hi e W W' ∧ Grows v v' W W' := by
  obtain ⟨i0, hi0, hz0, hz1, hz2⟩ := info_parts E.info
  cases p with
  | none =>
    obtain rfl : l = [] := by
      rcases h with e | ⟨b, off, e, _⟩
      · exact e
      · cases e
    obtain rfl : m = 0 := by
      have := E.pos
      rcases Nat.mul_eq_zero.1 (show m * size = 0 by rw [← hl]; rfl) with h | h
      · exact h
      · omega
    refine ⟨v, W, fun ty => ?_, by rw [List.append_nil]; exact hown, ⟨rfl, rfl, rfl, Nat.le_refl _, none, (fun g e => by cases e), fun _ _ _ => rfl⟩, ⟨rfl, rfl, rfl, Nat.le_refl _, fun _ _ _ => rfl, fun _ h => .inl h⟩⟩
    rcases hown.2 with ⟨rfl, _⟩ | ⟨g, c, cur, rfl, _, _, hnc, _⟩
    · simp [Builtin.append_, run_underlying E.slice, sizeOf, typeInfo, hi0, Builtin.lenOf, Builtin.firstCells]
    · simp [Builtin.append_, run_underlying E.slice, sizeOf, typeInfo, hi0, Builtin.lenOf, Builtin.firstCells, hnc, storeCells]
  | some a =>
    have hfew := E.few
    have hbytes : (n + m) * bytes ≤ 140737488355328 := by
      have : (n + m) * bytes ≤ 2000000 * 100000 := Nat.mul_le_mul (by omega) hfew
      omega
    have key := fun ty => run_append_own_at (P := P) W hi t ty e i0 z size bytes E.slice hi0 hz0 hz1 hz2 E.cells E.pos v n s hown a m cap l hl (at_news h) hone (by unfold maxLen; omega) hbytes hhi
    obtain ⟨v', W', hrun, h1, hg, _, hw⟩ := key t
    refine ⟨v', W', fun ty => ?_, h1, ⟨hg.os, hg.tape, hg.output, hg.size, v.ownBlock, fun g e' => ?_, fun k hk hne => hg.block k hk fun e => hne e.symm⟩, ⟨hg.os, hg.tape, hg.output, hg.size, fun k hk hne => hg.block k hk fun e => hne e.symm, fun x hx => ?_⟩⟩
    · rw [← hrun]; rfl
    · rcases hown.2 with ⟨rfl, _⟩ | ⟨g', c, cur, rfl, hb, hg', _⟩
      · simp [Value.ownBlock] at e'
      · simp [Value.ownBlock] at e'
        subst e'
        exact ⟨hb, cur, _, hg'⟩
    · rcases hw with hw | hw
      · exact .inl (by rw [← hw]; exact hx)
      · rw [hx] at hw; cases hw; exact .inr (Nat.le_refl _)

/-- A row of one's own, opened: its block. -/
theorem rowS_blk {w : World} {hi n size cap g : Nat} {e : TypeId} {xs : List Value} (h : w.ownsRow hi e size (.slice (some ⟨g, 0, none⟩) n cap) n xs) : ∃ cs, Blk w g e cs ∧ cs.length = cap * size ∧ n ≤ cap ∧ cap ≤ maxLen ∧ hi ≤ g ∧ cs.take (n * size) = xs := by
  rcases h.2 with ⟨h0, _⟩ | ⟨g', cap', cur, h0, hb, hg, h1, h2, h3, h4⟩
  · cases h0
  · cases h0
    exact ⟨cur.toList, ⟨hg⟩, by rw [Array.length_toList]; exact h3, h1, h2, hb, h4⟩
theorem rowS_of {w : World} {hi n size cap g : Nat} {e : TypeId} {xs cs : List Value} (hb : Blk w g e cs) (hl : cs.length = cap * size) (hn : n ≤ cap) (hc : cap ≤ maxLen) (hg : hi ≤ g) (ht : cs.take (n * size) = xs) (hx : xs.length = n * size) : w.ownsRow hi e size (.slice (some ⟨g, 0, none⟩) n cap) n xs :=
  ⟨hx, .inr ⟨g, cap, cs.toArray, rfl, hg, hb.row, hn, hc, by rw [List.size_toArray]; exact hl, by simpa using ht⟩⟩

theorem size_of_elem {P : Program} {T e : TypeId} {z : Value} {size bytes : Nat} (E : ElemS P T e z size bytes) (w : World) : (sizeOf e).run P w = .ok size w := by
  obtain ⟨i, hi, _, h1, _⟩ := info_parts E.info
  simp [sizeOf, typeInfo, hi, h1]
/-- Structs copied into a block, from a place on. -/
theorem copy_intoS {P : Program} {T e : TypeId} {z : Value} {size bytes : Nat} (E : ElemS P T e z size bytes) {w : World} {g : Nat} {t : TypeId} {cs : List Value} (hb : Blk w g t cs) (o n dCap sLen sCap : Nat) (a : Addr) (l : List Value) (k : Nat) (hk : k = Nat.min sLen n) (hl : l.length = k * size) (hn : o + l.length ≤ cs.length)
    (hsrc : ∀ (j : Nat) v, l[j]? = some v → w.cell? (a.add j) = some v) (hone : ∀ v ∈ l, v.oneCell' = true) :
    ∃ w', (∀ ty, (Builtin.copy_ #[T, T] ty #[.slice (some ⟨g, o, none⟩) n dCap, .slice (some a) sLen sCap]).run P w = .ok (.int .i64 (k : Nat)) w') ∧ But g w w' ∧ Blk w' g t (cs.take o ++ l ++ cs.drop (o + l.length)) := by
  refine ⟨w.setCells g o l, fun ty => ?_, but_setCells _ _ _ _, blk_setCells l o w cs hb hn⟩
  have hld := run_firstCells_some (P := P) w size k a sLen sCap l hl hsrc
  have hst := run_storeCells_cells (P := P) g o l 0 w (fun j hj => by
    have : o + 0 + j < cs.length := by omega
    rw [hb.cell (o + 0 + j) (List.getElem?_eq_getElem this)]; rfl) (fun j _ => hb.free _) hone
  have hsz := size_of_elem E w
  subst hk
  have hmin : Nat.min sLen n = min sLen n := rfl
  rw [hmin] at hld
  simp [Builtin.copy_, run_underlying E.slice, Builtin.lenOf, hsz, hld, hst, goInt]
/-- A part of a block cleared. -/
theorem clear_partS {P : Program} {T e : TypeId} {z : Value} {size bytes : Nat} (E : ElemS P T e z size bytes) (hz : ∀ w, (zeroValue e).run P w = .ok z w) (hone : ∀ v ∈ z.cells.toList, v.oneCell' = true) {w : World} {g : Nat} {t : TypeId} {cs : List Value} (hb : Blk w g t cs) (o n dCap : Nat) (hn : o + n * size ≤ cs.length) (hpos : 0 < n) :
    ∃ w' l, (∀ ty, (Builtin.clear_ #[T] ty #[.slice (some ⟨g, o, none⟩) n dCap]).run P w = .ok (.tuple #[]) w') ∧ But g w w' ∧ l.length = n * size ∧ Blk w' g t (cs.take o ++ l ++ cs.drop (o + n * size)) := by
  have hlen : (Builtin.zeroCells z.cells n).toList.length = n * size := by rw [Array.length_toList, size_zeroCells, E.cells]
  have hstay := blk_setCells (Builtin.zeroCells z.cells n).toList o w cs hb (by rw [hlen]; exact hn)
  rw [hlen] at hstay
  refine ⟨w.setCells g o (Builtin.zeroCells z.cells n).toList, (Builtin.zeroCells z.cells n).toList, fun ty => ?_, but_setCells _ _ _ _, hlen, hstay⟩
  have hst := run_storeCells_cells (P := P) g o (Builtin.zeroCells z.cells n).toList 0 w (fun j hj => by
    have : o + 0 + j < cs.length := by rw [hlen] at hj; omega
    rw [hb.cell (o + 0 + j) (List.getElem?_eq_getElem this)]; rfl) (fun j _ => hb.free _) (fun v hv => by
      simp only [Builtin.zeroCells, Array.toList_map, List.mem_map] at hv
      obtain ⟨j, _, rfl⟩ := hv
      have hp := E.pos
      have hc := E.cells
      have hj : j % z.cells.size < z.cells.size := Nat.mod_lt _ (by omega)
      rw [getElem!_pos z.cells _ hj]
      exact hone _ (by rw [Array.mem_toList_iff]; exact Array.getElem_mem hj))
  obtain ⟨n, rfl⟩ : ∃ m, n = m + 1 := ⟨n - 1, by omega⟩
  simp [Builtin.clear_, run_underlying E.slice, hz, hst]

theorem elem_of {P : Program} {T e : TypeId} {z : Value} {size bytes : Nat} (E : ElemS P T e z size bytes) : P.underlying T = some (.slice (P.elem T)) ∧ P.elem T = e := by
  have h := E.slice
  exact ⟨by simp [Program.elem, h], by simp [Program.elem, h]⟩
/-- A slice from a place on. -/
theorem slice_fromS {P : Program} {T e : TypeId} {z : Value} {size bytes : Nat} (E : ElemS P T e z size bytes) (sb so m c n : Nat) (hn : n ≤ m) (hc : n < c) (w : World) : (Instr.slice T (.slice (some ⟨sb, so, none⟩) m c) (some (.int .i64 (n : Int))) none none).run P w = .ok (.slice (some ⟨sb, so + n * size, none⟩) (m - n) (c - n)) w := by
  obtain ⟨hu, hel⟩ := elem_of E
  rw [run_slice_l w T _ m c hu .i64 n (by omega) (by omega), hel, size_of_elem E w]
  simp only [Result.andThen, sliced, Int.toNat_natCast]
  rw [if_neg (by omega)]
  simp only [Option.map, Addr.add]
  split
  · simp_all
  · rfl
/-- A slice up to a place. -/
theorem slice_toS {P : Program} {T e : TypeId} {z : Value} {size bytes : Nat} (E : ElemS P T e z size bytes) (sb so m c n : Nat) (hc : n ≤ c) (w : World) : (Instr.slice T (.slice (some ⟨sb, so, none⟩) m c) none (some (.int .i64 (n : Int))) none).run P w = .ok (.slice (some ⟨sb, so, none⟩) n c) w := by
  obtain ⟨hu, hel⟩ := elem_of E
  rw [run_slice_h w T _ m c hu .i64 n (by omega) (by omega), hel, size_of_elem E w]
  simp only [Result.andThen, sliced, Int.toNat_natCast, Nat.zero_mul, Nat.sub_zero]
  split
  · rfl
  · simp only [Option.map, Addr.add]
    split
    · simp_all
    · rfl
/-- A slice from the end on, of nothing. -/
theorem slice_endS {P : Program} {T e : TypeId} {z : Value} {size bytes : Nat} (E : ElemS P T e z size bytes) (sb so m : Nat) (w : World) : (Instr.slice T (.slice (some ⟨sb, so, none⟩) m m) (some (.int .i64 (m : Int))) none none).run P w = .ok (.slice (some ⟨sb, so, none⟩) 0 0) w := by
  obtain ⟨hu, hel⟩ := elem_of E
  rw [run_slice_l w T _ m m hu .i64 m (by omega) (by omega), hel, size_of_elem E w]
  simp only [Result.andThen, sliced, Int.toNat_natCast, if_true, Nat.sub_self]

end Go.Proofs.Ythmefiegoagkjaa

namespace Go.Proofs.Ythmefiegoagkjaa
open Go Go.RowKit

/-- Operation 'u' may turn anything, the others only lay more. -/
def KeepU (u i : Nat) (w w' : World) : Prop := i = u ∨ Below w.heap.size w w'
theorem keepU_on {u i : Nat} {w w' : World} (h : Below w.heap.size w w') : KeepU u i w w' := .inr h
/-- A predicate that no world turns. -/
def Kd.pure {hi : Nat} (k : Kd hi) : Prop := ∀ v w w', k.ok v w → k.ok v w'
theorem pure_is {hi : Nat} (u : Value) : (Kd.is (hi := hi) u).pure := fun _ _ _ h => h
theorem pure_any {hi : Nat} : (Kd.any (hi := hi)).pure := fun _ _ _ h => h
theorem keep_u {hi : Nat} {ops : Array Oper} {ks : List (Kd hi)} {tl : Till} {u : Nat} (h : ∀ j, j ≠ u → tl.lookup j = some u ∨ (ks.getD j .any).pure) :
    ∀ i j v w w', KeepU u i w w' → j ≠ i → edge ops j i = false → (∀ x, tl.lookup j = some x → x ≠ i ∧ edge ops i x = false) → (ks.getD j .any).ok v w → (ks.getD j .any).ok v w' := by
  intro i j v w w' hk hne _ htl hok
  rcases hk with rfl | hk
  · rcases h j hne with h1 | h1
    · exact absurd rfl (htl i h1).1
    · exact h1 v w w' hok
  · exact Kd.on _ v w w' hok hk
theorem leaves_assignC {P : Program} {o : Oper} {ρ : Operand → Value} {w : World} {post : Value → World → Prop} (v : Value) (hr : Reads ρ) (ho : o.op = .assign (.const v)) (h : post v w) : leaves P o ρ w post := by
  refine leaves_assign (.const v) ho ?_
  rw [hr.const]; exact h

end Go.Proofs.Ythmefiegoagkjaa
