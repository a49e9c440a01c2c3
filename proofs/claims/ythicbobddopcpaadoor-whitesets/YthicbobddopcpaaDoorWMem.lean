/- Whitelists in memory: boxes of two cells, results in such a box, growth. -/
import Derived.Test.YthicbobddopcpaaDoorWCan
import Derived.RangeFuncRecord
import Derived.Laws.ResultCell
import Derived.Laws.AppendOwn
namespace Go.Proofs.YthicbobddopcpaaDoor
open Go Go.RowKit

/-- A whitelist's own block: two cells. -/
structure Box (w : World) (b : Nat) (v0 v1 : Value) : Prop where
  row : w.heap[b]? = some (.cells #[v0, v1] 24 (0, 0))

theorem Box.lt {w : World} {b : Nat} {v0 v1 : Value} (h : Box w b v0 v1) : b < w.heap.size := (Array.getElem?_eq_some_iff.1 h.row).1
theorem Box.fst {w : World} {b : Nat} {v0 v1 : Value} (h : Box w b v0 v1) : w.cell? ⟨b, 0, none⟩ = some v0 := cell_of_row _ _ 0 _ _ _ h.row
theorem Box.snd {w : World} {b : Nat} {v0 v1 : Value} (h : Box w b v0 v1) : w.cell? ⟨b, 1, none⟩ = some v1 := cell_of_row _ _ 1 _ _ _ h.row
theorem Box.free0 {w : World} {b : Nat} {v0 v1 : Value} (h : Box w b v0 v1) : w.frozen? ⟨b, 0, none⟩ = false := by simp only [World.frozen?, h.row]; rfl
theorem Box.free1 {w : World} {b : Nat} {v0 v1 : Value} (h : Box w b v0 v1) : w.frozen? ⟨b, 1, none⟩ = false := by simp only [World.frozen?, h.row]; rfl
theorem Box.new (w : World) (v0 v1 : Value) : Box (w.alloc (.cells #[v0, v1] 24)) w.heap.size v0 v1 := ⟨World.alloc_heap_new w _⟩
theorem Box.below {w w' : World} {b B : Nat} {v0 v1 : Value} (h : Box w b v0 v1) (hb : Below B w w') (hB : b < B) : Box w' b v0 v1 := ⟨(hb.block b hB).trans h.row⟩
theorem Box.on {w w' : World} {b : Nat} {v0 v1 : Value} (h : Box w b v0 v1) (hb : Below w.heap.size w w') : Box w' b v0 v1 := h.below hb h.lt
theorem Box.alloc {w : World} {b : Nat} {v0 v1 : Value} (h : Box w b v0 v1) (o : Obj) : Box (w.alloc o) b v0 v1 := h.on ((Below.refl _ w).alloc (Nat.le_refl _) o)
theorem At.on {w w' : World} {p : Option Addr} {l : List Int} (h : At w p l) (hb : Below w.heap.size w w') : At w' p l := h.below hb (Nat.le_refl _)
theorem At.alloc {w : World} {p : Option Addr} {l : List Int} (h : At w p l) (o : Obj) : At (w.alloc o) p l := h.on ((Below.refl _ w).alloc (Nat.le_refl _) o)

theorem on_alloc (w : World) (o : Obj) : Below w.heap.size w (w.alloc o) := (Below.refl _ w).alloc (Nat.le_refl _) o
theorem on_trans {w w1 w2 : World} (h : Below w.heap.size w w1) (h2 : Below w1.heap.size w1 w2) : Below w.heap.size w w2 := h.trans (h2.mono h.size)
theorem on_drewN {w w1 : World} (h : Below w.heap.size w w1) (q : Nat) : Below w.heap.size w (w1.drewN q) := ⟨h.os, h.tape, h.output, h.size, h.block⟩
theorem on_drew {w w1 : World} (h : Below w.heap.size w w1) : Below w.heap.size w w1.drew := ⟨h.os, h.tape, h.output, h.size, h.block⟩

/-- A list in a block that is not older than 'base'. -/
def AtF (base : Nat) (w : World) (p : Option Addr) (l : List Int) : Prop :=
  l = [] ∨ ∃ b off, p = some ⟨b, off, none⟩ ∧ base ≤ b ∧ b < w.heap.size ∧ ∀ j, j < l.length → w.cell? ⟨b, off + j, none⟩ = some (.int .i64 (l.getD j 0))
theorem AtF.at {base : Nat} {w : World} {p : Option Addr} {l : List Int} (h : AtF base w p l) : At w p l := by
  rcases h with h | ⟨b, off, hp, _, hlt, hc⟩
  · exact .inl h
  · exact .inr ⟨b, off, hp, hlt, hc⟩
theorem AtF.nil (base : Nat) (w : World) (p : Option Addr) : AtF base w p [] := .inl rfl
theorem AtF.less {base base' : Nat} {w : World} {p : Option Addr} {l : List Int} (h : AtF base w p l) (hb : base' ≤ base) : AtF base' w p l := by
  rcases h with h | ⟨b, off, hp, hl, hlt, hc⟩
  · exact .inl h
  · exact .inr ⟨b, off, hp, Nat.le_trans hb hl, hlt, hc⟩
theorem AtF.on {base : Nat} {w w' : World} {p : Option Addr} {l : List Int} (h : AtF base w p l) (hb : Below w.heap.size w w') : AtF base w' p l := by
  rcases h with h | ⟨b, off, hp, hl, hlt, hc⟩
  · exact .inl h
  · exact .inr ⟨b, off, hp, hl, Nat.lt_of_lt_of_le hlt hb.size, fun j hj => (hb.cell (p := ⟨b, off + j, none⟩) hlt).trans (hc j hj)⟩
theorem AtF.alloc {base : Nat} {w : World} {p : Option Addr} {l : List Int} (h : AtF base w p l) (o : Obj) : AtF base (w.alloc o) p l := h.on (on_alloc w o)

/-- All blocks but one are as they were. -/
structure But (b : Nat) (w w' : World) : Prop where
  os : w'.os = w.os
  tape : w'.tape = w.tape
  output : w'.output = w.output
  size : w'.heap.size = w.heap.size
  block : ∀ k, k ≠ b → w'.heap[k]? = w.heap[k]?
theorem But.trans {b : Nat} {w w1 w2 : World} (h : But b w w1) (k : But b w1 w2) : But b w w2 :=
  ⟨k.os.trans h.os, k.tape.trans h.tape, k.output.trans h.output, k.size.trans h.size, fun j hj => (k.block j hj).trans (h.block j hj)⟩
theorem but_set (w : World) (b o : Nat) (v : Value) : But b w (w.setCell ⟨b, o, none⟩ v) :=
  ⟨rfl, rfl, rfl, by simp [World.setCell], fun k hk => by simp [World.setCell, Array.getElem?_modify, Ne.symm hk]⟩
theorem but_set2 (w : World) (b o o' : Nat) (v v' : Value) : But b w ((w.setCell ⟨b, o, none⟩ v).setCell ⟨b, o', none⟩ v') := (but_set w b o v).trans (but_set _ b o' v')
theorem below_but {B b : Nat} {w0 w w' : World} (h : Below B w0 w) (k : But b w w') (hb : B ≤ b) : Below B w0 w' :=
  ⟨k.os.trans h.os, k.tape.trans h.tape, k.output.trans h.output, by rw [k.size]; exact h.size, fun j hj => (k.block j (by omega)).trans (h.block j hj)⟩
theorem Box.but {w w' : World} {b c : Nat} {v0 v1 : Value} (h : Box w c v0 v1) (k : But b w w') (hne : c ≠ b) : Box w' c v0 v1 := ⟨(k.block c hne).trans h.row⟩
theorem AtF.but {base b : Nat} {w w' : World} {p : Option Addr} {l : List Int} (h : AtF base w p l) (k : But b w w') (hb : b < base) : AtF base w' p l := by
  rcases h with h | ⟨g, off, hp, hl, hlt, hc⟩
  · exact .inl h
  · refine .inr ⟨g, off, hp, hl, by rw [k.size]; exact hlt, fun j hj => ?_⟩
    rw [← hc j hj]
    simp only [World.cell?, k.block g (by omega)]
theorem Box.put {w : World} {b : Nat} {u0 u1 : Value} (h : Box w b u0 u1) (v0 v1 : Value) : Box ((w.setCell ⟨b, 0, none⟩ v0).setCell ⟨b, 1, none⟩ v1) b v0 v1 :=
  ⟨by simp [World.setCell, Array.getElem?_modify, h.row]⟩
theorem Box.put1 {w : World} {b : Nat} {u0 u1 : Value} (h : Box w b u0 u1) (v1 : Value) : Box (w.setCell ⟨b, 1, none⟩ v1) b u0 v1 :=
  ⟨by simp [World.setCell, Array.getElem?_modify, h.row]⟩

theorem Box.drew {w : World} {b : Nat} {v0 v1 : Value} (h : Box w b v0 v1) : Box w.drew b v0 v1 := ⟨h.row⟩
theorem infoList : (Tryd.prog.info? 24).map (·.size) = some 2 := by kernel_rfl

theorem run_loadVar_box {w : World} {b : Nat} {v0 v1 : Value} (h : Box w b v0 v1) : (loadVar 24 ⟨b, 0, none⟩).run Tryd.prog w = .ok (.agg #[v0, v1]) w := by
  have hl : (loadCells ⟨b, 0, none⟩ [v0, v1].length).run Tryd.prog w = .ok [v0, v1].toArray w :=
    run_loadCells_list (P := Tryd.prog) w ⟨b, 0, none⟩ [v0, v1] (fun j v hv => by
      match j, hv with
      | 0, hv => simp at hv; subst hv; exact h.fst
      | 1, hv => simp at hv; subst hv; exact h.snd)
  have hi := infoList
  cases hq : Tryd.prog.info? 24 with
  | none => simp [hq] at hi
  | some i =>
    have hs : i.size = 2 := by simpa [hq] using hi
    have hagg : (isAgg 24).run Tryd.prog w = .ok true w := Tryd.isAgg24 w
    have hl' : (loadCells ⟨b, 0, none⟩ 2).run Tryd.prog w = .ok #[v0, v1] w := hl
    simp [loadVar, Sem.run_bind, hagg, sizeOf, typeInfo, hq, hs, hl']

theorem results_box {fn : Func} {p : Tmp} (h : fn.results = #[.cell p 24]) (tmps : Array Value) (w : World) {b : Nat} {v0 v1 : Value}
    (hp : tmps.getD p undef = .pointer (some ⟨b, 0, none⟩)) (hb : Box w b v0 v1) : (results fn tmps).run Tryd.prog w = .ok (.agg #[v0, v1]) w := by
  have hp' : tmps[p]?.getD undef = .pointer (some ⟨b, 0, none⟩) := by simpa using hp
  simp [results, h, hp', asAddr, run_loadVar_box hb]

theorem results_box_tmp {fn : Func} {p u : Tmp} (h : fn.results = #[.cell p 24, .tmp u]) (tmps : Array Value) (w : World) {b : Nat} {v0 v1 v2 : Value}
    (hp : tmps.getD p undef = .pointer (some ⟨b, 0, none⟩)) (hu : tmps.getD u undef = v2) (hb : Box w b v0 v1) : (results fn tmps).run Tryd.prog w = .ok (.tuple #[.agg #[v0, v1], v2]) w := by
  rw [results_cell_tmp h, hp, hu]
  simp [asAddr, run_loadVar_box hb, Result.andThen]

/-- A slice that owns its row, as a list of numbers. -/
theorem at_of_row {w : World} {base n : Nat} {v : Value} {l : List Int} (h : w.ownsRow base 3 1 v n (l.map (Value.int .i64))) :
    ∃ p cap, v = .slice p n cap ∧ At w p l ∧ n = l.length := by
  have hn : n = l.length := by have := h.1; simpa using this.symm
  rcases h.2 with ⟨h0, h1⟩ | ⟨g, cap, cur, rfl, hb, hg, hc, _, hs, ht⟩
  · refine ⟨none, 0, ?_, ?_, hn⟩
    · rw [h0, h1]
    · subst hn
      refine .inl (List.eq_nil_of_length_eq_zero ?_)
      exact h1
  · refine ⟨some ⟨g, 0, none⟩, cap, rfl, .inr ⟨g, 0, rfl, (Array.getElem?_eq_some_iff.1 hg).1, fun j hj => ?_⟩, hn⟩
    have hu : (l.map (Value.int .i64))[j]? = some (.int .i64 (l.getD j 0)) := by simp [List.getD, hj]
    rw [← ht, List.getElem?_take_of_lt (by omega)] at hu
    simp only [World.cell?, hg]
    simpa using hu

end Go.Proofs.YthicbobddopcpaaDoor
