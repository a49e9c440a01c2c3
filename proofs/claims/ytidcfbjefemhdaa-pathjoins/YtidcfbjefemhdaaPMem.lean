/- Paths in memory: texts in a row, boxes of three cells, results in such a box, growth. -/
import Derived.Test.YtidcfbjefemhdaaPPlain
import Derived.Test.YtidcfbjefemhdaaProg
import Derived.WalkKit
import Derived.WalkLawsBesides
import Derived.WalkSpells
import Derived.Laws.Rows
import Derived.BigQuiet
import Derived.Deep.QuietTactic
import Derived.RangeFuncRecord
import Derived.Laws.ResultCell
import Derived.Laws.AppendOwn
namespace Go.Proofs.Ytidcfbjefemhdaa
open Go Go.RowKit

/-- A slice at 'p' reads as these texts. -/
def At (w : World) (p : Option Addr) (l : List ByteArray) : Prop :=
  l = [] ∨ ∃ b off, p = some ⟨b, off, none⟩ ∧ b < w.heap.size ∧ ∀ j, j < l.length → w.cell? ⟨b, off + j, none⟩ = some (.string (l.getD j ByteArray.empty))

theorem At.nil (w : World) (p : Option Addr) : At w p [] := .inl rfl
theorem At.below {w w' : World} {p : Option Addr} {l : List ByteArray} (h : At w p l) {B : Nat} (hb : Below B w w') (hB : w.heap.size ≤ B) : At w' p l := by
  rcases h with h | ⟨b, off, hp, hlt, hc⟩
  · exact .inl h
  · exact .inr ⟨b, off, hp, Nat.lt_of_lt_of_le hlt hb.size, fun j hj => (hb.cell (p := ⟨b, off + j, none⟩) (Nat.lt_of_lt_of_le hlt hB)).trans (hc j hj)⟩
theorem At.on {w w' : World} {p : Option Addr} {l : List ByteArray} (h : At w p l) (hb : Below w.heap.size w w') : At w' p l := h.below hb (Nat.le_refl _)
theorem on_alloc (w : World) (o : Obj) : Below w.heap.size w (w.alloc o) := (Below.refl _ w).alloc (Nat.le_refl _) o
theorem on_trans {w w1 w2 : World} (h : Below w.heap.size w w1) (h2 : Below w1.heap.size w1 w2) : Below w.heap.size w w2 := h.trans (h2.mono h.size)
theorem on_drewN {w w1 : World} (h : Below w.heap.size w w1) (q : Nat) : Below w.heap.size w (w1.drewN q) := ⟨h.os, h.tape, h.output, h.size, h.block⟩
theorem on_drew {w w1 : World} (h : Below w.heap.size w w1) : Below w.heap.size w w1.drew := ⟨h.os, h.tape, h.output, h.size, h.block⟩
theorem At.alloc {w : World} {p : Option Addr} {l : List ByteArray} (h : At w p l) (o : Obj) : At (w.alloc o) p l := h.on (on_alloc w o)
theorem At.drew {w : World} {p : Option Addr} {l : List ByteArray} (h : At w p l) : At w.drew p l := h.on (on_drew (Below.refl _ _))
theorem At.take {w : World} {p : Option Addr} {l : List ByteArray} (h : At w p l) (k : Nat) : At w p (l.take k) := by
  rcases h with rfl | ⟨b, off, hp, hlt, hc⟩
  · exact .inl (by simp)
  · refine .inr ⟨b, off, hp, hlt, fun j hj => ?_⟩
    have hj2 : j < k ∧ j < l.length := by simp at hj; omega
    rw [hc j hj2.2]
    simp [List.getD, hj2.1, hj2.2]

/-- A path's own block: three cells. -/
structure Box (w : World) (b : Nat) (v0 v1 v2 : Value) : Prop where
  row : w.heap[b]? = some (.cells #[v0, v1, v2] 24 (0, 0))

section
variable {w w' : World} {b B : Nat} {v0 v1 v2 : Value}
theorem Box.lt (h : Box w b v0 v1 v2) : b < w.heap.size := (Array.getElem?_eq_some_iff.1 h.row).1
theorem Box.fst (h : Box w b v0 v1 v2) : w.cell? ⟨b, 0, none⟩ = some v0 := cell_of_row _ _ 0 _ _ _ h.row
theorem Box.snd (h : Box w b v0 v1 v2) : w.cell? ⟨b, 1, none⟩ = some v1 := cell_of_row _ _ 1 _ _ _ h.row
theorem Box.thd (h : Box w b v0 v1 v2) : w.cell? ⟨b, 2, none⟩ = some v2 := cell_of_row _ _ 2 _ _ _ h.row
theorem Box.free (h : Box w b v0 v1 v2) (k : Nat) : w.frozen? ⟨b, k, none⟩ = false := by simp [World.frozen?, h.row]
theorem Box.new (w : World) (v0 v1 v2 : Value) : Box (w.alloc (.cells #[v0, v1, v2] 24)) w.heap.size v0 v1 v2 := ⟨World.alloc_heap_new w _⟩
theorem Box.below (h : Box w b v0 v1 v2) (hb : Below B w w') (hB : b < B) : Box w' b v0 v1 v2 := ⟨(hb.block b hB).trans h.row⟩
theorem Box.on (h : Box w b v0 v1 v2) (hb : Below w.heap.size w w') : Box w' b v0 v1 v2 := h.below hb h.lt
theorem Box.alloc (h : Box w b v0 v1 v2) (o : Obj) : Box (w.alloc o) b v0 v1 v2 := h.on (on_alloc w o)
theorem Box.drew (h : Box w b v0 v1 v2) : Box w.drew b v0 v1 v2 := ⟨h.row⟩
end

/-- A list in a block that is not older than 'base'. -/
def AtF (base : Nat) (w : World) (p : Option Addr) (l : List ByteArray) : Prop :=
  l = [] ∨ ∃ b off, p = some ⟨b, off, none⟩ ∧ base ≤ b ∧ b < w.heap.size ∧ ∀ j, j < l.length → w.cell? ⟨b, off + j, none⟩ = some (.string (l.getD j ByteArray.empty))
section
variable {base base' : Nat} {w w' : World} {p : Option Addr} {l : List ByteArray}
theorem AtF.at (h : AtF base w p l) : At w p l := by
  rcases h with h | ⟨b, off, hp, _, hlt, hc⟩
  · exact .inl h
  · exact .inr ⟨b, off, hp, hlt, hc⟩
theorem AtF.nil (base : Nat) (w : World) (p : Option Addr) : AtF base w p [] := .inl rfl
theorem AtF.of (h : At w p l) : AtF 0 w p l := by
  rcases h with h | ⟨b, off, hp, hlt, hc⟩
  · exact .inl h
  · exact .inr ⟨b, off, hp, Nat.zero_le _, hlt, hc⟩
theorem AtF.less (h : AtF base w p l) (hb : base' ≤ base) : AtF base' w p l := by
  rcases h with h | ⟨b, off, hp, hl, hlt, hc⟩
  · exact .inl h
  · exact .inr ⟨b, off, hp, Nat.le_trans hb hl, hlt, hc⟩
theorem AtF.on (h : AtF base w p l) (hb : Below w.heap.size w w') : AtF base w' p l := by
  rcases h with h | ⟨b, off, hp, hl, hlt, hc⟩
  · exact .inl h
  · exact .inr ⟨b, off, hp, hl, Nat.lt_of_lt_of_le hlt hb.size, fun j hj => (hb.cell (p := ⟨b, off + j, none⟩) hlt).trans (hc j hj)⟩
theorem AtF.alloc (h : AtF base w p l) (o : Obj) : AtF base (w.alloc o) p l := h.on (on_alloc w o)
end

/-- All blocks but one are as they were. -/
structure But (b : Nat) (w w' : World) : Prop where
  os : w'.os = w.os
  tape : w'.tape = w.tape
  output : w'.output = w.output
  size : w'.heap.size = w.heap.size
  block : ∀ k, k ≠ b → w'.heap[k]? = w.heap[k]?
theorem But.trans {b : Nat} {w w1 w2 : World} (h : But b w w1) (k : But b w1 w2) : But b w w2 :=
  ⟨k.os.trans h.os, k.tape.trans h.tape, k.output.trans h.output, k.size.trans h.size, fun j hj => (k.block j hj).trans (h.block j hj)⟩
theorem but_set (w : World) (b o : Nat) (v : Value) : But b w (w.setCell ⟨b, o, none⟩ v) :=
  ⟨rfl, rfl, rfl, by simp [World.setCell], fun k hk => by simp [World.setCell, Array.getElem?_modify, Ne.symm hk]⟩
/-- A path laid into a box. -/
def put3 (w : World) (b : Nat) (v0 v1 v2 : Value) : World := ((w.setCell ⟨b, 0, none⟩ v0).setCell ⟨b, 1, none⟩ v1).setCell ⟨b, 2, none⟩ v2
theorem but_put3 (w : World) (b : Nat) (v0 v1 v2 : Value) : But b w (put3 w b v0 v1 v2) := ((but_set w b 0 v0).trans (but_set _ b 1 v1)).trans (but_set _ b 2 v2)
theorem below_but {B b : Nat} {w0 w w' : World} (h : Below B w0 w) (k : But b w w') (hb : B ≤ b) : Below B w0 w' :=
  ⟨k.os.trans h.os, k.tape.trans h.tape, k.output.trans h.output, by rw [k.size]; exact h.size, fun j hj => (k.block j (by omega)).trans (h.block j hj)⟩
theorem Box.but {w w' : World} {b c : Nat} {v0 v1 v2 : Value} (h : Box w c v0 v1 v2) (k : But b w w') (hne : c ≠ b) : Box w' c v0 v1 v2 := ⟨(k.block c hne).trans h.row⟩
theorem AtF.but {base b : Nat} {w w' : World} {p : Option Addr} {l : List ByteArray} (h : AtF base w p l) (k : But b w w') (hb : b < base) : AtF base w' p l := by
  rcases h with h | ⟨g, off, hp, hl, hlt, hc⟩
  · exact .inl h
  · refine .inr ⟨g, off, hp, hl, by rw [k.size]; exact hlt, fun j hj => ?_⟩
    rw [← hc j hj]
    simp only [World.cell?, k.block g (by omega)]
/-- What is older than a block that is turned stays. -/
theorem At.older {b : Nat} {w0 w w' : World} {p : Option Addr} {l : List ByteArray} (h : At w0 p l) (h0 : Below w0.heap.size w0 w) (k : But b w w') (hb : w0.heap.size ≤ b) : At w' p l := h.on (below_but h0 k hb)
section
variable {w : World} {b : Nat} {u0 u1 u2 : Value}
theorem Box.put (h : Box w b u0 u1 u2) (v0 v1 v2 : Value) : Box (put3 w b v0 v1 v2) b v0 v1 v2 :=
  ⟨by simp [put3, World.setCell, Array.getElem?_modify, h.row]⟩
theorem Box.put1 (h : Box w b u0 u1 u2) (v : Value) : Box (w.setCell ⟨b, 1, none⟩ v) b u0 v u2 :=
  ⟨by simp [World.setCell, Array.getElem?_modify, h.row]⟩
theorem Box.put2 (h : Box w b u0 u1 u2) (v : Value) : Box (w.setCell ⟨b, 2, none⟩ v) b u0 u1 v :=
  ⟨by simp [World.setCell, Array.getElem?_modify, h.row]⟩
end

theorem infoPath : (Try.prog.info? 24).map (·.size) = some 3 := by kernel_rfl

theorem run_loadVar_box {w : World} {b : Nat} {v0 v1 v2 : Value} (h : Box w b v0 v1 v2) : (loadVar 24 ⟨b, 0, none⟩).run Try.prog w = .ok (.agg #[v0, v1, v2]) w := by
  have hl : (loadCells ⟨b, 0, none⟩ [v0, v1, v2].length).run Try.prog w = .ok [v0, v1, v2].toArray w :=
    run_loadCells_list (P := Try.prog) w ⟨b, 0, none⟩ [v0, v1, v2] (fun j v hv => by
      match j, hv with
      | 0, hv => simp at hv; subst hv; exact h.fst
      | 1, hv => simp at hv; subst hv; exact h.snd
      | 2, hv => simp at hv; subst hv; exact h.thd)
  have hi := infoPath
  cases hq : Try.prog.info? 24 with
  | none => simp [hq] at hi
  | some i =>
    have hs : i.size = 3 := by simpa [hq] using hi
    have hagg : (isAgg 24).run Try.prog w = .ok true w := Try.isAgg24 w
    have hl' : (loadCells ⟨b, 0, none⟩ 3).run Try.prog w = .ok #[v0, v1, v2] w := hl
    simp [loadVar, Sem.run_bind, hagg, sizeOf, typeInfo, hq, hs, hl']

theorem results_box {fn : Func} {p : Tmp} (h : fn.results = #[.cell p 24]) (tmps : Array Value) (w : World) {b : Nat} {v0 v1 v2 : Value}
    (hp : tmps.getD p undef = .pointer (some ⟨b, 0, none⟩)) (hb : Box w b v0 v1 v2) : (results fn tmps).run Try.prog w = .ok (.agg #[v0, v1, v2]) w := by
  have hp' : tmps[p]?.getD undef = .pointer (some ⟨b, 0, none⟩) := by simpa using hp
  simp [results, h, hp', asAddr, run_loadVar_box hb]

theorem results_box_tmp {fn : Func} {p u : Tmp} (h : fn.results = #[.cell p 24, .tmp u]) (tmps : Array Value) (w : World) {b : Nat} {v0 v1 v2 v3 : Value}
    (hp : tmps.getD p undef = .pointer (some ⟨b, 0, none⟩)) (hu : tmps.getD u undef = v3) (hb : Box w b v0 v1 v2) : (results fn tmps).run Try.prog w = .ok (.tuple #[.agg #[v0, v1, v2], v3]) w := by
  rw [results_cell_tmp h, hp, hu]
  simp [asAddr, run_loadVar_box hb, Result.andThen]

/-- A slice that owns its row, as a list of texts. -/
theorem at_of_row {w : World} {base n : Nat} {v : Value} {l : List ByteArray} (h : w.ownsRow base 9 1 v n (l.map Value.string)) :
    ∃ p cap, v = .slice p l.length cap ∧ AtF base w p l ∧ l.length ≤ cap := by
  have hn : n = l.length := by have := h.1; simpa using this.symm
  rcases h.2 with ⟨h0, h1⟩ | ⟨g, cap, cur, rfl, hb, hg, hc, _, hs, ht⟩
  · subst hn
    have e : l = [] := List.eq_nil_of_length_eq_zero h1
    subst e
    exact ⟨none, 0, by rw [h0]; rfl, .nil _ _ _, Nat.le_refl _⟩
  · refine ⟨some ⟨g, 0, none⟩, cap, by rw [hn], .inr ⟨g, 0, rfl, hb, (Array.getElem?_eq_some_iff.1 hg).1, fun j hj => ?_⟩, by omega⟩
    have hu : (l.map Value.string)[j]? = some (.string (l.getD j ByteArray.empty)) := by simp [List.getD, hj]
    rw [← ht, List.getElem?_take_of_lt (by omega)] at hu
    simp only [World.cell?, hg]
    simpa using hu

theorem idx_str (s : ByteArray) (k : Nat) (hk : k < s.size) (w : World) : (Instr.index 9 (.string s) (.int .i64 (k : Int))).run Try.prog w = .ok (.int .u8 ((byteAt s k).toNat : Int)) w := by
  rw [run_index_string w 9 s .i64 (k : Int) Try.underlying9]
  have e : byteAt s k = s[k] := by
    unfold byteAt
    simp [List.getD, hk]
    rfl
  rw [e]
  simp [hk]

end Go.Proofs.Ytidcfbjefemhdaa
