/- An act in memory; from what the caller hands over to acts and bytes in memory. -/
import Derived.Test.YtfhkdndgiofidaaRows
import Derived.Test.YtfhkdndgiofidaaKMem
import Derived.Test.YtfhkdndgiofidaaKOpen
import Derived.Deep.Slices
import Derived.Deep.Strs
import Derived.ProofKit
import Derived.OpenShut
import Derived.Deep.DeepHandedRow
import Derived.Lib.SmallJoins
import Derived.ChangeOld
import Derived.SizedLaws
import Derived.ShutString
import Derived.SliceStrings
namespace Go.Proofs.Ytfhkdndgiofidaa.X
open Go.ChangeShapes Go.WideShapes Go.ChangeAt Go.RowKit Go.Joins Go.Proofs.Ytfhkdndgiofidaa.K

/-- An act in memory. -/
structure ActV where
  k : Int
  i : Int
  n : Int
  m : Int
  p : Option Addr
  c : Nat
  B : List UInt8
def ActV.cells (x : ActV) : List Value := [.int .i64 x.k, .int .i64 x.i, .int .i64 x.n, .int .i64 x.m, .slice x.p x.B.length x.c]
def actsV (l : List ActV) : List Value := l.flatMap ActV.cells
theorem actsV_len (l : List ActV) : (actsV l).length = l.length * 5 := by
  induction l with
  | nil => rfl
  | cons x r ih => simp only [actsV, List.flatMap_cons, List.length_append, List.length_cons] at *; rw [ih]; simp [ActV.cells]; omega
theorem actsV_get {l : List ActV} {k i : Nat} (hk : k < l.length) (hi : i < 5) : (actsV l)[k * 5 + i]? = (l[k].cells)[i]? := by
  induction l generalizing k with
  | nil => simp at hk
  | cons x r ih =>
    simp only [actsV, List.flatMap_cons]
    have hx : x.cells.length = 5 := rfl
    cases k with
    | zero => rw [List.getElem?_append_left (by omega)]; simp
    | succ k =>
      rw [List.getElem?_append_right (by omega), hx, show (k + 1) * 5 + i - 5 = k * 5 + i by omega]
      exact ih (by simpa using hk)
/-- What an act's values are. -/
structure ActOk (w : World) (x : ActV) : Prop where
  kw : (Lit.int .i64 x.k).wf = true
  iw : (Lit.int .i64 x.i).wf = true
  nw : (Lit.int .i64 x.n).wf = true
  mw : (Lit.int .i64 x.m).wf = true
  cap : x.B.length ≤ x.c
  at_ : At w x.p (bytesV x.B)
/-- Acts that were handed in. -/
structure ActsAt (w : World) (p : Option Addr) (l : List ActV) : Prop where
  row : At w p (actsV l)
  ok : ∀ x ∈ l, ActOk w x

section
variable {H : Type} {enc : TypeId × Value → H} {w : World}

theorem trod_struct5 {P : Program} {base : Nat} {spare : Nat → Bool} {held : Bool} {t : TypeId} {f0 f1 f2 f3 f4 : Field} {fuel : Nat} {cs : List Value} {x : DataW H × List MemPlace} (ht : P.underlying t = some (.struct #[f0, f1, f2, f3, f4])) (h : DataW.trod enc P w base spare held fuel t cs = some x) :
    ∃ y0 y1 y2 y3 y4 n, cs.length = P.cellsOf t ∧ DataW.trod enc P w base spare held n f0.type ((cs.drop f0.offset).take (P.cellsOf f0.type)) = some y0 ∧
      DataW.trod enc P w base spare held n f1.type ((cs.drop f1.offset).take (P.cellsOf f1.type)) = some y1 ∧ DataW.trod enc P w base spare held n f2.type ((cs.drop f2.offset).take (P.cellsOf f2.type)) = some y2 ∧
      DataW.trod enc P w base spare held n f3.type ((cs.drop f3.offset).take (P.cellsOf f3.type)) = some y3 ∧ DataW.trod enc P w base spare held n f4.type ((cs.drop f4.offset).take (P.cellsOf f4.type)) = some y4 := by
  obtain ⟨xs, n, _, rfl, hl, hlen, hf⟩ := DataW.trod_struct ht h
  match xs, hlen with
  | [y0, y1, y2, y3, y4], _ => exact ⟨y0, y1, y2, y3, y4, n, hl, by simpa using hf 0 f0 rfl, by simpa using hf 1 f1 rfl, by simpa using hf 2 f2 rfl, by simpa using hf 3 f3 rfl, by simpa using hf 4 f4 rfl⟩
set_option maxRecDepth 100000 in
theorem open_acts {b0 : Nat} {v : Value} {d : DataW H} {ps : List MemPlace} (hv : Value.okWide Try.prog w .any b0 22 v) (h : DataW.Trod enc Try.prog w 0 (fun _ => true) true 22 v d ps) :
    ∃ (p : Option Addr) (cap : Nat) (l : List ActV), v = .slice p l.length cap ∧ ActsAt w p l ∧ l.length ≤ cap ∧ l.length ≤ 9223372036854775807 := by
  obtain ⟨a0, len0, cap0, rfl⟩ := okWide_slice Try.underlying22 hv
  obtain ⟨fuel, hf⟩ := h
  rcases Deep.open_slice Try.underlying22 hf with ⟨hcs, _⟩ | ⟨a, len, cap, m, n, D, Pl, hcs, _, hl, hm, hmm, _, hx⟩
  · have hcs' : [Value.slice a0 len0 cap0] = [.slice none 0 0] := hcs
    have e : Value.slice a0 len0 cap0 = .slice none 0 0 := by simpa using hcs'
    rw [e]
    exact ⟨none, 0, [], rfl, ⟨.nil _ _ _, fun x hx => by cases hx⟩, Nat.le_refl _, by simp⟩
  · have hcs' : [Value.slice a0 len0 cap0] = [.slice (some a) len cap] := hcs
    have e : Value.slice a0 len0 cap0 = .slice (some a) len cap := by simpa using hcs'
    rw [e]
    have hml : m = cap := by simpa using hmm
    have hC : Try.prog.cellsOf 30 = 5 := by kernel_rfl
    rw [hC] at hx
    have each : ∀ i, i < len → ∃ x : ActV, ActOk w x ∧ ∀ r, r < 5 → w.cell? ((a.add (i * 5)).add r) = (x.cells)[r]? := fun i hi => by
      obtain ⟨cs', h1, h2⟩ := hx i (by omega)
      obtain ⟨_, hlen, hcell⟩ := World.cells?_some h1
      obtain ⟨y0, y1, y2, y3, y4, n', _, g0, g1, g2, g3, g4⟩ := trod_struct5 Try.underlying30 h2
      match cs', hlen with
      | [v0, v1, v2, v3, v4], _ =>
        have g0' : DataW.trod enc Try.prog w 0 (fun _ => true) true n' 3 [v0] = some y0 := g0
        have g1' : DataW.trod enc Try.prog w 0 (fun _ => true) true n' 3 [v1] = some y1 := g1
        have g2' : DataW.trod enc Try.prog w 0 (fun _ => true) true n' 3 [v2] = some y2 := g2
        have g3' : DataW.trod enc Try.prog w 0 (fun _ => true) true n' 3 [v3] = some y3 := g3
        have g4' : DataW.trod enc Try.prog w 0 (fun _ => true) true n' 28 [v4] = some y4 := g4
        obtain ⟨z0, e0, _, w0⟩ := DataW.trod_int Try.underlying3 g0'
        obtain ⟨z1, e1, _, w1⟩ := DataW.trod_int Try.underlying3 g1'
        obtain ⟨z2, e2, _, w2⟩ := DataW.trod_int Try.underlying3 g2'
        obtain ⟨z3, e3, _, w3⟩ := DataW.trod_int Try.underlying3 g3'
        obtain ⟨p1, c1, B, rfl, hB, hc1⟩ := cells_bytes g4'
        obtain rfl : v0 = .int .i64 z0 := by simpa using e0
        obtain rfl : v1 = .int .i64 z1 := by simpa using e1
        obtain rfl : v2 = .int .i64 z2 := by simpa using e2
        obtain rfl : v3 = .int .i64 z3 := by simpa using e3
        exact ⟨⟨z0, z1, z2, z3, p1, c1, B⟩, ⟨w0, w1, w2, w3, hc1, hB⟩, fun r hr => hcell r hr⟩
    let f : Nat → ActV := fun i => if hi : i < len then Classical.choose (each i hi) else ⟨0, 0, 0, 0, none, 0, []⟩
    have hfi : ∀ i, i < len → ActOk w (f i) ∧ ∀ r, r < 5 → w.cell? ((a.add (i * 5)).add r) = ((f i).cells)[r]? := fun i hi => by
      have := Classical.choose_spec (each i hi)
      simp only [f, dif_pos hi]
      exact this
    have hll : ((List.range len).map f).length = len := by simp
    refine ⟨some a, cap, (List.range len).map f, by rw [hll], ⟨?_, fun x hx => ?_⟩, by rw [hll]; exact hl, by rw [hll]; unfold maxLen at hm; omega⟩
    · by_cases hn : len = 0
      · subst hn; exact .inl rfl
      · have hc0 := (hfi 0 (by omega)).2 0 (by omega)
        have hc0' : w.cell? ((a.add (0 * 5)).add 0) = some (.int .i64 (f 0).k) := hc0
        obtain ⟨b, off, spot⟩ := a
        have hspot : spot = none := by simpa [Addr.add] using World.cell?_spot hc0'
        subst hspot
        have hlt : b < w.heap.size := by
          have := World.block_lt_of_cell? w _ hc0'
          simpa [Addr.add] using this
        refine .inr ⟨b, off, rfl, Nat.zero_le _, hlt, fun j u hu => ?_⟩
        have hj : j < len * 5 := by have := (List.getElem?_eq_some_iff.1 hu).1; rw [actsV_len, hll] at this; exact this
        have h1 := actsV_get (l := (List.range len).map f) (k := j / 5) (i := j % 5) (by rw [hll]; omega) (by omega)
        rw [show j / 5 * 5 + j % 5 = j by omega, hu] at h1
        have h2 := (hfi (j / 5) (by omega)).2 (j % 5) (by omega)
        rw [addr_add, addr_add, show off + j / 5 * 5 + j % 5 = off + j by omega] at h2
        rw [h2, h1]
        simp
    · obtain ⟨i, hi, rfl⟩ := List.mem_map.1 hx
      exact (hfi i (List.mem_range.1 hi)).1
end

end Go.Proofs.Ytfhkdndgiofidaa.X
