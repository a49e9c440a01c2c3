/- An act in memory; from what the caller hands over to acts in memory. -/
import Derived.Test.YthmefiegoagkjaaRows
import Derived.Test.YthmefiegoagkjaaYMem
import Derived.Deep.Slices
import Derived.Deep.Strs
import Derived.ProofKit
import Derived.OpenShut
import Derived.Deep.DeepHandedRow
import Derived.Lib.SmallJoins
import Derived.ChangeOld
import Derived.SizedLaws
import Derived.ShutString
import Derived.SliceStrings
namespace Go.Proofs.Ythmefiegoagkjaa.Y
open Go.ChangeShapes Go.WideShapes Go.ChangeAt Go.RowKit Go.Joins

/-- An act in memory. -/
structure ActV where
  k : Int
  p : Int
  n : Int
def ActV.cells (x : ActV) : List Value := [.int .i64 x.k, .int .i64 x.p, .int .i64 x.n]
def actsV (l : List ActV) : List Value := l.flatMap ActV.cells
theorem actsV_len (l : List ActV) : (actsV l).length = l.length * 3 := by
  induction l with
  | nil => rfl
  | cons x r ih => simp only [actsV, List.flatMap_cons, List.length_append, List.length_cons] at *; rw [ih]; simp [ActV.cells]; omega
theorem actsV_get {l : List ActV} {k i : Nat} (hk : k < l.length) (hi : i < 3) : (actsV l)[k * 3 + i]? = (l[k].cells)[i]? := by
  induction l generalizing k with
  | nil => simp at hk
  | cons x r ih =>
    simp only [actsV, List.flatMap_cons]
    have hx : x.cells.length = 3 := rfl
    cases k with
    | zero => rw [List.getElem?_append_left (by omega)]; simp
    | succ k =>
      rw [List.getElem?_append_right (by omega), hx, show (k + 1) * 3 + i - 3 = k * 3 + i by omega]
      exact ih (by simpa using hk)
/-- What an act's values are. -/
structure ActOk (x : ActV) : Prop where
  kw : (Lit.int .i64 x.k).wf = true
  pw : (Lit.int .i64 x.p).wf = true
  nw : (Lit.int .i64 x.n).wf = true
/-- Acts that were handed in. -/
structure ActsAt (w : World) (p : Option Addr) (l : List ActV) : Prop where
  row : At w p (actsV l)
  ok : ∀ x ∈ l, ActOk x

theorem own : ownKnob Try.prog.godebug = none := by kernel_rfl
theorem laidOut : laidOutB Try.prog = true := by kernel_rfl

section
variable {H : Type} {enc : TypeId × Value → H} {w : World}

theorem addr_add (b off : Nat) (j : Nat) : (⟨b, off, none⟩ : Addr).add j = ⟨b, off + j, none⟩ := by unfold Addr.add; split <;> simp_all

theorem open_acts {b0 : Nat} {v : Value} {d : DataW H} {ps : List MemPlace} (hv : Value.okWide Try.prog w .any b0 22 v) (h : DataW.Trod enc Try.prog w 0 (fun _ => true) true 22 v d ps) :
    ∃ (p : Option Addr) (cap : Nat) (l : List ActV), v = .slice p l.length cap ∧ ActsAt w p l ∧ l.length ≤ cap ∧ l.length ≤ 9223372036854775807 := by
  obtain ⟨a0, len0, cap0, rfl⟩ := okWide_slice Try.underlying22 hv
  obtain ⟨fuel, hf⟩ := h
  rcases Deep.open_slice Try.underlying22 hf with ⟨hcs, _⟩ | ⟨a, len, cap, m, n, D, Pl, hcs, _, hl, hm, hmm, _, hx⟩
  · have hcs' : [Value.slice a0 len0 cap0] = [.slice none 0 0] := hcs
    have e : Value.slice a0 len0 cap0 = .slice none 0 0 := by simpa using hcs'
    rw [e]
    exact ⟨none, 0, [], rfl, ⟨.nil _ _ _, fun x hx => by cases hx⟩, Nat.le_refl _, by simp⟩
  · have hcs' : [Value.slice a0 len0 cap0] = [.slice (some a) len cap] := hcs
    have e : Value.slice a0 len0 cap0 = .slice (some a) len cap := by simpa using hcs'
    rw [e]
    have hml : m = cap := by simpa using hmm
    have hC : Try.prog.cellsOf 29 = 3 := by kernel_rfl
    rw [hC] at hx
    have each : ∀ i, i < len → ∃ x : ActV, ActOk x ∧ ∀ r, r < 3 → w.cell? ((a.add (i * 3)).add r) = (x.cells)[r]? := fun i hi => by
      obtain ⟨cs', h1, h2⟩ := hx i (by omega)
      obtain ⟨_, hlen, hcell⟩ := World.cells?_some h1
      obtain ⟨y0, y1, y2, n', _, _, g0, g1, g2⟩ := Deep.trod_struct3 Try.underlying29 h2
      match cs', hlen with
      | [v0, v1, v2], _ =>
        have g0' : DataW.trod enc Try.prog w 0 (fun _ => true) true n' 3 [v0] = some y0 := g0
        have g1' : DataW.trod enc Try.prog w 0 (fun _ => true) true n' 3 [v1] = some y1 := g1
        have g2' : DataW.trod enc Try.prog w 0 (fun _ => true) true n' 3 [v2] = some y2 := g2
        obtain ⟨z0, e0, _, w0⟩ := DataW.trod_int Try.underlying3 g0'
        obtain ⟨z1, e1, _, w1⟩ := DataW.trod_int Try.underlying3 g1'
        obtain ⟨z2, e2, _, w2⟩ := DataW.trod_int Try.underlying3 g2'
        obtain rfl : v0 = .int .i64 z0 := by simpa using e0
        obtain rfl : v1 = .int .i64 z1 := by simpa using e1
        obtain rfl : v2 = .int .i64 z2 := by simpa using e2
        exact ⟨⟨z0, z1, z2⟩, ⟨w0, w1, w2⟩, fun r hr => hcell r hr⟩
    let f : Nat → ActV := fun i => if hi : i < len then Classical.choose (each i hi) else ⟨0, 0, 0⟩
    have hfi : ∀ i, i < len → ActOk (f i) ∧ ∀ r, r < 3 → w.cell? ((a.add (i * 3)).add r) = ((f i).cells)[r]? := fun i hi => by
      have := Classical.choose_spec (each i hi)
      simp only [f, dif_pos hi]
      exact this
    have hll : ((List.range len).map f).length = len := by simp
    refine ⟨some a, cap, (List.range len).map f, by rw [hll], ⟨?_, fun x hx => ?_⟩, by rw [hll]; exact hl, by rw [hll]; unfold maxLen at hm; omega⟩
    · by_cases hn : len = 0
      · subst hn; exact .inl rfl
      · have hc0 := (hfi 0 (by omega)).2 0 (by omega)
        have hc0' : w.cell? ((a.add (0 * 3)).add 0) = some (.int .i64 (f 0).k) := hc0
        obtain ⟨b, off, spot⟩ := a
        have hspot : spot = none := by simpa [Addr.add] using World.cell?_spot hc0'
        subst hspot
        have hlt : b < w.heap.size := by
          have := World.block_lt_of_cell? w _ hc0'
          simpa [Addr.add] using this
        refine .inr ⟨b, off, rfl, Nat.zero_le _, hlt, fun j u hu => ?_⟩
        have hj : j < len * 3 := by have := (List.getElem?_eq_some_iff.1 hu).1; rw [actsV_len, hll] at this; exact this
        have h1 := actsV_get (l := (List.range len).map f) (k := j / 3) (i := j % 3) (by rw [hll]; omega) (by omega)
        rw [show j / 3 * 3 + j % 3 = j by omega, hu] at h1
        have h2 := (hfi (j / 3) (by omega)).2 (j % 3) (by omega)
        rw [addr_add, addr_add, show off + j / 3 * 3 + j % 3 = off + j by omega] at h2
        rw [h2, h1]
        simp
    · obtain ⟨i, hi, rfl⟩ := List.mem_map.1 hx
      exact (hfi i (List.mem_range.1 hi)).1
end

end Go.Proofs.Ythmefiegoagkjaa.Y
