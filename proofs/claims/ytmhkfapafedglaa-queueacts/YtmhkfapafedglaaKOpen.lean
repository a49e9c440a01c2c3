/- An act in memory; from what the caller hands over to acts and bytes in memory. -/
import Derived.Test.YtmhkfapafedglaaRows
import Derived.Test.YtmhkfapafedglaaKMem
import Derived.Deep.Slices
import Derived.Deep.Strs
import Derived.ProofKit
import Derived.OpenShut
import Derived.Deep.DeepHandedRow
import Derived.Lib.SmallJoins
import Derived.ChangeOld
import Derived.SizedLaws
import Derived.ShutString
import Derived.SliceStrings
namespace Go.Proofs.Ytmhkfapafedglaa.K
open Go.ChangeShapes Go.WideShapes Go.ChangeAt Go.RowKit Go.Joins

/-- An act in memory. -/
structure ActV where
  k : Int
  p : Option Addr
  c : Nat
  B : List UInt8
  n : Int
  m : Int
def ActV.cells (x : ActV) : List Value := [.int .i64 x.k, .slice x.p x.B.length x.c, .int .i64 x.n, .int .i64 x.m]
def actsV (l : List ActV) : List Value := l.flatMap ActV.cells
theorem actsV_len (l : List ActV) : (actsV l).length = l.length * 4 := by
  induction l with
  | nil => rfl
  | cons x r ih => simp only [actsV, List.flatMap_cons, List.length_append, List.length_cons] at *; rw [ih]; simp [ActV.cells]; omega
theorem actsV_get {l : List ActV} {k i : Nat} (hk : k < l.length) (hi : i < 4) : (actsV l)[k * 4 + i]? = (l[k].cells)[i]? := by
  induction l generalizing k with
  | nil => simp at hk
  | cons x r ih =>
    simp only [actsV, List.flatMap_cons]
    have hx : x.cells.length = 4 := rfl
    cases k with
    | zero => rw [List.getElem?_append_left (by omega)]; simp
    | succ k =>
      rw [List.getElem?_append_right (by omega), hx, show (k + 1) * 4 + i - 4 = k * 4 + i by omega]
      exact ih (by simpa using hk)
/-- What an act's values are. -/
structure ActOk (w : World) (x : ActV) : Prop where
  kw : (Lit.int .i64 x.k).wf = true
  nw : (Lit.int .i64 x.n).wf = true
  mw : (Lit.int .i64 x.m).wf = true
  cap : x.B.length ≤ x.c
  at_ : At w x.p (bytesV x.B)
/-- Acts that were handed in. -/
structure ActsAt (w : World) (p : Option Addr) (l : List ActV) : Prop where
  row : At w p (actsV l)
  ok : ∀ x ∈ l, ActOk w x

theorem own : ownKnob Try.prog.godebug = none := by kernel_rfl
theorem laidOut : laidOutB Try.prog = true := by kernel_rfl

section
variable {H : Type} {enc : TypeId × Value → H} {w : World}

theorem addr_add (b off : Nat) (j : Nat) : (⟨b, off, none⟩ : Addr).add j = ⟨b, off + j, none⟩ := by unfold Addr.add; split <;> simp_all

/-- A slice of bytes reads as a list. -/
theorem cells_bytes {fuel : Nat} {v : Value} {x : DataW H × List MemPlace} (h : DataW.trod enc Try.prog w 0 (fun _ => true) true fuel 29 [v] = some x) :
    ∃ (p : Option Addr) (cap : Nat) (l : List UInt8), v = .slice p l.length cap ∧ At w p (bytesV l) ∧ l.length ≤ cap := by
  rcases open_ints Try.underlying29 Try.underlying5 (by kernel_rfl) h with ⟨hcs, _⟩ | ⟨a, len, cap, zs, hcs, _, hl, hm, hz, _, hcell, hwz⟩
  · obtain rfl : v = .slice none 0 0 := by simpa using hcs
    exact ⟨none, 0, [], rfl, .nil _ _ _, Nat.le_refl _⟩
  · obtain rfl : v = .slice (some a) len cap := by simpa using hcs
    have hz' : zs.length = cap := by simpa using hz
    have htl : (zs.take len).length = len := by simp; omega
    refine ⟨some a, cap, (zs.take len).map fun z => UInt8.ofNat z.toNat, by rw [List.length_map, htl], ?_, by rw [List.length_map, htl]; exact hl⟩
    by_cases hn : len = 0
    · subst hn; exact .inl (by simp)
    · have hc0 := hcell 0 (by omega)
      obtain ⟨b, off, spot⟩ := a
      have hspot : spot = none := by simpa [Addr.add] using World.cell?_spot hc0
      subst hspot
      have hlt : b < w.heap.size := by
        have := World.block_lt_of_cell? w _ hc0
        simpa [Addr.add] using this
      refine .inr ⟨b, off, rfl, Nat.zero_le _, hlt, fun j u hu => ?_⟩
      have hj : j < len := by have := (List.getElem?_eq_some_iff.1 hu).1; simp at this; omega
      have hcj := hcell j (by omega)
      rw [addr_add] at hcj
      rw [hcj, ← hu]
      have hzj : j < zs.length := by omega
      have hw := hwz zs[j] (by simp)
      have hr : 0 ≤ zs[j] ∧ zs[j] ≤ 255 := by
        simp [Lit.wf, IntKind.min, IntKind.max, IntKind.signed, IntKind.bits] at hw
        omega
      simp only [bytesV, List.map_map, List.getElem?_map, List.getElem?_take_of_lt hj, List.getElem?_eq_getElem hzj, Option.map_some, Function.comp_apply, byteV, List.getD_eq_getElem?_getD, Option.getD_some]
      congr 2
      rw [UInt8.toNat_ofNat_of_lt' (by show zs[j].toNat < 256; omega)]
      omega

theorem open_bytes {b0 : Nat} {v : Value} {d : DataW H} {ps : List MemPlace} (hv : Value.okWide Try.prog w .any b0 29 v) (h : DataW.Trod enc Try.prog w 0 (fun _ => true) true 29 v d ps) :
    ∃ (p : Option Addr) (cap : Nat) (l : List UInt8), v = .slice p l.length cap ∧ At w p (bytesV l) ∧ l.length ≤ cap := by
  obtain ⟨a0, len0, cap0, rfl⟩ := okWide_slice Try.underlying29 hv
  obtain ⟨fuel, hf⟩ := h
  exact cells_bytes hf
/-- An act by value. -/
theorem open_act {b0 : Nat} {v : Value} {d : DataW H} {ps : List MemPlace} (hv : Value.okWide Try.prog w .any b0 31 v) (h : DataW.Trod enc Try.prog w 0 (fun _ => true) true 31 v d ps) :
    ∃ (k : Int) (p : Option Addr) (l c : Nat) (n m : Int), v = .agg #[.int .i64 k, .slice p l c, .int .i64 n, .int .i64 m] := by
  obtain ⟨v0, v1, v2, v3, y0, y1, y2, y3, n, rfl, _, _, h0, h1, h2, h3⟩ := open_agg4 Try.underlying31 (by kernel_rfl) (by kernel_rfl) hv h
  obtain ⟨z0, e0, _, _⟩ := DataW.trod_int Try.underlying3 h0
  obtain ⟨p1, c1, B, rfl, _, _⟩ := cells_bytes h1
  obtain ⟨z2, e2, _, _⟩ := DataW.trod_int Try.underlying3 h2
  obtain ⟨z3, e3, _, _⟩ := DataW.trod_int Try.underlying3 h3
  obtain rfl : v0 = .int .i64 z0 := by simpa using e0
  obtain rfl : v2 = .int .i64 z2 := by simpa using e2
  obtain rfl : v3 = .int .i64 z3 := by simpa using e3
  exact ⟨z0, p1, _, c1, z2, z3, rfl⟩
theorem open_acts {b0 : Nat} {v : Value} {d : DataW H} {ps : List MemPlace} (hv : Value.okWide Try.prog w .any b0 22 v) (h : DataW.Trod enc Try.prog w 0 (fun _ => true) true 22 v d ps) :
    ∃ (p : Option Addr) (cap : Nat) (l : List ActV), v = .slice p l.length cap ∧ ActsAt w p l ∧ l.length ≤ cap ∧ l.length ≤ 9223372036854775807 := by
  obtain ⟨a0, len0, cap0, rfl⟩ := okWide_slice Try.underlying22 hv
  obtain ⟨fuel, hf⟩ := h
  rcases Deep.open_slice Try.underlying22 hf with ⟨hcs, _⟩ | ⟨a, len, cap, m, n, D, Pl, hcs, _, hl, hm, hmm, _, hx⟩
  · have hcs' : [Value.slice a0 len0 cap0] = [.slice none 0 0] := hcs
    have e : Value.slice a0 len0 cap0 = .slice none 0 0 := by simpa using hcs'
    rw [e]
    exact ⟨none, 0, [], rfl, ⟨.nil _ _ _, fun x hx => by cases hx⟩, Nat.le_refl _, by simp⟩
  · have hcs' : [Value.slice a0 len0 cap0] = [.slice (some a) len cap] := hcs
    have e : Value.slice a0 len0 cap0 = .slice (some a) len cap := by simpa using hcs'
    rw [e]
    have hml : m = cap := by simpa using hmm
    have hC : Try.prog.cellsOf 31 = 4 := by kernel_rfl
    rw [hC] at hx
    have each : ∀ i, i < len → ∃ x : ActV, ActOk w x ∧ ∀ r, r < 4 → w.cell? ((a.add (i * 4)).add r) = (x.cells)[r]? := fun i hi => by
      obtain ⟨cs', h1, h2⟩ := hx i (by omega)
      obtain ⟨_, hlen, hcell⟩ := World.cells?_some h1
      obtain ⟨y0, y1, y2, y3, n', _, _, g0, g1, g2, g3⟩ := trod_struct4 Try.underlying31 h2
      match cs', hlen with
      | [v0, v1, v2, v3], _ =>
        have g0' : DataW.trod enc Try.prog w 0 (fun _ => true) true n' 3 [v0] = some y0 := g0
        have g1' : DataW.trod enc Try.prog w 0 (fun _ => true) true n' 29 [v1] = some y1 := g1
        have g2' : DataW.trod enc Try.prog w 0 (fun _ => true) true n' 3 [v2] = some y2 := g2
        have g3' : DataW.trod enc Try.prog w 0 (fun _ => true) true n' 3 [v3] = some y3 := g3
        obtain ⟨z0, e0, _, w0⟩ := DataW.trod_int Try.underlying3 g0'
        obtain ⟨z2, e2, _, w2⟩ := DataW.trod_int Try.underlying3 g2'
        obtain ⟨z3, e3, _, w3⟩ := DataW.trod_int Try.underlying3 g3'
        obtain ⟨p1, c1, B, rfl, hB, hc1⟩ := cells_bytes g1'
        obtain rfl : v0 = .int .i64 z0 := by simpa using e0
        obtain rfl : v2 = .int .i64 z2 := by simpa using e2
        obtain rfl : v3 = .int .i64 z3 := by simpa using e3
        exact ⟨⟨z0, p1, c1, B, z2, z3⟩, ⟨w0, w2, w3, hc1, hB⟩, fun r hr => hcell r hr⟩
    let f : Nat → ActV := fun i => if hi : i < len then Classical.choose (each i hi) else ⟨0, none, 0, [], 0, 0⟩
    have hfi : ∀ i, i < len → ActOk w (f i) ∧ ∀ r, r < 4 → w.cell? ((a.add (i * 4)).add r) = ((f i).cells)[r]? := fun i hi => by
      have := Classical.choose_spec (each i hi)
      simp only [f, dif_pos hi]
      exact this
    have hll : ((List.range len).map f).length = len := by simp
    refine ⟨some a, cap, (List.range len).map f, by rw [hll], ⟨?_, fun x hx => ?_⟩, by rw [hll]; exact hl, by rw [hll]; unfold maxLen at hm; omega⟩
    · by_cases hn : len = 0
      · subst hn; exact .inl rfl
      · have hc0 := (hfi 0 (by omega)).2 0 (by omega)
        have hc0' : w.cell? ((a.add (0 * 4)).add 0) = some (.int .i64 (f 0).k) := hc0
        obtain ⟨b, off, spot⟩ := a
        have hspot : spot = none := by simpa [Addr.add] using World.cell?_spot hc0'
        subst hspot
        have hlt : b < w.heap.size := by
          have := World.block_lt_of_cell? w _ hc0'
          simpa [Addr.add] using this
        refine .inr ⟨b, off, rfl, Nat.zero_le _, hlt, fun j u hu => ?_⟩
        have hj : j < len * 4 := by have := (List.getElem?_eq_some_iff.1 hu).1; rw [actsV_len, hll] at this; exact this
        have h1 := actsV_get (l := (List.range len).map f) (k := j / 4) (i := j % 4) (by rw [hll]; omega) (by omega)
        rw [show j / 4 * 4 + j % 4 = j by omega, hu] at h1
        have h2 := (hfi (j / 4) (by omega)).2 (j % 4) (by omega)
        rw [addr_add, addr_add, show off + j / 4 * 4 + j % 4 = off + j by omega] at h2
        rw [h2, h1]
        simp
    · obtain ⟨i, hi, rfl⟩ := List.mem_map.1 hx
      exact (hfi i (List.mem_range.1 hi)).1
end

end Go.Proofs.Ytmhkfapafedglaa.K
