/- From what the caller hands over to descriptors and acts in memory. -/
import Derived.Test.YtmccfcllehfebaaRows
import Derived.Test.YtmccfcllehfebaaZOwn
import Derived.Deep.Slices
import Derived.Deep.Strs
import Derived.ProofKit
import Derived.OpenShut
import Derived.Deep.DeepHandedRow
import Derived.Lib.SmallJoins
import Derived.ChangeOld
import Derived.SizedLaws
import Derived.ShutString
import Derived.SliceStrings
namespace Go.Proofs.Ytmccfcllehfebaa.Z
open Go.ChangeShapes Go.WideShapes Go.ChangeAt Go.RowKit Go.Joins

/-- An act in memory. -/
structure ActV where
  k : Int
  d : Int
  x : Sl
  p : Option Addr
  c : Nat
  q : Option Addr
  e : Nat
  m : List Int
def ActV.cells (a : ActV) : List Value := acC a.k a.d a.x (.slice a.p a.x.ints.length a.c) (.slice a.q a.m.length a.e)
def actsV (l : List ActV) : List Value := l.flatMap ActV.cells
theorem actsV_len (l : List ActV) : (actsV l).length = l.length * 8 := by
  induction l with
  | nil => rfl
  | cons x r ih => simp only [actsV, List.flatMap_cons, List.length_append, List.length_cons] at *; rw [ih]; simp [ActV.cells, acC]; omega
theorem actsV_get {l : List ActV} {k i : Nat} (hk : k < l.length) (hi : i < 8) : (actsV l)[k * 8 + i]? = (l[k].cells)[i]? := by
  induction l generalizing k with
  | nil => simp at hk
  | cons x r ih =>
    simp only [actsV, List.flatMap_cons]
    have hx : x.cells.length = 8 := rfl
    cases k with
    | zero => rw [List.getElem?_append_left (by omega)]; simp
    | succ k =>
      rw [List.getElem?_append_right (by omega), hx, show (k + 1) * 8 + i - 8 = k * 8 + i by omega]
      exact ih (by simpa using hk)
/-- What a descriptor's values are. -/
structure SlOk (w : World) (x : Sl) (p : Option Addr) (c : Nat) : Prop where
  file : (Lit.int .i64 x.file).wf = true
  rights : x.rights < 4294967296
  fc : (Lit.int .i64 x.fc).wf = true
  at_ : W.At w p x.ints
  cap : x.ints.length ≤ c
/-- What an act's values are. -/
structure ActOk (w : World) (a : ActV) : Prop where
  kw : (Lit.int .i64 a.k).wf = true
  dw : (Lit.int .i64 a.d).wf = true
  sl : SlOk w a.x a.p a.c
  at_ : W.At w a.q a.m
  cap : a.m.length ≤ a.e
/-- Acts that were handed in. -/
structure ActsAt (w : World) (p : Option Addr) (l : List ActV) : Prop where
  row : At w p (actsV l)
  ok : ∀ x ∈ l, ActOk w x

theorem own : ownKnob Try.prog.godebug = none := by kernel_rfl
theorem laidOut : laidOutB Try.prog = true := by kernel_rfl
theorem cellsSlot : Try.prog.cellsOf 34 = 5 := by kernel_rfl
theorem cellsAct : Try.prog.cellsOf 36 = 8 := by kernel_rfl

section
variable {H : Type} {enc : TypeId × Value → H} {w : World}

theorem addr_add (b off : Nat) (j : Nat) : (⟨b, off, none⟩ : Addr).add j = ⟨b, off + j, none⟩ := by unfold Addr.add; split <;> simp_all
/-- A slice of ints reads as a list. -/
theorem cells_ints {fuel : Nat} {v : Value} {x : DataW H × List MemPlace} (h : DataW.trod enc Try.prog w 0 (fun _ => true) true fuel 30 [v] = some x) :
    ∃ (p : Option Addr) (cap : Nat) (l : List Int), v = .slice p l.length cap ∧ W.At w p l ∧ l.length ≤ cap := by
  rcases open_ints Try.underlying30 Try.underlying3 (by kernel_rfl) h with ⟨hcs, _⟩ | ⟨a, len, cap, zs, hcs, _, hl, hm, hz, _, hcell, hwz⟩
  · obtain rfl : v = .slice none 0 0 := by simpa using hcs
    exact ⟨none, 0, [], rfl, .inl rfl, Nat.le_refl _⟩
  · obtain rfl : v = .slice (some a) len cap := by simpa using hcs
    have hz' : zs.length = cap := by simpa using hz
    have htl : (zs.take len).length = len := by simp; omega
    refine ⟨some a, cap, zs.take len, by rw [htl], ?_, by omega⟩
    by_cases hn : zs.take len = []
    · exact .inl hn
    · have h0 : 0 < len := by
        rcases Nat.eq_zero_or_pos len with e | e
        · subst e; simp at hn
        · exact e
      have hc0 := hcell 0 (by omega)
      obtain ⟨b, off, spot⟩ := a
      have hspot : spot = none := by simpa [Addr.add] using World.cell?_spot hc0
      subst hspot
      have hlt : b < w.heap.size := by
        have := World.block_lt_of_cell? w _ hc0
        simpa [Addr.add] using this
      refine .inr ⟨b, off, rfl, hlt, fun j hj => ?_⟩
      have hj' : j < len := by omega
      have := hcell j (by omega)
      rw [addr_add] at this
      rw [this]
      simp [List.getD, hj', show j < zs.length by omega]
set_option maxRecDepth 100000 in
/-- A descriptor's cells. -/
theorem cells_slot {fuel : Nat} {v0 v1 v2 v3 v4 : Value} {y : DataW H × List MemPlace} (h : DataW.trod enc Try.prog w 0 (fun _ => true) true fuel 34 [v0, v1, v2, v3, v4] = some y) :
    ∃ (x : Sl) (p : Option Addr) (c : Nat), [v0, v1, v2, v3, v4] = slC x (.slice p x.ints.length c) ∧ SlOk w x p c := by
  obtain ⟨y0, y1, y2, y3, n', _, _, g0, g1, g2, g3⟩ := trod_struct4 Try.underlying34 h
  have g0' : DataW.trod enc Try.prog w 0 (fun _ => true) true n' 3 [v0] = some y0 := g0
  have g1' : DataW.trod enc Try.prog w 0 (fun _ => true) true n' 29 [v1] = some y1 := g1
  have g2' : DataW.trod enc Try.prog w 0 (fun _ => true) true n' 32 [v2, v3] = some y2 := g2
  have g3' : DataW.trod enc Try.prog w 0 (fun _ => true) true n' 3 [v4] = some y3 := g3
  obtain ⟨z0, e0, _, w0⟩ := DataW.trod_int Try.underlying3 g0'
  obtain ⟨z1, e1, _, w1⟩ := DataW.trod_int Try.underlying29 g1'
  obtain ⟨z4, e4, _, w4⟩ := DataW.trod_int Try.underlying3 g3'
  obtain ⟨x0, x1, m2, _, _, k0, k1⟩ := trod_struct2 Try.underlying32 g2'
  have k0' : DataW.trod enc Try.prog w 0 (fun _ => true) true m2 4 [v2] = some x0 := k0
  have k1' : DataW.trod enc Try.prog w 0 (fun _ => true) true m2 30 [v3] = some x1 := k1
  obtain ⟨b2, e2, _⟩ := DataW.trod_bool Try.underlying4 k0'
  obtain ⟨p, c, l, rfl, hat, hc⟩ := cells_ints k1'
  obtain rfl : v0 = .int .i64 z0 := by simpa using e0
  obtain rfl : v1 = .int .u32 z1 := by simpa using e1
  obtain rfl : v2 = .bool b2 := by simpa using e2
  obtain rfl : v4 = .int .i64 z4 := by simpa using e4
  have hr : 0 ≤ z1 ∧ z1 ≤ 4294967295 := by
    simp [Lit.wf, IntKind.min, IntKind.max, IntKind.signed, IntKind.bits] at w1
    omega
  refine ⟨⟨z0, z1.toNat, b2, l, z4⟩, p, c, ?_, ⟨w0, by show z1.toNat < 4294967296; omega, w4, hat, hc⟩⟩
  unfold slC
  rw [show ((z1.toNat : Nat) : Int) = z1 by omega]
set_option maxRecDepth 100000 in
theorem cells_act {fuel : Nat} {v0 v1 v2 v3 v4 v5 v6 v7 : Value} {y : DataW H × List MemPlace} (h : DataW.trod enc Try.prog w 0 (fun _ => true) true fuel 36 [v0, v1, v2, v3, v4, v5, v6, v7] = some y) :
    ∃ a : ActV, [v0, v1, v2, v3, v4, v5, v6, v7] = a.cells ∧ ActOk w a := by
  obtain ⟨y0, y1, y2, y3, n', _, _, g0, g1, g2, g3⟩ := trod_struct4 Try.underlying36 h
  have g0' : DataW.trod enc Try.prog w 0 (fun _ => true) true n' 3 [v0] = some y0 := g0
  have g1' : DataW.trod enc Try.prog w 0 (fun _ => true) true n' 3 [v1] = some y1 := g1
  have g2' : DataW.trod enc Try.prog w 0 (fun _ => true) true n' 34 [v2, v3, v4, v5, v6] = some y2 := g2
  have g3' : DataW.trod enc Try.prog w 0 (fun _ => true) true n' 30 [v7] = some y3 := g3
  obtain ⟨z0, e0, _, w0⟩ := DataW.trod_int Try.underlying3 g0'
  obtain ⟨z1, e1, _, w1⟩ := DataW.trod_int Try.underlying3 g1'
  obtain ⟨x, p, c, e2, hx⟩ := cells_slot g2'
  obtain ⟨q, e, m, rfl, hat, hc⟩ := cells_ints g3'
  obtain rfl : v0 = .int .i64 z0 := by simpa using e0
  obtain rfl : v1 = .int .i64 z1 := by simpa using e1
  refine ⟨⟨z0, z1, x, p, c, q, e, m⟩, ?_, ⟨w0, w1, hx, hat, hc⟩⟩
  unfold slC at e2
  simp only [List.cons.injEq, and_true] at e2
  obtain ⟨rfl, rfl, rfl, rfl, rfl⟩ := e2
  rfl
theorem array5 {cs : Array Value} (h : cs.size = 5) : ∃ c0 c1 c2 c3 c4, cs = #[c0, c1, c2, c3, c4] := by
  obtain ⟨l⟩ := cs
  match l, h with
  | [c0, c1, c2, c3, c4], _ => exact ⟨c0, c1, c2, c3, c4, rfl⟩
theorem array8 {cs : Array Value} (h : cs.size = 8) : ∃ c0 c1 c2 c3 c4 c5 c6 c7, cs = #[c0, c1, c2, c3, c4, c5, c6, c7] := by
  obtain ⟨l⟩ := cs
  match l, h with
  | [c0, c1, c2, c3, c4, c5, c6, c7], _ => exact ⟨c0, c1, c2, c3, c4, c5, c6, c7, rfl⟩
set_option maxRecDepth 100000 in
/-- A descriptor by value. -/
theorem open_slot {b0 : Nat} {v : Value} {d : DataW H} {ps : List MemPlace} (hv : Value.okWide Try.prog w .any b0 34 v) (h : DataW.Trod enc Try.prog w 0 (fun _ => true) true 34 v d ps) :
    ∃ (x : Sl) (p : Option Addr) (c : Nat), v = .agg (slC x (.slice p x.ints.length c)).toArray ∧ SlOk w x p c := by
  obtain ⟨cs, rfl, hsz⟩ := okWide_struct Try.underlying34 hv
  obtain ⟨c0, c1, c2, c3, c4, rfl⟩ := array5 (hsz.trans cellsSlot)
  obtain ⟨fuel, hf⟩ := h
  obtain ⟨x, p, c, e, hx⟩ := cells_slot hf
  exact ⟨x, p, c, by rw [← e], hx⟩
set_option maxRecDepth 100000 in
/-- An act by value. -/
theorem open_act {b0 : Nat} {v : Value} {d : DataW H} {ps : List MemPlace} (hv : Value.okWide Try.prog w .any b0 36 v) (h : DataW.Trod enc Try.prog w 0 (fun _ => true) true 36 v d ps) :
    ∃ a : ActV, v = .agg a.cells.toArray ∧ ActOk w a := by
  obtain ⟨cs, rfl, hsz⟩ := okWide_struct Try.underlying36 hv
  obtain ⟨c0, c1, c2, c3, c4, c5, c6, c7, rfl⟩ := array8 (hsz.trans cellsAct)
  obtain ⟨fuel, hf⟩ := h
  obtain ⟨a, e, ha⟩ := cells_act hf
  exact ⟨a, by rw [← e], ha⟩
set_option maxRecDepth 100000 in
theorem open_acts {b0 : Nat} {v : Value} {d : DataW H} {ps : List MemPlace} (hv : Value.okWide Try.prog w .any b0 22 v) (h : DataW.Trod enc Try.prog w 0 (fun _ => true) true 22 v d ps) :
    ∃ (p : Option Addr) (cap : Nat) (l : List ActV), v = .slice p l.length cap ∧ ActsAt w p l ∧ l.length ≤ cap ∧ l.length ≤ 9223372036854775807 := by
  obtain ⟨a0, len0, cap0, rfl⟩ := okWide_slice Try.underlying22 hv
  obtain ⟨fuel, hf⟩ := h
  rcases Deep.open_slice Try.underlying22 hf with ⟨hcs, _⟩ | ⟨a, len, cap, m, n, D, Pl, hcs, _, hl, hm, hmm, _, hx⟩
  · have hcs' : [Value.slice a0 len0 cap0] = [.slice none 0 0] := hcs
    have e : Value.slice a0 len0 cap0 = .slice none 0 0 := by simpa using hcs'
    rw [e]
    exact ⟨none, 0, [], rfl, ⟨.nil _ _ _, fun x hx => by cases hx⟩, Nat.le_refl _, by simp⟩
  · have hcs' : [Value.slice a0 len0 cap0] = [.slice (some a) len cap] := hcs
    have e : Value.slice a0 len0 cap0 = .slice (some a) len cap := by simpa using hcs'
    rw [e]
    have hml : m = cap := by simpa using hmm
    have hC : Try.prog.cellsOf 36 = 8 := by kernel_rfl
    rw [hC] at hx
    have each : ∀ i, i < len → ∃ x : ActV, ActOk w x ∧ ∀ r, r < 8 → w.cell? ((a.add (i * 8)).add r) = (x.cells)[r]? := fun i hi => by
      obtain ⟨cs', h1, h2⟩ := hx i (by omega)
      obtain ⟨_, hlen, hcell⟩ := World.cells?_some h1
      match cs', hlen with
      | [v0, v1, v2, v3, v4, v5, v6, v7], _ =>
        obtain ⟨x, e, hx⟩ := cells_act h2
        rw [e] at hcell
        exact ⟨x, hx, fun r hr => hcell r hr⟩
    let f : Nat → ActV := fun i => if hi : i < len then Classical.choose (each i hi) else ⟨0, 0, zS, none, 0, none, 0, []⟩
    have hfi : ∀ i, i < len → ActOk w (f i) ∧ ∀ r, r < 8 → w.cell? ((a.add (i * 8)).add r) = ((f i).cells)[r]? := fun i hi => by
      have := Classical.choose_spec (each i hi)
      simp only [f, dif_pos hi]
      exact this
    have hll : ((List.range len).map f).length = len := by simp
    refine ⟨some a, cap, (List.range len).map f, by rw [hll], ⟨?_, fun x hx => ?_⟩, by rw [hll]; exact hl, by rw [hll]; unfold maxLen at hm; omega⟩
    · by_cases hn : len = 0
      · subst hn; exact .inl rfl
      · have hc0 := (hfi 0 (by omega)).2 0 (by omega)
        have hc0' : w.cell? ((a.add (0 * 8)).add 0) = some (.int .i64 (f 0).k) := hc0
        obtain ⟨b, off, spot⟩ := a
        have hspot : spot = none := by simpa [Addr.add] using World.cell?_spot hc0'
        subst hspot
        have hlt : b < w.heap.size := by
          have := World.block_lt_of_cell? w _ hc0'
          simpa [Addr.add] using this
        refine .inr ⟨b, off, rfl, Nat.zero_le _, hlt, fun j u hu => ?_⟩
        have hj : j < len * 8 := by have := (List.getElem?_eq_some_iff.1 hu).1; rw [actsV_len, hll] at this; exact this
        have h1 := actsV_get (l := (List.range len).map f) (k := j / 8) (i := j % 8) (by rw [hll]; omega) (by omega)
        rw [show j / 8 * 8 + j % 8 = j by omega, hu] at h1
        have h2 := (hfi (j / 8) (by omega)).2 (j % 8) (by omega)
        rw [addr_add, addr_add, show off + j / 8 * 8 + j % 8 = off + j by omega] at h2
        rw [h2, h1]
        simp
    · obtain ⟨i, hi, rfl⟩ := List.mem_map.1 hx
      exact (hfi i (List.mem_range.1 hi)).1
end

end Go.Proofs.Ytmccfcllehfebaa.Z
