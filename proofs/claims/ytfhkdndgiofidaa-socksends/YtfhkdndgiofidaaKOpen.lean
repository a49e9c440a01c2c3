/- An act in memory; from what the caller hands over to acts and bytes in memory. -/
import Derived.Test.YtfhkdndgiofidaaRows
import Derived.Test.YtfhkdndgiofidaaKMem
import Derived.Deep.Slices
import Derived.Deep.Strs
import Derived.ProofKit
import Derived.OpenShut
import Derived.Deep.DeepHandedRow
import Derived.Lib.SmallJoins
import Derived.ChangeOld
import Derived.SizedLaws
import Derived.ShutString
import Derived.SliceStrings
namespace Go.Proofs.Ytfhkdndgiofidaa.K
open Go.ChangeShapes Go.WideShapes Go.ChangeAt Go.RowKit Go.Joins

/-- An act in memory. -/
structure ActV where
  k : Int
  p : Option Addr
  c : Nat
  B : List UInt8
  n : Int
  m : Int
def ActV.cells (x : ActV) : List Value := [.int .i64 x.k, .slice x.p x.B.length x.c, .int .i64 x.n, .int .i64 x.m]
def actsV (l : List ActV) : List Value := l.flatMap ActV.cells
theorem actsV_len (l : List ActV) : (actsV l).length = l.length * 4 := by
  induction l with
  | nil => rfl
  | cons x r ih => simp only [actsV, List.flatMap_cons, List.length_append, List.length_cons] at *; rw [ih]; simp [ActV.cells]; omega
theorem actsV_get {l : List ActV} {k i : Nat} (hk : k < l.length) (hi : i < 4) : (actsV l)[k * 4 + i]? = (l[k].cells)[i]? := by
  induction l generalizing k with
  | nil => simp at hk
  | cons x r ih =>
    simp only [actsV, List.flatMap_cons]
    have hx : x.cells.length = 4 := rfl
    cases k with
    | zero => rw [List.getElem?_append_left (by omega)]; simp
    | succ k =>
      rw [List.getElem?_append_right (by omega), hx, show (k + 1) * 4 + i - 4 = k * 4 + i by omega]
      exact ih (by simpa using hk)
/-- What an act's values are. -/
structure ActOk (w : World) (x : ActV) : Prop where
  kw : (Lit.int .i64 x.k).wf = true
  nw : (Lit.int .i64 x.n).wf = true
  mw : (Lit.int .i64 x.m).wf = true
  cap : x.B.length ≤ x.c
  at_ : At w x.p (bytesV x.B)
/-- Acts that were handed in. -/
structure ActsAt (w : World) (p : Option Addr) (l : List ActV) : Prop where
  row : At w p (actsV l)
  ok : ∀ x ∈ l, ActOk w x

theorem own : ownKnob Try.prog.godebug = none := by kernel_rfl
theorem laidOut : laidOutB Try.prog = true := by kernel_rfl

section
variable {H : Type} {enc : TypeId × Value → H} {w : World}

theorem addr_add (b off : Nat) (j : Nat) : (⟨b, off, none⟩ : Addr).add j = ⟨b, off + j, none⟩ := by unfold Addr.add; split <;> simp_all

/-- A slice of bytes reads as a list. -/
theorem cells_bytes {fuel : Nat} {v : Value} {x : DataW H × List MemPlace} (h : DataW.trod enc Try.prog w 0 (fun _ => true) true fuel 28 [v] = some x) :
    ∃ (p : Option Addr) (cap : Nat) (l : List UInt8), v = .slice p l.length cap ∧ At w p (bytesV l) ∧ l.length ≤ cap := by
  rcases open_ints Try.underlying28 Try.underlying5 (by kernel_rfl) h with ⟨hcs, _⟩ | ⟨a, len, cap, zs, hcs, _, hl, hm, hz, _, hcell, hwz⟩
  · obtain rfl : v = .slice none 0 0 := by simpa using hcs
    exact ⟨none, 0, [], rfl, .nil _ _ _, Nat.le_refl _⟩
  · obtain rfl : v = .slice (some a) len cap := by simpa using hcs
    have hz' : zs.length = cap := by simpa using hz
    have htl : (zs.take len).length = len := by simp; omega
    refine ⟨some a, cap, (zs.take len).map fun z => UInt8.ofNat z.toNat, by rw [List.length_map, htl], ?_, by rw [List.length_map, htl]; exact hl⟩
    by_cases hn : len = 0
    · subst hn; exact .inl (by simp)
    · have hc0 := hcell 0 (by omega)
      obtain ⟨b, off, spot⟩ := a
      have hspot : spot = none := by simpa [Addr.add] using World.cell?_spot hc0
      subst hspot
      have hlt : b < w.heap.size := by
        have := World.block_lt_of_cell? w _ hc0
        simpa [Addr.add] using this
      refine .inr ⟨b, off, rfl, Nat.zero_le _, hlt, fun j u hu => ?_⟩
      have hj : j < len := by have := (List.getElem?_eq_some_iff.1 hu).1; simp at this; omega
      have hcj := hcell j (by omega)
      rw [addr_add] at hcj
      rw [hcj, ← hu]
      have hzj : j < zs.length := by omega
      have hw := hwz zs[j] (by simp)
      have hr : 0 ≤ zs[j] ∧ zs[j] ≤ 255 := by
        simp [Lit.wf, IntKind.min, IntKind.max, IntKind.signed, IntKind.bits] at hw
        omega
      simp only [bytesV, List.map_map, List.getElem?_map, List.getElem?_take_of_lt hj, List.getElem?_eq_getElem hzj, Option.map_some, Function.comp_apply, byteV, List.getD_eq_getElem?_getD, Option.getD_some]
      congr 2
      rw [UInt8.toNat_ofNat_of_lt' (by show zs[j].toNat < 256; omega)]
      omega

set_option maxRecDepth 100000 in
theorem open_bytes {b0 : Nat} {v : Value} {d : DataW H} {ps : List MemPlace} (hv : Value.okWide Try.prog w .any b0 28 v) (h : DataW.Trod enc Try.prog w 0 (fun _ => true) true 28 v d ps) :
    ∃ (p : Option Addr) (cap : Nat) (l : List UInt8), v = .slice p l.length cap ∧ At w p (bytesV l) ∧ l.length ≤ cap := by
  obtain ⟨a0, len0, cap0, rfl⟩ := okWide_slice Try.underlying28 hv
  obtain ⟨fuel, hf⟩ := h
  exact cells_bytes hf
end

end Go.Proofs.Ytfhkdndgiofidaa.K
