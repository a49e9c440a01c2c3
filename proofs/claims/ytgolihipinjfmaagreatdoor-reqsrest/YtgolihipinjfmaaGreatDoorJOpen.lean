/- From what the caller hands over to a request in memory. -/
import Derived.Test.YtgolihipinjfmaaGreatDoorJLaid
import Derived.Deep.Slices
import Derived.Deep.Strs
import Derived.ProofKit
import Derived.OpenShut
import Derived.Deep.DeepHandedRow
import Derived.Lib.SmallJoins
import Derived.ChangeOld
import Derived.SizedLaws
import Derived.ShutString
import Derived.SliceStrings
namespace Go.Proofs.YtgolihipinjfmaaGreatDoor.J
open Go.ChangeShapes Go.WideShapes Go.ChangeAt Go.RowKit Go.Joins

theorem laidOut : laidOutB Tryz.prog = true := by kernel_rfl
theorem cellsRq : Tryz.prog.cellsOf 25 = 9 := by kernel_rfl
theorem cellsI : Tryz.prog.cellsOf 3 = 1 := by kernel_rfl

section
variable {H : Type} {enc : TypeId × Value → H} {w : World}

theorem addr_add (b off : Nat) (j : Nat) : (⟨b, off, none⟩ : Addr).add j = ⟨b, off + j, none⟩ := by unfold Addr.add; split <;> simp_all
/-- A slice of ints reads as a list. -/
theorem cells_ints {fuel : Nat} {v : Value} {x : DataW H × List MemPlace} (h : DataW.trod enc Tryz.prog w 0 (fun _ => true) true fuel 23 [v] = some x) :
    ∃ (p : Option Addr) (cap : Nat) (l : List Int), v = .slice p l.length cap ∧ At w p (ints l) ∧ l.length ≤ cap := by
  rcases open_ints Tryz.underlying23 Tryz.underlying3 (by kernel_rfl) h with ⟨hcs, _⟩ | ⟨a, len, cap, zs, hcs, _, hl, hm, hz, _, hcell, hwz⟩
  · obtain rfl : v = .slice none 0 0 := by simpa using hcs
    exact ⟨none, 0, [], rfl, .inl rfl, Nat.le_refl _⟩
  · obtain rfl : v = .slice (some a) len cap := by simpa using hcs
    have hz' : zs.length = cap := by simpa using hz
    have htl : (zs.take len).length = len := by simp; omega
    refine ⟨some a, cap, zs.take len, by rw [htl], ?_, by omega⟩
    by_cases hn : zs.take len = []
    · exact .inl (by rw [hn]; rfl)
    · have h0 : 0 < len := by
        rcases Nat.eq_zero_or_pos len with e | e
        · subst e; simp at hn
        · exact e
      have hc0 := hcell 0 (by omega)
      obtain ⟨b, off, spot⟩ := a
      have hspot : spot = none := by simpa [Addr.add] using World.cell?_spot hc0
      subst hspot
      have hlt : b < w.heap.size := by
        have := World.block_lt_of_cell? w _ hc0
        simpa [Addr.add] using this
      refine .inr ⟨b, off, rfl, Nat.zero_le _, hlt, fun j v hj => ?_⟩
      have hjl : j < (ints (zs.take len)).length := (List.getElem?_eq_some_iff.1 hj).1
      rw [ints_len, htl] at hjl
      have := hcell j (by omega)
      rw [addr_add] at this
      rw [this, ← hj]
      simp [ints, List.getD, hjl, show j < zs.length by omega]
/-- A request that was handed in. -/
structure RqOk (w : World) (r : Rq) (p : Option Addr) (c : Nat) : Prop where
  at_ : At w p (ints r.l)
  cap : r.l.length ≤ c
theorem trod_struct5 {P : Program} {base : Nat} {spare : Nat → Bool} {held : Bool} {t : TypeId} {f0 f1 f2 f3 f4 : Field} {fuel : Nat} {cs : List Value} {x : DataW H × List MemPlace} (ht : P.underlying t = some (.struct #[f0, f1, f2, f3, f4])) (h : DataW.trod enc P w base spare held fuel t cs = some x) :
    ∃ y0 y1 y2 y3 y4 n, DataW.trod enc P w base spare held n f0.type ((cs.drop f0.offset).take (P.cellsOf f0.type)) = some y0 ∧
      DataW.trod enc P w base spare held n f1.type ((cs.drop f1.offset).take (P.cellsOf f1.type)) = some y1 ∧ DataW.trod enc P w base spare held n f2.type ((cs.drop f2.offset).take (P.cellsOf f2.type)) = some y2 ∧
      DataW.trod enc P w base spare held n f3.type ((cs.drop f3.offset).take (P.cellsOf f3.type)) = some y3 ∧ DataW.trod enc P w base spare held n f4.type ((cs.drop f4.offset).take (P.cellsOf f4.type)) = some y4 := by
  obtain ⟨xs, n, _, rfl, hl, hlen, hf⟩ := DataW.trod_struct ht h
  match xs, hlen with
  | [y0, y1, y2, y3, y4], _ => exact ⟨y0, y1, y2, y3, y4, n, by simpa using hf 0 f0 rfl, by simpa using hf 1 f1 rfl, by simpa using hf 2 f2 rfl, by simpa using hf 3 f3 rfl, by simpa using hf 4 f4 rfl⟩
theorem cell_int {fuel : Nat} {v : Value} {x : DataW H × List MemPlace} (h : DataW.trod enc Tryz.prog w 0 (fun _ => true) true fuel 3 [v] = some x) : ∃ z, v = .int .i64 z := by
  obtain ⟨z, e, _, _⟩ := DataW.trod_int Tryz.underlying3 h
  exact ⟨z, by simpa using e⟩
set_option maxRecDepth 100000 in
theorem cells_arr {fuel : Nat} {v0 v1 v2 v3 v4 : Value} {x : DataW H × List MemPlace} (h : DataW.trod enc Tryz.prog w 0 (fun _ => true) true fuel 22 [v0, v1, v2, v3, v4] = some x) :
    ∃ a0 a1 a2 a3 a4 : Int, [v0, v1, v2, v3, v4] = arrC a0 a1 a2 a3 a4 := by
  obtain ⟨xs, m, _, _, _, hxl, hat⟩ := DataW.trod_array Tryz.underlying22 h
  rw [cellsI] at hat
  match xs, hxl with
  | [y0, y1, y2, y3, y4], _ =>
    have e0 : DataW.trod enc Tryz.prog w 0 (fun _ => true) true m 3 [v0] = some y0 := hat 0 (by decide)
    have e1 : DataW.trod enc Tryz.prog w 0 (fun _ => true) true m 3 [v1] = some y1 := hat 1 (by decide)
    have e2 : DataW.trod enc Tryz.prog w 0 (fun _ => true) true m 3 [v2] = some y2 := hat 2 (by decide)
    have e3 : DataW.trod enc Tryz.prog w 0 (fun _ => true) true m 3 [v3] = some y3 := hat 3 (by decide)
    have e4 : DataW.trod enc Tryz.prog w 0 (fun _ => true) true m 3 [v4] = some y4 := hat 4 (by decide)
    obtain ⟨a0, rfl⟩ := cell_int e0
    obtain ⟨a1, rfl⟩ := cell_int e1
    obtain ⟨a2, rfl⟩ := cell_int e2
    obtain ⟨a3, rfl⟩ := cell_int e3
    obtain ⟨a4, rfl⟩ := cell_int e4
    exact ⟨a0, a1, a2, a3, a4, rfl⟩
theorem array9 {cs : Array Value} (h : cs.size = 9) : ∃ c0 c1 c2 c3 c4 c5 c6 c7 c8, cs = #[c0, c1, c2, c3, c4, c5, c6, c7, c8] := by
  obtain ⟨l⟩ := cs
  match l, h with
  | [c0, c1, c2, c3, c4, c5, c6, c7, c8], _ => exact ⟨c0, c1, c2, c3, c4, c5, c6, c7, c8, rfl⟩
set_option maxRecDepth 100000 in
/-- A request by value. -/
theorem open_req {b0 : Nat} {v : Value} {d : DataW H} {ps : List MemPlace} (hv : Value.okWide Tryz.prog w .any b0 25 v) (h : DataW.Trod enc Tryz.prog w 0 (fun _ => true) true 25 v d ps) :
    ∃ (r : Rq) (p : Option Addr) (c : Nat), v = rqV r p c ∧ RqOk w r p c := by
  obtain ⟨cs, rfl, hsz⟩ := okWide_struct Tryz.underlying25 hv
  obtain ⟨c0, c1, c2, c3, c4, c5, c6, c7, c8, rfl⟩ := array9 (hsz.trans cellsRq)
  obtain ⟨fuel, hf⟩ := h
  have hf' : DataW.trod enc Tryz.prog w 0 (fun _ => true) true fuel 25 [c0, c1, c2, c3, c4, c5, c6, c7, c8] = some (d, ps) := hf
  obtain ⟨y0, y1, y2, y3, y4, n, g0, g1, g2, g3, g4⟩ := trod_struct5 Tryz.underlying25 hf'
  have g0' : DataW.trod enc Tryz.prog w 0 (fun _ => true) true n 3 [c0] = some y0 := g0
  have g1' : DataW.trod enc Tryz.prog w 0 (fun _ => true) true n 22 [c1, c2, c3, c4, c5] = some y1 := g1
  have g2' : DataW.trod enc Tryz.prog w 0 (fun _ => true) true n 9 [c6] = some y2 := g2
  have g3' : DataW.trod enc Tryz.prog w 0 (fun _ => true) true n 9 [c7] = some y3 := g3
  have g4' : DataW.trod enc Tryz.prog w 0 (fun _ => true) true n 23 [c8] = some y4 := g4
  obtain ⟨no, rfl⟩ := cell_int g0'
  obtain ⟨a0, a1, a2, a3, a4, ea⟩ := cells_arr g1'
  obtain ⟨s, es, _, _⟩ := DataW.trod_string Tryz.underlying9 g2'
  obtain ⟨t, et, _, _⟩ := DataW.trod_string Tryz.underlying9 g3'
  obtain ⟨p, cap, l, rfl, hat, hc⟩ := cells_ints g4'
  obtain rfl : c6 = .string s := by simpa using es
  obtain rfl : c7 = .string t := by simpa using et
  simp only [arrC, List.cons.injEq, and_true] at ea
  obtain ⟨rfl, rfl, rfl, rfl, rfl⟩ := ea
  exact ⟨⟨no, a0, a1, a2, a3, a4, s, t, l⟩, p, cap, rfl, hat, hc⟩
end

end Go.Proofs.YtgolihipinjfmaaGreatDoor.J
