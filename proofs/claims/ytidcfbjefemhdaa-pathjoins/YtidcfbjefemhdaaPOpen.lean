/- From what the caller hands over to texts in memory. -/
import Derived.Test.YtidcfbjefemhdaaRows
import Derived.Test.YtidcfbjefemhdaaPMem
import Derived.ProofKit
import Derived.OpenShut
import Derived.Deep.DeepHandedRow
import Derived.Lib.SmallJoins
import Derived.ChangeOld
import Derived.SizedLaws
import Derived.ShutString
import Derived.SliceStrings
namespace Go.Proofs.Ytidcfbjefemhdaa
open Go.ChangeShapes Go.WideShapes Go.ChangeAt Go.RowKit Go.Joins

theorem own : ownKnob Try.prog.godebug = none := by kernel_rfl
theorem laidOut : laidOutB Try.prog = true := by kernel_rfl
theorem cellsPath : Try.prog.cellsOf 24 = 3 := by kernel_rfl

section
variable {H : Type} {enc : TypeId × Value → H} {w : World}

theorem cells_bool {fuel : Nat} {t : TypeId} {cs : List Value} {x : DataW H × List MemPlace} (ht : Try.prog.underlying t = some .bool) (h : DataW.trod enc Try.prog w 0 (fun _ => true) true fuel t cs = some x) : ∃ b, cs = [.bool b] := by
  cases fuel with
  | zero => simp [DataW.trod] at h
  | succ n =>
    unfold DataW.trod at h
    rw [ht] at h
    split at h
    all_goals first | exact ⟨_, rfl⟩ | (exfalso; simp_all; done)

/-- A slice of texts reads as a list. -/
theorem cells_strs {fuel : Nat} {v : Value} {x : DataW H × List MemPlace} (h : DataW.trod enc Try.prog w 0 (fun _ => true) true fuel 22 [v] = some x) :
    ∃ (p : Option Addr) (cap : Nat) (l : List ByteArray), v = .slice p l.length cap ∧ At w p l ∧ l.length ≤ cap ∧ l.length ≤ 9223372036854775807 := by
  rcases open_strings Try.underlying22 Try.underlying9 (by kernel_rfl) h with ⟨hcs, _⟩ | ⟨a, len, cap, zs, hcs, _, hl, hm, hz, _, hcell, _⟩
  · obtain rfl : v = .slice none 0 0 := by simpa using hcs
    exact ⟨none, 0, [], rfl, .nil _ _, Nat.le_refl _, by simp⟩
  · obtain rfl : v = .slice (some a) len cap := by simpa using hcs
    have hz' : zs.length = cap := by simpa using hz
    have htl : (zs.take len).length = len := by simp; omega
    refine ⟨some a, cap, zs.take len, by rw [htl], ?_, by omega, by rw [htl]; unfold maxLen at hm; omega⟩
    by_cases hn : zs.take len = []
    · exact .inl hn
    · have h0 : 0 < len := by
        rcases Nat.eq_zero_or_pos len with e | e
        · subst e; simp at hn
        · exact e
      have hc0 := hcell 0 (by omega)
      obtain ⟨b, off, spot⟩ := a
      have hspot : spot = none := by simpa [Addr.add] using World.cell?_spot hc0
      subst hspot
      have hlt : b < w.heap.size := by
        have := World.block_lt_of_cell? w _ hc0
        simpa [Addr.add] using this
      refine .inr ⟨b, off, rfl, hlt, fun j hj => ?_⟩
      have hj' : j < len := by omega
      have := hcell j (by omega)
      rw [show (⟨b, off, none⟩ : Addr).add j = ⟨b, off + j, none⟩ by unfold Addr.add; split <;> simp_all] at this
      rw [this]
      simp [List.getD, hj', show j < zs.length by omega]

/-- A path by value. -/
theorem open_path {b0 : Nat} {v : Value} {d : DataW H} {ps : List MemPlace} (hv : Value.okWide Try.prog w .any b0 24 v) (h : DataW.Trod enc Try.prog w 0 (fun _ => true) true 24 v d ps) :
    ∃ (a d' : Bool) (p : Option Addr) (cap : Nat) (l : List ByteArray), v = .agg #[.bool a, .bool d', .slice p l.length cap] ∧ At w p l ∧ l.length ≤ cap ∧ l.length ≤ 9223372036854775807 := by
  obtain ⟨v0, v1, v2, y0, y1, y2, n, rfl, _, _, h0, h1, h2⟩ := open_agg3 Try.underlying24 (by kernel_rfl) cellsPath hv h
  obtain ⟨a, ha⟩ := cells_bool Try.underlying4 h0
  obtain ⟨d', hd⟩ := cells_bool Try.underlying4 h1
  obtain ⟨p, cap, l, rfl, r⟩ := cells_strs h2
  obtain rfl : v0 = .bool a := by simpa using ha
  obtain rfl : v1 = .bool d' := by simpa using hd
  exact ⟨a, d', p, cap, l, rfl, r⟩

end
end Go.Proofs.Ytidcfbjefemhdaa
