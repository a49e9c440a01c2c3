/- What calls.Group answers, for every number. -/
import Derived.Test.YtgolihipinjfmaaGreatDoorCParts
import Derived.WalkSpells
namespace Go.Proofs.YtgolihipinjfmaaGreatDoor.C
open Go Go.RowKit Go.Shelf

theorem run_eql_slice_nil (w : World) (t e : TypeId) (a : Option Addr) (n c : Nat) (h : Tryz.prog.underlying t = some (.slice e)) : (binOp .eql t (.slice a n c) (.slice none 0 0)).run Tryz.prog w = .ok (.bool a.isNone) w := by
  simp only [binOp]
  simp [Op.equal, Op.maxDepth, Lib.run_equalIn_slice_nil w 9999 t e a n c 0 0 h]

theorem parts_at (k : Fin 64) (w : World) (hs : Sp w) : Calls Tryz.prog 32 #[.int .i64 ((k.val : Int) + 1)] w fun e W =>
    ∃ g, w.heap.size ≤ g ∧ e = .returned (.slice (some ⟨g, 0, none⟩) (parL k).length (parL k).length) ∧ W.heap[g]? = some (.cells (parV k) 9 (0, 0)) ∧ Below w.heap.size w W := by
  refine (parts_any _ w hs).mono ?_
  rintro e W ⟨hB, (⟨j, hj, g, h1, h2, h3⟩ | ⟨hn, _⟩)⟩
  · obtain rfl : j = k := Fin.ext (by omega)
    exact ⟨g, h1, h2, h3, hB⟩
  · exact absurd rfl (hn k)
theorem parts_no (no : Int) (hno : ∀ k : Fin 64, (k.val : Int) + 1 ≠ no) (w : World) (hs : Sp w) : Calls Tryz.prog 32 #[.int .i64 no] w fun e W =>
    e = .returned (.slice none 0 0) ∧ Below w.heap.size w W := by
  refine (parts_any _ w hs).mono ?_
  rintro e W ⟨hB, (⟨j, hj, _⟩ | ⟨_, h⟩)⟩
  · exact absurd hj (hno j)
  · exact ⟨h, hB⟩

theorem part_cell {W : World} {g : Nat} {k : Fin 64} {t : TypeId} (h : W.heap[g]? = some (.cells (parV k) t (0, 0))) (i : Nat) (hi : i < (parL k).length) :
    W.cell? ⟨g, i, none⟩ = some (.string (byt ((parL k).getD i []))) := by
  simp [World.cell?, h, parV, List.getD_eq_getElem?_getD, List.getElem?_eq_getElem hi]

end Go.Proofs.YtgolihipinjfmaaGreatDoor.C
