/- Acts in memory: the loop that both laws share. -/
import Derived.Test.YtlpgflkfckhgeaaDLives
namespace Go.Proofs.Ytlpgflkfckhgeaa
open Go Go.RowKit

/-- An act. -/
structure ActV where
  k : Int
  nm : ByteArray
  ino : Int
def ActV.cells (x : ActV) : List Value := [.int .i64 x.k, .string x.nm, .int .i64 x.ino]
def actsV (l : List ActV) : List Value := l.flatMap ActV.cells
theorem actsV_len : ∀ l : List ActV, (actsV l).length = l.length * 3
  | [] => rfl
  | x :: l => by
    show (x.cells ++ actsV l).length = _
    rw [List.length_append, actsV_len l, List.length_cons]
    show 3 + _ = _
    omega
theorem actsV_get : ∀ (l : List ActV) (k : Nat) (h : k < l.length) (i : Nat), i < 3 → (actsV l)[k * 3 + i]? = (l[k].cells)[i]?
  | x :: l, 0, _, i, hi => by
    show (x.cells ++ actsV l)[0 * 3 + i]? = _
    rw [Nat.zero_mul, Nat.zero_add, List.getElem?_append_left (by exact hi)]
    rfl
  | x :: l, k + 1, h, i, hi => by
    have := actsV_get l k (by simpa using h) i hi
    show (x.cells ++ actsV l)[(k + 1) * 3 + i]? = _
    rw [List.getElem?_append_right (by show 3 ≤ _; omega), show (k + 1) * 3 + i - x.cells.length = k * 3 + i by show (k + 1) * 3 + i - 3 = _; omega, this]
    rfl
/-- Both, behind some acts. -/
structure Both (w : World) (S L : List Ent) (rv : Value) (wr : World) : Prop where
  dir : Dir w.heap.size wr w.heap.size S
  row : RowR 0 wr rv L
  rel : Rel S L
  below : Below w.heap.size w wr
def BothE (w : World) (rv : Value) (wr : World) : Prop := ∃ S L, Both w S L rv wr
theorem both_start (w : World) : BothE w (.slice (some ⟨w.heap.size + 1, 0, none⟩) 0 0) ((w.alloc (.cells #[.slice none 0 0] 54)).alloc (.cells #[] 63)) := by
  have hb1 := on_alloc w (.cells #[.slice none 0 0] 54)
  have hb2 := on_alloc (w.alloc (.cells #[.slice none 0 0] 54)) (.cells #[] 63)
  have hr := rowS_empty (w.alloc (.cells #[.slice none 0 0] 54)) 0 63 2 (Nat.zero_le _)
  refine ⟨[], [], ⟨_, (new_dir w w.heap.size (Nat.le_refl _)).on hb2⟩, ?_, Rel.nil, on_trans hb1 hb2⟩
  rw [World.size_alloc] at hr
  exact hr

end Go.Proofs.Ytlpgflkfckhgeaa
