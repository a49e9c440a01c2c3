/- A directory in memory: rows of entries of one's own, and what its calls turn. -/
import Derived.Test.YtlpgflkfckhgeaaGRowS
import Derived.Test.YtlpgflkfckhgeaaGCopy
import Derived.Test.YtlpgflkfckhgeaaDOrd
import Derived.Test.YtlpgflkfckhgeaaProg
namespace Go.Proofs.Ytlpgflkfckhgeaa
open Go Go.RowKit

/-- An entry's cells, and those of a list. -/
def entC (x : Ent) : List Value := [.string x.1, .int .i64 x.2]
def flat (l : List Ent) : List Value := l.flatMap entC
theorem flat_nil : flat [] = [] := rfl
theorem flat_cons (x : Ent) (l : List Ent) : flat (x :: l) = .string x.1 :: .int .i64 x.2 :: flat l := rfl
theorem flat_append (l m : List Ent) : flat (l ++ m) = flat l ++ flat m := List.flatMap_append
theorem flat_one (x : Ent) : flat [x] = entC x := rfl
theorem flat_length : ∀ l : List Ent, (flat l).length = l.length * 2
  | [] => rfl
  | x :: l => by rw [flat_cons, List.length_cons, List.length_cons, flat_length l, List.length_cons]; omega
theorem flat_name : ∀ (l : List Ent) (k : Nat) (h : k < l.length), (flat l)[k * 2]? = some (.string l[k].1)
  | x :: l, 0, _ => rfl
  | x :: l, k + 1, h => by
    have := flat_name l k (by simpa using h)
    rw [show (k + 1) * 2 = k * 2 + 1 + 1 by omega, flat_cons, List.getElem?_cons_succ, List.getElem?_cons_succ, this]; rfl
theorem flat_ino : ∀ (l : List Ent) (k : Nat) (h : k < l.length), (flat l)[k * 2 + 1]? = some (.int .i64 l[k].2)
  | x :: l, 0, _ => rfl
  | x :: l, k + 1, h => by
    have := flat_ino l k (by simpa using h)
    rw [show (k + 1) * 2 + 1 = k * 2 + 1 + 1 + 1 by omega, flat_cons, List.getElem?_cons_succ, List.getElem?_cons_succ, this]; rfl
theorem flat_take : ∀ (l : List Ent) (k : Nat), (flat l).take (k * 2) = flat (l.take k)
  | [], k => by simp [flat_nil]
  | x :: l, 0 => by simp [flat_nil]
  | x :: l, k + 1 => by rw [show (k + 1) * 2 = k * 2 + 1 + 1 by omega, flat_cons, List.take_succ_cons, List.take_succ_cons, flat_take l k]; rfl
theorem flat_drop : ∀ (l : List Ent) (k : Nat), (flat l).drop (k * 2) = flat (l.drop k)
  | [], k => by simp [flat_nil]
  | x :: l, 0 => by simp
  | x :: l, k + 1 => by rw [show (k + 1) * 2 = k * 2 + 1 + 1 by omega, flat_cons, List.drop_succ_cons, List.drop_succ_cons, flat_drop l k]; rfl
theorem flat_set : ∀ (l : List Ent) (k : Nat) (h : k < l.length) (n : Int), (flat l).set (k * 2 + 1) (.int .i64 n) = flat (l.set k (l[k].1, n))
  | x :: l, 0, _, n => rfl
  | x :: l, k + 1, h, n => by
    have := flat_set l k (by simpa using h) n
    rw [show (k + 1) * 2 + 1 = k * 2 + 1 + 1 + 1 by omega, flat_cons, List.set_cons_succ, List.set_cons_succ, this]; rfl
theorem flat_cell (l : List Ent) : ∀ u ∈ flat l, u.oneCell' = true := by
  intro u hu
  obtain ⟨x, _, hx⟩ := List.mem_flatMap.1 hu
  simp only [entC, List.mem_cons, List.not_mem_nil, or_false] at hx
  rcases hx with rfl | rfl <;> rfl

/-- A list of entries as a row of one's own, of structs of type 'e'. -/
abbrev Row (hi : Nat) (e : TypeId) (w : World) (v : Value) (l : List Ent) : Prop := w.ownsRow hi e 2 v l.length (flat l)
/-- A directory: its box, and its row. -/
structure DirAt (hi : Nat) (w : World) (d : Nat) (v : Value) (S : List Ent) : Prop where
  box : Blk w d 54 [v]
  row : Row hi 61 w v S
  hid : hi ≤ d

/-- What a directory's calls turn: directories and their rows alone, none below 'hi'. -/
structure Turn (hi : Nat) (w w' : World) : Prop where
  os : w'.os = w.os
  tape : w'.tape = w.tape
  output : w'.output = w.output
  size : w.heap.size ≤ w'.heap.size
  block : ∀ k, k < w.heap.size → (k < hi ∨ ∀ cs fr, w.heap[k]? ≠ some (.cells cs 54 fr) ∧ w.heap[k]? ≠ some (.cells cs 61 fr)) → w'.heap[k]? = w.heap[k]?
section
variable {hi B : Nat} {w w0 w1 w2 : World}
theorem Turn.refl (hi : Nat) (w : World) : Turn hi w w := ⟨rfl, rfl, rfl, Nat.le_refl _, fun _ _ _ => rfl⟩
theorem Turn.on (h : Below w.heap.size w w1) : Turn hi w w1 := ⟨h.os, h.tape, h.output, h.size, fun k hk _ => h.block k hk⟩
theorem Turn.trans (h : Turn hi w w1) (k : Turn hi w1 w2) : Turn hi w w2 :=
  ⟨k.os.trans h.os, k.tape.trans h.tape, k.output.trans h.output, Nat.le_trans h.size k.size, fun j hj hc => by
    have h1 := h.block j hj hc
    refine (k.block j (Nat.lt_of_lt_of_le hj h.size) ?_).trans h1
    rcases hc with hc | hc
    · exact .inl hc
    · rw [h1]; exact .inr hc⟩
theorem Turn.below (h : Turn hi w w1) (h0 : Below B w0 w) (hB : B ≤ hi) (hs : B ≤ w.heap.size) : Below B w0 w1 :=
  ⟨h.os.trans h0.os, h.tape.trans h0.tape, h.output.trans h0.output, Nat.le_trans h0.size h.size, fun k hk => (h.block k (by omega) (.inl (by omega))).trans (h0.block k hk)⟩
end

end Go.Proofs.Ytlpgflkfckhgeaa
