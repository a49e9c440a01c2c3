/- Two rows of a law's own beside a queue; what Put and Take come to over all bytes and all that is passed. -/
import Derived.Test.YtfhkdndgiofidaaKGiven
import Derived.Test.YtfhkdndgiofidaaKOpen
namespace Go.Proofs.Ytfhkdndgiofidaa.K
open Go Go.RowKit

/-- A queue, and two rows beside it. -/
structure IO2 (e : TypeId) (sz : Nat) (w : World) (F G : Nat → Prop) (W : World) (qb n : Nat) (ps : List Pt) (iv ov : Value) (ni no : Nat) (I O : List Value) : Prop where
  qs : QS w F G W qb n ps
  inn : W.ownsRow w.heap.size e sz iv ni I
  out : W.ownsRow w.heap.size e sz ov no O
  apart : ∀ g, iv.ownBlock = some g → ov.ownBlock ≠ some g
  free : ∀ g, iv.ownBlock = some g ∨ ov.ownBlock = some g → ¬ F g ∧ ¬ G g
section
variable {e : TypeId} {sz : Nat} {w W W' : World} {F G F' G' : Nat → Prop} {qb n ni no m : Nat} {ps ps' : List Pt} {iv ov v' : Value} {I O L : List Value}
theorem IO2.on (h : IO2 e sz w F G W qb n ps iv ov ni no I O) (hb : Below W.heap.size W W') : IO2 e sz w F G W' qb n ps iv ov ni no I O := ⟨h.qs.on hb, rowS_on h.inn hb, rowS_on h.out hb, h.apart, h.free⟩
theorem IO2.lt (h : IO2 e sz w F G W qb n ps iv ov ni no I O) : ∀ g, iv.ownBlock = some g ∨ ov.ownBlock = some g → w.heap.size ≤ g ∧ g < W.heap.size := fun g hg => by
  rcases hg with hg | hg
  · exact ⟨(row_lt h.inn hg).1, (row_lt h.inn hg).2.1⟩
  · exact ⟨(row_lt h.out hg).1, (row_lt h.out hg).2.1⟩
theorem IO2.goes (h : IO2 e sz w F G W qb n ps iv ov ni no I O) (hq : QAt F' G' W' qb n ps') (hg : Goes F G F' G' W W') : IO2 e sz w F' G' W' qb n ps' iv ov ni no I O :=
  ⟨h.qs.goes hq hg, rowS_keep h.inn hg.keep fun g e => (h.free g (.inl e)).1, rowS_keep h.out hg.keep fun g e => (h.free g (.inr e)).1, h.apart, fun g e => by
    have h1 := h.free g e
    have h2 := (h.lt g e).2
    refine ⟨fun h7 => ?_, fun h7 => ?_⟩
    · rcases hg.sub g h7 with h8 | h8
      · exact h1.1 h8
      · omega
    · rcases hg.subG g h7 with h8 | h8
      · exact h1.2 h8
      · omega⟩
theorem QS.grown (h : QS w F G W qb n ps) (hk : Keep (fun k => F k ∨ G k) W W') (hb : Below w.heap.size W W') : QS w F G W' qb n ps := ⟨h.q.keep hk, h.lo, h.below.trans hb⟩
/-- The first row grows. -/
theorem IO2.in_ (h : IO2 e sz w F G W qb n ps iv ov ni no I O) (ho : W'.ownsRow w.heap.size e sz v' m L) (hg : Grows iv v' W W') : IO2 e sz w F G W' qb n ps v' ov m no L O := by
  have hb : Below w.heap.size W W' := ⟨hg.os, hg.tape, hg.output, hg.size, fun k hk => hg.block k (Nat.lt_of_lt_of_le hk h.qs.below.size) fun e => by have := (h.lt k (.inl e)).1; omega⟩
  refine ⟨h.qs.grown ⟨hg.os, hg.tape, hg.output, hg.size, fun k hk h7 => hg.block k hk fun e => ?_⟩ hb, ho, rowS_keep h.out (O := fun k => iv.ownBlock ≠ some k) ⟨hg.os, hg.tape, hg.output, hg.size, hg.block⟩ fun g e e2 => h.apart g e2 e, fun g e e2 => ?_, fun g e => ?_⟩
  · have := h.free k (.inl e)
    rcases h7 with h7 | h7
    · exact this.1 h7
    · exact this.2 h7
  · rcases hg.lies g e with h7 | h7
    · exact h.apart g h7 e2
    · have := (h.lt g (.inr e2)).2; omega
  · rcases e with e | e
    · rcases hg.lies g e with h7 | h7
      · exact h.free g (.inl h7)
      · exact ⟨fun h8 => by have := h.qs.q.lt g h8; omega, fun h8 => by have := h.qs.q.ltG g h8; omega⟩
    · exact h.free g (.inr e)
theorem IO2.swap (h : IO2 e sz w F G W qb n ps iv ov ni no I O) : IO2 e sz w F G W qb n ps ov iv no ni O I := ⟨h.qs, h.out, h.inn, fun g e e2 => h.apart g e2 e, fun g e => h.free g e.symm⟩
/-- The second row grows. -/
theorem IO2.out_ (h : IO2 e sz w F G W qb n ps iv ov ni no I O) (ho : W'.ownsRow w.heap.size e sz v' m L) (hg : Grows ov v' W W') : IO2 e sz w F G W' qb n ps iv v' ni m I L := (h.swap.in_ ho hg).swap
end

/-- All bytes. -/
def bytesF (ps : List Pt) : List UInt8 := ps.flatMap Prod.fst
theorem bytesF_len (ps : List Pt) : (bytesF ps).length = total ps := by
  induction ps with
  | nil => rfl
  | cons x r ih => simp only [bytesF, total, List.flatMap_cons, List.length_append, List.map_cons, List.sum_cons] at ih ⊢; omega
theorem addLast_bytes (ps : List Pt) (b : List UInt8) (h : ps ≠ []) : bytesF (addLast ps b) = bytesF ps ++ b := by
  have e := List.dropLast_concat_getLast h
  rw [← e, addLast_snoc]
  simp [bytesF]
theorem addLast_all (ps : List Pt) (b : List UInt8) (h : ps ≠ []) : allF (addLast ps b) = allF ps := by
  have e := List.dropLast_concat_getLast h
  rw [← e, addLast_snoc]
  simp [allF]
theorem put_bytes (n : Nat) (ps : List Pt) (b : List UInt8) (L : List Ps) (hn : total ps ≤ n) : bytesF (putF n ps b L).1 = bytesF ps ++ b.take (putF n ps b L).2.1 ∧ (putF n ps b L).2.1 ≤ b.length := by
  unfold putF
  split
  · simp
  · split
    · simp
    · have e : b.take (min b.length (n - total ps)) = b.take (n - total ps) := by rw [List.take_eq_take_iff]; omega
      simp only [e]
      refine ⟨?_, Nat.min_le_left _ _⟩
      split
      · simp [bytesF]
      · rename_i h
        exact addLast_bytes ps _ fun e => h (.inr e)
theorem put_all (n : Nat) (ps : List Pt) (b : List UInt8) (L : List Ps) : allF (putF n ps b L).1 = allF ps ++ (if (putF n ps b L).2.2 = 0 then L else []) := by
  unfold putF
  split
  · simp
  · split
    · simp
    · simp only [if_true]
      split
      · simp [allF]
      · rename_i h
        rw [addLast_all ps _ fun e => h (.inr e)]
        have : L = [] := by
          cases L with
          | nil => rfl
          | cons y r => exact absurd (.inl (by simp)) h
        simp [this]
theorem take_bytes (ps : List Pt) (k m : Int) : (takeF ps k m).2.1 ++ bytesF (takeF ps k m).1 = bytesF ps := by
  cases ps with
  | nil => rfl
  | cons x r =>
    unfold takeF
    simp only
    split
    · simp
    · split
      · simp [bytesF, ← List.append_assoc]
      · rename_i h
        simp only [bytesF, List.flatMap_cons]
        rw [List.take_of_length_le (by omega)]
theorem take_all (ps : List Pt) (k m : Int) : (takeF ps k m).2.2.1 ++ (takeF ps k m).2.2.2 ++ allF (takeF ps k m).1 = allF ps := by
  cases ps with
  | nil => rfl
  | cons x r =>
    unfold takeF
    simp only
    split
    · simp
    · split
      · simp [allF]
      · simp [allF]
theorem wf_le {k : Int} (h : (Lit.int .i64 k).wf = true) : k ≤ 9223372036854775807 := by
  simp [Lit.wf, IntKind.min, IntKind.max, IntKind.signed, IntKind.bits] at h
  omega
theorem passed_few (n fr : Int) : (passedF n fr).length ≤ 6 ∧ ∀ y ∈ passedF n fr, y.ints.length ≤ 100 := by
  refine ⟨by simp [passedF]; omega, fun y hy => ?_⟩
  simp only [passedF, List.mem_map] at hy
  obtain ⟨i, _, rfl⟩ := hy
  simp [psAt]

end Go.Proofs.Ytfhkdndgiofidaa.K
