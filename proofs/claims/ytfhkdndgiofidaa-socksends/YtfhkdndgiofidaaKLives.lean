/- A queue beside what a law does; bytes as a text; the law's lives. -/
import Derived.Test.YtfhkdndgiofidaaKDump
import Derived.Laws.IdiomStrings
import Derived.Laws.BytesArg
import Derived.Lib.SlBytesConst
namespace Go.Proofs.Ytfhkdndgiofidaa.K
open Go Go.RowKit

/-- A queue that is younger than a world. -/
structure QS (w : World) (F G : Nat → Prop) (W : World) (qb n : Nat) (ps : List Pt) : Prop where
  q : QAt F G W qb n ps
  lo : ∀ k, F k ∨ G k → w.heap.size ≤ k
  below : Below w.heap.size w W
section
variable {w W W' : World} {F G F' G' : Nat → Prop} {qb n : Nat} {ps ps' : List Pt}
theorem QS.on (h : QS w F G W qb n ps) (hb : Below W.heap.size W W') : QS w F G W' qb n ps := ⟨h.q.on hb, h.lo, on_trans h.below hb⟩
theorem QS.goes (h : QS w F G W qb n ps) (hq : QAt F' G' W' qb n ps') (hg : Goes F G F' G' W W') : QS w F' G' W' qb n ps' :=
  ⟨hq, fun k hk => by
    have hs := h.below.size
    rcases hk with hk | hk
    · rcases hg.sub k hk with h7 | h7
      · exact h.lo k (.inl h7)
      · omega
    · rcases hg.subG k hk with h7 | h7
      · exact h.lo k (.inr h7)
      · omega, hg.below h.below (fun k hk => h.lo k (.inl hk)) h.below.size⟩
theorem QS.new {e : Ending} (h : NewPost n w e W) : ∃ qb F G, e = .returned (.pointer (some ⟨qb, 0, none⟩)) ∧ QS w F G W qb n [] := by
  obtain ⟨qb, F, G, h1, h2, h3, h4⟩ := h
  exact ⟨qb, F, G, h1, h2, h4, h3⟩
end
/-- A slice of bytes as a text. -/
theorem text_of {w : World} {p : Option Addr} {c : Nat} {l : List UInt8} (h : At w p (bytesV l)) : (convert 28 9 (.slice p l.length c)).run Try.prog w = .ok (.string ⟨l.toArray⟩) w := by
  cases p with
  | none =>
    obtain rfl : l = [] := by
      rcases h with e | ⟨b, off, e, _⟩
      · simpa using e
      · cases e
    exact run_convert_bytes_nil w 28 5 Try.underlying28 Try.underlying5 _ _ _ Try.underlying9
  | some a =>
    refine run_convert_bytes_back w 28 9 5 a c l Try.underlying28 Try.underlying5 Try.underlying9 fun j hj => ?_
    refine at_news h j _ ?_
    rw [bytesV_get hj]
    simp [List.getD, hj]
/-- Bytes of a block of one's own. -/
theorem byt_new {O : Nat → Prop} (w : World) (l : List UInt8) (fr : Nat × Nat) (c : Nat) (hc : l.length ≤ c) (hO : O w.heap.size) : BytO O (w.alloc (.cells (bytesV l).toArray 5 fr)) (.slice (some ⟨w.heap.size, 0, none⟩) l.length c) l :=
  ⟨_, c, rfl, hc, .inr ⟨w.heap.size, 0, rfl, hO, by simp, ⟨_, _, World.alloc_heap_new w _⟩, fun j v hj => by
    rw [cell_of_row _ _ _ _ _ _ (World.alloc_heap_new w _), Nat.zero_add]
    simpa using hj⟩⟩

end Go.Proofs.Ytfhkdndgiofidaa.K
