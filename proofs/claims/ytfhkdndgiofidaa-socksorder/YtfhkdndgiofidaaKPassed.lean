/- The law's passed; the reference's Nums, Same of whitelists, Given. -/
import Derived.Test.YtfhkdndgiofidaaKLives
namespace Go.Proofs.Ytfhkdndgiofidaa.K
open Go Go.RowKit

/-- What 'passed' makes: so many, from a number on. -/
def psAt (fr : Int) (i : Nat) : Ps := ⟨fr + i, fr, false, [(i : Int)], i⟩
def passedF (n fr : Int) : List Ps := (List.range (min n.toNat 6)).map (psAt fr)
/-- Laid so far. -/
structure PasI (w : World) (fr : Int) (i : Nat) (v : Value) (W : World) : Prop where
  is : ∃ N : List PV, N.map Prod.fst = (List.range i).map (psAt fr) ∧ W.ownsRow w.heap.size 99 5 v i (flatP N) ∧ ∀ x ∈ N, IntsO (fun k => w.heap.size ≤ k) W x.2 x.1.ints
  below : Below w.heap.size w W
theorem PasI.more {w W : World} {fr : Int} {i : Nat} {v : Value} (h : PasI w fr i v W) (hi : i ≤ 1000) : ∃ v' W', (Builtin.append_ #[49, 49] 49 #[v, .slice (some ⟨W.heap.size + 1, 0, none⟩) 1 1]).run Try.prog ((W.alloc (.cells #[.int .i64 (i : Int)] 3)).alloc (.cells #[.int .i64 (fr + i), .int .u32 fr, .bool false, .slice (some ⟨W.heap.size, 0, none⟩) 1 1, .int .i64 (i : Int)] 99)) = .ok v' W' ∧ PasI w fr (i + 1) v' W' := by
  obtain ⟨N, h1, h2, h3⟩ := h.is
  have a1 := on_alloc W (.cells #[.int .i64 (i : Int)] 3)
  have hI : IntsO (fun k => w.heap.size ≤ k) (W.alloc (.cells #[.int .i64 (i : Int)] 3)) (.slice (some ⟨W.heap.size, 0, none⟩) 1 1) [(i : Int)] :=
    ⟨_, 1, rfl, Nat.le_refl _, .inr ⟨W.heap.size, 0, rfl, h.below.size, by simp, ⟨_, _, World.alloc_heap_new W _⟩, fun j u hj => by
      rw [Nat.zero_add]
      exact (Blk.new W 3 [.int .i64 (i : Int)]).cell j hj⟩⟩
  obtain ⟨v', W', hrun, ho, hg⟩ := append_struct elemPs w.heap.size v i (flatP N) [.int .i64 (fr + i), .int .u32 fr, .bool false, .slice (some ⟨W.heap.size, 0, none⟩) 1 1, .int .i64 (i : Int)] (W.alloc (.cells #[.int .i64 (i : Int)] 3)) (by omega) rfl (fun u hu => by
    simp at hu
    rcases hu with rfl | rfl | rfl | rfl | rfl <;> rfl) (rowS_on h2 a1) (Nat.le_trans h.below.size a1.size)
  rw [World.size_alloc] at hrun
  have hb : Below w.heap.size (W.alloc (.cells #[.int .i64 (i : Int)] 3)) W' := hg.below (Below.refl _ _) (Nat.le_refl _) (Nat.le_trans h.below.size a1.size)
  -- what is laid of another type stays
  have hki : ∀ {v l}, IntsO (fun k => w.heap.size ≤ k) (W.alloc (.cells #[.int .i64 (i : Int)] 3)) v l → IntsO (fun k => w.heap.size ≤ k) W' v l := fun {v l} ⟨p, c, b1, b2, b3⟩ => by
    refine ⟨p, c, b1, b2, b3.keepT ⟨hg.os, hg.tape, hg.output, hg.size, fun k hk h7 => ?_⟩⟩
    obtain ⟨r, h8, h9⟩ := hg.block
    refine h9 k hk fun e => ?_
    obtain ⟨_, cs, fr', h10⟩ := h8 k e
    exact typ_ne h7.2 ⟨cs, fr', h10⟩ (by decide) rfl
  refine ⟨v', W', hrun, ⟨N ++ [(psAt fr i, .slice (some ⟨W.heap.size, 0, none⟩) 1 1)], ?_, ?_, fun x hx => ?_⟩, ?_⟩
  · rw [List.range_succ]
    simp [h1]
  · rw [flatP_app]
    exact ho
  · rcases List.mem_append.1 hx with hx | hx
    · exact hki ((h3 x hx).keep (keep_on a1))
    · simp at hx
      subst hx
      exact hki hI
  · exact (on_trans h.below a1).trans hb
end Go.Proofs.Ytfhkdndgiofidaa.K
