/- The law's passed. -/
import Derived.Test.YtfhkdndgiofidaaKLives
namespace Go.Proofs.Ytfhkdndgiofidaa.X
open Go Go.RowKit Go.Proofs.Ytfhkdndgiofidaa.K

/-- What 'passed' makes: so many, from a number on. -/
def psAt (fr : Int) (i : Nat) : Ps := ⟨fr + i, fr, false, [(i : Int)], 0⟩
def passedF (n fr : Int) : List Ps := (List.range (min n.toNat 6)).map (psAt fr)
/-- Laid so far. -/
structure PasI (w : World) (fr : Int) (i : Nat) (v : Value) (W : World) : Prop where
  is : ∃ N : List PV, N.map Prod.fst = (List.range i).map (psAt fr) ∧ W.ownsRow w.heap.size 99 5 v i (flatP N) ∧ ∀ x ∈ N, IntsO (fun k => w.heap.size ≤ k) W x.2 x.1.ints
  below : Below w.heap.size w W
theorem PasI.more {w W : World} {fr : Int} {i : Nat} {v : Value} (h : PasI w fr i v W) (hi : i ≤ 1000) : ∃ v' W', (Builtin.append_ #[49, 49] 49 #[v, .slice (some ⟨W.heap.size + 1, 0, none⟩) 1 1]).run Try.prog ((W.alloc (.cells #[.int .i64 (i : Int)] 3)).alloc (.cells #[.int .i64 (fr + i), .int .u32 fr, .bool false, .slice (some ⟨W.heap.size, 0, none⟩) 1 1, .int .i64 0] 99)) = .ok v' W' ∧ PasI w fr (i + 1) v' W' := by
  obtain ⟨N, h1, h2, h3⟩ := h.is
  have a1 := on_alloc W (.cells #[.int .i64 (i : Int)] 3)
  have hI : IntsO (fun k => w.heap.size ≤ k) (W.alloc (.cells #[.int .i64 (i : Int)] 3)) (.slice (some ⟨W.heap.size, 0, none⟩) 1 1) [(i : Int)] :=
    ⟨_, 1, rfl, Nat.le_refl _, .inr ⟨W.heap.size, 0, rfl, h.below.size, by simp, ⟨_, _, World.alloc_heap_new W _⟩, fun j u hj => by
      rw [Nat.zero_add]
      exact (Blk.new W 3 [.int .i64 (i : Int)]).cell j hj⟩⟩
  obtain ⟨v', W', hrun, ho, hg⟩ := append_struct elemPs w.heap.size v i (flatP N) [.int .i64 (fr + i), .int .u32 fr, .bool false, .slice (some ⟨W.heap.size, 0, none⟩) 1 1, .int .i64 0] (W.alloc (.cells #[.int .i64 (i : Int)] 3)) (by omega) rfl (fun u hu => by
    simp at hu
    rcases hu with rfl | rfl | rfl | rfl | rfl <;> rfl) (rowS_on h2 a1) (Nat.le_trans h.below.size a1.size)
  rw [World.size_alloc] at hrun
  have hb : Below w.heap.size (W.alloc (.cells #[.int .i64 (i : Int)] 3)) W' := hg.below (Below.refl _ _) (Nat.le_refl _) (Nat.le_trans h.below.size a1.size)
  -- what is laid of another type stays
  have hki : ∀ {v l}, IntsO (fun k => w.heap.size ≤ k) (W.alloc (.cells #[.int .i64 (i : Int)] 3)) v l → IntsO (fun k => w.heap.size ≤ k) W' v l := fun {v l} ⟨p, c, b1, b2, b3⟩ => by
    refine ⟨p, c, b1, b2, b3.keepT ⟨hg.os, hg.tape, hg.output, hg.size, fun k hk h7 => ?_⟩⟩
    obtain ⟨r, h8, h9⟩ := hg.block
    refine h9 k hk fun e => ?_
    obtain ⟨_, cs, fr', h10⟩ := h8 k e
    exact typ_ne h7.2 ⟨cs, fr', h10⟩ (by decide) rfl
  refine ⟨v', W', hrun, ⟨N ++ [(psAt fr i, .slice (some ⟨W.heap.size, 0, none⟩) 1 1)], ?_, ?_, fun x hx => ?_⟩, ?_⟩
  · rw [List.range_succ]
    simp [h1]
  · rw [flatP_app]
    exact ho
  · rcases List.mem_append.1 hx with hx | hx
    · exact hki ((h3 x hx).keep (keep_on a1))
    · simp at hx
      subst hx
      exact hki hI
  · exact (on_trans h.below a1).trans hb
set_option maxRecDepth 100000 in
set_option maxHeartbeats 1000000 in
theorem passed_any (n fr : Int) (w : World) (h0 : 0 ≤ fr) (h1 : fr ≤ 1000000) : Calls Try.prog 27 #[.int .i64 n, .int .i64 fr] w fun e w' => ∃ v, e = .returned v ∧ PasO (fun k => w.heap.size ≤ k) w' v (passedF n fr) ∧ Below w.heap.size w w' := by
  generalize hPost : (fun (e : Ending) w' => ∃ v, e = .returned v ∧ PasO (fun k => w.heap.size ≤ k) w' v (passedF n fr) ∧ Below w.heap.size w w') = Post
  have HP : Hid (∀ v W, PasI w fr (min n.toNat 6) v W → Post (.returned v) W) := fun v W ⟨⟨N, a1, a2, a3⟩, a4⟩ => by
    subst hPost
    exact ⟨v, rfl, ⟨N, a1, .of_row a2 a3⟩, a4⟩
  clear hPost
  have HI0 : Hid (PasI w fr 0 (.slice (some ⟨w.heap.size, 0, none⟩) 0 0) (w.alloc (.cells #[] 99))) := ⟨⟨[], rfl, rowS_empty w w.heap.size _ 5 (Nat.le_refl _), fun x hx => by simp at hx⟩, on_alloc _ _⟩
  go_enter Try.func27, Try.ntmps27
  go_wp2
  generalize w.alloc (.cells #[] 99) = wa at *
  generalize (Value.slice (some ⟨w.heap.size, 0, none⟩) 0 0) = va at *
  go_loopw [5, 6] (fun v iv wr => ∃ i : Nat, i ≤ 6 ∧ Hid (i ≤ n.toNat) ∧ iv = .int .i64 (i : Int) ∧ Hid (PasI w fr i v wr)) (fun _ iv _ => 6 - (intOf iv).toNat)
  case atStart => exact ⟨0, Nat.zero_le _, Nat.zero_le _, rfl, HI0⟩
  case round =>
    clear HI0
    obtain ⟨i, hi, hin, rfl, HI⟩ := hrel
    by_cases hn : (i : Int) < n
    · by_cases h6 : i < 6
      · have h6z : (i : Int) < 6 := by omega
        obtain ⟨v', W', hrun, hI2⟩ := HI.out.more (by omega)
        have HI2 : Hid _ := hI2
        clear hI2 HI
        go_wp2_with (at_builtin; refine wpList_run_append (by rfl) _ _ _ (by rfl) _ _ (by rfl) (by rfl) hrun ?_)
        go_roundw
        case rel => exact ⟨i + 1, by omega, show i + 1 ≤ n.toNat by omega, by go_num, HI2⟩
        case measure => simp [intOf]; omega
      · have h6z : ¬ (i : Int) < 6 := by omega
        have HE : Hid (Post (.returned u5) wr) := HP.out _ _ (by rw [show min n.toNat 6 = i by omega]; exact HI.out)
        clear HP HI
        go_wp2
        exact HE.out
    · have HE : Hid (Post (.returned u5) wr) := HP.out _ _ (by have := hin.out; rw [show min n.toNat 6 = i by omega]; exact HI.out)
      clear HP HI
      go_wp2
      exact HE.out
theorem passed_few (n fr : Int) : (passedF n fr).length ≤ 6 ∧ ∀ y ∈ passedF n fr, y.ints.length ≤ 100 := by
  refine ⟨by simp [passedF]; omega, fun y hy => ?_⟩
  simp only [passedF, List.mem_map] at hy
  obtain ⟨i, _, rfl⟩ := hy
  simp [psAt]

end Go.Proofs.Ytfhkdndgiofidaa.X
