/- The law RightsPuts answers true at every set. -/
import Derived.Test.YtndnpcegofbbaaaDoorRefPut
import Derived.Deep.RegionHeld3
namespace Go.Proofs.YtndnpcegofbbaaaDoor
open Go Go.RowKit Go.Shelf

theorem take_put (a : Nat) (ha : a < 4294967296) : takeV (putA a) (putB a) = (a : Int) ∧ takeE (putA a) (putB a) = 0 := by
  have h1 : takeA (putA a) (putB a) = a := by unfold takeA putA putB; omega
  have h2 : takeOk (putA a) (putB a) = true := by unfold takeOk; rw [h1]; simp
  unfold takeV takeE
  rw [if_pos h2, if_pos h2, h1]
  exact ⟨rfl, rfl⟩

theorem pair_cells {W : World} {b : Nat} {t : TypeId} {p q : Value} (h : W.heap[b]? = some (.cells #[p, q] t (0, 0))) : W.cell? ⟨b, 0, none⟩ = some p ∧ W.cell? ⟨b, 1, none⟩ = some q := by
  simp [World.cell?, h]

set_option maxRecDepth 100000 in
set_option maxHeartbeats 2000000 in
theorem puts_walk (a : Nat) (ha : a < 4294967296) (w : World) (hn : Nm w) :
    Calls Tryd.prog 8 #[.int .u32 (a : Int)] w fun e w' => e = .returned (.bool true) ∧ Below w.heap.size w w' := by
  have c1 := put_any a ha w
  have hA : putA a < 18446744073709551616 := by unfold putA; omega
  have hBd : putB a < 18446744073709551616 := by unfold putB; omega
  have cT := fun b w1 h0 h1 hb => take_two b 0 2 (putA a) (putB a) hA hBd w1 h0 h1 hb
  have cR := refPut_any a ha
  rw [(take_put a ha).1, (take_put a ha).2] at cT
  clear hA hBd ha
  generalize putA a = x at *
  generalize putB a = y at *
  have hE := eqPair (x : Int) (y : Int) (x : Int) (y : Int)
  rw [show (((x : Int) == (x : Int)) && ((y : Int) == (y : Int))) = true by simp] at hE
  go_enter Tryd.func8, Tryd.ntmps8
  go_wp2_with fail
  refine c1.mono ?_
  rintro e w' ⟨rfl, hw1⟩
  subst hw1
  go_wp2_with fail
  have hB3 : Below w.heap.size w (((w.alloc (.cells #[.int .u64 (x : Int), .int .u64 (y : Int)] 43)).alloc (.cells #[.int .u64 (x : Int), .int .u64 (y : Int)] 43)).alloc (.cells #[.int .u64 (x : Int), .int .u64 (y : Int)] 42)) :=
    (((Below.refl _ w).alloc (Nat.le_refl _) _).alloc (by simp) _).alloc (by simp; omega) _
  have g1 : (((w.alloc (.cells #[.int .u64 (x : Int), .int .u64 (y : Int)] 43)).alloc (.cells #[.int .u64 (x : Int), .int .u64 (y : Int)] 43)).alloc (.cells #[.int .u64 (x : Int), .int .u64 (y : Int)] 42)).heap[w.heap.size + 1]? = some (.cells #[.int .u64 (x : Int), .int .u64 (y : Int)] 43 (0, 0)) := by
    refine (Below.heap_alloc _ _ _ (by simp)).trans ?_
    have := World.alloc_heap_new (w.alloc (.cells #[.int .u64 (x : Int), .int .u64 (y : Int)] 43)) (.cells #[.int .u64 (x : Int), .int .u64 (y : Int)] 43)
    rwa [World.size_alloc] at this
  have g2 : (((w.alloc (.cells #[.int .u64 (x : Int), .int .u64 (y : Int)] 43)).alloc (.cells #[.int .u64 (x : Int), .int .u64 (y : Int)] 43)).alloc (.cells #[.int .u64 (x : Int), .int .u64 (y : Int)] 42)).heap[w.heap.size + 1 + 1]? = some (.cells #[.int .u64 (x : Int), .int .u64 (y : Int)] 42 (0, 0)) := by
    have := World.alloc_heap_new ((w.alloc (.cells #[.int .u64 (x : Int), .int .u64 (y : Int)] 43)).alloc (.cells #[.int .u64 (x : Int), .int .u64 (y : Int)] 43)) (.cells #[.int .u64 (x : Int), .int .u64 (y : Int)] 42)
    rwa [World.size_alloc, World.size_alloc] at this
  refine (cT (w.heap.size + 1 + 1) _ (pair_cells g2).1 (pair_cells g2).2 (by simp)).mono ?_
  rintro e w4 ⟨rfl, hb4⟩
  have hv : w4.heap[w.heap.size + 1]? = some (.cells #[.int .u64 (x : Int), .int .u64 (y : Int)] 43 (0, 0)) := (hb4.block _ (by simp)).trans g1
  have hB4 := hB3.trans (hb4.mono hB3.size)
  clear g1 g2 hb4 hB3 cT c1
  have k0 := (pair_cells hv).1
  have k1 := (pair_cells hv).2
  have hq : ((a : Int) == (a : Int)) = true := beq_self_eq_true _
  have hBl : w.heap.size + 1 < w4.heap.size := (Array.getElem?_eq_some_iff.1 hv).1
  have S0 : (w4.drew.cell? ⟨w.heap.size + 1, 0, none⟩ = some (.int .u64 (x : Int)) ∧ w4.drew.cell? ⟨w.heap.size + 1, 1, none⟩ = some (.int .u64 (y : Int))) ∧ (Below w.heap.size w w4.drew ∧ w.heap.size + 1 < w4.drew.heap.size) := ⟨⟨k0, k1⟩, hB4.drew, hBl⟩
  have cR' : ∀ w1 : World, ((w1.cell? ⟨w.heap.size + 1, 0, none⟩ = some (.int .u64 (x : Int)) ∧ w1.cell? ⟨w.heap.size + 1, 1, none⟩ = some (.int .u64 (y : Int))) ∧ (Below w.heap.size w w1 ∧ w.heap.size + 1 < w1.heap.size)) →
      Calls Tryd.prog 28 #[.int .u32 (a : Int)] w1 fun e w' => e = .returned (.agg #[.int .u64 (x : Int), .int .u64 (y : Int)]) ∧ ((w'.cell? ⟨w.heap.size + 1, 0, none⟩ = some (.int .u64 (x : Int)) ∧ w'.cell? ⟨w.heap.size + 1, 1, none⟩ = some (.int .u64 (y : Int))) ∧ (Below w.heap.size w w' ∧ w.heap.size + 1 < w'.heap.size)) := fun w1 h => by
    refine (cR w1).mono ?_
    rintro e w' ⟨rfl, rfl⟩
    have hb := (Below.refl _ w1).alloc (Nat.le_refl _) (.cells #[.int .u64 (x : Int), .int .u64 (y : Int)] 43)
    exact ⟨rfl, ⟨(hb.cell (p := ⟨w.heap.size + 1, 0, none⟩) h.2.2).trans h.1.1, (hb.cell (p := ⟨w.heap.size + 1, 1, none⟩) h.2.2).trans h.1.2⟩, h.2.1.trans (hb.mono h.2.1.size), by have := h.2.2; simp; omega⟩
  have hLv : ∀ w1 : World, ((w1.cell? ⟨w.heap.size + 1, 0, none⟩ = some (.int .u64 (x : Int)) ∧ w1.cell? ⟨w.heap.size + 1, 1, none⟩ = some (.int .u64 (y : Int))) ∧ (Below w.heap.size w w1 ∧ w.heap.size + 1 < w1.heap.size)) →
      Calls Tryd.prog 15 #[] w1 fun e w' => e = .returned (.bool true) ∧ ((w'.cell? ⟨w.heap.size + 1, 0, none⟩ = some (.int .u64 (x : Int)) ∧ w'.cell? ⟨w.heap.size + 1, 1, none⟩ = some (.int .u64 (y : Int))) ∧ (Below w.heap.size w w' ∧ w.heap.size + 1 < w'.heap.size)) := fun w1 h => by
    refine (lives_any _ (hn.below h.2.1)).mono ?_
    rintro e w5 ⟨rfl, hb⟩
    exact ⟨rfl, ⟨(hb.cell (p := ⟨w.heap.size + 1, 0, none⟩) h.2.2).trans h.1.1, (hb.cell (p := ⟨w.heap.size + 1, 1, none⟩) h.2.2).trans h.1.2⟩, h.2.1.trans (hb.mono h.2.1.size), Nat.lt_of_lt_of_le h.2.2 hb.size⟩
  clear cR
  clear hv hn
  go_wp2_with fail
  go_cut [2] (fun s2 wc => s2 = .bool true ∧ Below w.heap.size w wc)
  case first =>
    go_region_held3 (fun w1 => (w1.cell? ⟨w.heap.size + 1, 0, none⟩ = some (.int .u64 (x : Int)) ∧ w1.cell? ⟨w.heap.size + 1, 1, none⟩ = some (.int .u64 (y : Int))) ∧ (Below w.heap.size w w1 ∧ w.heap.size + 1 < w1.heap.size))
      (first | assumption | exact S0)
      (first
        | (go_at_call 28; refine (cR' _ (by assumption)).mono ?_; rintro e w' ⟨rfl, hS'⟩)
        | (go_at_call 15; refine (hLv _ (by assumption)).mono ?_; rintro e w' ⟨rfl, hS'⟩))
    go_wp2_with fail
    go_meet
    case rel => exact ⟨rfl, hS'.2.1⟩
  case rest =>
    obtain ⟨rfl, hBc⟩ := hcut
    go_wp2
    go_ret
    exact ⟨rfl, hBc⟩

end Go.Proofs.YtndnpcegofbbaaaDoor
