/- The laws' helper lives answers true. -/
import Derived.Test.YthicbobddopcpaaDoorWRead
import Derived.Test.YthicbobddopcpaaDoorWMake
namespace Go.Proofs.YthicbobddopcpaaDoor
open Go Go.RowKit Go.Shelf Go.Sort

theorem mk313 : mkV [3, 1, 3] = [1, 3] ∧ mkE [3, 1, 3] = 0 := by decide
theorem show13 : showB false [1, 3] = [49, 44, 51] := by decide +kernel
theorem has7 : hasF true [] 7 = true := by decide

theorem at_row {w : World} {b : Nat} {l : List Int} (hb : w.heap[b]? = some (.cells (l.map (Value.int .i64)).toArray 3 (0, 0))) : At w (some ⟨b, 0, none⟩) l :=
  .inr ⟨b, 0, rfl, (Array.getElem?_eq_some_iff.1 hb).1, fun j hj => by
    rw [cell_of_row _ _ _ _ _ _ hb]
    simp [List.getD, hj]⟩

set_option maxRecDepth 100000 in
set_option maxHeartbeats 1000000 in
theorem lives_any (w : World) (ht : Tb w) : Calls Tryd.prog 16 #[] w fun e w' => e = .returned (.bool true) ∧ Below w.heap.size w w' := by
  have hb0 := on_alloc w (.cells #[.int .i64 3, .int .i64 1, .int .i64 3] 3)
  have c1 := make_any (some ⟨w.heap.size, 0, none⟩) 3 3 [3, 1, 3] (w.alloc (.cells #[.int .i64 3, .int .i64 1, .int .i64 3] 3)) rfl (by decide) (at_row (World.alloc_heap_new w _))
  rw [mk313.1, mk313.2] at c1
  go_enter Tryd.func16, Tryd.ntmps16
  go_wp2_with fail
  refine c1.mono ?_
  rintro e w1 ⟨hb1, p, c, rfl, hat⟩
  have hB1 := on_trans hb0 hb1
  have hX := (Box.new w1 (.bool false) (.slice p 2 c)).alloc (.cells #[.int .i64 1, .int .i64 3] 3)
  have hB2 := on_trans (on_trans hB1 (on_alloc w1 (.cells #[.bool false, .slice p 2 c] 24))) (on_alloc _ (.cells #[.int .i64 1, .int .i64 3] 3))
  have hA2 := (hat.at.alloc (.cells #[.bool false, .slice p 2 c] 24)).alloc (.cells #[.int .i64 1, .int .i64 3] 3)
  have hC2 : At ((w1.alloc (.cells #[.bool false, .slice p 2 c] 24)).alloc (.cells #[.int .i64 1, .int .i64 3] 3)) (some ⟨w1.heap.size + 1, 0, none⟩) [1, 3] := by
    refine at_row ?_
    have := World.alloc_heap_new (w1.alloc (.cells #[.bool false, .slice p 2 c] 24)) (.cells #[.int .i64 1, .int .i64 3] 3)
    rwa [World.size_alloc] at this
  have cN := nums_any p (some ⟨w1.heap.size + 1, 0, none⟩) c 2 [1, 3] [1, 3] _ (by decide) hA2 hC2
  rw [show decide (([1, 3] : List Int) = [1, 3]) = true by decide] at cN
  have cAll := all_any
  have cH := fun (W : World) => has_any true none 0 0 [] 7 W rfl (by decide) (.inl rfl)
  have cS := fun (W : World) (hb : Below w.heap.size w W) (ha : At W p [1, 3]) => show_any false p c [1, 3] W (ht.on hb) (by decide) (by decide) ha
  rw [show13] at cS
  rw [has7] at cH
  clear c1 hat hb0 hb1 hB1 hC2 ht
  go_wp2_with fail
  refine cN.mono ?_
  rintro e w3 ⟨rfl, hb3⟩
  have hX3 := hX.on hb3
  have hA3 := hA2.on hb3
  have hB3 := on_trans hB2 hb3
  clear cN hX hA2 hB2 hb3
  go_wp2_with fail
  refine (cAll _).mono ?_
  rintro e w4 ⟨rfl, hb4⟩
  have hX4 := hX3.on hb4
  have hA4 := hA3.on hb4
  have hB4 := on_trans hB3 hb4
  clear hX3 hA3 hB3 hb4
  go_wp2_with fail
  refine (cH _).mono ?_
  rintro e w5 ⟨rfl, hb5⟩
  have hX5 := hX4.on hb5
  have hA5 := hA4.on hb5
  have hB5 := on_trans hB4 hb5
  clear hX4 hA4 hB4 hb5
  have x0 := hX5.fst
  have x1 := hX5.snd
  go_wp2_with fail
  refine (cS _ hB5 hA5).mono ?_
  rintro e w6 ⟨rfl, hb6⟩
  go_wp2
  go_ret
  exact ⟨rfl, on_trans hB5 hb6⟩

end Go.Proofs.YthicbobddopcpaaDoor
