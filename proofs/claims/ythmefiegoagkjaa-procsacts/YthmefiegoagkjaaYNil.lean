/- A new table; what is told of a table that there is none of. -/
import Derived.Test.YthmefiegoagkjaaYFork
namespace Go.Proofs.Ythmefiegoagkjaa.Y
open Go Go.RowKit

/-- A new table. -/
def NewPost (ty : TypeId) (x y : Int) (w : World) (e : Ending) (w' : World) : Prop := ∃ b v, e = .returned (ptr b) ∧ TabAt w.heap.size ty w' b v x y [first] ∧ Below w.heap.size w w'
theorem tab_first (w0 w : World) (ty : TypeId) (x y : Int) (h0 : w0.heap.size ≤ w.heap.size) : TabAt w0.heap.size ty ((w.alloc (.cells #[.int .i64 1, .int .i64 0, .bool true, .int .i64 0, .bool false, .bool false, .int .i64 1] 37)).alloc (.cells #[.slice (some ⟨w.heap.size, 0, none⟩) 1 1, .int .i64 x, .int .i64 y] ty)) (w.heap.size + 1) (.slice (some ⟨w.heap.size, 0, none⟩) 1 1) x y [first] := by
  have hb := Blk.new w 37 (prC first)
  have hb2 := hb.alloc (.cells #[.slice (some ⟨w.heap.size, 0, none⟩) 1 1, .int .i64 x, .int .i64 y] ty)
  have hs : (w.alloc (.cells (prC first).toArray 37)).heap.size = w.heap.size + 1 := by simp
  have ht := Blk.new (w.alloc (.cells (prC first).toArray 37)) ty [.slice (some ⟨w.heap.size, 0, none⟩) 1 1, .int .i64 x, .int .i64 y]
  rw [hs] at ht
  exact ⟨ht, rowS_of hb2 rfl (Nat.le_refl _) (by decide) h0 rfl rfl, by omega⟩
theorem new_tab (n : Nat) (w : World) (h1 : 1 ≤ n) (h2 : n ≤ 64) : Calls Try.prog 7 #[.int .i64 (n : Int)] w (NewPost 57 (n : Int) 2 w) := by
  refine (new_in n w h1 h2).mono ?_
  rintro e w' ⟨rfl, rfl⟩
  have h := tab_first w (w.alloc (.cells #[.int .i64 1, .int .i64 0, .bool true, .int .i64 0, .bool false, .bool false, .int .i64 1] 37)) 57 (n : Int) 2 (on_alloc w _).size
  have hs : (w.alloc (.cells #[.int .i64 1, .int .i64 0, .bool true, .int .i64 0, .bool false, .bool false, .int .i64 1] 37)).heap.size = w.heap.size + 1 := by simp
  rw [hs] at h
  exact ⟨_, _, rfl, h, on_trans (on_trans (on_alloc w _) (on_alloc _ _)) (on_alloc _ _)⟩

section
variable (w : World) (i : Int)
set_option maxRecDepth 100000 in
theorem room_nil : Calls Try.prog 12 #[.pointer none] w fun e w' => e = .returned (.int .i64 0) ∧ w' = w := by
  go_enter Try.func12, Try.ntmps12
  go_wp2
  go_ret
  exact ⟨rfl, rfl⟩
set_option maxRecDepth 100000 in
theorem numbers_nil : Calls Try.prog 13 #[.pointer none] w fun e w' => e = .returned (.int .i64 0) ∧ w' = w := by
  go_enter Try.func13, Try.ntmps13
  go_wp2
  go_ret
  exact ⟨rfl, rfl⟩
set_option maxRecDepth 100000 in
theorem dump_nil : Calls Try.prog 11 #[.pointer none] w fun e w' => e = .returned (.slice none 0 0) ∧ w' = w := by
  go_enter Try.func11, Try.ntmps11
  go_wp2
  go_ret
  exact ⟨rfl, rfl⟩
set_option maxRecDepth 100000 in
theorem fork_nil (pd : Bool) : Calls Try.prog 19 #[.pointer none, .int .i64 i, .bool pd] w fun e w' => e = .returned (.tuple #[.int .i64 0, .int .i64 3]) ∧ Below w.heap.size w w' := by
  have cF := living_nil w i
  go_enter Try.func19, Try.ntmps19
  go_wp2_with fail
  refine cF.mono ?_
  rintro e w1 ⟨rfl, hb1⟩
  go_wp2
  go_ret2
  exact ⟨rfl, hb1⟩
set_option maxRecDepth 100000 in
theorem move_nil (d : Int) : Calls Try.prog 22 #[.pointer none, .int .i64 i, .int .i64 d] w fun e w' => e = .returned (.tuple #[.int .i64 0, .int .i64 3]) ∧ Below w.heap.size w w' := by
  have cF := living_nil w i
  go_enter Try.func22, Try.ntmps22
  go_wp2_with fail
  refine cF.mono ?_
  rintro e w1 ⟨rfl, hb1⟩
  go_wp2
  go_ret2
  exact ⟨rfl, hb1⟩
set_option maxRecDepth 100000 in
theorem exit_nil (d : Int) : Calls Try.prog 23 #[.pointer none, .int .i64 i, .int .i64 d] w fun e w' => e = .returned (.int .i64 3) ∧ Below w.heap.size w w' := by
  have cF := living_nil w i
  go_enter Try.func23, Try.ntmps23
  go_wp2_with fail
  refine cF.mono ?_
  rintro e w1 ⟨rfl, hb1⟩
  go_wp2
  go_ret
  exact ⟨rfl, hb1⟩
set_option maxRecDepth 100000 in
theorem enter_nil : Calls Try.prog 24 #[.pointer none, .int .i64 i] w fun e w' => e = .returned (.int .i64 3) ∧ Below w.heap.size w w' := by
  have cF := living_nil w i
  go_enter Try.func24, Try.ntmps24
  go_wp2_with fail
  refine cF.mono ?_
  rintro e w1 ⟨rfl, hb1⟩
  go_wp2
  go_ret
  exact ⟨rfl, hb1⟩
set_option maxRecDepth 100000 in
theorem wait_nil (q : Int) : Calls Try.prog 20 #[.pointer none, .int .i64 i, .int .i64 q] w fun e w' => e = .returned (.tuple #[.int .i64 0, .int .i64 0, .int .i64 3]) ∧ w' = w := by
  go_enter Try.func20, Try.ntmps20
  go_wp2
  go_ret3
  exact ⟨rfl, rfl⟩
set_option maxRecDepth 100000 in
theorem reap_nil : Calls Try.prog 21 #[.pointer none, .int .i64 i] w fun e w' => e = .returned (.tuple #[.int .i64 0, .int .i64 3]) ∧ Below w.heap.size w w' := by
  have cG := get_nil w i
  simp only [prC, zPr] at cG
  go_enter Try.func21, Try.ntmps21
  go_wp2_with fail
  refine cG.mono ?_
  rintro e w1 ⟨rfl, hb1⟩
  have HB : Hid (Below w.heap.size w (w1.alloc (.cells #[.int .i64 0, .int .i64 0, .bool false, .int .i64 0, .bool false, .bool false, .int .i64 0] 37))) := on_trans hb1 (on_alloc w1 _)
  go_wp2
  go_ret2
  exact ⟨rfl, HB.out⟩
end

set_option maxRecDepth 100000 in
set_option maxHeartbeats 2000000 in
theorem lives_any (w : World) : Calls Try.prog 18 #[] w fun e w' => e = .returned (.bool true) ∧ Below w.heap.size w w' := by
  have cN := new_tab 3 w (by omega) (by omega)
  have k0 : Ok 0 3 2 [first] := Ok.new (by omega)
  have k1 := k0.fork 1 false
  have k2 := k1.exit 2 7
  go_enter Try.func18, Try.ntmps18
  go_wp2_with fail
  refine cN.mono ?_
  rintro e w1 ⟨b, v1, rfl, hT1, hb1⟩
  have HB1 : Hid (Below w.heap.size w w1) := hb1
  have HT1 : Hid _ := hT1
  have cF := fork_any hT1 k0 (by omega) (by omega) 1 false
  rw [show forkN 3 2 [first] 1 = 2 from rfl, show forkE 3 [first] 1 = 0 from rfl] at cF
  clear cN hT1 hb1
  go_wp2_with fail
  refine cF.mono ?_
  rintro e w2 ⟨rfl, v2, hT2, hG2⟩
  have HB2 : Hid (Below w.heap.size w w2) := hG2.below HT1.out HB1.out (Nat.le_refl _) HB1.out.size
  have HT2 : Hid _ := hT2
  have cE := exit_any hT2 k1.sorted (by have := k1.len; omega) 2 7
  rw [show exitE (forkS 3 2 [first] 1 false) 2 = 0 from rfl] at cE
  clear cF hT2 hG2 HT1 HB1
  go_wp2_with fail
  refine cE.mono ?_
  rintro e w3 ⟨rfl, v3, hT3, hG3⟩
  have HB3 : Hid (Below w.heap.size w w3) := hG3.below HT2.out HB2.out (Nat.le_refl _) HB2.out.size
  have HT3 : Hid _ := hT3
  have cW := wait_any hT3 (by have := k2.len; omega) 1 0
  rw [show waitN (exitS (forkS 3 2 [first] 1 false) 2 7) 1 0 = 2 from rfl, show waitC (exitS (forkS 3 2 [first] 1 false) 2 7) 1 0 = 7 from rfl, show waitE (exitS (forkS 3 2 [first] 1 false) 2 7) 1 0 = 0 from rfl, show waitS (exitS (forkS 3 2 [first] 1 false) 2 7) 1 0 = [first] from rfl] at cW
  clear cE hT3 hG3 HT2 HB2
  go_wp2_with fail
  refine cW.mono ?_
  rintro e w4 ⟨rfl, v4, hT4, hG4⟩
  have HB4 : Hid (Below w.heap.size w w4) := hG4.below HT3.out HB3.out (Nat.le_refl _) HB3.out.size
  have cR := room_any hT4 (by omega) (by decide)
  rw [show ((3 : Nat) : Int) - (([first] : List Pr).length : Int) = 2 from rfl] at cR
  clear cW hT4 hG4 HT3 HB3
  go_wp2_with fail
  refine cR.mono ?_
  rintro e w6 ⟨rfl, q, rfl⟩
  go_wp2
  go_ret
  exact ⟨rfl, on_drewN HB4.out q⟩

end Go.Proofs.Ythmefiegoagkjaa.Y
