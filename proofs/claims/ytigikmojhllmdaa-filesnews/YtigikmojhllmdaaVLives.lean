/- The law's lives. -/
import Derived.Test.YtigikmojhllmdaaVFun4
import Derived.Laws.StructEq
namespace Go.Proofs.Ytigikmojhllmdaa.V
open Go Go.RowKit

set_option maxRecDepth 100000 in
theorem eq_file (a b c d e f : Int) (w : World) : (Op.equalIn 10000 37 (.agg #[.int .i64 a, .int .i64 b, .int .i64 c, .int .i64 d, .int .i64 e, .int .i64 f]) (.agg #[.int .i64 a, .int .i64 b, .int .i64 c, .int .i64 d, .int .i64 e, .int .i64 f])).run Try.prog w = .ok true w := by
  have u3 := Try.underlying3
  have a3 := Try.isAgg3
  have z3 := Try.sizeOf3
  have hS : Try.prog.underlying 37 = some (.struct (Try.prog.fieldsOf 37)) := by kernel_rfl
  have hp : Try.prog.stoodInHeld 37 = false := by kernel_rfl
  rw [show (10000 : Nat) = 9999 + 1 from rfl, run_equalIn_agg w 9999 37 _ _ hS hp]
  simp only [Program.fieldsOf, Try.underlying37]
  go_simp
theorem Goes.blkN {b k : Nat} {v v1 : Value} {w w1 : World} {t : TypeId} {cs : List Value} (h : Goes b v v1 w w1) (hb : Blk w k t cs) (h1 : k ≠ b) (h2 : v.ownBlock ≠ some k) : Blk w1 k t cs := ⟨(h.block k hb.lt h1 h2).trans hb.row⟩

set_option maxRecDepth 100000 in
set_option maxHeartbeats 2000000 in
theorem lives_any (w : World) : Calls Try.prog 16 #[] w fun e w' => e = .returned (.bool true) ∧ Below w.heap.size w w' := by
  have cN := new_in 2 w (by omega) (by omega)
  have k0 : Ok 0 2 1 [] := Ok.new (by omega)
  have k1 : Ok 1 2 2 [⟨1, 1, 5, 0, 2, 1⟩] := k0.opened 1 5 2
  have hT0 : TabAt w.heap.size 55 (w.alloc (.cells #[.slice none 0 0, .int .i64 ((2 : Nat) : Int), .int .i64 1] 55)) w.heap.size (.slice none 0 0) ((2 : Nat) : Int) 1 [] := TabAt.nil w _ _ _ _ (Nat.le_refl _)
  have cO := open_any hT0 k0 (by omega) 1 5 2 (by omega)
  have HB0 : Hid (Below w.heap.size w (w.alloc (.cells #[.slice none 0 0, .int .i64 ((2 : Nat) : Int), .int .i64 1] 55))) := on_alloc w _
  have HT0 : Hid _ := hT0
  have HS : Hid (w.heap.size < (w.alloc (.cells #[.slice none 0 0, .int .i64 ((2 : Nat) : Int), .int .i64 1] 55)).heap.size) := hT0.box.lt
  clear hT0
  go_enter Try.func16, Try.ntmps16
  go_wp2_with fail
  refine cN.mono ?_
  rintro e w1 ⟨rfl, hw1⟩
  subst hw1
  generalize (w.alloc (.cells #[.slice none 0 0, .int .i64 ((2 : Nat) : Int), .int .i64 1] 55)) = w1 at *
  obtain ⟨b, hb⟩ : ∃ b, w.heap.size = b := ⟨_, rfl⟩
  have HBe : Hid (w.heap.size = b) := hb
  rw [hb] at cO HB0 HT0 HS ⊢
  clear cN hb
  go_wp2_with fail
  refine cO.mono ?_
  rintro e w2 ⟨rfl, v2, hT2, hG2⟩
  have hT2 : TabAt b 55 w2 b v2 ((2 : Nat) : Int) 2 [⟨1, 1, 5, 0, 2, 1⟩] := hT2
  rw [show openN 2 1 [] 1 5 2 = 1 from rfl, show openE 2 [] 1 5 2 = 0 from rfl]
  have HB2 : Hid (Below b w w2) := hG2.below HT0.out HB0.out (Nat.le_refl _) (Nat.le_of_lt HS.out)
  have hs2 : b < w2.heap.size := hT2.box.lt
  clear cO HT0 HB0 HS hG2
  have cG := get_any hT2 k1 1
  rw [show getF 1 [⟨1, 1, 5, 0, 2, 1⟩] = ⟨1, 1, 5, 0, 2, 1⟩ from rfl, show has 1 [⟨1, 1, 5, 0, 2, 1⟩] = true from rfl] at cG
  have HT2 : Hid _ := hT2
  clear hT2
  go_wp2_with fail
  refine cG.mono ?_
  rintro e w3 ⟨rfl, hb3⟩
  have hT3 := HT2.out.on hb3
  have hal := on_alloc w3 (.cells #[.int .i64 1, .int .i64 1, .int .i64 5, .int .i64 0, .int .i64 2, .int .i64 1] 37)
  have hX := Blk.new w3 37 [.int .i64 1, .int .i64 1, .int .i64 5, .int .i64 0, .int .i64 2, .int .i64 1]
  have hT4 := hT3.on hal
  have HX : Hid (Blk (w3.alloc (.cells #[.int .i64 1, .int .i64 1, .int .i64 5, .int .i64 0, .int .i64 2, .int .i64 1] 37)) w3.heap.size 37 [.int .i64 1, .int .i64 1, .int .i64 5, .int .i64 0, .int .i64 2, .int .i64 1]) := hX
  have HN : Hid (w3.heap.size ≠ b ∧ v2.ownBlock ≠ some w3.heap.size) := ⟨fun e => by have := hb3.size; omega, fun e => by have := (own_at hT3.row e).2.1; omega⟩
  have HB4 : Hid (Below b w (w3.alloc (.cells #[.int .i64 1, .int .i64 1, .int .i64 5, .int .i64 0, .int .i64 2, .int .i64 1] 37))) := HB2.out.trans ((on_trans hb3 hal).mono (Nat.le_of_lt hs2))
  have HS4 : Hid (b ≤ (w3.alloc (.cells #[.int .i64 1, .int .i64 1, .int .i64 5, .int .i64 0, .int .i64 2, .int .i64 1] 37)).heap.size) := Nat.le_of_lt hT4.box.lt
  have cD := drop_any hT4 k1 (by omega) 1
  have HT4 : Hid _ := hT4
  rw [show lastB 1 [⟨1, 1, 5, 0, 2, 1⟩] = true from rfl, show errE 1 [⟨1, 1, 5, 0, 2, 1⟩] = 0 from rfl, show dropS 1 [⟨1, 1, 5, 0, 2, 1⟩] = [] from rfl] at cD
  have k2 : Ok 2 2 2 [] := k1.drop 1
  clear cG hT3 hal hX hT4 hb3 HT2 HB2
  simp only [flC]
  go_wp2_with fail
  refine cD.mono ?_
  rintro e w5 ⟨rfl, v5, hT5, hG5⟩
  have hX5 := hG5.blkN HX.out HN.out.1 HN.out.2
  have HB5 : Hid (Below b w w5) := hG5.below HT4.out HB4.out (Nat.le_refl _) HS4.out
  have hs5 : b ≤ w5.heap.size := Nat.le_of_lt hT5.box.lt
  have x0 := hX5.cell 0 rfl
  have x1 := hX5.cell 1 rfl
  have x2 := hX5.cell 2 rfl
  have x3 := hX5.cell 3 rfl
  have x4 := hX5.cell 4 rfl
  have x5 := hX5.cell 5 rfl
  have cR := room_any hT5 (by omega) (by simp)
  rw [show ((2 : Nat) : Int) - (([] : List Fl).length : Int) = 2 from rfl] at cR
  have heq := fun w => eq_file 1 1 5 0 2 1 w
  clear cD hG5 hT5 hX5 HX HT4 HB4 HS4
  go_wp2_with fail
  refine cR.mono ?_
  rintro e w6 ⟨rfl, q, rfl⟩
  go_wp2
  go_ret
  exact ⟨rfl, by rw [HBe.out]; exact HB5.out.trans ((on_drewN (Below.refl _ _) q).mono hs5)⟩

end Go.Proofs.Ytigikmojhllmdaa.V
