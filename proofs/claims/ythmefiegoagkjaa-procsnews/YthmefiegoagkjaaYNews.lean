/- The law ProcsNews answers true at every input. -/
import Derived.Test.YthmefiegoagkjaaYNil
namespace Go.Proofs.Ythmefiegoagkjaa.Y
open Go Go.RowKit

set_option maxRecDepth 100000 in
set_option maxHeartbeats 2000000 in
theorem news_walk (m i : Int) (w : World) :
    Calls Try.prog 6 #[.int .i64 m, .int .i64 i] w fun e w' => e = .returned (.bool true) ∧ Below w.heap.size w w' := by
  have cL := fun w => lives_any w
  by_cases hin : 1 ≤ m ∧ m ≤ 64
  · obtain ⟨n, rfl⟩ := Int.eq_ofNat_of_zero_le (show 0 ≤ m by omega)
    have cN := new_tab n w (by omega) (by omega)
    have z1 : decide ((1 : Int) ≤ (n : Int)) = true := decide_eq_true hin.1
    have z2 : decide ((n : Int) ≤ 64) = true := decide_eq_true hin.2
    go_enter Try.func6, Try.ntmps6
    go_wp2_with fail
    refine cN.mono ?_
    rintro e w1 ⟨b, v1, rfl, hT1, hb1⟩
    have HB1 : Hid (Below w.heap.size w w1) := hb1
    have HT1 : Hid _ := hT1
    have cR := room_any hT1 (by omega) (by decide)
    rw [show (n : Int) - (([first] : List Pr).length : Int) = (n : Int) - 1 from rfl] at cR
    clear cN hT1 hb1
    go_wp2_with fail
    refine cR.mono ?_
    rintro e w2 ⟨rfl, q, rfl⟩
    have hd := on_drewN (Below.refl w1.heap.size w1) q
    have hT2 := HT1.out.on hd
    have HB2 : Hid (Below w.heap.size w (w1.drewN q)) := on_trans HB1.out hd
    clear cR HT1 HB1 hd
    generalize w1.drewN q = w2 at *
    have cU := numbers_any hT2
    have cD := dump_any hT2 (by decide)
    clear hT2
    go_wp2_with fail
    refine cU.mono ?_
    rintro e w3 ⟨rfl, rfl⟩
    go_wp2_with fail
    refine cD.mono ?_
    rintro e w4 ⟨v4, rfl, hr4, hb4⟩
    have HB4 : Hid (Below w.heap.size w w4) := on_trans HB2.out hb4
    obtain ⟨p4, cap4, rfl, _⟩ := row_cells hr4
    clear hr4 hb4 cU cD HB2
    rw [show ([first] : List Pr).length = 1 from rfl]
    go_wp2_with fail
    refine (cL _).mono ?_
    rintro e w7 ⟨rfl, hb7⟩
    have HB7 : Hid (Below w.heap.size w w7) := on_trans HB4.out hb7
    clear hb7 cL
    go_wp2
    go_ret
    exact ⟨rfl, HB7.out⟩
  · have cN := new_no m w (by omega)
    have HM : Hid (decide (1 ≤ m) = false ∨ (decide (1 ≤ m) = true ∧ decide (m ≤ 64) = false)) := by
      by_cases h : 1 ≤ m
      · exact .inr ⟨decide_eq_true h, decide_eq_false (by omega)⟩
      · exact .inl (decide_eq_false h)
    have cG := get_nil w i
    simp only [prC, zPr] at cG
    clear hin
    go_enter Try.func6, Try.ntmps6
    go_wp2_with fail
    refine cN.mono ?_
    rintro e w1 ⟨rfl, hw1⟩
    subst hw1
    rcases HM.out with h1 | ⟨h0, h1⟩
    all_goals
      clear HM cN
      go_wp2_with fail
      refine cG.mono ?_
      rintro e w3 ⟨rfl, hb3⟩
      have HB3 : Hid _ := on_trans hb3 (on_alloc w3 (.cells #[.int .i64 0, .int .i64 0, .bool false, .int .i64 0, .bool false, .bool false, .int .i64 0] 37))
      clear hb3 cG
      go_wp2_with fail
      generalize w3.alloc (.cells #[.int .i64 0, .int .i64 0, .bool false, .int .i64 0, .bool false, .bool false, .int .i64 0] 37) = w4 at *
      have cF := fork_nil w4 i false
      refine cF.mono ?_
      rintro e w5 ⟨rfl, hb5⟩
      have HB5 : Hid _ := on_trans HB3.out hb5
      clear cF hb5 HB3
      have cW := wait_nil w5 i 0
      go_wp2_with fail
      refine cW.mono ?_
      rintro e w5' ⟨rfl, hw5⟩
      subst hw5
      clear cW
      have cR := reap_nil w5' i
      go_wp2_with fail
      refine cR.mono ?_
      rintro e w6 ⟨rfl, hb6⟩
      have HB6 : Hid _ := on_trans HB5.out hb6
      clear cR hb6 HB5
      have cM := move_nil w6 i 1
      go_wp2_with fail
      refine cM.mono ?_
      rintro e w7 ⟨rfl, hb7⟩
      have HB7 : Hid _ := on_trans HB6.out hb7
      clear cM hb7 HB6
      have cE := exit_nil w7 i 0
      go_wp2_with fail
      refine cE.mono ?_
      rintro e w8 ⟨rfl, hb8⟩
      have HB8 : Hid _ := on_trans HB7.out hb8
      clear cE hb8 HB7
      have cT := enter_nil w8 i
      go_wp2_with fail
      refine cT.mono ?_
      rintro e w9 ⟨rfl, hb9⟩
      have HB9 : Hid _ := on_trans HB8.out hb9
      clear cT hb9 HB8
      have cV := lives_nil w9 i
      go_wp2_with fail
      refine cV.mono ?_
      rintro e w10 ⟨rfl, hb10⟩
      have HB10 : Hid _ := on_trans HB9.out hb10
      clear cV hb10 HB9
      have cRo := room_nil w10
      have cU := numbers_nil w10
      have cP := dump_nil w10
      go_wp2_with fail
      refine cRo.mono ?_
      rintro e w11 ⟨rfl, hw9⟩
      subst hw9
      go_wp2_with fail
      refine cU.mono ?_
      rintro e w12 ⟨rfl, hw10⟩
      subst hw10
      go_wp2_with fail
      refine cP.mono ?_
      rintro e w13 ⟨rfl, hw11⟩
      subst hw11
      clear cRo cU cP
      go_wp2_with fail
      refine (cL _).mono ?_
      rintro e w14 ⟨rfl, hb12⟩
      have HB12 : Hid _ := on_trans HB10.out hb12
      clear hb12 HB10 cL
      go_wp2
      go_ret
      exact ⟨rfl, HB12.out⟩

end Go.Proofs.Ythmefiegoagkjaa.Y
