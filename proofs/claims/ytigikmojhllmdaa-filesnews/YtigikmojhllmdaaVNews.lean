/- The laws FilesNews and FilesFull answer true at every input. -/
import Derived.Test.YtigikmojhllmdaaVLives
namespace Go.Proofs.Ytigikmojhllmdaa.V
open Go Go.RowKit

set_option maxRecDepth 100000 in
set_option maxHeartbeats 2000000 in
theorem news_walk (m i : Int) (w : World) :
    Calls Try.prog 5 #[.int .i64 m, .int .i64 i] w fun e w' => e = .returned (.bool true) ∧ Below w.heap.size w w' := by
  have cL := fun w => lives_any w
  by_cases hin : 1 ≤ m ∧ m ≤ 256
  · obtain ⟨n, rfl⟩ := Int.eq_ofNat_of_zero_le (show 0 ≤ m by omega)
    have cN := new_in n w (by omega) (by omega)
    have k0 : Ok 0 n 1 [] := Ok.new (by omega)
    have hT0 : TabAt w.heap.size 55 (w.alloc (.cells #[.slice none 0 0, .int .i64 (n : Int), .int .i64 1] 55)) w.heap.size (.slice none 0 0) (n : Int) 1 [] := TabAt.nil w _ _ _ _ (Nat.le_refl _)
    have HB0 : Hid (Below w.heap.size w (w.alloc (.cells #[.slice none 0 0, .int .i64 (n : Int), .int .i64 1] 55))) := on_alloc w _
    have HT0 : Hid _ := hT0
    have z1 : decide ((1 : Int) ≤ (n : Int)) = true := decide_eq_true hin.1
    have z2 : decide ((n : Int) ≤ 256) = true := decide_eq_true hin.2
    have cR := room_any hT0 (by omega) (by simp)
    rw [show (n : Int) - (([] : List Fl).length : Int) = n by simp] at cR
    clear hT0
    go_enter Try.func5, Try.ntmps5
    go_wp2_with fail
    refine cN.mono ?_
    rintro e w1 ⟨rfl, hw1⟩
    subst hw1
    generalize (w.alloc (.cells #[.slice none 0 0, .int .i64 (n : Int), .int .i64 1] 55)) = w1 at *
    obtain ⟨b, hb⟩ : ∃ b, w.heap.size = b := ⟨_, rfl⟩
    have HBe : Hid (w.heap.size = b) := hb
    rw [hb] at cR HB0 HT0 ⊢
    clear cN hb
    go_wp2_with fail
    refine cR.mono ?_
    rintro e w2 ⟨rfl, q, rfl⟩
    have hT2 := HT0.out.on (on_drewN (Below.refl _ _) q)
    have HB2 : Hid (Below b w (w1.drewN q)) := HB0.out.trans ((on_drewN (Below.refl _ _) q).mono (Nat.le_of_lt HT0.out.box.lt))
    clear cR HT0 HB0
    generalize w1.drewN q = w2 at *
    have cU := numbers_any hT2
    have cH := hold_any hT2 k0 (by omega) i
    rw [show errE i [] = 9 from rfl, show holdS i [] = [] from rfl] at cH
    have HT2 : Hid _ := hT2
    clear hT2
    go_wp2_with fail
    refine cU.mono ?_
    rintro e w3 ⟨rfl, rfl⟩
    go_wp2_with fail
    refine cH.mono ?_
    rintro e w4 ⟨rfl, v4, hT4, hG4⟩
    have HB4 : Hid (Below b w w4) := hG4.below HT2.out HB2.out (Nat.le_refl _) (Nat.le_of_lt HT2.out.box.lt)
    have cS := seek_any hT4 k0 i 0
    rw [show seekE i 0 [] = 9 from rfl, show seekS i 0 [] = [] from rfl] at cS
    have HT4 : Hid _ := hT4
    clear cU cH HT2 HB2 hG4 hT4
    go_wp2_with fail
    refine cS.mono ?_
    rintro e w5 ⟨rfl, v5, hT5, hG5⟩
    have HB5 : Hid (Below b w w5) := hG5.below HT4.out HB4.out (Nat.le_refl _) (Nat.le_of_lt HT4.out.box.lt)
    have cF := flags_any hT5 k0 i 0
    rw [show errE i [] = 9 from rfl, show flagS i 0 [] = [] from rfl] at cF
    have HT5 : Hid _ := hT5
    clear cS HT4 HB4 hG5 hT5
    go_wp2_with fail
    refine cF.mono ?_
    rintro e w6 ⟨rfl, v6, hT6, hG6⟩
    have HB6 : Hid (Below b w w6) := hG6.below HT5.out HB5.out (Nat.le_refl _) (Nat.le_of_lt HT5.out.box.lt)
    have hs6 : b ≤ w6.heap.size := Nat.le_of_lt hT6.box.lt
    clear cF HT5 HB5 hG6 hT6
    go_wp2_with fail
    refine (cL _).mono ?_
    rintro e w7 ⟨rfl, hb7⟩
    have HB7 : Hid (Below b w w7) := HB6.out.trans (hb7.mono hs6)
    clear hb7 cL
    go_wp2
    go_ret
    exact ⟨rfl, by rw [HBe.out]; exact HB7.out⟩
  · have cN := new_no m w (by omega)
    have HM : Hid (decide (1 ≤ m) = false ∨ (decide (1 ≤ m) = true ∧ decide (m ≤ 256) = false)) := by
      by_cases h : 1 ≤ m
      · exact .inr ⟨decide_eq_true h, decide_eq_false (by omega)⟩
      · exact .inl (decide_eq_false h)
    have cO := open_nil w 1 1 0
    have cG := get_nil w i
    have cLs := fun w => lives_any w
    clear hin cL
    go_enter Try.func5, Try.ntmps5
    go_wp2_with fail
    refine cN.mono ?_
    rintro e w1 ⟨rfl, hw1⟩
    subst hw1
    rcases HM.out with h1 | ⟨h0, h1⟩
    all_goals
      clear HM cN
      go_wp2_with fail
      refine cO.mono ?_
      rintro e w2 ⟨rfl, hw2⟩
      subst hw2
      go_wp2_with fail
      refine cG.mono ?_
      rintro e w3 ⟨rfl, hb3⟩
      have HB3 : Hid _ := on_trans hb3 (on_alloc w3 (.cells (flC zeroFl).toArray 37))
      clear hb3 cO cG
      simp only [flC, zeroFl] at HB3 ⊢
      go_wp2_with fail
      generalize w3.alloc (.cells #[.int .i64 0, .int .i64 0, .int .i64 0, .int .i64 0, .int .i64 0, .int .i64 0] 37) = w4 at *
      have cD := drop_nil w4 i
      refine cD.mono ?_
      rintro e w5 ⟨rfl, hb5⟩
      have HB5 : Hid _ := on_trans HB3.out hb5
      clear cD hb5 HB3
      have cH := hold_nil w5 i
      go_wp2_with fail
      refine cH.mono ?_
      rintro e w6 ⟨rfl, hb6⟩
      have HB6 : Hid _ := on_trans HB5.out hb6
      clear cH hb6 HB5
      have cS := seek_nil w6 i 0
      go_wp2_with fail
      refine cS.mono ?_
      rintro e w7 ⟨rfl, hb7⟩
      have HB7 : Hid _ := on_trans HB6.out hb7
      clear cS hb7 HB6
      have cF := flags_nil w7 i 0
      go_wp2_with fail
      refine cF.mono ?_
      rintro e w8 ⟨rfl, hb8⟩
      have HB8 : Hid _ := on_trans HB7.out hb8
      clear cF hb8 HB7
      have cR := room_nil w8
      have cU := numbers_nil w8
      have cP := dump_nil w8
      go_wp2_with fail
      refine cR.mono ?_
      rintro e w9 ⟨rfl, hw9⟩
      subst hw9
      go_wp2_with fail
      refine cU.mono ?_
      rintro e w10 ⟨rfl, hw10⟩
      subst hw10
      go_wp2_with fail
      refine cP.mono ?_
      rintro e w11 ⟨rfl, hw11⟩
      subst hw11
      clear cR cU cP
      go_wp2_with fail
      refine (cLs _).mono ?_
      rintro e w12 ⟨rfl, hb12⟩
      have HB12 : Hid _ := on_trans HB8.out hb12
      clear hb12 HB8 cLs
      go_wp2
      go_ret
      exact ⟨rfl, HB12.out⟩

end Go.Proofs.Ytigikmojhllmdaa.V
