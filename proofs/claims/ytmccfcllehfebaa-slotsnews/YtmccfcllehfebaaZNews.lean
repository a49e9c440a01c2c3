/- SlotsNews holds. -/
import Derived.Test.YtmccfcllehfebaaZLives
namespace Go.Proofs.Ytmccfcllehfebaa.Z
open Go Go.RowKit

set_option maxRecDepth 100000 in
set_option maxHeartbeats 2000000 in
theorem news_in (n : Nat) (fd : Int) (w : World) (h1 : 1 ≤ n) (h2 : n ≤ 64) : Calls Try.prog 7 #[.int .i64 (n : Int), .int .i64 fd] w fun e w' => e = .returned (.bool true) ∧ Below w.heap.size w w' := by
  have cN := new_in noD n w (lt_no w) h1 h2
  have cF := fun w => full_any fd w
  have cG := fun w => rfull_any fd w
  have cO : ∀ w1, Calls Try.prog 16 #[fullV fd, fullV fd] w1 fun e w' => e = .returned (.bool true) ∧ Below w1.heap.size w1 w' := fun w1 => (one_any (fullS fd) (fullS fd) none none 0 0 w1 (.inl rfl) (.inl rfl) (Nat.zero_le 1000)).mono fun e w' ⟨h1, h2⟩ => ⟨by rw [h1, one_self], h2⟩
  have cL := fun w => lives_any w
  have HR : Hid (∀ D F w1 tb, TabAt D F w1 tb (List.replicate n zS) → Calls Try.prog 27 #[ptr tb] w1 fun e w' => e = .returned (.int .i64 (n : Int)) ∧ Below w1.heap.size w1 w') := fun D F w1 tb h => (room_any h (by simp; omega)).mono fun e w' ⟨e1, e2⟩ => ⟨by rw [e1, show allS (List.replicate n zS) = [] from allK_rep n _]; simp, e2⟩
  have HA : Hid (∀ D F w1 tb, TabAt D F w1 tb (List.replicate n zS) → Calls Try.prog 28 #[ptr tb] w1 fun e w' => (∃ p c, e = .returned (.slice p 0 c)) ∧ Below w1.heap.size w1 w') := fun D F w1 tb h => (all_any h (by simp; omega)).mono fun e w' ⟨p, c, e1, _, e2⟩ => ⟨⟨p, c, by rw [e1, show allS (List.replicate n zS) = [] from allK_rep n _]; rfl⟩, e2⟩
  have z1 : decide ((1 : Int) ≤ (n : Int)) = true := decide_eq_true (by omega)
  have z2 : decide ((n : Int) ≤ 64) = true := decide_eq_true (by omega)
  go_enter Try.func7, Try.ntmps7
  go_wp2_with fail
  refine cN.mono ?_
  rintro e w1 ⟨tb, F, rfl, ht, hb1, _⟩
  have HT : Hid (TabAt (Or noD F) F w1 tb (List.replicate n zS)) := ht
  have HB1 : Hid (Below w.heap.size w w1) := hb1
  clear ht hb1 cN
  go_wp2_with fail
  refine (cF _).mono ?_
  rintro e w2 ⟨rfl, hb2⟩
  go_wp2_with fail
  refine (cG _).mono ?_
  rintro e w3 ⟨rfl, hb3⟩
  go_wp2_with fail
  refine (cO _).mono ?_
  rintro e w4 ⟨rfl, hb4⟩
  have HT4 : Hid (TabAt (Or noD F) F w4 tb (List.replicate n zS)) := ((HT.out.on hb2).on hb3).on hb4
  have HB4 : Hid (Below w.heap.size w w4) := on_trans (on_trans (on_trans HB1.out hb2) hb3) hb4
  clear HT HB1 hb2 hb3 hb4 cF cG cO
  go_wp2_with fail
  refine (HR.out _ _ _ _ HT4.out).mono ?_
  rintro e w5 ⟨rfl, hb5⟩
  go_wp2_with fail
  refine (HA.out _ _ _ _ (HT4.out.on hb5)).mono ?_
  rintro e w6 ⟨⟨p6, c6, rfl⟩, hb6⟩
  go_wp2_with fail
  refine (cL _).mono ?_
  rintro e w7 ⟨rfl, hb7⟩
  have HB7 : Hid (Below w.heap.size w w7) := on_trans (on_trans (on_trans HB4.out hb5) hb6) hb7
  clear HT4 HB4 hb5 hb6 hb7 HR HA cL
  go_wp2
  go_ret
  exact ⟨rfl, HB7.out⟩
set_option maxRecDepth 100000 in
set_option maxHeartbeats 4000000 in
theorem news_out (n fd : Int) (w : World) (h : n < 1 ∨ 64 < n) : Calls Try.prog 7 #[.int .i64 n, .int .i64 fd] w fun e w' => e = .returned (.bool true) ∧ Below w.heap.size w w' := by
  have cN := new_no n w h
  have cF := fun w => full_any fd w
  have cG := fun w => rfull_any fd w
  have cO : ∀ w1, Calls Try.prog 16 #[fullV fd, fullV fd] w1 fun e w' => e = .returned (.bool true) ∧ Below w1.heap.size w1 w' := fun w1 => (one_any (fullS fd) (fullS fd) none none 0 0 w1 (.inl rfl) (.inl rfl) (Nat.zero_le 1000)).mono fun e w' ⟨h1, h2⟩ => ⟨by rw [h1, one_self], h2⟩
  have c1 := fun w => full_any 1 w
  have cL := fun w => lives_any w
  have cGet := fun w => get_nil fd w 0
  have cFree := fun w => free_nil fd w
  have cPut := fun w => put_nil fd w
  have cSet := fun w => set_nil fd w
  have cTake := fun w => take_nil fd w
  have cLim := fun w => lim_nil fd 0 w
  have cIo := fun w => io_nil fd (.slice none 0 0) w
  have cFc := fun w => fc_nil fd 0 w
  have cRoom := fun w => room_nil w
  have cAll := fun w => all_nil w
  have cClone := fun w => clone_nil w
  have hz : (decide ((1 : Int) ≤ n) && decide (n ≤ 64)) = false := by
    rw [Bool.and_eq_false_iff, decide_eq_false_iff_not, decide_eq_false_iff_not]; omega
  have HB0 : Hid (∀ w1 o, Below w.heap.size w w1 → Below w.heap.size w (w1.alloc o)) := fun w1 o h => on_trans h (on_alloc _ _)
  clear h
  by_cases hp : 1 ≤ n
  · have z1 : decide ((1 : Int) ≤ n) = true := decide_eq_true hp
    have z2 : decide (n ≤ 64) = false := by rw [z1, Bool.true_and] at hz; exact hz
    clear hz hp
    go_enter Try.func7, Try.ntmps7
    go_wp2_with fail
    refine cN.mono ?_
    rintro e w1 ⟨rfl, hw1⟩
    have HB1 : Hid (Below w.heap.size w w1) := by rw [hw1]; exact Below.refl _ _
    clear hw1
    go_wp2_with fail
    refine (cF _).mono ?_
    rintro e w2 ⟨rfl, hb2⟩
    have HB2 : Hid (Below w.heap.size w w2) := on_trans HB1.out hb2
    clear hb2 HB1
    go_wp2_with fail
    refine (cG _).mono ?_
    rintro e w3 ⟨rfl, hb3⟩
    have HB3 : Hid (Below w.heap.size w w3) := on_trans HB2.out hb3
    clear hb3 HB2
    go_wp2_with fail
    refine (cO _).mono ?_
    rintro e w4 ⟨rfl, hb4⟩
    have HB4 : Hid (Below w.heap.size w w4) := on_trans HB3.out hb4
    clear hb4 HB3
    go_wp2_with fail
    refine (cGet _).mono ?_
    rintro e w5 ⟨rfl, hb5⟩
    have HB5 : Hid (Below w.heap.size w w5) := on_trans HB4.out hb5
    clear hb5 HB4
    have HA5 : Hid (Below w.heap.size w (w5.alloc (.cells #[.int .i64 0, .int .u32 0, .bool false, .slice none 0 0, .int .i64 0] 34))) := HB0.out _ _ HB5.out
    clear HB5
    go_wp2_with fail
    refine (cFree _).mono ?_
    rintro e w6 ⟨rfl, hw6⟩
    have HB6 : Hid (Below w.heap.size w w6) := by rw [hw6]; exact HA5.out
    clear hw6 HA5
    go_wp2_with fail
    refine (c1 _).mono ?_
    rintro e w7 ⟨rfl, hb7⟩
    have HB7 : Hid (Below w.heap.size w w7) := on_trans HB6.out hb7
    clear hb7 HB6
    go_wp2_with fail
    refine (cPut _).mono ?_
    rintro e w8 ⟨rfl, hb8⟩
    have HB8 : Hid (Below w.heap.size w w8) := on_trans HB7.out hb8
    clear hb8 HB7
    go_wp2_with fail
    refine (c1 _).mono ?_
    rintro e w9 ⟨rfl, hb9⟩
    have HB9 : Hid (Below w.heap.size w w9) := on_trans HB8.out hb9
    clear hb9 HB8
    go_wp2_with fail
    refine (cSet _).mono ?_
    rintro e w10 ⟨rfl, hb10⟩
    have HB10 : Hid (Below w.heap.size w w10) := on_trans HB9.out hb10
    clear hb10 HB9
    have HA10 : Hid (Below w.heap.size w (w10.alloc (.cells #[.int .i64 0, .int .u32 0, .bool false, .slice none 0 0, .int .i64 0] 34))) := HB0.out _ _ HB10.out
    clear HB10
    go_wp2_with fail
    refine (cTake _).mono ?_
    rintro e w11 ⟨rfl, hb11⟩
    have HB11 : Hid (Below w.heap.size w w11) := on_trans HA10.out hb11
    clear hb11 HA10
    have HA11 : Hid (Below w.heap.size w (w11.alloc (.cells #[.int .i64 0, .int .u32 0, .bool false, .slice none 0 0, .int .i64 0] 34))) := HB0.out _ _ HB11.out
    clear HB11
    go_wp2_with fail
    refine (cLim _).mono ?_
    rintro e w12 ⟨rfl, hw12⟩
    have HB12 : Hid (Below w.heap.size w w12) := by rw [hw12]; exact HA11.out
    clear hw12 HA11
    go_wp2_with fail
    refine (cIo _).mono ?_
    rintro e w13 ⟨rfl, hw13⟩
    have HB13 : Hid (Below w.heap.size w w13) := by rw [hw13]; exact HB12.out
    clear hw13 HB12
    go_wp2_with fail
    refine (cFc _).mono ?_
    rintro e w14 ⟨rfl, hw14⟩
    have HB14 : Hid (Below w.heap.size w w14) := by rw [hw14]; exact HB13.out
    clear hw14 HB13
    go_wp2_with fail
    refine (cRoom _).mono ?_
    rintro e w15 ⟨rfl, hw15⟩
    have HB15 : Hid (Below w.heap.size w w15) := by rw [hw15]; exact HB14.out
    clear hw15 HB14
    go_wp2_with fail
    refine (cAll _).mono ?_
    rintro e w16 ⟨rfl, hw16⟩
    have HB16 : Hid (Below w.heap.size w w16) := by rw [hw16]; exact HB15.out
    clear hw16 HB15
    go_wp2_with fail
    refine (cClone _).mono ?_
    rintro e w17 ⟨rfl, hw17⟩
    have HB17 : Hid (Below w.heap.size w w17) := by rw [hw17]; exact HB16.out
    clear hw17 HB16
    go_wp2_with fail
    refine (cL _).mono ?_
    rintro e w18 ⟨rfl, hb18⟩
    have HB18 : Hid (Below w.heap.size w w18) := on_trans HB17.out hb18
    clear hb18 HB17
    go_wp2
    go_ret
    exact ⟨rfl, HB18.out⟩
  · have z1 : decide ((1 : Int) ≤ n) = false := decide_eq_false hp
    clear hz hp
    go_enter Try.func7, Try.ntmps7
    go_wp2_with fail
    refine cN.mono ?_
    rintro e w1 ⟨rfl, hw1⟩
    have HB1 : Hid (Below w.heap.size w w1) := by rw [hw1]; exact Below.refl _ _
    clear hw1
    go_wp2_with fail
    refine (cF _).mono ?_
    rintro e w2 ⟨rfl, hb2⟩
    have HB2 : Hid (Below w.heap.size w w2) := on_trans HB1.out hb2
    clear hb2 HB1
    go_wp2_with fail
    refine (cG _).mono ?_
    rintro e w3 ⟨rfl, hb3⟩
    have HB3 : Hid (Below w.heap.size w w3) := on_trans HB2.out hb3
    clear hb3 HB2
    go_wp2_with fail
    refine (cO _).mono ?_
    rintro e w4 ⟨rfl, hb4⟩
    have HB4 : Hid (Below w.heap.size w w4) := on_trans HB3.out hb4
    clear hb4 HB3
    go_wp2_with fail
    refine (cGet _).mono ?_
    rintro e w5 ⟨rfl, hb5⟩
    have HB5 : Hid (Below w.heap.size w w5) := on_trans HB4.out hb5
    clear hb5 HB4
    have HA5 : Hid (Below w.heap.size w (w5.alloc (.cells #[.int .i64 0, .int .u32 0, .bool false, .slice none 0 0, .int .i64 0] 34))) := HB0.out _ _ HB5.out
    clear HB5
    go_wp2_with fail
    refine (cFree _).mono ?_
    rintro e w6 ⟨rfl, hw6⟩
    have HB6 : Hid (Below w.heap.size w w6) := by rw [hw6]; exact HA5.out
    clear hw6 HA5
    go_wp2_with fail
    refine (c1 _).mono ?_
    rintro e w7 ⟨rfl, hb7⟩
    have HB7 : Hid (Below w.heap.size w w7) := on_trans HB6.out hb7
    clear hb7 HB6
    go_wp2_with fail
    refine (cPut _).mono ?_
    rintro e w8 ⟨rfl, hb8⟩
    have HB8 : Hid (Below w.heap.size w w8) := on_trans HB7.out hb8
    clear hb8 HB7
    go_wp2_with fail
    refine (c1 _).mono ?_
    rintro e w9 ⟨rfl, hb9⟩
    have HB9 : Hid (Below w.heap.size w w9) := on_trans HB8.out hb9
    clear hb9 HB8
    go_wp2_with fail
    refine (cSet _).mono ?_
    rintro e w10 ⟨rfl, hb10⟩
    have HB10 : Hid (Below w.heap.size w w10) := on_trans HB9.out hb10
    clear hb10 HB9
    have HA10 : Hid (Below w.heap.size w (w10.alloc (.cells #[.int .i64 0, .int .u32 0, .bool false, .slice none 0 0, .int .i64 0] 34))) := HB0.out _ _ HB10.out
    clear HB10
    go_wp2_with fail
    refine (cTake _).mono ?_
    rintro e w11 ⟨rfl, hb11⟩
    have HB11 : Hid (Below w.heap.size w w11) := on_trans HA10.out hb11
    clear hb11 HA10
    have HA11 : Hid (Below w.heap.size w (w11.alloc (.cells #[.int .i64 0, .int .u32 0, .bool false, .slice none 0 0, .int .i64 0] 34))) := HB0.out _ _ HB11.out
    clear HB11
    go_wp2_with fail
    refine (cLim _).mono ?_
    rintro e w12 ⟨rfl, hw12⟩
    have HB12 : Hid (Below w.heap.size w w12) := by rw [hw12]; exact HA11.out
    clear hw12 HA11
    go_wp2_with fail
    refine (cIo _).mono ?_
    rintro e w13 ⟨rfl, hw13⟩
    have HB13 : Hid (Below w.heap.size w w13) := by rw [hw13]; exact HB12.out
    clear hw13 HB12
    go_wp2_with fail
    refine (cFc _).mono ?_
    rintro e w14 ⟨rfl, hw14⟩
    have HB14 : Hid (Below w.heap.size w w14) := by rw [hw14]; exact HB13.out
    clear hw14 HB13
    go_wp2_with fail
    refine (cRoom _).mono ?_
    rintro e w15 ⟨rfl, hw15⟩
    have HB15 : Hid (Below w.heap.size w w15) := by rw [hw15]; exact HB14.out
    clear hw15 HB14
    go_wp2_with fail
    refine (cAll _).mono ?_
    rintro e w16 ⟨rfl, hw16⟩
    have HB16 : Hid (Below w.heap.size w w16) := by rw [hw16]; exact HB15.out
    clear hw16 HB15
    go_wp2_with fail
    refine (cClone _).mono ?_
    rintro e w17 ⟨rfl, hw17⟩
    have HB17 : Hid (Below w.heap.size w w17) := by rw [hw17]; exact HB16.out
    clear hw17 HB16
    go_wp2_with fail
    refine (cL _).mono ?_
    rintro e w18 ⟨rfl, hb18⟩
    have HB18 : Hid (Below w.heap.size w w18) := on_trans HB17.out hb18
    clear hb18 HB17
    go_wp2
    go_ret
    exact ⟨rfl, HB18.out⟩
theorem news_walk (n fd : Int) (w : World) : Calls Try.prog 7 #[.int .i64 n, .int .i64 fd] w fun e w' => e = .returned (.bool true) ∧ Below w.heap.size w w' := by
  by_cases h : 1 ≤ n ∧ n ≤ 64
  · obtain ⟨m, rfl⟩ : ∃ m : Nat, n = (m : Int) := ⟨n.toNat, by omega⟩
    exact news_in m fd w (by omega) (by omega)
  · exact news_out n fd w (by omega)

end Go.Proofs.Ytmccfcllehfebaa.Z
