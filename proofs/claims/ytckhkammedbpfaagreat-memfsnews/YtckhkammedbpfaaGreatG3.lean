/- MemfsNews: its walk where there is none, case 2. -/
import Derived.Test.YtckhkammedbpfaaGreatG1
namespace Go.Proofs.YtckhkammedbpfaaGreat
open Go Go.RowKit Go.Maps

set_option maxRecDepth 100000 in
set_option maxHeartbeats 8000000 in
theorem news_no2a (a b : Int) (n : Int) (nm : ByteArray) (w : World) (hl : ¬ (300 : Int) < (nm.size : Int)) (h1 : 1 ≤ a) (h2 : ¬ a ≤ 256) :
    Calls Tryz.prog 7 #[.agg #[.int .i64 a, .int .i64 b], .int .i64 n, .string nm] w fun e w' => e = .returned (.bool true) ∧ Below w.heap.size w w' := by
  have hal := on_alloc w (.cells #[.int .i64 a, .int .i64 b] 71)
  have HX0 : Hid (Blk (w.alloc (.cells #[.int .i64 a, .int .i64 b] 71)) w.heap.size 71 [.int .i64 a, .int .i64 b]) := Blk.new w _ _
  have HB0 : Hid (Below w.heap.size w (w.alloc (.cells #[.int .i64 a, .int .i64 b] 71))) := hal
  have HQ : Hid (∀ w', Below w.heap.size w w' → (fun e w' => e = Ending.returned (.bool true) ∧ Below w.heap.size w w') (Ending.returned (.bool true)) w') := fun w' h => ⟨rfl, h⟩
  generalize (fun e w' => e = Ending.returned (.bool true) ∧ Below w.heap.size w w') = Post at *
  clear hal
  have HN : Hid (∀ w1, Calls Tryz.prog 35 #[.int .i64 a, .int .i64 b] w1 fun e w2 => e = .returned (.pointer none) ∧ w2 = w1) := fun w1 => new_no7 a b w1 (.inr (.inl (by omega)))
  have HRf : Hid (∀ w1, Calls Tryz.prog 26 #[.int .i64 1, .int .i64 0] w1 fun e w2 => ∃ rb, e = .returned (.tuple #[ptr rb, .bool true]) ∧ Below w1.heap.size w1 w2) := fun w1 => (rnew7 1 0 w1 (by omega)).mono fun e w2 ⟨rb, h1, _, h3⟩ => ⟨rb, h1, h3⟩
  have HL : Hid (∀ w1, Calls Tryz.prog 16 #[] w1 fun e w' => e = .returned (.bool true) ∧ Below w1.heap.size w1 w') := lives7
  have HLk : Hid (∀ x nm w, Calls Tryz.prog 17 #[.pointer none, .int .i64 x, .string nm] w fun e w' => e = .returned (.tuple #[.int .i64 0, .int .i64 22]) ∧ Below w.heap.size w w') := lookup_nil7
  have HCr : Hid (∀ x nm k t w, Calls Tryz.prog 29 #[.pointer none, .int .i64 x, .string nm, .int .i64 k, .string t] w fun e w' => e = .returned (.tuple #[.int .i64 0, .int .i64 22]) ∧ Below w.heap.size w w') := create_nil7
  have HRm : Hid (∀ w, Calls Tryz.prog 13 #[.pointer none] w fun e w' => e = .returned (.tuple #[.int .i64 0, .int .i64 0]) ∧ w' = w) := room_nil7
  have HSt : Hid (∀ x w, Calls Tryz.prog 37 #[.pointer none, .int .i64 x] w fun e w' => e = .returned (.tuple #[.agg #[.int .i64 0, .int .i64 0, .int .i64 0, .int .i64 0, .int .i64 0], .int .i64 22]) ∧ Below w.heap.size w w') := stat_nil7
  have HLs : Hid (∀ x a b w, Calls Tryz.prog 19 #[.pointer none, .int .i64 x, .int .i64 a, .int .i64 b] w fun e w' => e = .returned (.tuple #[.slice none 0 0, .int .i64 22]) ∧ Below w.heap.size w w') := list_nil7
  have HNx : Hid (∀ w, Calls Tryz.prog 15 #[.pointer none] w fun e w' => e = .returned (.int .i64 0) ∧ w' = w) := next_nil7
  have HDp : Hid (∀ w, Calls Tryz.prog 11 #[.pointer none] w fun e w' => e = .returned (.slice none 0 0) ∧ w' = w) := dump_nil7
  have HWi : Hid (∀ x y w, Calls Tryz.prog 23 #[.pointer none, .int .i64 x, .int .i64 y] w fun e w' => e = .returned (.bool false) ∧ w' = w) := within_nil7
  have HUn : Hid (∀ x nm w, Calls Tryz.prog 31 #[.pointer none, .int .i64 x, .string nm] w fun e w' => e = .returned (.int .i64 22) ∧ Below w.heap.size w w') := unlink_nil7
  have HRd : Hid (∀ x nm w, Calls Tryz.prog 32 #[.pointer none, .int .i64 x, .string nm] w fun e w' => e = .returned (.int .i64 22) ∧ Below w.heap.size w w') := rmdir_nil7
  have HRn : Hid (∀ x nm y nm2 w, Calls Tryz.prog 33 #[.pointer none, .int .i64 x, .string nm, .int .i64 y, .string nm2] w fun e w' => e = .returned (.int .i64 22) ∧ Below w.heap.size w w') := rename_nil7
  have HLn : Hid (∀ x nm k w, Calls Tryz.prog 30 #[.pointer none, .int .i64 x, .string nm, .int .i64 k] w fun e w' => e = .returned (.int .i64 22) ∧ Below w.heap.size w w') := link_nil7
  have HHo : Hid (∀ x w, Calls Tryz.prog 38 #[.pointer none, .int .i64 x] w fun e w' => e = .returned (.int .i64 22) ∧ w' = w) := hold_nil7
  have HRl : Hid (∀ x w, Calls Tryz.prog 36 #[.pointer none, .int .i64 x] w fun e w' => e = .returned (.int .i64 22) ∧ Below w.heap.size w w') := release_nil7
  have q0 := HX0.out.cell 0 rfl
  have q1 := HX0.out.cell 1 rfl
  go_enter Tryz.func7, Tryz.ntmps7
  go_wp2
  go_quiet (fail)
  go_wp2_with fail
  refine (HN.out _).mono ?_
  rintro e w1 ⟨rfl, hw1⟩
  have HB1 : Hid (Below w.heap.size w w1) := by rw [hw1]; exact on_drewN HB0.out _
  clear hw1 q0 q1
  go_wp2_with fail
  refine (HRf.out w1).mono ?_
  rintro e w2 ⟨rb, rfl, hb2⟩
  have HB2 : Hid (Below w.heap.size w w2) := on_trans HB1.out hb2
  clear hb2 HB1 HB0 HX0 HN HRf
  go_wp2_with fail
  refine (HLk.out _ _ _).mono ?_
  rintro e w3 ⟨rfl, hb3⟩
  have HB3 : Hid (Below w.heap.size w w3) := on_trans HB2.out hb3
  clear hb3 HB2
  go_wp2_with fail
  refine (HCr.out _ _ _ _ _).mono ?_
  rintro e w4 ⟨rfl, hb4⟩
  have HB4 : Hid (Below w.heap.size w w4) := on_trans HB3.out hb4
  clear hb4 HB3
  go_wp2_with fail
  refine (HRm.out _).mono ?_
  rintro e w5 ⟨rfl, hw5⟩
  subst w5
  go_wp2_with fail
  refine (HSt.out _ _).mono ?_
  rintro e w6 ⟨rfl, hb6⟩
  have HB6 : Hid (Below w.heap.size w (w6.alloc (.cells #[.int .i64 0, .int .i64 0, .int .i64 0, .int .i64 0, .int .i64 0] 74))) := on_trans (on_trans HB4.out hb6) (on_alloc w6 _)
  clear hb6 HB4
  go_wp2_with fail
  refine (HLs.out _ _ _ _).mono ?_
  rintro e w7 ⟨rfl, hb7⟩
  have HB7 : Hid (Below w.heap.size w w7) := on_trans HB6.out hb7
  clear hb7 HB6
  go_wp2_with fail
  refine (HNx.out _).mono ?_
  rintro e w8 ⟨rfl, hw8⟩
  subst w8
  go_wp2_with fail
  refine (HDp.out _).mono ?_
  rintro e w8 ⟨rfl, hw8⟩
  subst w8
  go_wp2_with fail
  refine (HWi.out _ _ _).mono ?_
  rintro e w8 ⟨rfl, hw8⟩
  subst w8
  go_wp2_with fail
  refine (HUn.out _ _ _).mono ?_
  rintro e w9 ⟨rfl, hb9⟩
  have HB9 : Hid (Below w.heap.size w w9) := on_trans HB7.out hb9
  clear hb9 HB7
  go_wp2_with fail
  refine (HRd.out _ _ _).mono ?_
  rintro e w10 ⟨rfl, hb10⟩
  have HB10 : Hid (Below w.heap.size w w10) := on_trans HB9.out hb10
  clear hb10 HB9
  go_wp2_with fail
  refine (HRn.out _ _ _ _ _).mono ?_
  rintro e w11 ⟨rfl, hb11⟩
  have HB11 : Hid (Below w.heap.size w w11) := on_trans HB10.out hb11
  clear hb11 HB10
  go_wp2_with fail
  refine (HLn.out _ _ _ _).mono ?_
  rintro e w12 ⟨rfl, hb12⟩
  have HB12 : Hid (Below w.heap.size w w12) := on_trans HB11.out hb12
  clear hb12 HB11
  go_wp2_with fail
  refine (HHo.out _ _).mono ?_
  rintro e w13 ⟨rfl, hw13⟩
  subst w13
  go_wp2_with fail
  refine (HRl.out _ _).mono ?_
  rintro e w14 ⟨rfl, hb14⟩
  have HB14 : Hid (Below w.heap.size w w14) := on_trans HB12.out hb14
  clear hb14 HB12
  go_wp2_with fail
  refine (HL.out _).mono ?_
  rintro e w15 ⟨rfl, hb15⟩
  go_wp2
  exact HQ.out _ (on_trans HB14.out hb15)
set_option maxRecDepth 100000 in
set_option maxHeartbeats 8000000 in
theorem news_no2b (a b : Int) (n : Int) (nm : ByteArray) (w : World) (hl : (300 : Int) < (nm.size : Int)) (h1 : 1 ≤ a) (h2 : ¬ a ≤ 256) :
    Calls Tryz.prog 7 #[.agg #[.int .i64 a, .int .i64 b], .int .i64 n, .string nm] w fun e w' => e = .returned (.bool true) ∧ Below w.heap.size w w' := by
  have hal := on_alloc w (.cells #[.int .i64 a, .int .i64 b] 71)
  have HX0 : Hid (Blk (w.alloc (.cells #[.int .i64 a, .int .i64 b] 71)) w.heap.size 71 [.int .i64 a, .int .i64 b]) := Blk.new w _ _
  have HB0 : Hid (Below w.heap.size w (w.alloc (.cells #[.int .i64 a, .int .i64 b] 71))) := hal
  have HQ : Hid (∀ w', Below w.heap.size w w' → (fun e w' => e = Ending.returned (.bool true) ∧ Below w.heap.size w w') (Ending.returned (.bool true)) w') := fun w' h => ⟨rfl, h⟩
  generalize (fun e w' => e = Ending.returned (.bool true) ∧ Below w.heap.size w w') = Post at *
  clear hal
  have HN : Hid (∀ w1, Calls Tryz.prog 35 #[.int .i64 a, .int .i64 b] w1 fun e w2 => e = .returned (.pointer none) ∧ w2 = w1) := fun w1 => new_no7 a b w1 (.inr (.inl (by omega)))
  have HRf : Hid (∀ w1, Calls Tryz.prog 26 #[.int .i64 1, .int .i64 0] w1 fun e w2 => ∃ rb, e = .returned (.tuple #[ptr rb, .bool true]) ∧ Below w1.heap.size w1 w2) := fun w1 => (rnew7 1 0 w1 (by omega)).mono fun e w2 ⟨rb, h1, _, h3⟩ => ⟨rb, h1, h3⟩
  have HL : Hid (∀ w1, Calls Tryz.prog 16 #[] w1 fun e w' => e = .returned (.bool true) ∧ Below w1.heap.size w1 w') := lives7
  have HLk : Hid (∀ x nm w, Calls Tryz.prog 17 #[.pointer none, .int .i64 x, .string nm] w fun e w' => e = .returned (.tuple #[.int .i64 0, .int .i64 22]) ∧ Below w.heap.size w w') := lookup_nil7
  have HCr : Hid (∀ x nm k t w, Calls Tryz.prog 29 #[.pointer none, .int .i64 x, .string nm, .int .i64 k, .string t] w fun e w' => e = .returned (.tuple #[.int .i64 0, .int .i64 22]) ∧ Below w.heap.size w w') := create_nil7
  have HRm : Hid (∀ w, Calls Tryz.prog 13 #[.pointer none] w fun e w' => e = .returned (.tuple #[.int .i64 0, .int .i64 0]) ∧ w' = w) := room_nil7
  have HSt : Hid (∀ x w, Calls Tryz.prog 37 #[.pointer none, .int .i64 x] w fun e w' => e = .returned (.tuple #[.agg #[.int .i64 0, .int .i64 0, .int .i64 0, .int .i64 0, .int .i64 0], .int .i64 22]) ∧ Below w.heap.size w w') := stat_nil7
  have HLs : Hid (∀ x a b w, Calls Tryz.prog 19 #[.pointer none, .int .i64 x, .int .i64 a, .int .i64 b] w fun e w' => e = .returned (.tuple #[.slice none 0 0, .int .i64 22]) ∧ Below w.heap.size w w') := list_nil7
  have HNx : Hid (∀ w, Calls Tryz.prog 15 #[.pointer none] w fun e w' => e = .returned (.int .i64 0) ∧ w' = w) := next_nil7
  have HDp : Hid (∀ w, Calls Tryz.prog 11 #[.pointer none] w fun e w' => e = .returned (.slice none 0 0) ∧ w' = w) := dump_nil7
  have HWi : Hid (∀ x y w, Calls Tryz.prog 23 #[.pointer none, .int .i64 x, .int .i64 y] w fun e w' => e = .returned (.bool false) ∧ w' = w) := within_nil7
  have HUn : Hid (∀ x nm w, Calls Tryz.prog 31 #[.pointer none, .int .i64 x, .string nm] w fun e w' => e = .returned (.int .i64 22) ∧ Below w.heap.size w w') := unlink_nil7
  have HRd : Hid (∀ x nm w, Calls Tryz.prog 32 #[.pointer none, .int .i64 x, .string nm] w fun e w' => e = .returned (.int .i64 22) ∧ Below w.heap.size w w') := rmdir_nil7
  have HRn : Hid (∀ x nm y nm2 w, Calls Tryz.prog 33 #[.pointer none, .int .i64 x, .string nm, .int .i64 y, .string nm2] w fun e w' => e = .returned (.int .i64 22) ∧ Below w.heap.size w w') := rename_nil7
  have HLn : Hid (∀ x nm k w, Calls Tryz.prog 30 #[.pointer none, .int .i64 x, .string nm, .int .i64 k] w fun e w' => e = .returned (.int .i64 22) ∧ Below w.heap.size w w') := link_nil7
  have HHo : Hid (∀ x w, Calls Tryz.prog 38 #[.pointer none, .int .i64 x] w fun e w' => e = .returned (.int .i64 22) ∧ w' = w) := hold_nil7
  have HRl : Hid (∀ x w, Calls Tryz.prog 36 #[.pointer none, .int .i64 x] w fun e w' => e = .returned (.int .i64 22) ∧ Below w.heap.size w w') := release_nil7
  have hl2 : 300 ≤ nm.size := by omega
  have q0 := HX0.out.cell 0 rfl
  have q1 := HX0.out.cell 1 rfl
  go_enter Tryz.func7, Tryz.ntmps7
  go_wp2
  go_quiet (fail)
  go_wp2_with fail
  refine (HN.out _).mono ?_
  rintro e w1 ⟨rfl, hw1⟩
  have HB1 : Hid (Below w.heap.size w w1) := by rw [hw1]; exact on_drewN HB0.out _
  clear hw1 q0 q1
  go_wp2_with fail
  refine (HRf.out w1).mono ?_
  rintro e w2 ⟨rb, rfl, hb2⟩
  have HB2 : Hid (Below w.heap.size w w2) := on_trans HB1.out hb2
  clear hb2 HB1 HB0 HX0 HN HRf
  go_wp2_with fail
  refine (HLk.out _ _ _).mono ?_
  rintro e w3 ⟨rfl, hb3⟩
  have HB3 : Hid (Below w.heap.size w w3) := on_trans HB2.out hb3
  clear hb3 HB2
  go_wp2_with fail
  refine (HCr.out _ _ _ _ _).mono ?_
  rintro e w4 ⟨rfl, hb4⟩
  have HB4 : Hid (Below w.heap.size w w4) := on_trans HB3.out hb4
  clear hb4 HB3
  go_wp2_with fail
  refine (HRm.out _).mono ?_
  rintro e w5 ⟨rfl, hw5⟩
  subst w5
  go_wp2_with fail
  refine (HSt.out _ _).mono ?_
  rintro e w6 ⟨rfl, hb6⟩
  have HB6 : Hid (Below w.heap.size w (w6.alloc (.cells #[.int .i64 0, .int .i64 0, .int .i64 0, .int .i64 0, .int .i64 0] 74))) := on_trans (on_trans HB4.out hb6) (on_alloc w6 _)
  clear hb6 HB4
  go_wp2_with fail
  refine (HLs.out _ _ _ _).mono ?_
  rintro e w7 ⟨rfl, hb7⟩
  have HB7 : Hid (Below w.heap.size w w7) := on_trans HB6.out hb7
  clear hb7 HB6
  go_wp2_with fail
  refine (HNx.out _).mono ?_
  rintro e w8 ⟨rfl, hw8⟩
  subst w8
  go_wp2_with fail
  refine (HDp.out _).mono ?_
  rintro e w8 ⟨rfl, hw8⟩
  subst w8
  go_wp2_with fail
  refine (HWi.out _ _ _).mono ?_
  rintro e w8 ⟨rfl, hw8⟩
  subst w8
  go_wp2_with fail
  refine (HUn.out _ _ _).mono ?_
  rintro e w9 ⟨rfl, hb9⟩
  have HB9 : Hid (Below w.heap.size w w9) := on_trans HB7.out hb9
  clear hb9 HB7
  go_wp2_with fail
  refine (HRd.out _ _ _).mono ?_
  rintro e w10 ⟨rfl, hb10⟩
  have HB10 : Hid (Below w.heap.size w w10) := on_trans HB9.out hb10
  clear hb10 HB9
  go_wp2_with fail
  refine (HRn.out _ _ _ _ _).mono ?_
  rintro e w11 ⟨rfl, hb11⟩
  have HB11 : Hid (Below w.heap.size w w11) := on_trans HB10.out hb11
  clear hb11 HB10
  go_wp2_with fail
  refine (HLn.out _ _ _ _).mono ?_
  rintro e w12 ⟨rfl, hb12⟩
  have HB12 : Hid (Below w.heap.size w w12) := on_trans HB11.out hb12
  clear hb12 HB11
  go_wp2_with fail
  refine (HHo.out _ _).mono ?_
  rintro e w13 ⟨rfl, hw13⟩
  subst w13
  go_wp2_with fail
  refine (HRl.out _ _).mono ?_
  rintro e w14 ⟨rfl, hb14⟩
  have HB14 : Hid (Below w.heap.size w w14) := on_trans HB12.out hb14
  clear hb14 HB12
  go_wp2_with fail
  refine (HL.out _).mono ?_
  rintro e w15 ⟨rfl, hb15⟩
  go_wp2
  exact HQ.out _ (on_trans HB14.out hb15)

end Go.Proofs.YtckhkammedbpfaaGreat
