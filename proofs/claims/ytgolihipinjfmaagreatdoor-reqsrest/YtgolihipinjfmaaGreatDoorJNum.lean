/- The five numbers of a request, each asked with its letter. -/
import Derived.Test.YtgolihipinjfmaaGreatDoorJFun
namespace Go.Proofs.YtgolihipinjfmaaGreatDoor.J
open Go Go.RowKit
open Go.Proofs.YtgolihipinjfmaaGreatDoor.C (cshape byt byt_list byt_size row_size)

theorem idx_at (s : List UInt8) (j : Nat) (hj : j < s.length) (z : Int) (hz : z = (j : Int)) (w : World) : (Instr.index 9 (.string (byt s)) (.int .i64 z)).run Tryz.prog w = .ok (.int .u8 (ltr s j)) w := by
  subst hz
  rw [run_index_string w 9 (byt s) .i64 (j : Int) Tryz.underlying9]
  have hs : j < (byt s).size := by rw [byt_size]; exact hj
  have e : (byt s)[j] = s[j] := by
    show (byt s).data[j] = s[j]
    simp [byt]
    rfl
  have e2 : ltr s j = ((byt s)[j].toNat : Int) := by rw [e]; exact ltr_at (List.getElem?_eq_getElem hj)
  rw [e2]
  simp [hs]

/-- What a function value is asked: a letter and a number. -/
def SoAt (g : FuncId) (lb : Array Value) (f : Int → Int → Bool) (w : World) : Prop :=
  ∀ (W : World) (c n : Int), Below w.heap.size w W → Calls Tryz.prog g (#[.int .u8 c, .int .i64 n] ++ lb) W fun e W' => e = .returned (.bool (f c n)) ∧ Below W.heap.size W W'
def arrC (a0 a1 a2 a3 a4 : Int) : List Value := [.int .i64 a0, .int .i64 a1, .int .i64 a2, .int .i64 a3, .int .i64 a4]
theorem aggArr : ∀ w, (isAgg 22).run Tryz.prog w = .ok true w := Tryz.isAgg22
theorem infoArr : (Tryz.prog.info? 22).map (·.size) = some 5 := by kernel_rfl
theorem agg_0 (a0 a1 a2 a3 a4 : Int) (w : World) : (Instr.index 22 (.agg #[.int .i64 a0, .int .i64 a1, .int .i64 a2, .int .i64 a3, .int .i64 a4]) (.int .i64 0)).run Tryz.prog w = .ok (.int .i64 a0) w := by kernel_rfl
theorem agg_1 (a0 a1 a2 a3 a4 : Int) (w : World) : (Instr.index 22 (.agg #[.int .i64 a0, .int .i64 a1, .int .i64 a2, .int .i64 a3, .int .i64 a4]) (.int .i64 1)).run Tryz.prog w = .ok (.int .i64 a1) w := by kernel_rfl
theorem agg_2 (a0 a1 a2 a3 a4 : Int) (w : World) : (Instr.index 22 (.agg #[.int .i64 a0, .int .i64 a1, .int .i64 a2, .int .i64 a3, .int .i64 a4]) (.int .i64 2)).run Tryz.prog w = .ok (.int .i64 a2) w := by kernel_rfl
theorem agg_3 (a0 a1 a2 a3 a4 : Int) (w : World) : (Instr.index 22 (.agg #[.int .i64 a0, .int .i64 a1, .int .i64 a2, .int .i64 a3, .int .i64 a4]) (.int .i64 3)).run Tryz.prog w = .ok (.int .i64 a3) w := by kernel_rfl
theorem agg_4 (a0 a1 a2 a3 a4 : Int) (w : World) : (Instr.index 22 (.agg #[.int .i64 a0, .int .i64 a1, .int .i64 a2, .int .i64 a3, .int .i64 a4]) (.int .i64 4)).run Tryz.prog w = .ok (.int .i64 a4) w := by kernel_rfl
/-- From one number on. -/
def numR (f : Int → Int → Bool) (s : List UInt8) (a : List Int) (j : Nat) : Bool := (List.range (5 - j)).all fun i => f (ltr s (j + i)) (a.getD (j + i) 0)
theorem numR_0 (f : Int → Int → Bool) (s : List UInt8) (a : List Int) : numR f s a 0 = numB f s a := by unfold numR numB; simp
theorem numR_5 (f : Int → Int → Bool) (s : List UInt8) (a : List Int) : numR f s a 5 = true := by unfold numR; simp
theorem numR_step (f : Int → Int → Bool) (s : List UInt8) (a : List Int) (j : Nat) (hj : j < 5) : numR f s a j = (f (ltr s j) (a.getD j 0) && numR f s a (j + 1)) := by
  unfold numR
  rw [show 5 - j = 5 - (j + 1) + 1 by omega, List.range_succ_eq_map, List.all_cons, List.all_map]
  have e : (fun i => f (ltr s (j + i)) (a.getD (j + i) 0)) ∘ Nat.succ = fun i => f (ltr s (j + 1 + i)) (a.getD (j + 1 + i) 0) := by
    funext i
    simp only [Function.comp, Nat.succ_eq_add_one]
    rw [show j + (i + 1) = j + 1 + i by omega]
  rw [e]
  rfl

set_option maxRecDepth 100000 in
set_option maxHeartbeats 2000000 in
theorem numbers_at (k : Fin 64) (a0 a1 a2 a3 a4 : Int) (g : FuncId) (lb : Array Value) (eg : ∀ args w, (callFunc g args).run Tryz.prog w = .ok (.enter g args) w) (f : Int → Int → Bool) (w : World) (hu : Ut w) (hs : SoAt g lb f w) :
    Calls Tryz.prog 21 #[.string (byt (cshape k)), .agg #[.int .i64 a0, .int .i64 a1, .int .i64 a2, .int .i64 a3, .int .i64 a4], .func (.func g) #[] lb] w fun e W => e = .returned (.bool (numB f (sm k) [a0, a1, a2, a3, a4])) ∧ Below w.heap.size w W := by
  have hB := on_alloc w (.cells #[.int .i64 a0, .int .i64 a1, .int .i64 a2, .int .i64 a3, .int .i64 a4] 22)
  have bA := Blk.new w 22 (arrC a0 a1 a2 a3 a4)
  have cM := smalls_at k (w.alloc (.cells #[.int .i64 a0, .int .i64 a1, .int .i64 a2, .int .i64 a3, .int .i64 a4] 22)) (hu.below hB)
  obtain ⟨P, hP⟩ : ∃ P, numB f (sm k) [a0, a1, a2, a3, a4] = P := ⟨_, rfl⟩
  have HP : Hid (numR f (sm k) [a0, a1, a2, a3, a4] 0 = P) := by show _ = _; rw [numR_0]; exact hP
  rw [hP]
  have hix := fun j hj z hz => idx_at (sm k) j hj z hz
  have hno : ∀ j, (sm k).length ≤ j → ltr (sm k) j = 46 := fun j hj => ltr_no hj
  have hst := fun j hj => numR_step f (sm k) [a0, a1, a2, a3, a4] j hj
  have hend := numR_5 f (sm k) [a0, a1, a2, a3, a4]
  have hsz : (byt (sm k)).size = (sm k).length := byt_size _
  obtain ⟨m, hm⟩ : ∃ m, (sm k).length = m := ⟨_, rfl⟩
  rw [hm] at hix hno hsz
  have hz0 : [a0, a1, a2, a3, a4].getD 0 0 = a0 := rfl
  have hz1 : [a0, a1, a2, a3, a4].getD 1 0 = a1 := rfl
  have hz2 : [a0, a1, a2, a3, a4].getD 2 0 = a2 := rfl
  have hz3 : [a0, a1, a2, a3, a4].getD 3 0 = a3 := rfl
  have hz4 : [a0, a1, a2, a3, a4].getD 4 0 = a4 := rfl
  have bA' : Blk (w.alloc (.cells #[.int .i64 a0, .int .i64 a1, .int .i64 a2, .int .i64 a3, .int .i64 a4] 22)) w.heap.size 22 (arrC a0 a1 a2 a3 a4) := bA
  clear hP hm bA
  generalize byt (sm k) = t at *
  generalize byt (cshape k) = sh at *
  generalize ltr (sm k) = lt at *
  generalize numR f (sm k) [a0, a1, a2, a3, a4] = R at *
  generalize [a0, a1, a2, a3, a4] = al at *
  go_enter Tryz.func21, Tryz.ntmps21
  go_upto_region 2 with (go_at_call 35; refine cM.mono ?_; rintro e W1 ⟨rfl, hb1⟩)
  have hbw := on_trans hB hb1
  have bD := bA'.on hb1
  have hld := run_loadVar_blk (cs := arrC a0 a1 a2 a3 a4) aggArr infoArr bD
  unfold arrC at bD
  have x0 := bD.cell 0 rfl
  have x1 := bD.cell 1 rfl
  have x2 := bD.cell 2 rfl
  have x3 := bD.cell 3 rfl
  have x4 := bD.cell 4 rfl
  clear cM hB bA' hb1 bD
  have HH : Hid (SoAt g lb f w) := hs
  clear hs
  go_wp2_with fail
  go_loopw [14] (fun iv wr => ∃ j : Nat, j ≤ 5 ∧ iv = .int .i64 (j : Int) ∧ Hid (R j = P ∧ Below w.heap.size w wr)) (fun iv _ => 5 - (intOf iv).toNat)
  case atStart => exact ⟨0, by omega, rfl, HP.out, by first | exact hbw | exact on_drew hbw⟩
  case round =>
    clear x0 x1 x2 x3 x4 hld
    obtain ⟨j, hj, rfl, HI⟩ := hrel
    have hj6 : j = 0 ∨ j = 1 ∨ j = 2 ∨ j = 3 ∨ j = 4 ∨ j = 5 := by omega
    rcases hj6 with rfl | rfl | rfl | rfl | rfl | rfl
    · have hR := hst 0 (by omega)
      rw [hz0, HI.out.1] at hR
      have hag := agg_0 a0 a1 a2 a3 a4
      by_cases hlt : 0 < m
      · have hltz : (0 : Int) < (m : Int) := by omega
        have hi := hix 0 hlt 0 rfl
        have cS := HH.out wr (lt 0) a0 HI.out.2
        generalize lt 0 = c at *
        clear hix hno hst hend hz0 hz1 hz2 hz3 hz4
        generalize f c a0 = v at *
        cases v
        · have hPf : P = false := hR
          subst hPf
          clear hR
          go_wp2_with (go_at_fn g; refine cS.mono ?_; rintro e W2 ⟨rfl, hb2⟩)
          go_ret
          exact ⟨rfl, on_trans HI.out.2 hb2⟩
        · have HR : Hid (R 1 = P) := by show _ = _; rw [hR]; rfl
          clear hR
          go_wp2_with (go_at_fn g; refine cS.mono ?_; rintro e W2 ⟨rfl, hb2⟩)
          refine ⟨⟨1, by omega, by go_num, HR.out, on_trans HI.out.2 hb2⟩, by simp [intOf]⟩
      · have hltz : ¬ (0 : Int) < (m : Int) := by omega
        have cS := HH.out wr 46 a0 HI.out.2
        rw [hno 0 (by omega)] at hR
        clear hix hno hst hend hz0 hz1 hz2 hz3 hz4
        generalize f 46 a0 = v at *
        cases v
        · have hPf : P = false := hR
          subst hPf
          clear hR
          go_wp2_with (go_at_fn g; refine cS.mono ?_; rintro e W2 ⟨rfl, hb2⟩)
          go_ret
          exact ⟨rfl, on_trans HI.out.2 hb2⟩
        · have HR : Hid (R 1 = P) := by show _ = _; rw [hR]; rfl
          clear hR
          go_wp2_with (go_at_fn g; refine cS.mono ?_; rintro e W2 ⟨rfl, hb2⟩)
          refine ⟨⟨1, by omega, by go_num, HR.out, on_trans HI.out.2 hb2⟩, by simp [intOf]⟩
    · have hR := hst 1 (by omega)
      rw [hz1, HI.out.1] at hR
      have hag := agg_1 a0 a1 a2 a3 a4
      by_cases hlt : 1 < m
      · have hltz : (1 : Int) < (m : Int) := by omega
        have hi := hix 1 hlt 1 rfl
        have cS := HH.out wr (lt 1) a1 HI.out.2
        generalize lt 1 = c at *
        clear hix hno hst hend hz0 hz1 hz2 hz3 hz4
        generalize f c a1 = v at *
        cases v
        · have hPf : P = false := hR
          subst hPf
          clear hR
          go_wp2_with (go_at_fn g; refine cS.mono ?_; rintro e W2 ⟨rfl, hb2⟩)
          go_ret
          exact ⟨rfl, on_trans HI.out.2 hb2⟩
        · have HR : Hid (R 2 = P) := by show _ = _; rw [hR]; rfl
          clear hR
          go_wp2_with (go_at_fn g; refine cS.mono ?_; rintro e W2 ⟨rfl, hb2⟩)
          refine ⟨⟨2, by omega, by go_num, HR.out, on_trans HI.out.2 hb2⟩, by simp [intOf]⟩
      · have hltz : ¬ (1 : Int) < (m : Int) := by omega
        have cS := HH.out wr 46 a1 HI.out.2
        rw [hno 1 (by omega)] at hR
        clear hix hno hst hend hz0 hz1 hz2 hz3 hz4
        generalize f 46 a1 = v at *
        cases v
        · have hPf : P = false := hR
          subst hPf
          clear hR
          go_wp2_with (go_at_fn g; refine cS.mono ?_; rintro e W2 ⟨rfl, hb2⟩)
          go_ret
          exact ⟨rfl, on_trans HI.out.2 hb2⟩
        · have HR : Hid (R 2 = P) := by show _ = _; rw [hR]; rfl
          clear hR
          go_wp2_with (go_at_fn g; refine cS.mono ?_; rintro e W2 ⟨rfl, hb2⟩)
          refine ⟨⟨2, by omega, by go_num, HR.out, on_trans HI.out.2 hb2⟩, by simp [intOf]⟩
    · have hR := hst 2 (by omega)
      rw [hz2, HI.out.1] at hR
      have hag := agg_2 a0 a1 a2 a3 a4
      by_cases hlt : 2 < m
      · have hltz : (2 : Int) < (m : Int) := by omega
        have hi := hix 2 hlt 2 rfl
        have cS := HH.out wr (lt 2) a2 HI.out.2
        generalize lt 2 = c at *
        clear hix hno hst hend hz0 hz1 hz2 hz3 hz4
        generalize f c a2 = v at *
        cases v
        · have hPf : P = false := hR
          subst hPf
          clear hR
          go_wp2_with (go_at_fn g; refine cS.mono ?_; rintro e W2 ⟨rfl, hb2⟩)
          go_ret
          exact ⟨rfl, on_trans HI.out.2 hb2⟩
        · have HR : Hid (R 3 = P) := by show _ = _; rw [hR]; rfl
          clear hR
          go_wp2_with (go_at_fn g; refine cS.mono ?_; rintro e W2 ⟨rfl, hb2⟩)
          refine ⟨⟨3, by omega, by go_num, HR.out, on_trans HI.out.2 hb2⟩, by simp [intOf]⟩
      · have hltz : ¬ (2 : Int) < (m : Int) := by omega
        have cS := HH.out wr 46 a2 HI.out.2
        rw [hno 2 (by omega)] at hR
        clear hix hno hst hend hz0 hz1 hz2 hz3 hz4
        generalize f 46 a2 = v at *
        cases v
        · have hPf : P = false := hR
          subst hPf
          clear hR
          go_wp2_with (go_at_fn g; refine cS.mono ?_; rintro e W2 ⟨rfl, hb2⟩)
          go_ret
          exact ⟨rfl, on_trans HI.out.2 hb2⟩
        · have HR : Hid (R 3 = P) := by show _ = _; rw [hR]; rfl
          clear hR
          go_wp2_with (go_at_fn g; refine cS.mono ?_; rintro e W2 ⟨rfl, hb2⟩)
          refine ⟨⟨3, by omega, by go_num, HR.out, on_trans HI.out.2 hb2⟩, by simp [intOf]⟩
    · have hR := hst 3 (by omega)
      rw [hz3, HI.out.1] at hR
      have hag := agg_3 a0 a1 a2 a3 a4
      by_cases hlt : 3 < m
      · have hltz : (3 : Int) < (m : Int) := by omega
        have hi := hix 3 hlt 3 rfl
        have cS := HH.out wr (lt 3) a3 HI.out.2
        generalize lt 3 = c at *
        clear hix hno hst hend hz0 hz1 hz2 hz3 hz4
        generalize f c a3 = v at *
        cases v
        · have hPf : P = false := hR
          subst hPf
          clear hR
          go_wp2_with (go_at_fn g; refine cS.mono ?_; rintro e W2 ⟨rfl, hb2⟩)
          go_ret
          exact ⟨rfl, on_trans HI.out.2 hb2⟩
        · have HR : Hid (R 4 = P) := by show _ = _; rw [hR]; rfl
          clear hR
          go_wp2_with (go_at_fn g; refine cS.mono ?_; rintro e W2 ⟨rfl, hb2⟩)
          refine ⟨⟨4, by omega, by go_num, HR.out, on_trans HI.out.2 hb2⟩, by simp [intOf]⟩
      · have hltz : ¬ (3 : Int) < (m : Int) := by omega
        have cS := HH.out wr 46 a3 HI.out.2
        rw [hno 3 (by omega)] at hR
        clear hix hno hst hend hz0 hz1 hz2 hz3 hz4
        generalize f 46 a3 = v at *
        cases v
        · have hPf : P = false := hR
          subst hPf
          clear hR
          go_wp2_with (go_at_fn g; refine cS.mono ?_; rintro e W2 ⟨rfl, hb2⟩)
          go_ret
          exact ⟨rfl, on_trans HI.out.2 hb2⟩
        · have HR : Hid (R 4 = P) := by show _ = _; rw [hR]; rfl
          clear hR
          go_wp2_with (go_at_fn g; refine cS.mono ?_; rintro e W2 ⟨rfl, hb2⟩)
          refine ⟨⟨4, by omega, by go_num, HR.out, on_trans HI.out.2 hb2⟩, by simp [intOf]⟩
    · have hR := hst 4 (by omega)
      rw [hz4, HI.out.1] at hR
      have hag := agg_4 a0 a1 a2 a3 a4
      by_cases hlt : 4 < m
      · have hltz : (4 : Int) < (m : Int) := by omega
        have hi := hix 4 hlt 4 rfl
        have cS := HH.out wr (lt 4) a4 HI.out.2
        generalize lt 4 = c at *
        clear hix hno hst hend hz0 hz1 hz2 hz3 hz4
        generalize f c a4 = v at *
        cases v
        · have hPf : P = false := hR
          subst hPf
          clear hR
          go_wp2_with (go_at_fn g; refine cS.mono ?_; rintro e W2 ⟨rfl, hb2⟩)
          go_ret
          exact ⟨rfl, on_trans HI.out.2 hb2⟩
        · have HR : Hid (R 5 = P) := by show _ = _; rw [hR]; rfl
          clear hR
          go_wp2_with (go_at_fn g; refine cS.mono ?_; rintro e W2 ⟨rfl, hb2⟩)
          refine ⟨⟨5, by omega, by go_num, HR.out, on_trans HI.out.2 hb2⟩, by simp [intOf]⟩
      · have hltz : ¬ (4 : Int) < (m : Int) := by omega
        have cS := HH.out wr 46 a4 HI.out.2
        rw [hno 4 (by omega)] at hR
        clear hix hno hst hend hz0 hz1 hz2 hz3 hz4
        generalize f 46 a4 = v at *
        cases v
        · have hPf : P = false := hR
          subst hPf
          clear hR
          go_wp2_with (go_at_fn g; refine cS.mono ?_; rintro e W2 ⟨rfl, hb2⟩)
          go_ret
          exact ⟨rfl, on_trans HI.out.2 hb2⟩
        · have HR : Hid (R 5 = P) := by show _ = _; rw [hR]; rfl
          clear hR
          go_wp2_with (go_at_fn g; refine cS.mono ?_; rintro e W2 ⟨rfl, hb2⟩)
          refine ⟨⟨5, by omega, by go_num, HR.out, on_trans HI.out.2 hb2⟩, by simp [intOf]⟩
    · have hPt : P = true := by rw [← HI.out.1, hend]
      subst hPt
      clear hix hno hst hend hz0 hz1 hz2 hz3 hz4
      go_wp2
      go_ret
      exact ⟨rfl, HI.out.2⟩

end Go.Proofs.YtgolihipinjfmaaGreatDoor.J
