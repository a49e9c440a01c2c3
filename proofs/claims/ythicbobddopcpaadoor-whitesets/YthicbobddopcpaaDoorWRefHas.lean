/- What the reference's Can and Has answer, at every list. -/
import Derived.Test.YthicbobddopcpaaDoorWRefCan
namespace Go.Proofs.YthicbobddopcpaaDoor
open Go Go.RowKit Go.Shelf Go.Sort

set_option maxRecDepth 100000 in
theorem refCan_zero (all : Bool) (p : Option Addr) (cap : Nat) (w : World) :
    Calls Tryd.prog 15 #[.agg #[.bool all, .slice p 0 cap]] w fun e w' => e = .returned (.bool true) ∧ Below w.heap.size w w' := by
  have HB : Hid (Below w.heap.size w (w.alloc (.cells #[.bool all, .slice p 0 cap] 24))) := on_alloc w _
  go_enter Tryd.func15, Tryd.ntmps15
  go_wp2
  go_loop [3] (fun i => i = .int .i64 0) (fun _ => 0)
  case atStart => rfl
  case round =>
    subst hrel
    go_wp2
    go_ret
    exact ⟨rfl, HB.out⟩

theorem refCan_any (all : Bool) (p : Option Addr) (cap : Nat) (l : List Int) (w : World) (hl : l.length ≤ 9223372036854775807) (h : At w p l) :
    Calls Tryd.prog 15 #[.agg #[.bool all, .slice p l.length cap]] w fun e w' => e = .returned (.bool (canB all l)) ∧ Below w.heap.size w w' := by
  rcases h with rfl | ⟨b, off, rfl, hlt, hc⟩
  · rw [canB_nil]; exact refCan_zero all p cap w
  · exact refCan_some all b off cap l w hl hlt hc

set_option maxRecDepth 100000 in
set_option maxHeartbeats 1000000 in
theorem refHas_any (all : Bool) (p : Option Addr) (cap : Nat) (l : List Int) (x : Int) (w : World) (hl : l.length ≤ 9223372036854775807) (h : At w p l) :
    Calls Tryd.prog 18 #[.agg #[.bool all, .slice p l.length cap], .int .i64 x] w fun e w' => e = .returned (.bool (hasF all l x)) ∧ Below w.heap.size w w' := by
  have HB : Hid (Below w.heap.size w (w.alloc (.cells #[.bool all, .slice p l.length cap] 24))) := on_alloc w _
  have HX : Hid (Box (w.alloc (.cells #[.bool all, .slice p l.length cap] 24)) w.heap.size (.bool all) (.slice p l.length cap)) := Box.new w _ _
  have c1 := fun w1 (hb : Below w.heap.size w w1) => refCan_any all p cap l w1 hl (h.below hb (Nat.le_refl _))
  have c2 := fun w1 (hb : Below w.heap.size w w1) => in_any p cap l x w1 hl (h.below hb (Nat.le_refl _))
  obtain ⟨cv, hcv⟩ : ∃ cv, canB all l = cv := ⟨_, rfl⟩
  have HV : Hid (canB all l = cv) := hcv
  obtain ⟨r, hr⟩ : ∃ r, hasF all l x = r := ⟨_, rfl⟩
  have HR : Hid (canB all l = true → hasB all l x = r) := fun h => by rw [← hr]; unfold hasF; rw [h, Bool.true_and]
  have HF : Hid (canB all l = false → r = false) := fun h => by rw [← hr]; unfold hasF; rw [h, Bool.false_and]
  rw [hcv] at c1
  rw [hr]
  clear hcv hr h
  cases cv with
  | false =>
    obtain rfl : r = false := HF.out HV.out
    clear c2
    go_enter Tryd.func18, Tryd.ntmps18
    go_wp2_with fail
    refine (c1 _ HB.out).mono ?_
    rintro e w1 ⟨rfl, hb1⟩
    go_wp2
    go_ret
    exact ⟨rfl, on_trans HB.out hb1⟩
  | true =>
    have hrr := HR.out HV.out
    by_cases hx : 0 ≤ x
    · have d1 : decide (0 ≤ x) = true := decide_eq_true hx
      cases all with
      | true =>
        obtain rfl : r = true := by rw [← hrr]; exact d1
        clear hrr c2
        go_enter Tryd.func18, Tryd.ntmps18
        go_wp2_with fail
        refine (c1 _ HB.out).mono ?_
        rintro e w1 ⟨rfl, hb1⟩
        have hX1 := HX.out.on hb1
        have x0 := hX1.fst
        have x1 := hX1.snd
        go_wp2
        go_ret
        exact ⟨rfl, on_trans HB.out hb1⟩
      | false =>
        rw [show l.contains x = r from hrr] at c2
        clear hrr
        go_enter Tryd.func18, Tryd.ntmps18
        go_wp2_with fail
        refine (c1 _ HB.out).mono ?_
        rintro e w1 ⟨rfl, hb1⟩
        have hX1 := HX.out.on hb1
        have x0 := hX1.fst
        have x1 := hX1.snd
        have hB1 := on_trans HB.out hb1
        go_wp2_with fail
        refine (c2 _ hB1).mono ?_
        rintro e w2 ⟨rfl, hw2⟩
        subst hw2
        go_wp2
        go_ret
        exact ⟨rfl, hB1⟩
    · have d1 : decide (0 ≤ x) = false := decide_eq_false hx
      obtain rfl : r = false := by
        rw [← hrr]
        cases all with
        | true => exact d1
        | false =>
          have := (canB_rise HV.out).2.1
          show l.contains x = false
          cases hc : l.contains x with
          | false => rfl
          | true => exact absurd (this x (by simpa using hc)) hx
      clear hrr c2
      go_enter Tryd.func18, Tryd.ntmps18
      go_wp2_with fail
      refine (c1 _ HB.out).mono ?_
      rintro e w1 ⟨rfl, hb1⟩
      go_wp2
      go_ret
      exact ⟨rfl, on_trans HB.out hb1⟩

end Go.Proofs.YthicbobddopcpaaDoor
