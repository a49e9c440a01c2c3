/- What the reference's Of and Each answer. -/
import Derived.Test.YtndnpcegofbbaaaDoorRef
namespace Go.Proofs.YtndnpcegofbbaaaDoor
open Go Go.RowKit Go.Shelf

theorem ret_u32 {a b : Int} (h : a = b) : Ending.returned (.int .u32 a) = .returned (.int .u32 b) := by rw [h]

set_option maxHeartbeats 400000 in
theorem refOf_any (g cap : Nat) (l : List Bool) (w : World) (hl : l.length ≤ 32) (hc : ∀ j, j < l.length → w.cell? ⟨g, j, none⟩ = some (.bool (l.getD j false))) :
    Calls Tryd.prog 30 #[.slice (some ⟨g, 0, none⟩) l.length cap] w fun e w' => e = .returned (.int .u32 (ofL l)) ∧ w' = w := by
  have HC : Hid (∀ j, j < l.length → w.cell? ⟨g, j, none⟩ = some (.bool (l.getD j false))) := hc
  clear hc
  go_enter Tryd.func30, Tryd.ntmps30
  go_wp2
  go_loop [3, 4] (fun a i => ∃ k : Nat, k ≤ l.length ∧ i = .int .i64 ((k : Int) - 1) ∧ a = .int .u32 (ofL (l.drop k))) (fun _ i => (intOf i + 1).toNat)
  case atStart => exact ⟨l.length, Nat.le_refl _, rfl, by simp [ofL]⟩
  case round =>
    obtain ⟨k, hk, rfl, rfl⟩ := hrel
    cases k with
    | zero =>
      go_wp2
      go_ret
      exact ⟨ret_u32 (by simp), rfl⟩
    | succ j =>
      have hcell := HC.out j (by omega)
      have HD : Hid (ofL (l.drop j) = 2 * ofL (l.drop (j + 1)) + (l.getD j false).toNat) := ofL_drop (by omega)
      have hlt : ofL (l.drop (j + 1)) < 2147483648 := Nat.lt_of_lt_of_le (ofL_lt _) (by
        rw [List.length_drop]
        have : 2 ^ (l.length - (j + 1)) ≤ 2 ^ 31 := Nat.pow_le_pow_right (by omega) (by omega)
        simpa using this)
      have ej : (((j + 1 : Nat) : Int) - 1) = (j : Int) := by omega
      rw [ej]
      clear ej
      generalize ofL (l.drop (j + 1)) = c at *
      generalize l.getD j false = b at *
      cases b
      all_goals
        go_wp2
        exact ⟨⟨j, by omega, rfl, by rw [HD.out]; simp; omega⟩, by simp [intOf]⟩

/-- One right of two sets, by the word: what is in both, in one, in the first alone. -/
def eachB (h : Nat) (x y : Bool) : Bool := match h with
  | 0 => x && y
  | 1 => x || y
  | _ => x && !y
def eachL (h a b k : Nat) : List Bool := (List.range k).map fun i => eachB h (a.testBit i) (b.testBit i)
theorem eachL_succ (h a b k : Nat) : eachL h a b (k + 1) = eachL h a b k ++ [eachB h (a.testBit k) (b.testBit k)] := by simp [eachL, List.range_succ]
theorem eachL_length (h a b k : Nat) : (eachL h a b k).length = k := by simp [eachL]

theorem infoBool : (Tryd.prog.info? 4).map (fun i => (i.zero, i.size, i.bytes)) = some (some (.bool false), 1, 1) := by kernel_rfl

theorem row_bools {w : World} {base : Nat} {e : TypeId} {v : Value} {xs : List Bool} (h : w.ownsRow base e 1 v xs.length (xs.map Value.bool)) (hne : xs ≠ []) :
    ∃ g cap, v = .slice (some ⟨g, 0, none⟩) xs.length cap ∧ ∀ j, j < xs.length → w.cell? ⟨g, j, none⟩ = some (.bool (xs.getD j false)) := by
  rcases h.2 with ⟨_, h0⟩ | ⟨g, cap, cur, rfl, hb, hg, hc, _, hs, ht⟩
  · exact absurd (List.eq_nil_of_length_eq_zero h0) hne
  · refine ⟨g, cap, rfl, fun j hj => ?_⟩
    have h1 : (xs.map Value.bool)[j]? = some (.bool (xs.getD j false)) := by simp [hj]
    rw [← ht, List.getElem?_take_of_lt (by omega)] at h1
    simp only [World.cell?, hg]
    simpa using h1

theorem each_fin {h a b k : Nat} {z : Bool} (hz : eachB h (a.testBit k) (b.testBit k) = z) {w w1 w2 : World} {v v' : Value} (hb1 : Below w.heap.size w w1)
    (hr1 : w1.ownsRow w.heap.size 4 1 v k ((eachL h a b k).map Value.bool)) (hr2 : w2.ownsRow w.heap.size 4 1 v' (k + 1) ((eachL h a b k).map Value.bool ++ [Value.bool z])) {o : Obj} (hg : (w1.alloc o).grownBy w2 v.ownBlock) :
    w2.ownsRow w.heap.size 4 1 v' (eachL h a b (k + 1)).length ((eachL h a b (k + 1)).map Value.bool) ∧ Below w.heap.size w w2 := by
  refine ⟨?_, (hb1.alloc hb1.size _).grown hg (by have := hb1.size; simp; omega) (fun j ej => row_base hr1 j ej)⟩
  rw [eachL_succ, hz]
  simpa [eachL_length] using hr2

set_option maxRecDepth 100000 in
set_option maxHeartbeats 4000000 in
theorem refEach0 (a b : Nat) (ha : a < 4294967296) (hb : b < 4294967296) (w : World) :
    Calls Tryd.prog 10 #[.int .u32 (a : Int), .int .u32 (b : Int), .int .i64 0] w fun e w' => e = .returned (.int .u32 (ofL (eachL 0 a b 32))) ∧ Below w.heap.size w w' := by
  obtain ⟨i0, hi, hz0, hz1, hz2⟩ := info_parts infoBool
  go_enter Tryd.func10, Tryd.ntmps10
  go_wp2
  go_loopw [7, 8] (fun v i wr => ∃ k : Nat, k ≤ 32 ∧ i = .int .i64 k ∧ wr.ownsRow w.heap.size 4 1 v (eachL 0 a b k).length ((eachL 0 a b k).map Value.bool) ∧ Below w.heap.size w wr) (fun _ i _ => 32 - (intOf i).toNat)
  case atStart => exact ⟨0, by omega, rfl, ⟨rfl, .inr ⟨w.heap.size, 0, #[], rfl, Nat.le_refl _, World.alloc_heap_new w _, Nat.le_refl _, by unfold maxLen; omega, rfl, rfl⟩⟩, (Below.refl _ _).alloc (Nat.le_refl _) _⟩
  case round =>
    obtain ⟨k, hk, rfl, hown, hbl⟩ := hrel
    by_cases hlt : k < 32
    · have c1 := refHas_any a k hlt ha
      have c2 := refHas_any b k hlt hb
      rw [eachL_length] at hown
      obtain ⟨z, HZ⟩ : ∃ z, Hid (eachB 0 (a.testBit k) (b.testBit k) = z) := ⟨_, rfl⟩
      have HZ2 : Hid (eachB 0 (a.testBit k) (b.testBit k) = z) := HZ
      clear ha hb
      cases hp : a.testBit k
      all_goals cases hq : b.testBit k
      all_goals
        rw [hp] at c1 HZ2
        rw [hq] at c2 HZ2
        clear hp hq
        go_wp2_with fail
        refine (c1 _).mono ?_
        rintro e w' ⟨rfl, rfl⟩
        go_wp2_with fail
        refine (c2 _).mono ?_
        rintro e w' ⟨rfl, rfl⟩
        go_wp2_with (at_builtin; refine wpList_append_own _ rfl _ _ 47 rfl w.heap.size 4 i0 (.bool false) 1 1 Tryd.underlying47 hi hz0 hz1 hz2 rfl (by decide) _ _ _ rfl (hown.alloc _) ⟨_, 0, none⟩ 1 1 [.bool z] rfl rfl ?c1 ?c2 ?c3 ?c4 ?c5 ?_)
        case c1 =>
          intro j u hj
          match j, hj with
          | 0, hj => simp at hj; subst hj; rw [← HZ2.out]; simp [Addr.add, eachB]
        case c2 => intro u hu; simp at hu; subst hu; rfl
        case c3 => unfold maxLen; omega
        case c4 => omega
        case c5 => have := hbl.size; simp; omega
        intro v' w1 hown' hgrow _
        have HF := each_fin HZ.out hbl hown hown' hgrow
        clear hgrow hown' hown
        go_wp2
        go_roundw
        case rel => exact ⟨k + 1, by omega, by go_num, HF.1, HF.2⟩
        case measure => simp [intOf]; omega
    · obtain rfl : k = 32 := by omega
      obtain ⟨g, cap, rfl, hcells⟩ := row_bools hown (by intro e; have := eachL_length 0 a b 32; rw [e] at this; cases this)
      have hcall := refOf_any g cap (eachL 0 a b 32) wr (by rw [eachL_length]; omega) hcells
      clear hcells hown
      go_wp2_with (go_at_call 30; refine hcall.mono ?_; rintro e w' ⟨rfl, rfl⟩)
      go_ret
      exact ⟨rfl, hbl⟩

set_option maxRecDepth 100000 in
set_option maxHeartbeats 4000000 in
theorem refEach1 (a b : Nat) (ha : a < 4294967296) (hb : b < 4294967296) (w : World) :
    Calls Tryd.prog 10 #[.int .u32 (a : Int), .int .u32 (b : Int), .int .i64 1] w fun e w' => e = .returned (.int .u32 (ofL (eachL 1 a b 32))) ∧ Below w.heap.size w w' := by
  obtain ⟨i0, hi, hz0, hz1, hz2⟩ := info_parts infoBool
  go_enter Tryd.func10, Tryd.ntmps10
  go_wp2
  go_loopw [7, 8] (fun v i wr => ∃ k : Nat, k ≤ 32 ∧ i = .int .i64 k ∧ wr.ownsRow w.heap.size 4 1 v (eachL 1 a b k).length ((eachL 1 a b k).map Value.bool) ∧ Below w.heap.size w wr) (fun _ i _ => 32 - (intOf i).toNat)
  case atStart => exact ⟨0, by omega, rfl, ⟨rfl, .inr ⟨w.heap.size, 0, #[], rfl, Nat.le_refl _, World.alloc_heap_new w _, Nat.le_refl _, by unfold maxLen; omega, rfl, rfl⟩⟩, (Below.refl _ _).alloc (Nat.le_refl _) _⟩
  case round =>
    obtain ⟨k, hk, rfl, hown, hbl⟩ := hrel
    by_cases hlt : k < 32
    · have c1 := refHas_any a k hlt ha
      have c2 := refHas_any b k hlt hb
      rw [eachL_length] at hown
      obtain ⟨z, HZ⟩ : ∃ z, Hid (eachB 1 (a.testBit k) (b.testBit k) = z) := ⟨_, rfl⟩
      have HZ2 : Hid (eachB 1 (a.testBit k) (b.testBit k) = z) := HZ
      clear ha hb
      cases hp : a.testBit k
      all_goals cases hq : b.testBit k
      all_goals
        rw [hp] at c1 HZ2
        rw [hq] at c2 HZ2
        clear hp hq
        go_wp2_with fail
        refine (c1 _).mono ?_
        rintro e w' ⟨rfl, rfl⟩
        go_wp2_with fail
        refine (c2 _).mono ?_
        rintro e w' ⟨rfl, rfl⟩
        go_wp2_with (at_builtin; refine wpList_append_own _ rfl _ _ 47 rfl w.heap.size 4 i0 (.bool false) 1 1 Tryd.underlying47 hi hz0 hz1 hz2 rfl (by decide) _ _ _ rfl (hown.alloc _) ⟨_, 0, none⟩ 1 1 [.bool z] rfl rfl ?c1 ?c2 ?c3 ?c4 ?c5 ?_)
        case c1 =>
          intro j u hj
          match j, hj with
          | 0, hj => simp at hj; subst hj; rw [← HZ2.out]; simp [Addr.add, eachB]
        case c2 => intro u hu; simp at hu; subst hu; rfl
        case c3 => unfold maxLen; omega
        case c4 => omega
        case c5 => have := hbl.size; simp; omega
        intro v' w1 hown' hgrow _
        have HF := each_fin HZ.out hbl hown hown' hgrow
        clear hgrow hown' hown
        go_wp2
        go_roundw
        case rel => exact ⟨k + 1, by omega, by go_num, HF.1, HF.2⟩
        case measure => simp [intOf]; omega
    · obtain rfl : k = 32 := by omega
      obtain ⟨g, cap, rfl, hcells⟩ := row_bools hown (by intro e; have := eachL_length 1 a b 32; rw [e] at this; cases this)
      have hcall := refOf_any g cap (eachL 1 a b 32) wr (by rw [eachL_length]; omega) hcells
      clear hcells hown
      go_wp2_with (go_at_call 30; refine hcall.mono ?_; rintro e w' ⟨rfl, rfl⟩)
      go_ret
      exact ⟨rfl, hbl⟩

set_option maxRecDepth 100000 in
set_option maxHeartbeats 4000000 in
theorem refEach2 (a b : Nat) (ha : a < 4294967296) (hb : b < 4294967296) (w : World) :
    Calls Tryd.prog 10 #[.int .u32 (a : Int), .int .u32 (b : Int), .int .i64 2] w fun e w' => e = .returned (.int .u32 (ofL (eachL 2 a b 32))) ∧ Below w.heap.size w w' := by
  obtain ⟨i0, hi, hz0, hz1, hz2⟩ := info_parts infoBool
  go_enter Tryd.func10, Tryd.ntmps10
  go_wp2
  go_loopw [7, 8] (fun v i wr => ∃ k : Nat, k ≤ 32 ∧ i = .int .i64 k ∧ wr.ownsRow w.heap.size 4 1 v (eachL 2 a b k).length ((eachL 2 a b k).map Value.bool) ∧ Below w.heap.size w wr) (fun _ i _ => 32 - (intOf i).toNat)
  case atStart => exact ⟨0, by omega, rfl, ⟨rfl, .inr ⟨w.heap.size, 0, #[], rfl, Nat.le_refl _, World.alloc_heap_new w _, Nat.le_refl _, by unfold maxLen; omega, rfl, rfl⟩⟩, (Below.refl _ _).alloc (Nat.le_refl _) _⟩
  case round =>
    obtain ⟨k, hk, rfl, hown, hbl⟩ := hrel
    by_cases hlt : k < 32
    · have c1 := refHas_any a k hlt ha
      have c2 := refHas_any b k hlt hb
      rw [eachL_length] at hown
      obtain ⟨z, HZ⟩ : ∃ z, Hid (eachB 2 (a.testBit k) (b.testBit k) = z) := ⟨_, rfl⟩
      have HZ2 : Hid (eachB 2 (a.testBit k) (b.testBit k) = z) := HZ
      clear ha hb
      cases hp : a.testBit k
      all_goals cases hq : b.testBit k
      all_goals
        rw [hp] at c1 HZ2
        rw [hq] at c2 HZ2
        clear hp hq
        go_wp2_with fail
        refine (c1 _).mono ?_
        rintro e w' ⟨rfl, rfl⟩
        go_wp2_with fail
        refine (c2 _).mono ?_
        rintro e w' ⟨rfl, rfl⟩
        go_wp2_with (at_builtin; refine wpList_append_own _ rfl _ _ 47 rfl w.heap.size 4 i0 (.bool false) 1 1 Tryd.underlying47 hi hz0 hz1 hz2 rfl (by decide) _ _ _ rfl (hown.alloc _) ⟨_, 0, none⟩ 1 1 [.bool z] rfl rfl ?c1 ?c2 ?c3 ?c4 ?c5 ?_)
        case c1 =>
          intro j u hj
          match j, hj with
          | 0, hj => simp at hj; subst hj; rw [← HZ2.out]; simp [Addr.add, eachB]
        case c2 => intro u hu; simp at hu; subst hu; rfl
        case c3 => unfold maxLen; omega
        case c4 => omega
        case c5 => have := hbl.size; simp; omega
        intro v' w1 hown' hgrow _
        have HF := each_fin HZ.out hbl hown hown' hgrow
        clear hgrow hown' hown
        go_wp2
        go_roundw
        case rel => exact ⟨k + 1, by omega, by go_num, HF.1, HF.2⟩
        case measure => simp [intOf]; omega
    · obtain rfl : k = 32 := by omega
      obtain ⟨g, cap, rfl, hcells⟩ := row_bools hown (by intro e; have := eachL_length 2 a b 32; rw [e] at this; cases this)
      have hcall := refOf_any g cap (eachL 2 a b 32) wr (by rw [eachL_length]; omega) hcells
      clear hcells hown
      go_wp2_with (go_at_call 30; refine hcall.mono ?_; rintro e w' ⟨rfl, rfl⟩)
      go_ret
      exact ⟨rfl, hbl⟩

theorem each0 {a b : Nat} (ha : a < 4294967296) : ofL (eachL 0 a b 32) = a &&& b := ofL_map _ _ (and_lt ha) (fun i _ => by simp [Nat.testBit_and, eachB])
theorem each1 {a b : Nat} (ha : a < 4294967296) (hb : b < 4294967296) : ofL (eachL 1 a b 32) = a ||| b := ofL_map _ _ (or_lt ha hb) (fun i _ => by simp [Nat.testBit_or, eachB])
theorem each2 {a b : Nat} (ha : a < 4294967296) (hb : b < 4294967296) : ofL (eachL 2 a b 32) = a &&& (4294967295 - b) := ofL_map _ _ (and_lt ha) (fun i hi => by simp [Nat.testBit_and, testBit_not hb, eachB, hi])

end Go.Proofs.YtndnpcegofbbaaaDoor
