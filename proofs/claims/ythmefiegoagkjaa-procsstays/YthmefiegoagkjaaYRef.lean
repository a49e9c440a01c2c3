/- What the reference's New, At, Lives, Enter, Move and Same answer and do. -/
import Derived.Test.YthmefiegoagkjaaYNil
import Derived.Laws.StructEq
namespace Go.Proofs.Ythmefiegoagkjaa.Y
open Go Go.RowKit

set_option maxRecDepth 100000 in
theorem rnew_in (n : Int) (w : World) : Calls Try.prog 8 #[.int .i64 n] w fun e w' => e = .returned (ptr (w.heap.size + 1)) ∧ w' = (w.alloc (.cells #[.int .i64 1, .int .i64 0, .bool true, .int .i64 0, .bool false, .bool false, .int .i64 1] 37)).alloc (.cells #[.slice (some ⟨w.heap.size, 0, none⟩) 1 1, .int .i64 2, .int .i64 n] 34) := by
  go_enter Try.func8, Try.ntmps8
  go_wp2
  go_ret
  exact ⟨rfl, rfl⟩
theorem rnew_any (n : Int) (w : World) : Calls Try.prog 8 #[.int .i64 n] w (NewPost 34 2 n w) := by
  refine (rnew_in n w).mono ?_
  rintro e w' ⟨rfl, rfl⟩
  exact ⟨_, _, rfl, tab_first w w 34 2 n (Nat.le_refl _), on_trans (on_alloc w _) (on_alloc _ _)⟩
theorem spot_of {S : List Pr} {i : Int} {k : Nat} (hk : k < S.length) (h : S[k].pid = i) (hb : ∀ j (hj : j < S.length), j < k → S[j].pid ≠ i) : has i S = true ∧ spot i S = k := by
  have hq : has i S = true := has_of (List.getElem_mem hk) h
  refine ⟨hq, ?_⟩
  have hlt := spot_lt hq
  rcases Nat.lt_trichotomy (spot i S) k with h1 | h1 | h1
  · exact absurd (spot_id hlt) (hb _ hlt h1)
  · exact h1
  · have := List.not_of_lt_findIdx (xs := S) (p := fun x : Pr => x.pid == i) h1
    simp at this
    exact absurd h this
theorem has_none {S : List Pr} {i : Int} (h : ∀ j (hj : j < S.length), S[j].pid ≠ i) : has i S = false := List.any_eq_false.2 fun x hx => by
  obtain ⟨j, hj, rfl⟩ := List.mem_iff_getElem.1 hx
  simpa using h j hj
/-- Where a process lies, or -1. -/
def atZ (i : Int) (S : List Pr) : Int := if has i S then (spot i S : Int) else -1
section
variable {hi b : Nat} {v : Value} {nx mo : Int} {S : List Pr} {w : World}
set_option maxRecDepth 100000 in
set_option maxHeartbeats 1000000 in
theorem rat_any (h : TabAt hi 34 w b v nx mo S) (hl : S.length ≤ 1000) (i : Int) :
    Calls Try.prog 15 #[ptr b, .int .i64 i] w fun e w' => e = .returned (.int .i64 (atZ i S)) ∧ w' = w := by
  have HT : Hid (TabAt hi 34 w b v nx mo S) := h
  have y0 := h.box.cell 0 rfl
  obtain ⟨p, cap, rfl⟩ := h.slice
  have HZ : Hid (∀ k (hk : k < S.length), S[k].pid = i → (∀ j (hj : j < S.length), j < k → S[j].pid ≠ i) → atZ i S = (k : Int)) := fun k hk h1 h2 => by
    obtain ⟨h3, h4⟩ := spot_of hk h1 h2
    unfold atZ
    rw [h3, if_pos rfl, h4]
  have HN : Hid ((∀ j (hj : j < S.length), S[j].pid ≠ i) → atZ i S = -1) := fun h1 => by
    unfold atZ
    rw [has_none h1]; rfl
  generalize atZ i S = z at *
  clear h
  go_enter Try.func15, Try.ntmps15
  go_wp2
  go_loop [5] (fun iv => ∃ k : Nat, k ≤ S.length ∧ iv = .int .i64 (k : Int) ∧ Hid (∀ j (hj : j < S.length), j < k → S[j].pid ≠ i)) (fun iv => S.length - (intOf iv).toNat)
  case atStart => exact ⟨0, Nat.zero_le _, rfl, fun j hj h => absurd h (Nat.not_lt_zero _)⟩
  case round =>
    obtain ⟨k, hk, rfl, HB⟩ := hrel
    by_cases hlt : k < S.length
    · have hltz : (k : Int) < (S.length : Int) := by omega
      obtain ⟨g, cap2, e, _, hc⟩ := tab_cells HT.out hlt
      cases e
      have z0 := hc.c0
      by_cases he : S[k].pid = i
      · have HE : Hid (z = (k : Int)) := HZ.out k hlt he HB.out
        have hb : (S[k].pid == i) = true := by simpa using he
        clear hc he
        generalize S[k].pid = r at *
        go_wp2
        go_ret
        exact ⟨by rw [HE.out]; rfl, rfl⟩
      · have HE : Hid (∀ j (hj : j < S.length), j < k + 1 → S[j].pid ≠ i) := fun j hj h => by
          by_cases h1 : j < k
          · exact HB.out j hj h1
          · obtain rfl : j = k := by omega
            exact he
        have hb : (S[k].pid == i) = false := by simpa using he
        clear hc he
        generalize S[k].pid = r at *
        go_wp2
        go_round
        case rel => exact ⟨k + 1, by omega, by go_num, HE.out⟩
        case measure => simp [intOf]; omega
    · have hltz : ¬ (k : Int) < (S.length : Int) := by omega
      have HE : Hid (z = -1) := HN.out fun j hj => HB.out j hj (by omega)
      go_wp2
      go_ret
      exact ⟨by rw [HE.out]; rfl, rfl⟩
theorem rat_yes (h : TabAt hi 34 w b v nx mo S) (hl : S.length ≤ 1000) {i : Int} (hq : has i S = true) :
    Calls Try.prog 15 #[ptr b, .int .i64 i] w fun e w' => e = .returned (.int .i64 (spot i S : Int)) ∧ w' = w := by
  have := rat_any h hl i
  unfold atZ at this
  rwa [hq, if_pos rfl] at this
theorem rat_no (h : TabAt hi 34 w b v nx mo S) (hl : S.length ≤ 1000) {i : Int} (hq : has i S = false) :
    Calls Try.prog 15 #[ptr b, .int .i64 i] w fun e w' => e = .returned (.int .i64 (-1)) ∧ w' = w := by
  have := rat_any h hl i
  unfold atZ at this
  rwa [hq, if_neg (by decide)] at this
set_option maxRecDepth 100000 in
set_option maxHeartbeats 1000000 in
theorem rlives_any (h : TabAt hi 34 w b v nx mo S) (hs : Sorted S) (hl : S.length ≤ 1000) (i : Int) :
    Calls Try.prog 17 #[ptr b, .int .i64 i] w fun e w' => e = .returned (.bool (lv i S)) ∧ w' = w := by
  cases hq : has i S with
  | false =>
    have cA := rat_no h hl hq
    have e : lv i S = false := by
      cases hv : lv i S with
      | false => rfl
      | true => rw [lv_has hv] at hq; cases hq
    rw [e]
    clear h hq hs e
    go_enter Try.func17, Try.ntmps17
    go_wp2_with fail
    refine cA.mono ?_
    rintro e w1 ⟨rfl, rfl⟩
    go_wp2
    go_ret
    exact ⟨rfl, rfl⟩
  | true =>
    have cA := rat_yes h hl hq
    have hlt := spot_lt hq
    have HL : Hid (S[spot i S].lives = lv i S) := by rw [lv_at hs hq, at_get hq]; exact rfl
    obtain ⟨g, cap, rfl, _, c⟩ := tab_cells h hlt
    have z2 := c.c2
    rw [HL.out] at z2
    have y0 := h.box.cell 0 rfl
    have hz : (spot i S : Int) < (S.length : Int) := by omega
    clear h c hs HL hlt hq
    generalize lv i S = r at *
    generalize spot i S = k at *
    go_enter Try.func17, Try.ntmps17
    go_wp2_with fail
    refine cA.mono ?_
    rintro e w1 ⟨rfl, rfl⟩
    go_wp2
    go_ret
    exact ⟨rfl, rfl⟩
set_option maxRecDepth 100000 in
set_option maxHeartbeats 1000000 in
theorem renter_any (h : TabAt hi 34 w b v nx mo S) (hs : Sorted S) (hl : S.length ≤ 1000) (i : Int) :
    Calls Try.prog 28 #[ptr b, .int .i64 i] w (TPost hi 34 b w v nx mo (enterS S i) (.int .i64 (enterE S i))) := by
  have cL := rlives_any h hs hl i
  unfold enterS enterE
  cases hq : lv i S with
  | false =>
    rw [hq] at cL
    rw [if_neg (by decide), if_neg (by decide)]
    have HP : Hid (TPost hi 34 b w v nx mo S (.int .i64 3) (.returned (.int .i64 3)) w) := ⟨rfl, v, h, .refl _ _ _⟩
    generalize TPost hi 34 b w v nx mo S (.int .i64 3) = Post at *
    clear h hq hs
    go_enter Try.func28, Try.ntmps28
    go_wp2_with fail
    refine cL.mono ?_
    rintro e w1 ⟨rfl, rfl⟩
    go_wp2
    exact HP.out
  | true =>
    rw [hq] at cL
    have cA := rat_yes h hl (lv_has hq)
    have hlt := spot_lt (lv_has hq)
    obtain ⟨g, cap, rfl, _, c⟩ := tab_cells h hlt
    rw [if_pos rfl, if_pos rfl]
    have hst := tab_set h (by decide) hlt 5 (by omega) (.bool true) capF rfl
    have HZ : Hid (TPost hi 34 b w (.slice (some ⟨g, 0, none⟩) S.length cap) nx mo (S.modify (spot i S) capF) (.int .i64 0) (.returned (.int .i64 0)) _) := ⟨rfl, _, hst.1, hst.2⟩
    generalize TPost hi 34 b w (.slice (some ⟨g, 0, none⟩) S.length cap) nx mo (S.modify (spot i S) capF) (.int .i64 0) = Post at *
    have z5 := c.c5
    have f5 := c.free (spot i S * 7 + 5)
    have y0 := h.box.cell 0 rfl
    have hz : (spot i S : Int) < (S.length : Int) := by omega
    clear h c hs hst
    generalize S[spot i S].cap = r at *
    clear hlt hq
    generalize spot i S = k at *
    go_enter Try.func28, Try.ntmps28
    go_wp2_with fail
    refine cL.mono ?_
    rintro e w1 ⟨rfl, rfl⟩
    go_wp2_with fail
    refine cA.mono ?_
    rintro e w2 ⟨rfl, rfl⟩
    go_wp2
    exact HZ.out
set_option maxRecDepth 100000 in
set_option maxHeartbeats 1000000 in
theorem rmove_any (h : TabAt hi 34 w b v nx mo S) (hs : Sorted S) (hl : S.length ≤ 1000) (i d : Int) :
    Calls Try.prog 29 #[ptr b, .int .i64 i, .int .i64 d] w (TPost hi 34 b w v nx mo (moveS S i d) (.tuple #[.int .i64 (moveN S i d), .int .i64 (moveE S i d)])) := by
  have cL := rlives_any h hs hl i
  unfold moveS moveN moveE
  cases hq : lv i S with
  | false =>
    rw [hq] at cL
    rw [Bool.false_and, if_neg (by decide), if_neg (by decide), if_neg (by decide)]
    have HP : Hid (TPost hi 34 b w v nx mo S (.tuple #[.int .i64 0, .int .i64 3]) (.returned (.tuple #[.int .i64 0, .int .i64 3])) w) := ⟨rfl, v, h, .refl _ _ _⟩
    generalize TPost hi 34 b w v nx mo S (.tuple #[.int .i64 0, .int .i64 3]) = Post at *
    clear h hq hs
    go_enter Try.func29, Try.ntmps29
    go_wp2_with fail
    refine cL.mono ?_
    rintro e w1 ⟨rfl, rfl⟩
    go_wp2
    exact HP.out
  | true =>
    rw [hq] at cL
    rw [Bool.true_and, if_pos rfl]
    by_cases hd : d < 1
    · rw [decide_eq_false (by omega), if_neg (by decide), if_neg (by decide), if_pos hd]
      have HP : Hid (TPost hi 34 b w v nx mo S (.tuple #[.int .i64 0, .int .i64 22]) (.returned (.tuple #[.int .i64 0, .int .i64 22])) w) := ⟨rfl, v, h, .refl _ _ _⟩
      generalize TPost hi 34 b w v nx mo S (.tuple #[.int .i64 0, .int .i64 22]) = Post at *
      clear h hq hs
      go_enter Try.func29, Try.ntmps29
      go_wp2_with fail
      refine cL.mono ?_
      rintro e w1 ⟨rfl, rfl⟩
      go_wp2
      exact HP.out
    · rw [decide_eq_true (by omega), if_pos rfl, if_pos rfl, if_neg hd, at_get (lv_has hq)]
      have cA := rat_yes h hl (lv_has hq)
      have hlt := spot_lt (lv_has hq)
      obtain ⟨g, cap, rfl, _, c⟩ := tab_cells h hlt
      have hst := tab_set h (by decide) hlt 6 (by omega) (.int .i64 d) (cwdF d) rfl
      have HZ : Hid (TPost hi 34 b w (.slice (some ⟨g, 0, none⟩) S.length cap) nx mo (S.modify (spot i S) (cwdF d)) (.tuple #[.int .i64 S[spot i S].cwd, .int .i64 0]) (.returned (.tuple #[.int .i64 S[spot i S].cwd, .int .i64 0])) _) := ⟨rfl, _, hst.1, hst.2⟩
      generalize TPost hi 34 b w (.slice (some ⟨g, 0, none⟩) S.length cap) nx mo (S.modify (spot i S) (cwdF d)) (.tuple #[.int .i64 S[spot i S].cwd, .int .i64 0]) = Post at *
      have z6 := c.c6
      have f6 := c.free (spot i S * 7 + 6)
      have y0 := h.box.cell 0 rfl
      have hz : (spot i S : Int) < (S.length : Int) := by omega
      clear h c hs hst
      generalize S[spot i S].cwd = r at *
      clear hlt hq
      generalize spot i S = k at *
      go_enter Try.func29, Try.ntmps29
      go_wp2_with fail
      refine cL.mono ?_
      rintro e w1 ⟨rfl, rfl⟩
      go_wp2_with fail
      refine cA.mono ?_
      rintro e w2 ⟨rfl, rfl⟩
      go_wp2
      exact HZ.out
end

set_option maxRecDepth 100000 in
theorem eq_proc (x : Pr) (w : World) : (Op.equalIn 10000 37 (.agg #[.int .i64 x.pid, .int .i64 x.parent, .bool x.lives, .int .i64 x.code, .bool x.pd, .bool x.cap, .int .i64 x.cwd]) (.agg #[.int .i64 x.pid, .int .i64 x.parent, .bool x.lives, .int .i64 x.code, .bool x.pd, .bool x.cap, .int .i64 x.cwd])).run Try.prog w = .ok true w := by
  have u3 := Try.underlying3
  have a3 := Try.isAgg3
  have z3 := Try.sizeOf3
  have u4 := Try.underlying4
  have a4 := Try.isAgg4
  have z4 := Try.sizeOf4
  have hS : Try.prog.underlying 37 = some (.struct (Try.prog.fieldsOf 37)) := by kernel_rfl
  have hp : Try.prog.stoodInHeld 37 = false := by kernel_rfl
  rw [show (10000 : Nat) = 9999 + 1 from rfl, run_equalIn_agg w 9999 37 _ _ hS hp]
  simp only [Program.fieldsOf, Try.underlying37]
  go_simp
set_option maxRecDepth 100000 in
set_option maxHeartbeats 2000000 in
/-- Two rows of the same processes are the same. -/
theorem same_any {hi hi2 : Nat} {u v : Value} {S : List Pr} {w : World} (h : Row hi w u S) (h2 : Row hi2 w v S) (hl : S.length ≤ 1000) :
    Calls Try.prog 10 #[u, v] w fun e w' => e = .returned (.bool true) ∧ Below w.heap.size w w' := by
  have HR : Hid (∀ w1, Below w.heap.size w w1 → Row hi w1 u S ∧ Row hi2 w1 v S) := fun w1 hb => ⟨rowS_on h hb, rowS_on h2 hb⟩
  obtain ⟨p, cap, rfl, _⟩ := row_cells h
  obtain ⟨p2, cap2, rfl, _⟩ := row_cells h2
  clear h h2
  go_enter Try.func10, Try.ntmps10
  go_wp2
  go_loopw [5] (fun iv wq => ∃ k : Nat, k ≤ S.length ∧ iv = .int .i64 (k : Int) ∧ Hid (Below w.heap.size w wq)) (fun iv _ => S.length - (intOf iv).toNat)
  case atStart => exact ⟨0, Nat.zero_le _, rfl, Below.refl _ _⟩
  case round =>
    obtain ⟨k, hk, rfl, HB⟩ := hrel
    by_cases hlt : k < S.length
    · have hltz : (k : Int) < (S.length : Int) := by omega
      obtain ⟨h1, h2⟩ := HR.out wr HB.out
      obtain ⟨q1, d1, e1, hc1⟩ := row_cells h1
      cases e1
      obtain ⟨g, rfl, _, _, ha⟩ := hc1 k hlt
      obtain ⟨q2, d2, e2, hc2⟩ := row_cells h2
      cases e2
      obtain ⟨g2, rfl, _, _, hb⟩ := hc2 k hlt
      obtain ⟨a0, a1, a2, a3, a4, a5, a6, _⟩ := ha
      obtain ⟨b0, b1, b2, b3, b4, b5, b6, _⟩ := hb
      have heq := fun w => eq_proc S[k] w
      clear hc1 hc2 h1 h2
      generalize S[k] = x at *
      obtain ⟨x0, x1, x2, x3, x4, x5, x6⟩ := x
      simp only at a0 a1 a2 a3 a4 a5 a6 b0 b1 b2 b3 b4 b5 b6 heq
      go_wp2
      go_quiet (fail)
      go_wp2
      go_roundw
      case rel => exact ⟨k + 1, by omega, by go_num, on_drewN HB.out _⟩
      case measure => simp [intOf]; omega
    · have hltz : ¬ (k : Int) < (S.length : Int) := by omega
      go_wp2
      go_ret
      exact ⟨rfl, HB.out⟩

end Go.Proofs.Ythmefiegoagkjaa.Y
