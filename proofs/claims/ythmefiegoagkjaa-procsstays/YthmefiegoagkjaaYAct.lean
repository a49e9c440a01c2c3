/- What Enter, Move, Reap and Exit do. -/
import Derived.Test.YthmefiegoagkjaaYDel
namespace Go.Proofs.Ythmefiegoagkjaa.Y
open Go Go.RowKit

theorem filter_nq (S : List Pr) (i : Int) : S.filter (nq i) = S.filter (fun x => decide (x.pid ≠ i)) := by
  refine congrArg (fun f => S.filter f) (funext fun x => ?_)
  unfold nq
  by_cases h : x.pid = i <;> simp [h]
section
variable {hi b : Nat} {v : Value} {mo nx : Int} {S : List Pr} {w : World}
set_option maxRecDepth 100000 in
set_option maxHeartbeats 1000000 in
theorem enter_any (h : TabAt hi 57 w b v mo nx S) (hs : Sorted S) (hl : S.length ≤ 1000) (i : Int) :
    Calls Try.prog 24 #[ptr b, .int .i64 i] w (TPost hi 57 b w v mo nx (enterS S i) (.int .i64 (enterE S i))) := by
  have HT : Hid (∀ w1, Below w.heap.size w w1 → TabAt hi 57 w1 b v mo nx S) := fun w1 hb => h.on hb
  unfold enterS enterE
  cases hq : lv i S with
  | false =>
    have cP := living_no h hs hl hq
    rw [if_neg (by decide), if_neg (by decide)]
    have HP : Hid (∀ w1, Below w.heap.size w w1 → TPost hi 57 b w v mo nx S (.int .i64 3) (.returned (.int .i64 3)) w1) := fun w1 hb => ⟨rfl, v, HT.out w1 hb, .on hb⟩
    generalize TPost hi 57 b w v mo nx S (.int .i64 3) = Post at *
    clear h HT hq hs
    go_enter Try.func24, Try.ntmps24
    go_wp2_with fail
    refine cP.mono ?_
    rintro e w1 ⟨rfl, hb1⟩
    go_wp2
    exact HP.out _ hb1
  | true =>
    have hlt := spot_lt (lv_has hq)
    obtain ⟨g, cap, rfl, _, hcc⟩ := tab_cells h hlt
    have cP := living_yes h hs hl hq
    rw [if_pos rfl, if_pos rfl]
    have HP : Hid (∀ w1 v', TabAt hi 57 w1 b v' mo nx (S.modify (spot i S) capF) → T.Goes b (.slice (some ⟨g, 0, none⟩) S.length cap) v' w w1 → TPost hi 57 b w (.slice (some ⟨g, 0, none⟩) S.length cap) mo nx (S.modify (spot i S) capF) (.int .i64 0) (.returned (.int .i64 0)) w1) := fun w1 v' h1 h2 => ⟨rfl, v', h1, h2⟩
    generalize TPost hi 57 b w (.slice (some ⟨g, 0, none⟩) S.length cap) mo nx (S.modify (spot i S) capF) (.int .i64 0) = Post at *
    clear h hcc hq hs
    generalize spot i S = k at *
    go_enter Try.func24, Try.ntmps24
    go_wp2_with fail
    refine cP.mono ?_
    rintro e w1 ⟨rfl, hb1⟩
    have ht := HT.out w1 hb1
    obtain ⟨_, c⟩ := row_at ht.row hlt
    have z5 := c.c5
    have f5 := c.free (k * 7 + 5)
    have hst := tab_set ht (by decide) hlt 5 (by omega) (.bool true) capF rfl
    have HZ : Hid _ := HP.out _ _ hst.1 ((T.Goes.on hb1).trans hst.2)
    clear cP HT ht c hst HP
    generalize S[k].cap = r at *
    go_wp2
    exact HZ.out

set_option maxRecDepth 100000 in
set_option maxHeartbeats 1000000 in
theorem move_any (h : TabAt hi 57 w b v mo nx S) (hs : Sorted S) (hl : S.length ≤ 1000) (i d : Int) :
    Calls Try.prog 22 #[ptr b, .int .i64 i, .int .i64 d] w (TPost hi 57 b w v mo nx (moveS S i d) (.tuple #[.int .i64 (moveN S i d), .int .i64 (moveE S i d)])) := by
  have HT : Hid (∀ w1, Below w.heap.size w w1 → TabAt hi 57 w1 b v mo nx S) := fun w1 hb => h.on hb
  unfold moveS moveN moveE
  cases hq : lv i S with
  | false =>
    have cP := living_no h hs hl hq
    rw [Bool.false_and, if_neg (by decide), if_neg (by decide), if_neg (by decide)]
    have HP : Hid (∀ w1, Below w.heap.size w w1 → TPost hi 57 b w v mo nx S (.tuple #[.int .i64 0, .int .i64 3]) (.returned (.tuple #[.int .i64 0, .int .i64 3])) w1) := fun w1 hb => ⟨rfl, v, HT.out w1 hb, .on hb⟩
    generalize TPost hi 57 b w v mo nx S (.tuple #[.int .i64 0, .int .i64 3]) = Post at *
    clear h HT hq hs
    go_enter Try.func22, Try.ntmps22
    go_wp2_with fail
    refine cP.mono ?_
    rintro e w1 ⟨rfl, hb1⟩
    go_wp2
    exact HP.out _ hb1
  | true =>
    have hlt := spot_lt (lv_has hq)
    obtain ⟨g, cap, rfl, _, hcc⟩ := tab_cells h hlt
    have cP := living_yes h hs hl hq
    rw [Bool.true_and, if_pos rfl]
    by_cases hd : d < 1
    · rw [decide_eq_false (by omega), if_neg (by decide), if_neg (by decide), if_pos hd]
      have HP : Hid (∀ w1, Below w.heap.size w w1 → TPost hi 57 b w (.slice (some ⟨g, 0, none⟩) S.length cap) mo nx S (.tuple #[.int .i64 0, .int .i64 22]) (.returned (.tuple #[.int .i64 0, .int .i64 22])) w1) := fun w1 hb => ⟨rfl, _, HT.out w1 hb, .on hb⟩
      generalize TPost hi 57 b w (.slice (some ⟨g, 0, none⟩) S.length cap) mo nx S (.tuple #[.int .i64 0, .int .i64 22]) = Post at *
      clear h HT hcc hq hs
      go_enter Try.func22, Try.ntmps22
      go_wp2_with fail
      refine cP.mono ?_
      rintro e w1 ⟨rfl, hb1⟩
      go_wp2
      exact HP.out _ hb1
    · rw [decide_eq_true (by omega), if_pos rfl, if_pos rfl, if_neg hd, at_get (lv_has hq)]
      have HP : Hid (∀ w1 v', TabAt hi 57 w1 b v' mo nx (S.modify (spot i S) (cwdF d)) → T.Goes b (.slice (some ⟨g, 0, none⟩) S.length cap) v' w w1 → TPost hi 57 b w (.slice (some ⟨g, 0, none⟩) S.length cap) mo nx (S.modify (spot i S) (cwdF d)) (.tuple #[.int .i64 S[spot i S].cwd, .int .i64 0]) (.returned (.tuple #[.int .i64 S[spot i S].cwd, .int .i64 0])) w1) := fun w1 v' h1 h2 => ⟨rfl, v', h1, h2⟩
      generalize TPost hi 57 b w (.slice (some ⟨g, 0, none⟩) S.length cap) mo nx (S.modify (spot i S) (cwdF d)) (.tuple #[.int .i64 S[spot i S].cwd, .int .i64 0]) = Post at *
      clear h hcc hq hs
      generalize spot i S = k at *
      go_enter Try.func22, Try.ntmps22
      go_wp2_with fail
      refine cP.mono ?_
      rintro e w1 ⟨rfl, hb1⟩
      have ht := HT.out w1 hb1
      obtain ⟨_, c⟩ := row_at ht.row hlt
      have z6 := c.c6
      have f6 := c.free (k * 7 + 6)
      have hst := tab_set ht (by decide) hlt 6 (by omega) (.int .i64 d) (cwdF d) rfl
      have HZ : Hid _ := HP.out _ _ hst.1 ((T.Goes.on hb1).trans hst.2)
      clear cP HT ht c hst HP
      generalize S[k].cwd = r at *
      go_wp2
      exact HZ.out

set_option maxRecDepth 100000 in
set_option maxHeartbeats 1000000 in
theorem reap_any (h : TabAt hi 57 w b v mo nx S) (hl : S.length ≤ 1000) (i : Int) :
    Calls Try.prog 21 #[ptr b, .int .i64 i] w (TPost hi 57 b w v mo nx (reapS S i) (.tuple #[.int .i64 (reapN S i), .int .i64 (reapE S i)])) := by
  have HT : Hid (∀ w1, Below w.heap.size w w1 → TabAt hi 57 w1 b v mo nx S) := fun w1 hb => h.on hb
  have cG := get_any h hl i
  unfold reapS reapN reapE
  cases hq : has i S with
  | false =>
    rw [hq, at_no hq] at cG
    rw [Bool.false_and, if_neg (by decide), if_neg (by decide), if_neg (by decide)]
    have HP : Hid (∀ w1 o, Below w.heap.size w w1 → TPost hi 57 b w v mo nx S (.tuple #[.int .i64 0, .int .i64 3]) (.returned (.tuple #[.int .i64 0, .int .i64 3])) (w1.alloc o)) := fun w1 o hb => ⟨rfl, v, HT.out _ (on_trans hb (on_alloc w1 o)), .on (on_trans hb (on_alloc w1 o))⟩
    generalize TPost hi 57 b w v mo nx S (.tuple #[.int .i64 0, .int .i64 3]) = Post at *
    clear h HT hq
    simp only [prC, zPr] at cG
    go_enter Try.func21, Try.ntmps21
    go_wp2_with fail
    refine cG.mono ?_
    rintro e w1 ⟨rfl, hb1⟩
    go_wp2
    exact HP.out _ _ hb1
  | true =>
    rw [hq] at cG
    rw [Bool.true_and, if_pos rfl]
    cases hv : (at_ i S).lives with
    | true =>
      rw [if_neg (by decide), if_neg (by decide), if_pos rfl]
      have HP : Hid (∀ w1 o, Below w.heap.size w w1 → TPost hi 57 b w v mo nx S (.tuple #[.int .i64 0, .int .i64 35]) (.returned (.tuple #[.int .i64 0, .int .i64 35])) (w1.alloc o)) := fun w1 o hb => ⟨rfl, v, HT.out _ (on_trans hb (on_alloc w1 o)), .on (on_trans hb (on_alloc w1 o))⟩
      generalize TPost hi 57 b w v mo nx S (.tuple #[.int .i64 0, .int .i64 35]) = Post at *
      clear h HT hq
      simp only [prC] at cG
      rw [hv] at cG
      generalize at_ i S = F at *
      obtain ⟨F0, F1, F2, F3, F4, F5, F6⟩ := F
      simp only at cG
      clear hv
      go_enter Try.func21, Try.ntmps21
      go_wp2_with fail
      refine cG.mono ?_
      rintro e w1 ⟨rfl, hb1⟩
      go_wp2
      exact HP.out _ _ hb1
    | false =>
      rw [show (!false) = true from rfl, if_pos rfl, if_pos rfl, if_neg (by decide)]
      have cR := fun w1 (hb : Below w.heap.size w w1) => remove_any (HT.out w1 hb) hl hq
      rw [← filter_nq]
      have HP : Hid (∀ w1 w2 e x, Below w.heap.size w w1 → Blk w1 x 37 (prC (at_ i S)) → w.heap.size ≤ x → TPost hi 57 b w1 v mo nx (S.filter (nq i)) (.tuple #[]) e w2 → e = .returned (.tuple #[]) ∧ w2.cell? ⟨x, 3, none⟩ = some (.int .i64 (at_ i S).code) ∧ TPost hi 57 b w v mo nx (S.filter (nq i)) (.tuple #[.int .i64 (at_ i S).code, .int .i64 0]) (.returned (.tuple #[.int .i64 (at_ i S).code, .int .i64 0])) w2) := by
        rintro w1 w2 e x hb hx hlx ⟨rfl, v', h1, h2⟩
        have hx2 : Blk w2 x 37 (prC (at_ i S)) := ⟨(h2.block x hx.lt (by have := h.box.lt; omega) (fun e => by have := (T.own_at h.row e).2.1; omega)).trans hx.row⟩
        exact ⟨rfl, hx2.cell 3 rfl, rfl, v', h1, (T.Goes.on hb).trans h2⟩
      generalize TPost hi 57 b w v mo nx (S.filter (nq i)) (.tuple #[.int .i64 (at_ i S).code, .int .i64 0]) = Post at *
      have HC : Hid (∀ w1, Below w.heap.size w w1 → Calls Try.prog 33 #[ptr b, .int .i64 i] w1 (TPost hi 57 b w1 v mo nx (S.filter (nq i)) (.tuple #[]))) := cR
      clear h HT hq cR
      simp only [prC] at cG
      rw [hv] at cG
      generalize at_ i S = F at *
      obtain ⟨F0, F1, F2, F3, F4, F5, F6⟩ := F
      simp only at cG hv
      subst hv
      go_enter Try.func21, Try.ntmps21
      go_wp2_with fail
      refine cG.mono ?_
      rintro e w1 ⟨rfl, hb1⟩
      have HB2 : Hid (Below w.heap.size w (w1.alloc (.cells #[.int .i64 F0, .int .i64 F1, .bool false, .int .i64 F3, .bool F4, .bool F5, .int .i64 F6] 37))) := on_trans hb1 (on_alloc w1 _)
      have HX : Hid (Blk (w1.alloc (.cells #[.int .i64 F0, .int .i64 F1, .bool false, .int .i64 F3, .bool F4, .bool F5, .int .i64 F6] 37)) w1.heap.size 37 (prC ⟨F0, F1, false, F3, F4, F5, F6⟩)) := Blk.new w1 37 (prC ⟨F0, F1, false, F3, F4, F5, F6⟩)
      have HSz : Hid (w.heap.size ≤ w1.heap.size) := hb1.size
      clear cG hb1
      go_wp2_with fail
      refine (HC.out _ HB2.out).mono ?_
      intro e w2 hp
      obtain ⟨rfl, x3, hpost⟩ := HP.out _ w2 e _ HB2.out HX.out HSz.out hp
      have HZ : Hid _ := hpost
      clear hp HP hpost HC HB2 HX
      go_wp2
      exact HZ.out
end

end Go.Proofs.Ythmefiegoagkjaa.Y
