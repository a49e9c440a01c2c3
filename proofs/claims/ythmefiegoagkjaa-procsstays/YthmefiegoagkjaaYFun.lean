/- What the calls of procs answer and do, of a table that is there: New, Room, Numbers, Dump, find, living, Lives, Get. -/
import Derived.Test.YthmefiegoagkjaaYMem
import Derived.Shelf.Abstract
namespace Go.Proofs.Ythmefiegoagkjaa.Y
open Go Go.RowKit

set_option maxRecDepth 100000 in
theorem new_in (n : Nat) (w : World) (h1 : 1 ≤ n) (h2 : n ≤ 64) : Calls Try.prog 7 #[.int .i64 (n : Int)] w fun e w' => e = .returned (ptr (w.heap.size + 2)) ∧ w' = ((w.alloc (.cells #[.int .i64 1, .int .i64 0, .bool true, .int .i64 0, .bool false, .bool false, .int .i64 1] 37)).alloc (.cells #[.int .i64 1, .int .i64 0, .bool true, .int .i64 0, .bool false, .bool false, .int .i64 1] 37)).alloc (.cells #[.slice (some ⟨w.heap.size + 1, 0, none⟩) 1 1, .int .i64 (n : Int), .int .i64 2] 57) := by
  have z1 : decide ((n : Int) < 1) = false := decide_eq_false (by omega)
  have z2 : decide ((64 : Int) < (n : Int)) = false := decide_eq_false (by omega)
  go_enter Try.func7, Try.ntmps7
  go_wp2
  go_ret
  exact ⟨rfl, rfl⟩
set_option maxRecDepth 100000 in
theorem new_no (n : Int) (w : World) (h : n < 1 ∨ 64 < n) : Calls Try.prog 7 #[.int .i64 n] w fun e w' => e = .returned (.pointer none) ∧ w' = w := by
  by_cases h1 : n < 1
  · have z1 : decide (n < 1) = true := decide_eq_true h1
    go_enter Try.func7, Try.ntmps7
    go_wp2
    go_ret
    exact ⟨rfl, rfl⟩
  · have z1 : decide (n < 1) = false := decide_eq_false h1
    have z2 : decide (64 < n) = true := decide_eq_true (by omega)
    go_enter Try.func7, Try.ntmps7
    go_wp2
    go_ret
    exact ⟨rfl, rfl⟩
section
variable {hi b : Nat} {v : Value} {mo nx : Int} {S : List Pr} {w : World}
set_option maxRecDepth 100000 in
theorem room_any (h : TabAt hi 57 w b v mo nx S) (hm : 0 ≤ mo ∧ mo ≤ 1000) (hl : S.length ≤ 1000) :
    Calls Try.prog 12 #[ptr b] w fun e w' => e = .returned (.int .i64 (mo - (S.length : Int))) ∧ ∃ q, w' = w.drewN q := by
  have x0 := h.box.cell 0 rfl
  have x1 := h.box.cell 1 rfl
  obtain ⟨p, cap, rfl⟩ := h.slice
  clear h
  go_enter Try.func12, Try.ntmps12
  go_wp2
  go_quiet (fail)
  go_wp2
  go_ret
  exact ⟨rfl, _, rfl⟩
set_option maxRecDepth 100000 in
theorem numbers_any (h : TabAt hi 57 w b v mo nx S) :
    Calls Try.prog 13 #[ptr b] w fun e w' => e = .returned (.int .i64 nx) ∧ w' = w := by
  have x0 := h.box.cell 2 rfl
  clear h
  go_enter Try.func13, Try.ntmps13
  go_wp2
  go_ret
  exact ⟨rfl, rfl⟩
end
/-- Processes are returned, as a row of one's own. -/
def RetF (w : World) (S : List Pr) (e : Ending) (w' : World) : Prop := ∃ v', e = .returned v' ∧ Row w.heap.size w' v' S ∧ Below w.heap.size w w'
section
variable {hi b c most : Nat} {v : Value} {mo nx : Int} {S : List Pr} {w : World}
set_option maxRecDepth 100000 in
set_option maxHeartbeats 1000000 in
theorem dump_any (h : TabAt hi 57 w b v mo nx S) (hl : S.length ≤ 1000) :
    Calls Try.prog 11 #[ptr b] w (RetF w S) := by
  have x0 := h.box.cell 0 rfl
  obtain ⟨p, cap, rfl, hat, _⟩ := rowS_at h.row
  obtain ⟨v', w', hrun, h1, h2⟩ := append_rowS elemP w.heap.size (.slice none 0 0) 0 [] p cap S.length (flat S) w (by omega) (by omega) (flat_length S) (flat_cell S) (World.ownsRow_nil _ _ _ _) hat.at (Nat.le_refl _)
  rw [Nat.zero_add, List.nil_append] at h1
  have HP : Hid (RetF w S (.returned v') w') := ⟨v', rfl, h1, h2.below (Below.refl _ _) (Nat.le_refl _) (Nat.le_refl _)⟩
  generalize RetF w S = Post at *
  clear h hat h1 h2
  go_enter Try.func11, Try.ntmps11
  go_wp2_with (at_builtin; refine wpList_run_append (by rfl) _ _ _ (by rfl) _ _ (by rfl) (by rfl) (hrun _) ?_)
  exact HP.out
end

set_option maxRecDepth 100000 in
set_option maxHeartbeats 1000000 in
theorem find1_any (x : Pr) (i : Int) (nb : Nat) (w : World) (h : Blk w nb 3 [.int .i64 i]) : Calls Try.prog 35 #[.agg #[.int .i64 x.pid, .int .i64 x.parent, .bool x.lives, .int .i64 x.code, .bool x.pd, .bool x.cap, .int .i64 x.cwd], ptr nb] w fun e w' => e = .returned (.bool (x.pid == i)) ∧ Below w.heap.size w w' := by
  obtain ⟨x0, x1, x2, x3, x4, x5, x6⟩ := x
  have HB : Hid (Below w.heap.size w (w.alloc (.cells #[.int .i64 x0, .int .i64 x1, .bool x2, .int .i64 x3, .bool x4, .bool x5, .int .i64 x6] 37))) := on_alloc w _
  have y0 := (h.on (on_alloc w (.cells #[.int .i64 x0, .int .i64 x1, .bool x2, .int .i64 x3, .bool x4, .bool x5, .int .i64 x6] 37))).cell 0 rfl
  simp only
  clear h
  go_enter Try.func35, Try.ntmps35
  go_wp2
  go_ret
  exact ⟨rfl, HB.out⟩
theorem en_find1 : ∀ args w, (callFunc 35 args).run Try.prog w = .ok (.enter 35 args) w := fun _ _ => by simp [callFunc, Try.func35]; rfl
set_option maxRecDepth 100000 in
set_option maxHeartbeats 1000000 in
theorem remove1_any (x : Pr) (i : Int) (nb : Nat) (w : World) (h : Blk w nb 3 [.int .i64 i]) : Calls Try.prog 37 #[.agg #[.int .i64 x.pid, .int .i64 x.parent, .bool x.lives, .int .i64 x.code, .bool x.pd, .bool x.cap, .int .i64 x.cwd], ptr nb] w fun e w' => e = .returned (.bool (x.pid == i)) ∧ Below w.heap.size w w' := by
  obtain ⟨x0, x1, x2, x3, x4, x5, x6⟩ := x
  have HB : Hid (Below w.heap.size w (w.alloc (.cells #[.int .i64 x0, .int .i64 x1, .bool x2, .int .i64 x3, .bool x4, .bool x5, .int .i64 x6] 37))) := on_alloc w _
  have y0 := (h.on (on_alloc w (.cells #[.int .i64 x0, .int .i64 x1, .bool x2, .int .i64 x3, .bool x4, .bool x5, .int .i64 x6] 37))).cell 0 rfl
  simp only
  clear h
  go_enter Try.func37, Try.ntmps37
  go_wp2
  go_ret
  exact ⟨rfl, HB.out⟩
theorem en_remove1 : ∀ args w, (callFunc 37 args).run Try.prog w = .ok (.enter 37 args) w := fun _ _ => by simp [callFunc, Try.func37]; rfl

/-- A closure that tells of a process. -/
def Asks (g : Nat) (lb : Array Value) (q : Pr → Bool) (St : World → Prop) : Prop := (∀ W W', St W → Below W.heap.size W W' → St W') ∧ ∀ x W, St W → Calls Try.prog g (#[.agg #[.int .i64 x.pid, .int .i64 x.parent, .bool x.lives, .int .i64 x.code, .bool x.pd, .bool x.cap, .int .i64 x.cwd]] ++ lb) W fun e w' => e = .returned (.bool (q x)) ∧ Below W.heap.size W w'
theorem findIdx_at {q : Pr → Bool} {S : List Pr} {k : Nat} (hk : k < S.length) (h0 : ∀ j (hj : j < k), q (S[j]'(by omega)) = false) (h1 : q S[k] = true) : S.findIdx q = k :=
  (List.findIdx_eq hk).2 ⟨h1, fun j hj => h0 j hj⟩
set_option maxRecDepth 100000 in
set_option maxHeartbeats 1000000 in
/-- slices.IndexFunc over processes. -/
theorem index_any (hi g : Nat) (lb : Array Value) (q : Pr → Bool) (St : World → Prop) (eg : ∀ args w, (callFunc g args).run Try.prog w = .ok (.enter g args) w) (hA : Asks g lb q St) (v : Value) (S : List Pr) (hl : S.length ≤ 1000) (w : World) (hr : Row hi w v S) (hSt : St w) :
    Calls Try.prog 34 #[v, .func (.func g) #[] lb] w fun e w' => e = .returned (.int .i64 (if S.any q then (S.findIdx q : Int) else -1)) ∧ Below w.heap.size w w' := by
  have HR : Hid (∀ W, Below w.heap.size w W → Row hi W v S ∧ St W) := fun W hb => ⟨rowS_on hr hb, hA.1 _ _ hSt hb⟩
  have HA : Hid (∀ x W, St W → Calls Try.prog g (#[.agg #[.int .i64 x.pid, .int .i64 x.parent, .bool x.lives, .int .i64 x.code, .bool x.pd, .bool x.cap, .int .i64 x.cwd]] ++ lb) W fun e w' => e = .returned (.bool (q x)) ∧ Below W.heap.size W w') := hA.2
  obtain ⟨p, cap, rfl, _⟩ := row_cells hr
  have HE : Hid (∀ r, r = (if S.any q then (S.findIdx q : Int) else -1) → (if S.any q then (S.findIdx q : Int) else -1) = r) := fun r h => h.symm
  have HY : Hid (∀ k (hk : k < S.length), (∀ j (hj : j < k), q (S[j]'(by omega)) = false) → q S[k] = true → (if S.any q then (S.findIdx q : Int) else -1) = k) := fun k hk h0 h1 => by
    rw [if_pos (List.any_eq_true.2 ⟨_, List.getElem_mem hk, h1⟩), findIdx_at hk h0 h1]
  have HN : Hid ((∀ j (hj : j < S.length), q S[j] = false) → (if S.any q then (S.findIdx q : Int) else -1) = -1) := fun h0 => by
    rw [if_neg]
    intro h
    obtain ⟨x, hx, h2⟩ := List.any_eq_true.1 h
    obtain ⟨j, hj, rfl⟩ := List.mem_iff_getElem.1 hx
    rw [h0 j hj] at h2
    cases h2
  generalize (if S.any q then (S.findIdx q : Int) else -1) = R at *
  clear hr hSt hA HE
  go_enter Try.func34, Try.ntmps34
  go_wp2
  go_loopw [8] (fun iv wq => ∃ k : Nat, ∃ hk : k ≤ S.length, iv = .int .i64 (k : Int) ∧ Hid (Below w.heap.size w wq) ∧ Hid (∀ j (hj : j < k), q (S[j]'(by omega)) = false)) (fun iv _ => S.length - (intOf iv).toNat)
  case atStart => exact ⟨0, Nat.zero_le _, rfl, Below.refl _ _, fun j hj => absurd hj (Nat.not_lt_zero _)⟩
  case round =>
    obtain ⟨k, hk, rfl, HB, H0⟩ := hrel
    by_cases hlt : k < S.length
    · have hltz : (k : Int) < (S.length : Int) := by omega
      obtain ⟨hrow, hst⟩ := HR.out wr HB.out
      obtain ⟨p', cap', e1, hc⟩ := row_cells hrow
      cases e1
      obtain ⟨gg, rfl, _, _, c⟩ := hc k hlt
      have cA := HA.out S[k] wr hst
      obtain ⟨c0, c1, c2, c3, c4, c5, c6, _⟩ := c
      have HY1 : Hid (q S[k] = true → R = k) := fun h => HY.out k hlt H0.out h
      have HN1 : Hid (q S[k] = false → ∀ j (hj : j < k + 1), q (S[j]'(by omega)) = false) := fun h j hj => by
        by_cases hjk : j < k
        · exact H0.out j hjk
        · obtain rfl : j = k := by omega
          exact h
      clear hc hrow hst
      generalize S[k] = x at *
      obtain ⟨x0, x1, x2, x3, x4, x5, x6⟩ := x
      simp only at c0 c1 c2 c3 c4 c5 c6 cA
      cases hq : q ⟨x0, x1, x2, x3, x4, x5, x6⟩ with
      | true =>
        rw [hq] at cA
        have HYY : Hid (R = k) := HY1.out hq
        clear HY1 HN1 hq
        go_wp2_with (go_at_fn g; refine cA.mono ?_; rintro e w1 ⟨rfl, hb1⟩)
        go_ret
        exact ⟨by rw [HYY.out]; rfl, on_trans HB.out hb1⟩
      | false =>
        rw [hq] at cA
        have HNN : Hid (∀ j (hj : j < k + 1), q (S[j]'(by omega)) = false) := HN1.out hq
        clear HY1 HN1 hq
        go_wp2_with (go_at_fn g; refine cA.mono ?_; rintro e w1 ⟨rfl, hb1⟩)
        go_roundw
        case rel => exact ⟨k + 1, by omega, by go_num, on_trans HB.out hb1, HNN.out⟩
        case measure => simp [intOf]; omega
    · have hltz : ¬ (k : Int) < (S.length : Int) := by omega
      obtain rfl : k = S.length := by omega
      have HZ : Hid (R = -1) := HN.out H0.out
      go_wp2
      go_ret
      exact ⟨by rw [HZ.out]; rfl, HB.out⟩

end Go.Proofs.Ythmefiegoagkjaa.Y
