/- Package queue: New, Len, Room, begins, Next. -/
import Derived.Test.YtfhkdndgiofidaaKMem
namespace Go.Proofs.Ytfhkdndgiofidaa.K
open Go Go.RowKit

theorem QM.view {F G : Nat → Prop} {w : World} {qb n : Nat} {X : List PX} (h : QM F G w qb n X) : ∃ p cap, Blk w qb 111 [.int .i64 (n : Int), .slice p X.length cap] ∧ X.length ≤ cap ∧
    ∀ (i : Nat) x, X[i]? = some x → ∃ g, p = some ⟨g, 0, none⟩ ∧ F g ∧ g < w.heap.size ∧ w.cell? ⟨g, i * 2, none⟩ = some x.bv ∧ w.cell? ⟨g, i * 2 + 1, none⟩ = some x.lv ∧ w.frozen? ⟨g, i * 2, none⟩ = false ∧ w.frozen? ⟨g, i * 2 + 1, none⟩ = false := by
  obtain ⟨pv, h1, h2, h3⟩ := h.box
  rcases h2.2 with ⟨rfl, h4⟩ | ⟨g, cap, cur, rfl, hb, hg, hc, _, hs, ht⟩
  · refine ⟨none, 0, by rw [h4]; exact h1, by omega, fun i x hx => ?_⟩
    have := (List.getElem?_eq_some_iff.1 hx).1
    omega
  · refine ⟨some ⟨g, 0, none⟩, cap, h1, hc, fun i x hx => ⟨g, rfl, h3 g rfl, (Array.getElem?_eq_some_iff.1 hg).1, ?_, ?_, by simp [World.frozen?, hg], by simp [World.frozen?, hg]⟩⟩
    · have h7 := (flatX_get hx).1
      have hi := (List.getElem?_eq_some_iff.1 hx).1
      rw [← ht, List.getElem?_take_of_lt (by omega)] at h7
      simp only [World.cell?, hg]
      simpa using h7
    · have h7 := (flatX_get hx).2
      have hi := (List.getElem?_eq_some_iff.1 hx).1
      rw [← ht, List.getElem?_take_of_lt (by omega)] at h7
      simp only [World.cell?, hg]
      simpa using h7

theorem new_no (m : Int) (w : World) (h : m < 1 ∨ 4096 < m) : Calls Try.prog 71 #[.int .i64 m] w fun e w' => e = .returned (.pointer none) ∧ w' = w := by
  by_cases h1 : m < 1
  · clear h
    go_enter Try.func71, Try.ntmps71
    go_wp2
    go_ret
    exact ⟨rfl, rfl⟩
  · have h2 : 4096 < m := by omega
    clear h
    go_enter Try.func71, Try.ntmps71
    go_wp2
    go_ret
    exact ⟨rfl, rfl⟩
/-- What New leaves. -/
def NewPost (n : Nat) (w : World) (e : Ending) (w' : World) : Prop := ∃ qb F G, e = .returned (.pointer (some ⟨qb, 0, none⟩)) ∧ QAt F G w' qb n [] ∧ Below w.heap.size w w' ∧ ∀ k, F k ∨ G k → w.heap.size ≤ k
theorem new_in (n : Nat) (w : World) (h1 : 1 ≤ n) (h2 : n ≤ 4096) : Calls Try.prog 71 #[.int .i64 (n : Int)] w (NewPost n w) := by
  have h1z : ¬ (n : Int) < 1 := by omega
  have h2z : ¬ (4096 : Int) < (n : Int) := by omega
  have h2n : ¬ 4096 < n := by omega
  have HP : Hid (NewPost n w (.returned (.pointer (some ⟨w.heap.size, 0, none⟩))) (w.alloc (.cells #[.int .i64 (n : Int), .slice none 0 0] 111))) := by
    refine ⟨w.heap.size, fun k => k = w.heap.size, fun _ => False, rfl, ⟨[], rfl, ⟨⟨.slice none 0 0, Blk.new w _ _, World.ownsRow_nil _ _ _ _, fun g e => by simp [Value.ownBlock] at e⟩, rfl, (fun x hx => by simp at hx), (fun x hx => by simp at hx), .nil⟩, ⟨h1, h2, by simp [total], by simp, (fun x hx => by simp at hx), (fun x hx => by simp at hx), fun x hx => by simp at hx⟩, fun k e => by subst e; exact ⟨by simp, .inl (typ_blk (Blk.new w _ _))⟩, fun _ e => e.elim⟩, on_alloc _ _, fun k e => by rcases e with rfl | e; exact Nat.le_refl _; exact e.elim⟩
  generalize NewPost n w = Post at *
  go_enter Try.func71, Try.ntmps71
  go_wp2
  exact HP.out

theorem len_nil (w : World) : Calls Try.prog 56 #[.pointer none] w fun e w' => e = .returned (.int .i64 0) ∧ w' = w := by
  go_enter Try.func56, Try.ntmps56
  go_wp2
  go_ret
  exact ⟨rfl, rfl⟩
theorem total_app (a b : List Pt) : total (a ++ b) = total a + total b := by simp [total]
theorem total_take (X : List PX) (i : Nat) (x : PX) (h : X[i]? = some x) : total ((X.take (i + 1)).map PX.pt) = total ((X.take i).map PX.pt) + x.B.length := by
  obtain ⟨hi, rfl⟩ := List.getElem?_eq_some_iff.1 h
  rw [List.take_add_one, h, List.map_append, total_app]
  simp [total, PX.pt]
theorem total_le (X : List PX) (i : Nat) : total ((X.take i).map PX.pt) ≤ total (X.map PX.pt) := by
  have : X.map PX.pt = (X.take i).map PX.pt ++ (X.drop i).map PX.pt := by rw [← List.map_append, List.take_append_drop]
  rw [this, total_app]
  omega

set_option maxRecDepth 100000 in
set_option maxHeartbeats 1000000 in
theorem len_any {F G : Nat → Prop} {w : World} {qb n : Nat} {ps : List Pt} (h : QAt F G w qb n ps) : Calls Try.prog 56 #[.pointer (some ⟨qb, 0, none⟩)] w fun e w' => e = .returned (.int .i64 (total ps : Nat)) ∧ Below w.heap.size w w' := by
  obtain ⟨X, rfl, hM, hok, _⟩ := h
  obtain ⟨p, cap, hB, hc, hv⟩ := hM.view
  have x0 := hB.cell 0 rfl
  have x1 := hB.cell 1 rfl
  have hmost := hok.most
  have hall := hok.all
  have hfew : X.length ≤ 16 := by have := hok.few; simpa using this
  obtain ⟨T, hT⟩ : ∃ T : Nat → Nat, ∀ i, T i = total ((X.take i).map PX.pt) := ⟨_, fun _ => rfl⟩
  have hT0 : T 0 = 0 := by rw [hT]; rfl
  have hTn : T X.length = total (X.map PX.pt) := by rw [hT, List.take_length]
  have HT : Hid (∀ i x, X[i]? = some x → T (i + 1) = T i + x.B.length ∧ T (i + 1) ≤ 4096) := fun i x hx => by
    rw [hT, hT]
    refine ⟨total_take X i x hx, ?_⟩
    have := total_le X (i + 1)
    omega
  have HM : Hid (QM F G w qb n X) := hM
  have HV : Hid _ := hv
  rw [← hTn] at hall ⊢
  clear hv hM hok hT hTn hB
  go_enter Try.func56, Try.ntmps56
  go_wp2
  go_loopw [3, 13] (fun nv iv wr => ∃ i : Nat, i ≤ X.length ∧ nv = .int .i64 (T i : Int) ∧ iv = .int .i64 (i : Int) ∧ Hid (Below w.heap.size w wr)) (fun _ iv _ => X.length - (intOf iv).toNat)
  case atStart => exact ⟨0, Nat.zero_le _, by rw [hT0]; rfl, rfl, Below.refl _ _⟩
  case round =>
    obtain ⟨i, hi, rfl, rfl, HB⟩ := hrel
    by_cases hlt : i < X.length
    · have hltz : (i : Int) < (X.length : Int) := by omega
      obtain ⟨x, hx⟩ : ∃ x, X[i]? = some x := ⟨_, List.getElem?_eq_getElem hlt⟩
      obtain ⟨g, rfl, hF, hg, hc0, hc1, _, _⟩ := HV.out i x hx
      have hxm := List.mem_of_getElem? hx
      obtain ⟨b, off, bc, cs, hbv, _⟩ := (HM.out.byt x hxm).is
      obtain ⟨p2, c2, hlv, _⟩ := (HM.out.pas x hxm).row
      have hc0' := (HB.out.cell (p := ⟨g, i * 2, none⟩) hg).trans hc0
      have hc1' := (HB.out.cell (p := ⟨g, i * 2 + 1, none⟩) hg).trans hc1
      rw [hbv] at hc0'
      rw [hlv] at hc1'
      obtain ⟨hT1, hT2⟩ := HT.out i x hx
      generalize x.B.length = m at *
      generalize x.M.length = m2 at *
      have HB2 : Hid (Below w.heap.size w (wr.alloc (.cells #[.slice (some ⟨b, off, none⟩) m bc, .slice p2 m2 c2] 87))) := on_trans HB.out (on_alloc wr _)
      clear hc0 hc1 HB
      go_wp2
      go_roundw
      case rel => exact ⟨i + 1, by omega, by rw [hT1]; go_num, by go_num, HB2⟩
      case measure => simp [intOf]; omega
    · obtain rfl : i = X.length := by omega
      have hltz : ¬ (X.length : Int) < (X.length : Int) := by omega
      have HB2 := HB
      go_wp2
      go_ret
      exact ⟨rfl, HB2.out⟩

/- Room. -/
theorem en_len : ∀ args w, (callFunc 56 args).run Try.prog w = .ok (.enter 56 args) w := fun _ _ => by simp [callFunc, Try.func56]; rfl
theorem room_nil (w : World) : Calls Try.prog 59 #[.pointer none] w fun e w' => e = .returned (.int .i64 0) ∧ w' = w := by
  go_enter Try.func59, Try.ntmps59
  go_wp2
  go_ret
  exact ⟨rfl, rfl⟩
set_option maxRecDepth 100000 in
set_option maxHeartbeats 1000000 in
theorem room_any {F G : Nat → Prop} {w : World} {qb n : Nat} {ps : List Pt} (h : QAt F G w qb n ps) : Calls Try.prog 59 #[.pointer (some ⟨qb, 0, none⟩)] w fun e w' => e = .returned (.int .i64 ((n : Int) - (total ps : Int))) ∧ Below w.heap.size w w' := by
  have hok := h.ok
  have hmost := hok.most
  have hall := hok.all
  have HL : Hid (∀ W, Below w.heap.size w W → Calls Try.prog 56 #[.pointer (some ⟨qb, 0, none⟩)] W fun e w' => e = .returned (.int .i64 (total ps : Nat)) ∧ Below W.heap.size W w') := fun W hb => len_any (h.on hb)
  obtain ⟨X, rfl, hM, _, _⟩ := h
  obtain ⟨p, cap, hB, hc, hv⟩ := hM.view
  have x0 := hB.cell 0 rfl
  have hq := hB.lt
  generalize total (X.map PX.pt) = T at *
  have hw : IntKind.i64.wrap ((n : Int) - (T : Int)) = (n : Int) - (T : Int) := by rw [IntKind.wrap_i64]; omega
  clear hv hM hok hB hc
  go_enter Try.func59, Try.ntmps59
  go_wp2
  refine wp_region_left (S := fun W => Below w.heap.size w W) (Keep := KeepK [])
    (g := fun jj vv WW => (([.is (.pointer (some ⟨qb, 0, none⟩)), .is (.pointer (some ⟨qb, 0, none⟩)), .is (.pointer (some ⟨qb, 0, none⟩)), .is (.int .i64 (n : Int)), .is (.pointer (some ⟨qb, 0, none⟩)), .is (.int .i64 (T : Int)), .is (.int .i64 ((n : Int) - (T : Int))), .is (.int .i64 ((n : Int) - (T : Int)))] : List (Kd 0)).getD jj Kd.any).ok vv WW)
    (tab := [[(0, none)], [(5, some 0)], [(6, some 1)], [(7, some 2)], [(0, none)], [(9, some 4)], [(8, some 3), (10, some 5)], [(11, some 6)]]) (tl := []) (n := 12)
    (by kernel_rfl) rfl (by kernel_rfl) keep_none (on_drew (Below.refl _ _)) ?stR1 ?enR1
  case stR1 =>
    refine ⟨fun ρ W hr hS hs => ?_, fun ρ W hr hS hs => ?_, fun ρ W hr hS hs => ?_, fun ρ W hr hS hs => ?_, fun ρ W hr hS hs => ?_, fun ρ W hr hS hs => ?_, fun ρ W hr hS hs => ?_, fun ρ W hr hS hs => ?_, trivial⟩
    · have h0 : ρ (.tmp 0) = .pointer (some ⟨qb, 0, none⟩) := hs.1
      exact step_plain rfl (leaves_move (.tmp 0) rfl ⟨h0, hS, Below.refl _ _⟩)
    · have h5 : ρ (.tmp 5) = .pointer (some ⟨qb, 0, none⟩) := hs.1
      refine step_plain rfl (leaves_value (v := .pointer (some ⟨qb, 0, none⟩)) (w' := W) ?_ ⟨rfl, hS, Below.refl _ _⟩)
      have y0 := (hS.cell (p := ⟨qb, 0, none⟩) hq).trans x0
      simp [go_sem, h5]
    · have h6 : ρ (.tmp 6) = .pointer (some ⟨qb, 0, none⟩) := hs.1
      refine step_plain rfl (leaves_value (v := .pointer (some ⟨qb, 0, none⟩)) (w' := W) ?_ ⟨rfl, hS, Below.refl _ _⟩)
      have y0 := (hS.cell (p := ⟨qb, 0, none⟩) hq).trans x0
      simp [go_sem, h6]
    · have h7 : ρ (.tmp 7) = .pointer (some ⟨qb, 0, none⟩) := hs.1
      refine step_plain rfl (leaves_value (v := .int .i64 (n : Int)) (w' := W) ?_ ⟨rfl, hS, Below.refl _ _⟩)
      have y0 := (hS.cell (p := ⟨qb, 0, none⟩) hq).trans x0
      simp [go_sem, h7, y0]
    · have h0 : ρ (.tmp 0) = .pointer (some ⟨qb, 0, none⟩) := hs.1
      exact step_plain rfl (leaves_move (.tmp 0) rfl ⟨h0, hS, Below.refl _ _⟩)
    · have h9 : ρ (.tmp 9) = .pointer (some ⟨qb, 0, none⟩) := hs.1
      refine step_plain rfl (leaves_call1 en_len hr (.tmp 9) _ rfl h9 ((HL.out W hS).mono ?_))
      rintro e W' ⟨rfl, hb'⟩
      exact ⟨_, rfl, rfl, on_trans hS hb', hb'⟩
    · have h8 : ρ (.tmp 8) = .int .i64 (n : Int) := hs.1
      have h10 : ρ (.tmp 10) = .int .i64 (T : Int) := hs.2.1
      refine step_plain rfl (leaves_value (v := .int .i64 ((n : Int) - (T : Int))) (w' := W) ?_ ⟨rfl, hS, Below.refl _ _⟩)
      have y0 := (hS.cell (p := ⟨qb, 0, none⟩) hq).trans x0
      simp [go_sem, h8, h10, hw]
    · have h11 : ρ (.tmp 11) = .int .i64 ((n : Int) - (T : Int)) := hs.1
      exact step_plain rfl (leaves_assign (.tmp 11) rfl ⟨h11, hS, Below.refl _ _⟩)
  case enR1 =>
    intro W hS v0 h0 v1 h1 v2 h2 v3 h3 v4 h4 v5 h5 v6 h6 v7 h7
    have e0 : v0 = .pointer (some ⟨qb, 0, none⟩) := h0 rfl
    subst v0
    have e1 : v1 = .pointer (some ⟨qb, 0, none⟩) := h1 rfl
    subst v1
    have e2 : v2 = .pointer (some ⟨qb, 0, none⟩) := h2 rfl
    subst v2
    have e3 : v3 = .int .i64 (n : Int) := h3 rfl
    subst v3
    have e4 : v4 = .pointer (some ⟨qb, 0, none⟩) := h4 rfl
    subst v4
    have e5 : v5 = .int .i64 (T : Int) := h5 rfl
    subst v5
    have e6 : v6 = .int .i64 ((n : Int) - (T : Int)) := h6 rfl
    subst v6
    have e7 : v7 = .int .i64 ((n : Int) - (T : Int)) := h7 rfl
    subst v7
    clear h0 h1 h2 h3 h4 h5 h6 h7
    simp only [ends, Act.put, List.setIfInBounds_toArray, List.set_cons_succ, List.set_cons_zero]
    go_wp2
    go_ret
    exact ⟨rfl, hS⟩

/-- begins. -/
theorem begins_any {F G : Nat → Prop} {w : World} {qb n : Nat} {ps : List Pt} (h : QAt F G w qb n ps) (p : Option Addr) (l c : Nat) : Calls Try.prog 83 #[.pointer (some ⟨qb, 0, none⟩), .slice p l c] w fun e w' => e = .returned (.bool (decide (0 < l ∨ ps = []))) ∧ w' = w := by
  obtain ⟨X, rfl, hM, _, _⟩ := h
  obtain ⟨q, cap, hB, hc, hv⟩ := hM.view
  have x1 := hB.cell 1 rfl
  clear hv hM hB hc
  by_cases h0 : 0 < l
  · have e : decide (0 < l ∨ X.map PX.pt = []) = true := by simp [h0]
    rw [e]
    have h0z : (0 : Int) < (l : Int) := by omega
    go_enter Try.func83, Try.ntmps83
    go_wp2
    go_ret
    exact ⟨rfl, rfl⟩
  · have h0z : ¬ (0 : Int) < (l : Int) := by omega
    by_cases hX : X.length = 0
    · have e : decide (0 < l ∨ X.map PX.pt = []) = true := by simp [List.eq_nil_of_length_eq_zero hX]
      rw [e]
      rw [hX] at x1
      go_enter Try.func83, Try.ntmps83
      go_wp2
      go_ret
      exact ⟨rfl, rfl⟩
    · have e : decide (0 < l ∨ X.map PX.pt = []) = false := by
        have : X ≠ [] := fun e => hX (by rw [e]; rfl)
        simp [h0, this]
      rw [e]
      generalize X.length = m at *
      have hXz : ((m : Int) == 0) = false := by rw [beq_eq_false_iff_ne]; omega
      go_enter Try.func83, Try.ntmps83
      go_wp2
      go_ret
      exact ⟨by simp, rfl⟩

theorem total_zero {n : Nat} {ps : List Pt} (h : Ok n ps) : total ps = 0 ↔ ps = [] := by
  cases ps with
  | nil => simp [total]
  | cons x r =>
    have := h.some x (List.mem_cons_self)
    have h2 : x.1.length ≠ 0 := fun e => this (List.eq_nil_of_length_eq_zero e)
    have h3 : total (x :: r) = x.1.length + total r := by simp [total]
    constructor
    · intro e; omega
    · intro e; cases e

theorem next_nil (w : World) : Calls Try.prog 63 #[.pointer none] w fun e w' => e = .returned (.int .i64 0) ∧ w' = w := by
  have cL := len_nil w
  go_enter Try.func63, Try.ntmps63
  go_wp2_with fail
  refine cL.mono ?_
  rintro e w1 ⟨rfl, rfl⟩
  go_wp2
  go_ret
  exact ⟨rfl, rfl⟩
/-- How many are passed with the first part. -/
def nextF (ps : List Pt) : Nat := match ps with | [] => 0 | x :: _ => x.2.length
set_option maxRecDepth 100000 in
theorem next_any {F G : Nat → Prop} {w : World} {qb n : Nat} {ps : List Pt} (h : QAt F G w qb n ps) : Calls Try.prog 63 #[.pointer (some ⟨qb, 0, none⟩)] w fun e w' => e = .returned (.int .i64 (nextF ps : Nat)) ∧ Below w.heap.size w w' := by
  have cL := len_any h
  have hz := total_zero h.ok
  obtain ⟨X, rfl, hM, hok, _⟩ := h
  have hall := hok.all
  have hmost := hok.most
  cases X with
  | nil =>
    clear hM hz hok hall
    have ht : total (([] : List PX).map PX.pt) = 0 := rfl
    rw [ht] at cL
    go_enter Try.func63, Try.ntmps63
    go_wp2_with fail
    refine cL.mono ?_
    rintro e w1 ⟨rfl, hb⟩
    go_wp2
    go_ret
    exact ⟨rfl, hb⟩
  | cons x r =>
    obtain ⟨p, cap, hB, hc, hv⟩ := hM.view
    obtain ⟨g, rfl, hF, hg, hc0, hc1, _, _⟩ := hv 0 x rfl
    obtain ⟨p2, c2, hlv, _⟩ := (hM.pas x (List.mem_cons_self)).row
    rw [hlv, Nat.zero_mul, Nat.zero_add] at hc1
    have hne : total ((x :: r).map PX.pt) ≠ 0 := fun e => by simp at hz; exact hz e
    have e : nextF ((x :: r).map PX.pt) = x.M.length := by simp [nextF, PX.pt]
    have x1 := hB.cell 1 rfl
    have HB : Hid (Blk w qb 111 [.int .i64 (n : Int), .slice (some ⟨g, 0, none⟩) (x :: r).length cap]) := hB
    rw [e]
    have hl : (x :: r).length = r.length + 1 := rfl
    rw [hl] at x1 HB
    generalize total ((x :: r).map PX.pt) = T at *
    generalize x.M.length = m at *
    generalize r.length = rl at *
    have hTz : ¬ (T : Int) = 0 := by omega
    clear hv hM hok hz hc0 hF hc hB
    go_enter Try.func63, Try.ntmps63
    go_wp2_with fail
    refine cL.mono ?_
    rintro e w1 ⟨rfl, hb⟩
    have y1 := (hb.cell (p := ⟨qb, 1, none⟩) HB.out.lt).trans x1
    have y2 := (hb.cell (p := ⟨g, 1, none⟩) hg).trans hc1
    have hrz : (0 : Int) < (rl : Int) + 1 := by omega
    go_wp2
    go_ret
    exact ⟨rfl, hb⟩

end Go.Proofs.Ytfhkdndgiofidaa.K
