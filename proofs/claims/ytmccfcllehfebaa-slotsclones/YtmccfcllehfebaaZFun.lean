/- What the calls of slots answer: numbers, can, fresh, held, Free, New, Full. -/
import Derived.Test.YtmccfcllehfebaaZMem
namespace Go.Proofs.Ytmccfcllehfebaa.Z
open Go Go.RowKit

theorem infoS : (Try.prog.info? 34).map (·.size) = some 5 := by kernel_rfl
section
variable {D F : Nat → Prop} {w : World} {tb rb : Nat} {M : List Ent} {S : List Sl}
theorem TabM.look (h : TabM D F w tb rb M) {k : Nat} {e : Ent} (hk : M[k]? = some e) : w.cell? ⟨rb, k, none⟩ = some e.ptr := h.row.cell k (by rw [List.getElem?_map, hk]; rfl)
theorem ent_at (M : List Ent) {k : Nat} (hk : k < M.length) : ∃ e, M[k]? = some e ∧ (M.map Ent.sl).getD k zS = e.sl := ⟨M[k], List.getElem?_eq_getElem hk, by simp [List.getD, hk]⟩
set_option maxRecDepth 100000 in
theorem numbers_any {n : Nat} {p : Option Addr} {c : Nat} (x0 : w.cell? ⟨tb, 0, none⟩ = some (.slice p n c)) (hn : n = S.length) (fd : Int) :
    Calls Try.prog 42 #[ptr tb, .int .i64 fd] w fun e w' => e = .returned (.bool (inB S fd)) ∧ w' = w := by
  have HI : Hid (inB S fd = (decide (0 ≤ fd) && decide (fd < (n : Int)))) := by rw [hn]; rfl
  generalize inB S fd = r at *
  clear hn
  by_cases h1 : 0 ≤ fd
  · have z1 : decide (0 ≤ fd) = true := decide_eq_true h1
    rw [z1, Bool.true_and] at HI
    go_enter Try.func42, Try.ntmps42
    go_wp2
    go_ret
    exact ⟨by rw [HI.out]; rfl, rfl⟩
  · have z1 : decide (0 ≤ fd) = false := decide_eq_false h1
    rw [z1, Bool.false_and] at HI
    go_enter Try.func42, Try.ntmps42
    go_wp2
    go_ret
    exact ⟨by rw [HI.out]; rfl, rfl⟩
set_option maxRecDepth 100000 in
theorem held_yes (h : TabM D F w tb rb M) {k : Nat} {e : Ent} (hk : M[k]? = some e) (hf : e.sl.file ≠ 0) :
    Calls Try.prog 38 #[ptr tb, .int .i64 (k : Int)] w fun e' w' => e' = .returned (.tuple #[ptr e.bk, .int .i64 0]) ∧ w' = w := by
  have x0 := h.box.cell 0 rfl
  have x1 := h.look hk
  have hlt := (List.getElem?_eq_some_iff.1 hk).1
  have cN := numbers_any (S := M.map Ent.sl) x0 (by simp) (k : Int)
  rw [in_iff.2 ⟨by omega, by simpa using hlt⟩] at cN
  rw [show e.ptr = ptr e.bk by unfold Ent.ptr; rw [if_neg hf]] at x1
  have hz : (k : Int) < (M.length : Int) := by omega
  clear h hk hf
  generalize e.bk = b at *
  go_enter Try.func38, Try.ntmps38
  go_wp2_with fail
  refine cN.mono ?_
  rintro e w1 ⟨rfl, rfl⟩
  go_wp2
  go_ret2
  exact ⟨rfl, rfl⟩
set_option maxRecDepth 100000 in
theorem held_no (h : TabM D F w tb rb M) {fd : Int} (hl : liveB (M.map Ent.sl) fd = false) :
    Calls Try.prog 38 #[ptr tb, .int .i64 fd] w fun e' w' => e' = .returned (.tuple #[.pointer none, .int .i64 9]) ∧ w' = w := by
  have x0 := h.box.cell 0 rfl
  have cN := numbers_any (S := M.map Ent.sl) x0 (by simp) fd
  cases hi : inB (M.map Ent.sl) fd with
  | false =>
    rw [hi] at cN
    clear h hi hl
    go_enter Try.func38, Try.ntmps38
    go_wp2_with fail
    refine cN.mono ?_
    rintro e w1 ⟨rfl, rfl⟩
    go_wp2
    go_ret2
    exact ⟨rfl, rfl⟩
  | true =>
    rw [hi] at cN
    obtain ⟨k, rfl⟩ : ∃ k : Nat, fd = (k : Int) := ⟨fd.toNat, by have := (in_iff.1 hi).1; omega⟩
    have hlt : k < M.length := by have := (in_iff.1 hi).2; rw [List.length_map] at this; omega
    obtain ⟨e, hk, he⟩ := ent_at M hlt
    have hf : e.sl.file = 0 := by
      rw [live_of (by simpa using hlt), he] at hl
      simpa using hl
    have x1 := h.look hk
    rw [show e.ptr = .pointer none by unfold Ent.ptr; rw [if_pos hf]] at x1
    have hz : (k : Int) < (M.length : Int) := by omega
    clear h hi hl hk he hf
    go_enter Try.func38, Try.ntmps38
    go_wp2_with fail
    refine cN.mono ?_
    rintro e w1 ⟨rfl, rfl⟩
    go_wp2
    go_ret2
    exact ⟨rfl, rfl⟩
end
set_option maxRecDepth 100000 in
theorem held_nil (fd : Int) (w : World) : Calls Try.prog 38 #[.pointer none, .int .i64 fd] w fun e' w' => e' = .returned (.tuple #[.pointer none, .int .i64 22]) ∧ w' = w := by
  go_enter Try.func38, Try.ntmps38
  go_wp2
  go_ret2
  exact ⟨rfl, rfl⟩

set_option maxRecDepth 100000 in
set_option maxHeartbeats 1000000 in
theorem can_any (x : Sl) (p : Option Addr) (c : Nat) (w : World) (h : W.At w p x.ints) (hl : x.ints.length ≤ 1000) :
    Calls Try.prog 46 #[.agg (slC x (.slice p x.ints.length c)).toArray] w fun e w' => e = .returned (.bool (canS x)) ∧ Below w.heap.size w w' := by
  obtain ⟨file, rights, all, ints, fc⟩ := x
  simp only [slC] at *
  have cC := fun w1 (hb : Below w.heap.size w w1) => W.can_any all p ints.length c ints w1 rfl (by omega) (h.on hb)
  have HB : Hid (Below w.heap.size w (w.alloc (.cells #[.int .i64 file, .int .u32 (rights : Int), .bool all, .slice p ints.length c, .int .i64 fc] 34))) := on_alloc w _
  have HC : Hid (canS ⟨file, rights, all, ints, fc⟩ = (decide (0 < file) && W.canB all ints && fcB fc)) := rfl
  have hfc := fcB_iff fc
  generalize canS ⟨file, rights, all, ints, fc⟩ = r at *
  generalize W.canB all ints = ca at *
  generalize fcB fc = f at *
  generalize hy : bits .andNot .i64 fc 120 = y at *
  have hq : (y == 0) = f := by rw [Bool.eq_iff_iff, beq_iff_eq]; exact hfc
  clear h hfc
  by_cases h1 : 0 < file
  · have z1 : decide (0 < file) = true := decide_eq_true h1
    rw [z1, Bool.true_and] at HC
    have HX : Hid (Blk (w.alloc (.cells #[.int .i64 file, .int .u32 (rights : Int), .bool all, .slice p ints.length c, .int .i64 fc] 34)) w.heap.size 34 [.int .i64 file, .int .u32 (rights : Int), .bool all, .slice p ints.length c, .int .i64 fc]) := Blk.new w _ [.int .i64 file, .int .u32 (rights : Int), .bool all, .slice p ints.length c, .int .i64 fc]
    cases ca with
    | true =>
      go_enter Try.func46, Try.ntmps46
      go_wp2_with fail
      generalize w.alloc (.cells #[.int .i64 file, .int .u32 (rights : Int), .bool all, .slice p ints.length c, .int .i64 fc] 34) = w0 at *
      refine (cC _ HB.out).mono ?_
      rintro e w1 ⟨rfl, hb1⟩
      have HB1 : Hid (Below w.heap.size w w1) := on_trans HB.out hb1
      have x4 := (HX.out.on hb1).cell 4 rfl
      clear HX HB hb1 cC
      go_wp2
      go_ret
      exact ⟨by rw [HC.out]; rfl, HB1.out⟩
    | false =>
      go_enter Try.func46, Try.ntmps46
      go_wp2_with fail
      generalize w.alloc (.cells #[.int .i64 file, .int .u32 (rights : Int), .bool all, .slice p ints.length c, .int .i64 fc] 34) = w0 at *
      refine (cC _ HB.out).mono ?_
      rintro e w1 ⟨rfl, hb1⟩
      have HB1 : Hid (Below w.heap.size w w1) := on_trans HB.out hb1
      clear HX HB hb1 cC
      go_wp2
      go_ret
      exact ⟨by rw [HC.out]; rfl, HB1.out⟩
  · have z1 : decide (0 < file) = false := decide_eq_false h1
    rw [z1, Bool.false_and, Bool.false_and] at HC
    go_enter Try.func46, Try.ntmps46
    go_wp2
    go_ret
    exact ⟨by rw [HC.out]; rfl, HB.out⟩

/-- A descriptor in new memory. -/
def FreshPost (w : World) (x : Sl) (e : Ending) (w' : World) : Prop := e = .returned (ptr w.heap.size) ∧ Below w.heap.size w w' ∧ ∃ p c, Blk w' w.heap.size 34 (slC x (.slice p x.ints.length c)) ∧ W.AtF (w.heap.size + 1) w' p x.ints
theorem elemInt : ElemOk Try.prog 30 3 (.int .i64 0) 8 := ⟨Try.underlying30, by kernel_rfl, rfl, by decide⟩
set_option maxRecDepth 100000 in
set_option maxHeartbeats 1000000 in
theorem fresh_any (x : Sl) (p : Option Addr) (c : Nat) (w : World) (h : W.At w p x.ints) (hl : x.ints.length ≤ 1000) :
    Calls Try.prog 40 #[.agg (slC x (.slice p x.ints.length c)).toArray] w (FreshPost w x) := by
  have HB : Hid (Below w.heap.size w (w.alloc (.cells (slC x (.slice p x.ints.length c)).toArray 34))) := on_alloc w _
  have HX := Blk.new w 34 (slC x (.slice p x.ints.length c))
  have hs : (w.alloc (.cells (slC x (.slice p x.ints.length c)).toArray 34)).heap.size = w.heap.size + 1 := by simp
  obtain ⟨v', W', hrun, hown, hgr⟩ := append_row elemInt (w.heap.size + 1) (.slice none 0 0) [] p c (W.intsV x.ints) (w.alloc (.cells (slC x (.slice p x.ints.length c)).toArray 34)) (by simp) (by rw [W.intsV_len]; omega) (W.one_ints _) (ownV_nil _ _ _) (W.at_ints.1 (h.on HB.out)) (by rw [hs]; omega)
  obtain ⟨p', c', rfl, hat, _⟩ := ownV_at hown
  rw [List.nil_append] at hat
  rw [List.nil_append, W.intsV_len] at hrun
  have hX1 := hgr.blk HX (by decide)
  have f3 := hX1.free 3
  have x3 := hX1.cell 3 rfl
  have hX2 := hX1.set 3 (.slice p' x.ints.length c')
  have HP : Hid (FreshPost w x (.returned (ptr w.heap.size)) (W'.setCell ⟨w.heap.size, 3, none⟩ (.slice p' x.ints.length c'))) := by
    refine ⟨rfl, below_but (hgr.below (B := w.heap.size) HB.out (by omega) (by rw [hs]; omega)) (but_set _ _ _ _) (Nat.le_refl _), p', c', hX2, W.atF_ints.2 (hat.but (but_set _ _ _ _) (by omega))⟩
  generalize FreshPost w x = Post at *
  clear hX1 hX2 hgr hown hat HX HB h
  obtain ⟨file, rights, all, ints, fc⟩ := x
  simp only [slC] at *
  go_enter Try.func40, Try.ntmps40
  go_wp2_with (at_builtin; refine wpList_run_append (by rfl) _ _ _ (by rfl) _ _ (by rfl) (by rfl) hrun ?_)
  exact HP.out

end Go.Proofs.Ytmccfcllehfebaa.Z
