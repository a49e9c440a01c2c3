/- What a limit leaves is within what was there; no program. -/
import Derived.Test.YtmccfcllehfebaaZLaw
namespace Go.Proofs.Ytmccfcllehfebaa.Z
open Go Go.RowKit

theorem sub_self {x : Nat} (h : x < 4294967296) : R.subB x x = true := (R.subB_iff h).2 fun _ _ h => h
theorem list_self {a : Bool} {l : List Int} (h : W.canB a l = true) : W.subB a l a l = true := by
  unfold W.subB
  rw [h]
  cases a with
  | true => rfl
  | false => simp [W.hasB]
theorem list_none {a : Bool} {l : List Int} (h : W.canB a l = true) : W.subB false [] a l = true := by
  unfold W.subB
  rw [h, W.canB_nil]
  rfl
theorem maskV_is {o m : Int} (h : W.maskE o m = 0) : W.maskV o m = m := by
  unfold W.maskE at h
  unfold W.maskV
  cases h1 : mBad o m <;> simp [h1] at h
  cases h2 : mMore o m <;> simp [h2] at h
  simp
theorem within_of {x y : Sl} (h1 : R.subB x.rights y.rights = true) (h2 : W.subB x.all x.ints y.all y.ints = true) (h3 : W.maskE y.fc x.fc = 0) : withinB x y = true := by
  unfold withinB
  rw [Bool.and_eq_true, Bool.and_eq_true]
  exact ⟨⟨h1, h2⟩, decide_eq_true h3⟩
theorem within_self {x : Sl} (hc : canS x = true) (hr : x.rights < 4294967296) : withinB x x = true := within_of (sub_self hr) (list_self (can_canB hc)) (mask_self (can_fc hc))
theorem within_r {x : Sl} (hc : canS x = true) {r : Nat} (h : R.subB r x.rights = true) : withinB (lessR r x) x = true := by
  refine within_of h ?_ ?_
  · show W.subB (if r.testBit 28 then x.all else false) (if r.testBit 28 then x.ints else []) x.all x.ints = true
    cases r.testBit 28 with
    | true => exact list_self (can_canB hc)
    | false => exact list_none (can_canB hc)
  · show W.maskE x.fc (if r.testBit 9 then x.fc else 0) = 0
    cases r.testBit 9 with
    | true => exact mask_self (can_fc hc)
    | false => exact mask_zero (can_fc hc)
theorem within_i {x : Sl} (hc : canS x = true) (hr : x.rights < 4294967296) {l : List Int} (h : W.limE x.all x.ints l = 0) : withinB (lessI l x) x = true := within_of (sub_self hr) (limV_can h).2 (mask_self (can_fc hc))
theorem within_f {x : Sl} (hc : canS x = true) (hr : x.rights < 4294967296) {m : Int} (h : W.maskE x.fc m = 0) : withinB (lessF m x) x = true := within_of (sub_self hr) (show W.subB x.all x.ints x.all x.ints = true from list_self (can_canB hc)) (by show W.maskE x.fc (W.maskV x.fc m) = 0; rw [maskV_is h]; exact h)
/-- Three numbers, one of them there. -/
def three (x : Sl) : List Sl := [zS, x, zS]
theorem three_fits {x : Sl} (h : Fit x) : Fits (three x) := fun y hy => by
  simp only [three, List.mem_cons, List.not_mem_nil, or_false] at hy
  rcases hy with rfl | rfl | rfl
  · exact fit_z
  · exact h
  · exact fit_z
theorem three_live {x : Sl} (hf : x.file ≠ 0) : liveB (three x) 1 = true := by
  unfold liveB
  rw [Bool.and_eq_true]
  exact ⟨rfl, decide_eq_true hf⟩
/-- What the limit left, and what it told. -/
def Left (x y : Sl) (E : Int) : Prop := Fit y ∧ y.file ≠ 0 ∧ withinB y x = true ∧ (E ≠ 0 → y = x)
theorem left_same {x : Sl} (h : Fit x) (hf : x.file ≠ 0) (E : Int) : Left x x E := ⟨h, hf, within_self (h.live hf) h.1, fun _ => rfl⟩
theorem lim_left {x : Sl} (h : Fit x) (hf : x.file ≠ 0) {r : Nat} (hr : r < 4294967296) : ∃ y, limS (three x) 1 r = three y ∧ Left x y (getE (three x) 1 r) := by
  unfold limS
  rw [three_live hf]
  cases hs : R.subB r (atS (three x) 1).rights with
  | false => exact ⟨x, rfl, left_same h hf _⟩
  | true =>
    refine ⟨lessR r x, rfl, fit_r h hf hr, hf, within_r (h.live hf) hs, fun hE => absurd ?_ hE⟩
    unfold getE
    rw [three_live hf, hs]
    rfl
theorem io_left {x : Sl} (h : Fit x) (hf : x.file ≠ 0) (l : List Int) : ∃ y, ioS (three x) 1 l = three y ∧ Left x y (ioE (three x) 1 l) := by
  unfold ioS
  rw [three_live hf]
  by_cases hE : W.limE (atS (three x) 1).all (atS (three x) 1).ints l = 0
  · rw [decide_eq_true hE]
    refine ⟨lessI l x, rfl, fit_i h hf hE, hf, within_i (h.live hf) h.1 hE, fun hn => absurd ?_ hn⟩
    unfold ioE
    rw [three_live hf]
    exact hE
  · rw [decide_eq_false hE]
    exact ⟨x, rfl, left_same h hf _⟩
theorem fc_left {x : Sl} (h : Fit x) (hf : x.file ≠ 0) (m : Int) : ∃ y, fcS (three x) 1 m = three y ∧ Left x y (fcE (three x) 1 m) := by
  unfold fcS
  rw [three_live hf]
  by_cases hE : W.maskE (atS (three x) 1).fc m = 0
  · rw [decide_eq_true hE]
    refine ⟨lessF m x, rfl, fit_f h hf hE, hf, within_f (h.live hf) h.1 hE, fun hn => absurd ?_ hn⟩
    unfold fcE
    rw [three_live hf]
    exact hE
  · rw [decide_eq_false hE]
    exact ⟨x, rfl, left_same h hf _⟩

end Go.Proofs.Ytmccfcllehfebaa.Z
