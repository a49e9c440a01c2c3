/- What calls.Flags answers, for every number. -/
import Derived.Test.YtgolihipinjfmaaGreatDoorCMod
import Derived.Test.YtgolihipinjfmaaGreatDoorGMore
import Derived.Test.YtgolihipinjfmaaGreatDoorProg
import Derived.RangeFuncBox
import Derived.Deep.DeepCutAuto
import Derived.Deep.Cut
namespace Go.Proofs.YtgolihipinjfmaaGreatDoor.C
open Go Go.RowKit

theorem has_iff (f m : Int) (h0 : 0 ≤ m) (h1 : m < 9223372036854775808) : bits .and .i64 f m = m ↔ ∀ i, i < 64 → bitI m i = true → bitI f i = true := by
  have hm : (BitVec.ofInt 64 m).toNat = m.toNat := by rw [BitVec.toNat_ofInt]; omega
  have key : bits .and .i64 f m = m ↔ BitVec.ofInt 64 f &&& BitVec.ofInt 64 m = BitVec.ofInt 64 m := by
    show IntKind.i64.wrap ((BitVec.ofInt 64 f &&& BitVec.ofInt 64 m).toNat : Nat) = m ↔ _
    have hlt : (BitVec.ofInt 64 f &&& BitVec.ofInt 64 m).toNat ≤ (BitVec.ofInt 64 m).toNat := by rw [BitVec.toNat_and]; exact Nat.and_le_right
    rw [IntKind.wrap_i64, ← BitVec.toNat_inj]
    omega
  rw [key]
  constructor
  · intro h i hi hb
    have := congrArg (fun v => v.getLsbD i) h
    simp only [BitVec.getLsbD_and, bit_ofInt _ _ hi, hb, Bool.and_true] at this
    exact this
  · intro h
    apply BitVec.eq_of_getLsbD_eq
    intro i hi
    rw [BitVec.getLsbD_and, bit_ofInt _ _ hi, bit_ofInt _ _ hi]
    cases hb : bitI m i with
    | false => simp
    | true => rw [h i hi hb]; rfl
def hasV (f m : Int) : Bool := bits .and .i64 f m == m
theorem hasV_of (f m : Int) (h0 : 0 ≤ m) (h1 : m < 9223372036854775808) (b : Bool) (hb : (∀ i, i < 64 → bitI m i = true → bitI f i = true) ↔ b = true) : hasV f m = b := by
  unfold hasV
  cases b with
  | true => exact beq_iff_eq.2 ((has_iff f m h0 h1).2 (hb.2 rfl))
  | false => exact beq_eq_false_iff_ne.2 fun e => by have := hb.1 ((has_iff f m h0 h1).1 e); cases this
theorem has_pow (f : Int) (k : Nat) (hk : k < 63) (m : Int) (hm : m = 2 ^ k) (h1 : m < 9223372036854775808) (h0 : 0 ≤ m) : hasV f m = bitI f k := by
  subst hm
  refine hasV_of f _ h0 h1 _ ⟨fun h => h k (by omega) (by rw [one_bit ⟨k, hk⟩ ⟨k, by omega⟩]; simp), fun h i hi hb => ?_⟩
  rw [one_bit ⟨k, hk⟩ ⟨i, hi⟩] at hb
  obtain rfl : i = k := by simpa using hb
  exact h
theorem bits_3 : ∀ i : Fin 64, bitI 3 i.val = (decide (i.val = 0) || decide (i.val = 1)) := by
  intro i
  rw [← bit_ofInt _ _ i.isLt]
  revert i
  decide
theorem bits_cd : ∀ i : Fin 64, bitI 131584 i.val = (decide (i.val = 9) || decide (i.val = 17)) := by
  intro i
  rw [← bit_ofInt _ _ i.isLt]
  revert i
  decide
theorem has_3 (f : Int) : hasV f 3 = (bitI f 0 && bitI f 1) := by
  refine hasV_of f _ (by decide) (by decide) _ ⟨fun h => ?_, fun h i hi hb => ?_⟩
  · rw [h 0 (by omega) (by rw [bits_3 ⟨0, by omega⟩]; rfl), h 1 (by omega) (by rw [bits_3 ⟨1, by omega⟩]; rfl)]; rfl
  · rw [bits_3 ⟨i, hi⟩] at hb
    simp at h hb
    rcases hb with rfl | rfl
    · exact h.1
    · exact h.2
theorem has_cd (f : Int) : hasV f 131584 = (bitI f 9 && bitI f 17) := by
  refine hasV_of f _ (by decide) (by decide) _ ⟨fun h => ?_, fun h i hi hb => ?_⟩
  · rw [h 9 (by omega) (by rw [bits_cd ⟨9, by omega⟩]; rfl), h 17 (by omega) (by rw [bits_cd ⟨17, by omega⟩]; rfl)]; rfl
  · rw [bits_cd ⟨i, hi⟩] at hb
    simp at h hb
    rcases hb with rfl | rfl
    · exact h.1
    · exact h.2

theorem has_any (f m : Int) (B : Nat) (w : World) (hc : w.cell? ⟨B, 0, none⟩ = some (.int .i64 f)) :
    Calls Tryz.prog 40 #[.int .i64 m, .pointer (some ⟨B, 0, none⟩)] w fun e W => e = .returned (.bool (hasV f m)) ∧ W = w := by
  go_enter Tryz.func40, Tryz.ntmps40
  go_wp2
  go_ret
  exact ⟨rfl, rfl⟩
theorem or_any (a b : Int) (w : World) : Calls Tryz.prog 42 #[.int .u32 a, .int .u32 b] w fun e W => e = .returned (.int .u32 (bits .or .u32 a b)) ∧ W = w := by
  go_enter Tryz.func42, Tryz.ntmps42
  go_wp2
  go_ret
  exact ⟨rfl, rfl⟩
def orB (nb : Bool) (v r : Int) : Int := if nb then bits .or .u32 v r else v
theorem add_any (r v : Int) (nb : Bool) (N : Nat) (w : World) (hb : Boxed w N 34 (.int .u32 v)) :
    Calls Tryz.prog 41 #[.int .u32 r, .bool nb, .pointer (some ⟨N, 0, none⟩)] w fun e W => (∃ u, e = .returned u) ∧ Boxed W N 34 (.int .u32 (orB nb v r)) ∧ But N w W := by
  have hc := hb.cell
  have hf := hb.frozen
  cases nb with
  | true =>
    go_enter Tryz.func41, Tryz.ntmps41
    go_wp2_with (go_at_call 42; refine (or_any _ _ _).mono ?_; rintro e w' ⟨rfl, rfl⟩)
    go_end0
    exact ⟨⟨_, rfl⟩, hb.set _, but_set _ _ _ _⟩
  | false =>
    go_enter Tryz.func41, Tryz.ntmps41
    go_wp2
    go_end0
    exact ⟨⟨_, rfl⟩, hb, But.refl _ _⟩

/-- The rights, by the bits of access, of creation and of a cut. -/
def needB (one both creat trunc : Bool) : Int := orB trunc (orB creat (orB (one || both) (orB (!one) 128 1) 2) 16) 64
theorem needB_is : ∀ a b c d : Bool, needB a b c d = 128 + (if a then 0 else 1) + (if a || b then 2 else 0) + (if c then 16 else 0) + (if d then 64 else 0) := by decide
def FlagsPost (f : Int) (w : World) (e : Ending) (W : World) : Prop := e = .returned (.tuple #[.int .u32 (flagR f), .int .i64 (flagE f)]) ∧ Below w.heap.size w W

set_option maxRecDepth 100000 in
set_option maxHeartbeats 2000000 in
theorem flags_any (f : Int) (w : World) : Calls Tryz.prog 27 #[.int .i64 f] w (FlagsPost f w) := by
  have hb := Boxed.new w 3 (.int .i64 f)
  have hB := (Below.refl _ w).alloc (Nat.le_refl _) (.cells #[.int .i64 f] 3)
  have hc := hb.cell
  have k1 := has_pow f 0 (by decide) 1 (by decide) (by decide) (by decide)
  have k2 := has_pow f 1 (by decide) 2 (by decide) (by decide) (by decide)
  have k3 := has_3 f
  have k4 := has_pow f 10 (by decide) 1024 (by decide) (by decide) (by decide)
  have k5 := has_cd f
  have k6 := has_pow f 9 (by decide) 512 (by decide) (by decide) (by decide)
  have ho : (bits .andNot .i64 f 134927 != 0) = odd f := by
    cases h : odd f with
    | false => rw [(odd_iff f).2 h]; rfl
    | true =>
      rw [bne_iff_ne]
      exact fun e => by rw [(odd_iff f).1 e] at h; cases h
  obtain ⟨one, h1⟩ : ∃ b, bitI f 0 = b := ⟨_, rfl⟩
  obtain ⟨both, h2⟩ : ∃ b, bitI f 1 = b := ⟨_, rfl⟩
  obtain ⟨creat, h3⟩ : ∃ b, bitI f 9 = b := ⟨_, rfl⟩
  obtain ⟨trunc, h4⟩ : ∃ b, bitI f 10 = b := ⟨_, rfl⟩
  obtain ⟨dir, h5⟩ : ∃ b, bitI f 17 = b := ⟨_, rfl⟩
  obtain ⟨od, h6⟩ : ∃ b, odd f = b := ⟨_, rfl⟩
  rw [h1, h2] at k3
  rw [h3, h5] at k5
  rw [h1] at k1
  rw [h2] at k2
  rw [h4] at k4
  rw [h3] at k6
  rw [h6] at ho
  have HF : Hid (flagB f = (od || (one && both) || (trunc && !one && !both) || (creat && dir))) := by show _ = _; unfold flagB; rw [h1, h2, h3, h4, h5, h6]
  have HR : Hid (flagR f = if (od || (one && both) || (trunc && !one && !both) || (creat && dir)) then 0 else needB one both creat trunc) := by show _ = _; unfold flagR; rw [HF.out, needB_is, h1, h2, h3, h4]
  have HE : Hid (flagE f = if (od || (one && both) || (trunc && !one && !both) || (creat && dir)) then 22 else 0) := by show _ = _; unfold flagE; rw [HF.out]
  have ha := fun m => has_any f m w.heap.size
  have hbD := hb.alloc (.cells #[.int .u32 128] 34)
  have hcD := hbD.cell
  have hN := Boxed.new (w.alloc (.cells #[.int .i64 f] 3)) 34 (.int .u32 128)
  rw [World.size_alloc] at hN
  have hBB := hB.alloc (by simp) (.cells #[.int .u32 128] 34)
  clear h1 h2 h3 h4 h5 h6 ha
  go_enter Tryz.func27, Tryz.ntmps27
  go_upto_region 2 with fail
  go_cut [5] from 9 to 14 (fun s5 wx => s5 = .bool (one || both) ∧ wx = w.alloc (.cells #[.int .i64 f] 3))
  case first =>
    cases one
    all_goals
      go_wp2_with (go_at_call 40; refine (has_any f _ _ _ hc).mono ?_; rintro e w' ⟨rfl, rfl⟩)
      go_meet
      exact ⟨rfl, rfl⟩
  case rest =>
    obtain ⟨rfl, rfl⟩ := hcut
    obtain ⟨wr, hwr⟩ : ∃ b, (one || both) = b := ⟨_, rfl⟩
    obtain ⟨bth, hbth⟩ : ∃ b, (one && both) = b := ⟨_, rfl⟩
    obtain ⟨cd, hcd⟩ : ∃ b, (creat && dir) = b := ⟨_, rfl⟩
    have hF2 : flagB f = (od || bth || (trunc && !wr) || cd) := by rw [HF.out, ← hwr, ← hbth, ← hcd]; cases trunc <;> cases one <;> cases both <;> simp
    have HBad : Hid ((od || bth || (trunc && !wr) || cd) = true → FlagsPost f w (.returned (.tuple #[.int .u32 0, .int .i64 22])) (w.alloc (.cells #[.int .i64 f] 3))) := fun hh => ⟨by rw [flagR, flagE, hF2, hh]; rfl, hB⟩
    have HGood : Hid ((od || bth || (trunc && !wr) || cd) = false → ∀ X, Below w.heap.size w X → FlagsPost f w (.returned (.tuple #[.int .u32 (orB trunc (orB creat (orB wr (orB (!one) 128 1) 2) 16) 64), .int .i64 0])) X) := fun hh X hX => ⟨by
      rw [HR.out, HE.out, ← HF.out, hF2, hh, ← hwr]; rfl, hX⟩
    rw [hwr]
    rw [hbth] at k3
    rw [hcd] at k5
    clear hwr hbth hcd hF2 HF HR HE
    cases od with
    | true =>
      go_wp2_with fail
      go_ret2
      exact HBad.out rfl
    | false =>
    cases bth with
    | true =>
      go_wp2_with (go_at_call 40; refine (has_any f _ _ _ hc).mono ?_; rintro e w' ⟨rfl, rfl⟩)
      go_ret2
      exact HBad.out rfl
    | false =>
    cases trunc <;> cases wr <;> cases cd
    · go_upto_region 12 with (first | (first | (go_at_call 40; refine (has_any f _ _ _ hc).mono ?_; rintro e w' ⟨rfl, rfl⟩) | (go_at_call 40; refine (has_any f _ _ _ hcD).mono ?_; rintro e w' ⟨rfl, rfl⟩)) | (go_at_call 41; refine (add_any _ _ _ _ _ hN).mono ?_; rintro e X1 ⟨⟨u, rfl⟩, hN1, hBt⟩))
      have hbD1 := (hBt.block w.heap.size (by omega)).trans hbD
      have hcD1 := Boxed.cell hbD1
      have hBB1 := below_but hBB hBt (by omega)
      clear hBt hN hbD hcD hBB
      go_upto_region 13 with (first | (go_at_call 40; refine (has_any f _ _ _ hcD1).mono ?_; rintro e w' ⟨rfl, rfl⟩) | (go_at_call 41; refine (add_any _ _ _ _ _ hN1).mono ?_; rintro e X2 ⟨⟨u, rfl⟩, hN2, hBt⟩))
      have hbD2 := (hBt.block w.heap.size (by omega)).trans hbD1
      have hcD2 := Boxed.cell hbD2
      have hBB2 := below_but hBB1 hBt (by omega)
      clear hBt hN1 hbD1 hcD1 hBB1
      go_upto_region 14 with (first | (go_at_call 40; refine (has_any f _ _ _ hcD2).mono ?_; rintro e w' ⟨rfl, rfl⟩) | (go_at_call 41; refine (add_any _ _ _ _ _ hN2).mono ?_; rintro e X3 ⟨⟨u, rfl⟩, hN3, hBt⟩))
      have hbD3 := (hBt.block w.heap.size (by omega)).trans hbD2
      have hcD3 := Boxed.cell hbD3
      have hBB3 := below_but hBB2 hBt (by omega)
      clear hBt hN2 hbD2 hcD2 hBB2
      go_upto_region 15 with (first | (go_at_call 40; refine (has_any f _ _ _ hcD3).mono ?_; rintro e w' ⟨rfl, rfl⟩) | (go_at_call 41; refine (add_any _ _ _ _ _ hN3).mono ?_; rintro e X4 ⟨⟨u, rfl⟩, hN4, hBt⟩))
      have hbD4 := (hBt.block w.heap.size (by omega)).trans hbD3
      have hcD4 := Boxed.cell hbD4
      have hBB4 := below_but hBB3 hBt (by omega)
      clear hBt hN3 hbD3 hcD3 hBB3
      have hcN := hN4.cell
      go_wp2_with fail
      go_ret2
      exact HGood.out rfl _ hBB4
    · go_wp2_with (go_at_call 40; refine (has_any f _ _ _ hc).mono ?_; rintro e w' ⟨rfl, rfl⟩)
      go_ret2
      exact HBad.out rfl
    · go_upto_region 12 with (first | (first | (go_at_call 40; refine (has_any f _ _ _ hc).mono ?_; rintro e w' ⟨rfl, rfl⟩) | (go_at_call 40; refine (has_any f _ _ _ hcD).mono ?_; rintro e w' ⟨rfl, rfl⟩)) | (go_at_call 41; refine (add_any _ _ _ _ _ hN).mono ?_; rintro e X1 ⟨⟨u, rfl⟩, hN1, hBt⟩))
      have hbD1 := (hBt.block w.heap.size (by omega)).trans hbD
      have hcD1 := Boxed.cell hbD1
      have hBB1 := below_but hBB hBt (by omega)
      clear hBt hN hbD hcD hBB
      go_upto_region 13 with (first | (go_at_call 40; refine (has_any f _ _ _ hcD1).mono ?_; rintro e w' ⟨rfl, rfl⟩) | (go_at_call 41; refine (add_any _ _ _ _ _ hN1).mono ?_; rintro e X2 ⟨⟨u, rfl⟩, hN2, hBt⟩))
      have hbD2 := (hBt.block w.heap.size (by omega)).trans hbD1
      have hcD2 := Boxed.cell hbD2
      have hBB2 := below_but hBB1 hBt (by omega)
      clear hBt hN1 hbD1 hcD1 hBB1
      go_upto_region 14 with (first | (go_at_call 40; refine (has_any f _ _ _ hcD2).mono ?_; rintro e w' ⟨rfl, rfl⟩) | (go_at_call 41; refine (add_any _ _ _ _ _ hN2).mono ?_; rintro e X3 ⟨⟨u, rfl⟩, hN3, hBt⟩))
      have hbD3 := (hBt.block w.heap.size (by omega)).trans hbD2
      have hcD3 := Boxed.cell hbD3
      have hBB3 := below_but hBB2 hBt (by omega)
      clear hBt hN2 hbD2 hcD2 hBB2
      go_upto_region 15 with (first | (go_at_call 40; refine (has_any f _ _ _ hcD3).mono ?_; rintro e w' ⟨rfl, rfl⟩) | (go_at_call 41; refine (add_any _ _ _ _ _ hN3).mono ?_; rintro e X4 ⟨⟨u, rfl⟩, hN4, hBt⟩))
      have hbD4 := (hBt.block w.heap.size (by omega)).trans hbD3
      have hcD4 := Boxed.cell hbD4
      have hBB4 := below_but hBB3 hBt (by omega)
      clear hBt hN3 hbD3 hcD3 hBB3
      have hcN := hN4.cell
      go_wp2_with fail
      go_ret2
      exact HGood.out rfl _ hBB4
    · go_wp2_with (go_at_call 40; refine (has_any f _ _ _ hc).mono ?_; rintro e w' ⟨rfl, rfl⟩)
      go_ret2
      exact HBad.out rfl
    · go_wp2_with (go_at_call 40; refine (has_any f _ _ _ hc).mono ?_; rintro e w' ⟨rfl, rfl⟩)
      go_ret2
      exact HBad.out rfl
    · go_wp2_with (go_at_call 40; refine (has_any f _ _ _ hc).mono ?_; rintro e w' ⟨rfl, rfl⟩)
      go_ret2
      exact HBad.out rfl
    · go_upto_region 12 with (first | (first | (go_at_call 40; refine (has_any f _ _ _ hc).mono ?_; rintro e w' ⟨rfl, rfl⟩) | (go_at_call 40; refine (has_any f _ _ _ hcD).mono ?_; rintro e w' ⟨rfl, rfl⟩)) | (go_at_call 41; refine (add_any _ _ _ _ _ hN).mono ?_; rintro e X1 ⟨⟨u, rfl⟩, hN1, hBt⟩))
      have hbD1 := (hBt.block w.heap.size (by omega)).trans hbD
      have hcD1 := Boxed.cell hbD1
      have hBB1 := below_but hBB hBt (by omega)
      clear hBt hN hbD hcD hBB
      go_upto_region 13 with (first | (go_at_call 40; refine (has_any f _ _ _ hcD1).mono ?_; rintro e w' ⟨rfl, rfl⟩) | (go_at_call 41; refine (add_any _ _ _ _ _ hN1).mono ?_; rintro e X2 ⟨⟨u, rfl⟩, hN2, hBt⟩))
      have hbD2 := (hBt.block w.heap.size (by omega)).trans hbD1
      have hcD2 := Boxed.cell hbD2
      have hBB2 := below_but hBB1 hBt (by omega)
      clear hBt hN1 hbD1 hcD1 hBB1
      go_upto_region 14 with (first | (go_at_call 40; refine (has_any f _ _ _ hcD2).mono ?_; rintro e w' ⟨rfl, rfl⟩) | (go_at_call 41; refine (add_any _ _ _ _ _ hN2).mono ?_; rintro e X3 ⟨⟨u, rfl⟩, hN3, hBt⟩))
      have hbD3 := (hBt.block w.heap.size (by omega)).trans hbD2
      have hcD3 := Boxed.cell hbD3
      have hBB3 := below_but hBB2 hBt (by omega)
      clear hBt hN2 hbD2 hcD2 hBB2
      go_upto_region 15 with (first | (go_at_call 40; refine (has_any f _ _ _ hcD3).mono ?_; rintro e w' ⟨rfl, rfl⟩) | (go_at_call 41; refine (add_any _ _ _ _ _ hN3).mono ?_; rintro e X4 ⟨⟨u, rfl⟩, hN4, hBt⟩))
      have hbD4 := (hBt.block w.heap.size (by omega)).trans hbD3
      have hcD4 := Boxed.cell hbD4
      have hBB4 := below_but hBB3 hBt (by omega)
      clear hBt hN3 hbD3 hcD3 hBB3
      have hcN := hN4.cell
      go_wp2_with fail
      go_ret2
      exact HGood.out rfl _ hBB4
    · go_wp2_with (go_at_call 40; refine (has_any f _ _ _ hc).mono ?_; rintro e w' ⟨rfl, rfl⟩)
      go_ret2
      exact HBad.out rfl

end Go.Proofs.YtgolihipinjfmaaGreatDoor.C
