/- Package sparse: Need. -/
import Derived.Test.YtigkelcmiknfjaaSLook
import Derived.Test.YtigkelcmiknfjaaSNeed
namespace Go.Proofs.Ytigkelcmiknfjaa
open Go Go.RowKit Go.Maps

/-- How many blocks from k0 on below k there are not. -/
def cntN (h : Nat → Bool) (k0 : Nat) : Nat → Nat
  | 0 => 0
  | k + 1 => cntN h k0 k + (if k0 ≤ k ∧ h k = false then 1 else 0)
theorem cntN_list (H : List Bool) (k0 : Nat) : ∀ k, cnt H k0 k = cntN (fun j => H.getD j false) k0 k
  | 0 => rfl
  | k + 1 => by rw [cnt, cntN, cntN_list H k0 k]
theorem cntN_zero (h : Nat → Bool) (k0 : Nat) : ∀ k, k ≤ k0 → cntN h k0 k = 0
  | 0, _ => rfl
  | k + 1, e => by rw [cntN, cntN_zero h k0 k (by omega), if_neg (by omega)]
theorem cntN_has {h : Nat → Bool} {k0 k : Nat} (e : h k = true) : cntN h k0 (k + 1) = cntN h k0 k := by rw [cntN, if_neg (by rw [e]; simp)]; rfl
theorem cntN_not {h : Nat → Bool} {k0 k : Nat} (hk : k0 ≤ k) (e : h k = false) : cntN h k0 (k + 1) = cntN h k0 k + 1 := by rw [cntN, if_pos ⟨hk, e⟩]
theorem cntN_le (h : Nat → Bool) (k0 : Nat) : ∀ k, cntN h k0 k ≤ k
  | 0 => Nat.le_refl _
  | k + 1 => by
    have := cntN_le h k0 k
    rw [cntN]
    split <;> omega
/-- Of 'n' places from 'off' on, how many blocks more. -/
def needF (h : Nat → Bool) (off n : Int) : Nat := if outOf off n then 0 else cntN h (off.toNat / 64) ((off.toNat + n.toNat + 63) / 64)
theorem needF_list (H : List Bool) (off n : Int) : needN H off n = needF (fun j => H.getD j false) off n := by
  unfold needN needF
  rw [cntN_list]

set_option maxRecDepth 100000 in
set_option maxHeartbeats 1000000 in
theorem need_file_in (v : Value) (sz : Nat) (C : Nat → UInt8) (h : Nat → Bool) (o m : Nat) (w : World) (f : Hs w v sz C h) (hm : 1 ≤ m) (hom : o + m ≤ 65536) :
    Calls Try.prog 14 #[v, .int .i64 o, .int .i64 m] w fun e w' => e = .returned (.int .i64 (cntN h (o / 64) ((o + m + 63) / 64) : Nat)) ∧ w' = w := by
  have HF : Hid (Hs w v sz C h) := f
  have z1 : ¬ (o : Int) < 0 := by omega
  have z2 : ¬ (m : Int) < 1 := by omega
  have hbig := tooBig_any o m w (by omega)
  rw [show decide ((65536 : Int) - (m : Int) < (o : Int)) = false by simp; omega] at hbig
  clear f
  have HC : Hid (∀ k, cntN h (o / 64) k ≤ k) := cntN_le h _
  have HA : Hid (∀ k : Nat, k ≤ 2000 → ∀ i : Nat, i / 64 = k → Calls Try.prog 24 #[.int .i64 i] w fun e w' => e = .returned (.int .i64 ((k + 1) * 64 : Nat)) ∧ w' = w) := fun k hk i hi => by
    have := after_any i w (by omega)
    rw [hi] at this
    exact this
  have HK : Hid (∀ i k : Nat, i / 64 = k → (i = o ∨ i = 64 * k) → o / 64 ≤ k → ((i : Int) < (o : Int) + (m : Int) ↔ k < (o + m + 63) / 64)) := fun i k h1 h2 h3 => by omega
  have h0K : o / 64 ≤ (o + m + 63) / 64 := by omega
  have hK : (o + m + 63) / 64 ≤ 2000 := by omega
  obtain ⟨k0, HO⟩ : ∃ k0, Hid (o / 64 = k0) := ⟨_, rfl⟩
  have hO : o / 64 = k0 := HO.out
  rw [hO] at HC HK h0K ⊢
  clear hO
  generalize (o + m + 63) / 64 = K at *
  have hoo : o ≤ 65536 := by omega
  go_enter Try.func14, Try.ntmps14
  go_wp2_with fail
  refine hbig.mono ?_
  rintro e w2 ⟨rfl, rfl⟩
  clear hbig
  go_wp2
  go_loopw [7, 8] (fun s at_ wr => ∃ k i : Nat, k0 ≤ k ∧ k ≤ K ∧ at_ = .int .i64 i ∧ Hid (i / 64 = k ∧ (i = o ∨ i = 64 * k)) ∧ s = .int .i64 (cntN h k0 k : Nat) ∧ wr = w2) (fun _ i _ => 64 * K - (intOf i).toNat)
  case atStart => exact ⟨k0, o, Nat.le_refl _, h0K, rfl, ⟨HO.out, .inl rfl⟩, by rw [cntN_zero h k0 k0 (Nat.le_refl _)]; rfl, rfl⟩
  case round =>
    obtain ⟨k, i, hk1, hk2, rfl, HI, rfl, rfl⟩ := hrel
    have hkz := HK.out i k HI.out.1 HI.out.2 hk1
    have hcl := HC.out k
    by_cases hlt : k < K
    · have hltz : (i : Int) < (o : Int) + (m : Int) := hkz.2 hlt
      clear hkz
      have hi6 : Hid ((i : Int) / 64 = (k : Int)) := show (i : Int) / 64 = (k : Int) by have := HI.out.1; omega
      have hcall := has_of v sz C h k wr (ky_wf (k := k) (by omega)) HF.out
      rw [hasZ_nat, ← hi6.out] at hcall
      have hcal2 := HA.out k (by omega) i HI.out.1
      have hil : i < 64 * K := by have := HI.out.1; omega
      have HN : Hid ((k + 1) * 64 / 64 = k + 1 ∧ ((k + 1) * 64 = o ∨ (k + 1) * 64 = 64 * (k + 1))) := ⟨by omega, .inr (by omega)⟩
      have hmore : i < (k + 1) * 64 := by have := HI.out.1; omega
      cases hr : h k with
      | true =>
        have HS : Hid (cntN h k0 (k + 1) = cntN h k0 k) := cntN_has hr
        rw [hr] at hcall
        clear hr
        generalize cntN h k0 k = ck at *
        go_wp2_with fail
        refine hcall.mono ?_
        rintro e w2 ⟨rfl, rfl⟩
        go_wp2_with fail
        refine hcal2.mono ?_
        rintro e w2 ⟨rfl, rfl⟩
        go_wp2
        go_roundw
        case rel => exact ⟨k + 1, (k + 1) * 64, by omega, by omega, rfl, HN, by rw [HS.out], by trivial⟩
        case measure => simp [intOf]; omega
      | false =>
        have HS : Hid (cntN h k0 (k + 1) = cntN h k0 k + 1) := cntN_not hk1 hr
        rw [hr] at hcall
        clear hr
        generalize cntN h k0 k = ck at *
        go_wp2_with fail
        refine hcall.mono ?_
        rintro e w2 ⟨rfl, rfl⟩
        go_wp2_with fail
        refine hcal2.mono ?_
        rintro e w2 ⟨rfl, rfl⟩
        go_wp2
        go_roundw
        case rel => exact ⟨k + 1, (k + 1) * 64, by omega, by omega, rfl, HN, by rw [HS.out]; go_num, by trivial⟩
        case measure => simp [intOf]; omega
    · obtain rfl : k = K := by omega
      have hltz : ¬ (i : Int) < (o : Int) + (m : Int) := fun h => hlt (hkz.1 h)
      clear hkz
      go_wp2
      go_ret
      exact ⟨rfl, rfl⟩

set_option maxRecDepth 100000 in
set_option maxHeartbeats 1000000 in
theorem need_file (v : Value) (sz : Nat) (C : Nat → UInt8) (h : Nat → Bool) (off m : Int) (w : World) (f : Hs w v sz C h) (_hoff : (Lit.int .i64 off).wf = true) (hmm : (Lit.int .i64 m).wf = true) :
    Calls Try.prog 14 #[v, .int .i64 off, .int .i64 m] w fun e w' => e = .returned (.int .i64 (needF h off m : Nat)) ∧ w' = w := by
  cases ho : outOf off m with
  | false =>
    have := outOf_not ho
    unfold needF
    rw [ho]
    have k := need_file_in v sz C h off.toNat m.toNat w f (by omega) (by omega)
    rw [show ((off.toNat : Nat) : Int) = off by omega, show ((m.toNat : Nat) : Int) = m by omega] at k
    exact k
  | true =>
    have e : needF h off m = 0 := by unfold needF; rw [ho]; rfl
    rw [e]
    clear e f
    have hm2 : m ≤ 9223372036854775807 := by
      simp [Lit.wf, IntKind.min, IntKind.max, IntKind.signed, IntKind.bits] at hmm
      omega
    simp only [outOf, Bool.or_eq_true, decide_eq_true_eq] at ho
    by_cases h2 : m < 1
    · clear ho
      go_enter Try.func14, Try.ntmps14
      go_wp2
      go_ret
      exact ⟨rfl, rfl⟩
    by_cases h1 : off < 0
    · clear ho
      go_enter Try.func14, Try.ntmps14
      go_wp2
      go_ret
      exact ⟨rfl, rfl⟩
    · have hbig := tooBig_any off m w (by omega)
      rw [show decide (65536 - m < off) = true by simp; omega] at hbig
      clear ho
      go_enter Try.func14, Try.ntmps14
      go_wp2_with fail
      refine hbig.mono ?_
      rintro e w2 ⟨rfl, rfl⟩
      go_wp2
      go_ret
      exact ⟨rfl, rfl⟩

end Go.Proofs.Ytigkelcmiknfjaa
