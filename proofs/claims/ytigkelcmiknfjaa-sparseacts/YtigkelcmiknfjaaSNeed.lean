/- The reference's Need. -/
import Derived.Test.YtigkelcmiknfjaaSRef
namespace Go.Proofs.Ytigkelcmiknfjaa
open Go Go.RowKit

theorem outOf_not {off n : Int} (h : outOf off n = false) : 0 ≤ off ∧ 1 ≤ n ∧ off ≤ 65536 ∧ n ≤ 65536 - off := by
  simp only [outOf, Bool.or_eq_false_iff, decide_eq_false_iff_not] at h
  omega

set_option maxRecDepth 100000 in
set_option maxHeartbeats 1000000 in
theorem need_in (p q : Option Addr) (c d n : Nat) (H : List Bool) (o m : Nat) (w : World) (hH : H.length ≤ 9000000000) (h : At w q (boolsV H)) (hm : 1 ≤ m) (hom : o + m ≤ 65536) :
    Calls Try.prog 15 #[.agg #[.slice p n c, .slice q H.length d], .int .i64 o, .int .i64 m] w fun e w' => e = .returned (.int .i64 (cnt H (o / 64) ((o + m + 63) / 64) : Nat)) ∧ Below w.heap.size w w' := by
  have HB : Hid (Below w.heap.size w (w.alloc (.cells #[.slice p n c, .slice q H.length d] 28))) := on_alloc w _
  have HX : Hid (Blk (w.alloc (.cells #[.slice p n c, .slice q H.length d] 28)) w.heap.size 28 [.slice p n c, .slice q H.length d]) := Blk.new w _ [.slice p n c, .slice q H.length d]
  have HA : Hid (At w q (boolsV H)) := h
  have z1 : ¬ (o : Int) < 0 := by omega
  have z2 : ¬ (m : Int) < 1 := by omega
  have z3 : ¬ (65536 : Int) < (o : Int) := by omega
  have z4 : ¬ (65536 : Int) - (o : Int) < (m : Int) := by omega
  clear h
  have HK : Hid (∀ k : Nat, (k : Int) * 64 < (o : Int) + (m : Int) ↔ k < (o + m + 63) / 64) := fun k => by omega
  have HC : Hid (∀ k, cnt H (o / 64) k ≤ k) := cnt_le H _
  have h0K : o / 64 ≤ (o + m + 63) / 64 := by omega
  have hK : (o + m + 63) / 64 ≤ 2000 := by omega
  have HZ : Hid ((o : Int) / 64 = ((o / 64 : Nat) : Int)) := show (o : Int) / 64 = ((o / 64 : Nat) : Int) by omega
  generalize o / 64 = k0 at *
  generalize (o + m + 63) / 64 = K at *
  go_enter Try.func15, Try.ntmps15
  go_wp2
  generalize w.alloc (.cells #[.slice p n c, .slice q H.length d] 28) = w0 at *
  go_loopw [7, 8] (fun s i wr => ∃ k : Nat, k0 ≤ k ∧ k ≤ K ∧ i = .int .i64 k ∧ s = .int .i64 (cnt H k0 k : Nat) ∧ Hid (Blk wr w.heap.size 28 [.slice p n c, .slice q H.length d]) ∧ Hid (Below w.heap.size w wr)) (fun _ i _ => K - (intOf i).toNat)
  case atStart => exact ⟨k0, Nat.le_refl _, h0K, by rw [HZ.out], by rw [cnt_zero H k0 k0 (Nat.le_refl _)]; rfl, HX, HB⟩
  case round =>
    clear HX HB
    obtain ⟨k, hk1, hk2, rfl, rfl, HX, HB⟩ := hrel
    have hkz := HK.out k
    have hcl := HC.out k
    by_cases hlt : k < K
    · have hltz : (k : Int) * 64 < (o : Int) + (m : Int) := hkz.2 hlt
      clear hkz
      have x0 := HX.out.cell 0 rfl
      have x1 := HX.out.cell 1 rfl
      have hcall := has_any p q c d n H k wr (by omega) hH (HA.out.on HB.out)
      have HXs : Hid (∀ w', Below wr.heap.size wr w' → Hid (Blk w' w.heap.size 28 [.slice p n c, .slice q H.length d]) ∧ Hid (Below w.heap.size w w')) := fun w' hb => ⟨HX.out.on hb, on_trans HB.out hb⟩
      cases hr : H.getD k false with
      | true =>
        have HS : Hid (cnt H k0 (k + 1) = cnt H k0 k) := cnt_has hr
        rw [hr] at hcall
        clear hr
        generalize cnt H k0 k = ck at *
        go_wp2_with fail
        refine hcall.mono ?_
        rintro e w2 ⟨rfl, hb⟩
        obtain ⟨HX2, HB2⟩ := HXs.out w2 hb
        go_wp2
        go_roundw
        case rel => exact ⟨k + 1, by omega, by omega, by go_num, by rw [HS.out], HX2, HB2⟩
        case measure => simp [intOf]; omega
      | false =>
        have HS : Hid (cnt H k0 (k + 1) = cnt H k0 k + 1) := cnt_not hk1 hr
        rw [hr] at hcall
        clear hr
        generalize cnt H k0 k = ck at *
        go_wp2_with fail
        refine hcall.mono ?_
        rintro e w2 ⟨rfl, hb⟩
        obtain ⟨HX2, HB2⟩ := HXs.out w2 hb
        go_wp2
        go_roundw
        case rel => exact ⟨k + 1, by omega, by omega, by go_num, by rw [HS.out]; go_num, HX2, HB2⟩
        case measure => simp [intOf]; omega
    · obtain rfl : k = K := by omega
      have hltz : ¬ (k : Int) * 64 < (o : Int) + (m : Int) := fun h => hlt (hkz.1 h)
      clear hkz
      go_wp2
      go_ret
      exact ⟨rfl, HB.out⟩

set_option maxRecDepth 100000 in
set_option maxHeartbeats 1000000 in
theorem need_any (p q : Option Addr) (c d n : Nat) (H : List Bool) (off m : Int) (w : World) (hH : H.length ≤ 9000000000) (h : At w q (boolsV H)) :
    Calls Try.prog 15 #[.agg #[.slice p n c, .slice q H.length d], .int .i64 off, .int .i64 m] w fun e w' => e = .returned (.int .i64 (needN H off m : Nat)) ∧ Below w.heap.size w w' := by
  cases ho : outOf off m with
  | false =>
    have := outOf_not ho
    unfold needN
    rw [ho]
    have k := need_in p q c d n H off.toNat m.toNat w hH h (by omega) (by omega)
    rw [show ((off.toNat : Nat) : Int) = off by omega, show ((m.toNat : Nat) : Int) = m by omega] at k
    exact k
  | true =>
    have e : needN H off m = 0 := by unfold needN; rw [ho]; rfl
    rw [e]
    have HB : Hid (Below w.heap.size w (w.alloc (.cells #[.slice p n c, .slice q H.length d] 28))) := on_alloc w _
    clear e h
    simp only [outOf, Bool.or_eq_true, decide_eq_true_eq] at ho
    by_cases h1 : off < 0
    · clear ho
      go_enter Try.func15, Try.ntmps15
      go_wp2
      go_ret
      exact ⟨rfl, HB.out⟩
    by_cases h2 : m < 1
    · clear ho
      go_enter Try.func15, Try.ntmps15
      go_wp2
      go_ret
      exact ⟨rfl, HB.out⟩
    by_cases h3 : 65536 < off
    · clear ho
      go_enter Try.func15, Try.ntmps15
      go_wp2
      go_ret
      exact ⟨rfl, HB.out⟩
    · have h4 : 65536 - off < m := by omega
      clear ho
      go_enter Try.func15, Try.ntmps15
      go_wp2
      go_ret
      exact ⟨rfl, HB.out⟩

end Go.Proofs.Ytigkelcmiknfjaa
