/- What strings.Compare, sort.Find and place answer. -/
import Derived.Test.YtlpgflkfckhgeaaDMem
import Derived.Test.YtlpgflkfckhgeaaDName
import Derived.Laws.Externs
namespace Go.Proofs.Ytlpgflkfckhgeaa
open Go Go.RowKit

set_option maxRecDepth 100000 in
theorem place1_any (hi d nb db : Nat) (v : Value) (S : List Ent) (nm : ByteArray) (k : Nat) (W : World) (hk : k < S.length) (_hlen : S.length ≤ 1000) (hn : Blk W nb 9 [.string nm]) (hp : Blk W db 23 [.pointer (some ⟨d, 0, none⟩)]) (h : DirAt hi W d v S) :
    Calls Try.prog 30 #[.int .i64 k, .pointer (some ⟨nb, 0, none⟩), .pointer (some ⟨db, 0, none⟩)] W fun e w' => e = .returned (.int .i64 (Lib.compareBytes nm.toList S[k].1.toList)) ∧ Below W.heap.size W w' := by
  have x0 := hn.cell 0 rfl
  have x1 := hp.cell 0 rfl
  have x2 := h.box.cell 0 rfl
  obtain ⟨p, cap, rfl, hat, _⟩ := rowS_at h.row
  obtain ⟨g, off, rfl, _, hlt, hc⟩ := hat.place (k := k * 2) (by rw [flat_length]; omega)
  have x3 := hc (k * 2) _ (flat_name S k hk)
  have cC := fun w => Try.strings_Compare nm S[k].1 w
  rw [← ByteArray.toList_eq, ← ByteArray.toList_eq] at cC
  have hkz : (k : Int) < (S.length : Int) := by omega
  clear h hn hp hc hat
  generalize S[k].1 = y at *
  generalize Lib.compareBytes nm.toList y.toList = r at *
  go_enter Try.func30, Try.ntmps30
  go_wp2
  go_quiet (first | (go_at_call 31; refine Calls.quiet_of_same (cC _)))
  go_wp2
  go_ret
  exact ⟨rfl, on_drewN (Below.refl _ _) _⟩

set_option maxRecDepth 100000 in
set_option maxHeartbeats 1000000 in
/-- sort.Find over numbers of which those below 'p' tell 'more': it finds 'p'. -/
theorem find_some (g : Nat) (lb : Array Value) (c : Nat → Int) (S : World → Prop) (n p : Nat) (eg : ∀ args w, (callFunc g args).run Try.prog w = .ok (.enter g args) w)
    (hS : ∀ W W', S W → Below W.heap.size W W' → S W') (hg : ∀ k W, k < n → S W → Calls Try.prog g (#[.int .i64 (k : Int)] ++ lb) W fun e w' => e = .returned (.int .i64 (c k)) ∧ Below W.heap.size W w')
    (hp : p ≤ n) (hc : ∀ k, k < n → decide (0 < c k) = decide (k < p)) (w : World) (hSw : S w) (hn : n ≤ 1000) :
    Calls Try.prog 29 #[.int .i64 (n : Int), .func (.func g) #[] lb] w fun e w' => e = .returned (.tuple #[.int .i64 (p : Int), .bool (decide (p < n) && c p == 0)]) ∧ Below w.heap.size w w' := by
  have HSw : Hid (S w) := hSw
  have HS : Hid (∀ W W', S W → Below W.heap.size W W' → S W') := hS
  have HG : Hid (∀ k W, k < n → S W → Calls Try.prog g (#[.int .i64 (k : Int)] ++ lb) W fun e w' => e = .returned (.int .i64 (c k)) ∧ Below W.heap.size W w') := hg
  have HC : Hid (∀ k, k < n → decide (0 < c k) = decide (k < p)) := hc
  have HP : Hid (p ≤ n) := hp
  obtain ⟨R, hR⟩ : ∃ R, (decide (p < n) && c p == 0) = R := ⟨_, rfl⟩
  have HR : Hid ((decide (p < n) && c p == 0) = R) := hR
  rw [hR]
  clear hSw hS hg hc hp hR
  go_enter Try.func29, Try.ntmps29
  go_wp2
  go_loopw [4, 6] (fun i j wr => ∃ a b : Nat, i = .int .i64 (a : Int) ∧ j = .int .i64 (b : Int) ∧ Hid (a ≤ p ∧ p ≤ b) ∧ b ≤ n ∧ Below w.heap.size w wr) (fun i j _ => (intOf j).toNat - (intOf i).toNat)
  case atStart => exact ⟨0, n, rfl, rfl, ⟨Nat.zero_le _, HP.out⟩, Nat.le_refl _, Below.refl _ _⟩
  case round =>
    obtain ⟨a, b, rfl, rfl, H, hbn, hBr⟩ := hrel
    by_cases hlt : a < b
    · have hltz : (a : Int) < (b : Int) := by omega
      have hm : (a + b) / 2 < n := by omega
      have hG := HG.out ((a + b) / 2) wr hm (HS.out w wr HSw.out hBr)
      have e2 : (((a + b) / 2 : Nat) : Int) = ((a : Int) + (b : Int)) / 2 := by omega
      have HCk : Hid (decide (0 < c ((a + b) / 2)) = decide ((a + b) / 2 < p)) := HC.out _ hm
      rw [e2] at hG
      by_cases hq : 0 < c ((a + b) / 2)
      · have HK : Hid ((a + b) / 2 < p) := by
          have := HCk.out
          rw [decide_eq_true hq] at this
          show (a + b) / 2 < p
          exact of_decide_eq_true this.symm
        generalize c ((a + b) / 2) = r at *
        go_wp2_with (go_at_fn g; refine hG.mono ?_; rintro e w1 ⟨rfl, hb1⟩)
        go_roundw
        case rel => exact ⟨(a + b) / 2 + 1, b, by go_num, rfl, ⟨HK.out, H.out.2⟩, hbn, on_trans hBr hb1⟩
        case measure => simp [intOf]; omega
      · have HK : Hid (p ≤ (a + b) / 2) := by
          have := HCk.out
          rw [decide_eq_false hq] at this
          exact Nat.le_of_not_lt (of_decide_eq_false this.symm)
        generalize c ((a + b) / 2) = r at *
        go_wp2_with (go_at_fn g; refine hG.mono ?_; rintro e w1 ⟨rfl, hb1⟩)
        go_roundw
        case rel => exact ⟨a, (a + b) / 2, rfl, by go_num, ⟨H.out.1, HK.out⟩, by omega, on_trans hBr hb1⟩
        case measure => simp [intOf]; omega
    · have hltz : ¬ (a : Int) < (b : Int) := by omega
      obtain rfl : a = p := by have := H.out; omega
      by_cases hpn : a < n
      · have hpz : (a : Int) < (n : Int) := by omega
        have hG := HG.out a wr hpn (HS.out w wr HSw.out hBr)
        have HRR : Hid ((c a == 0) = R) := by
          have := HR.out
          rw [decide_eq_true hpn, Bool.true_and] at this
          exact this
        obtain ⟨r, hr⟩ : ∃ r, c a = r := ⟨_, rfl⟩
        rw [hr] at hG HRR
        clear hr
        go_wp2_with (go_at_fn g; refine hG.mono ?_; rintro e w1 ⟨rfl, hb1⟩)
        go_ret2
        exact ⟨by rw [← HRR.out]; rfl, on_trans hBr hb1⟩
      · have hpz : ¬ (a : Int) < (n : Int) := by omega
        have HRR : Hid (R = false) := by
          have := HR.out
          rw [decide_eq_false hpn, Bool.false_and] at this
          exact this.symm
        go_wp2
        go_ret2
        exact ⟨by rw [HRR.out]; rfl, hBr⟩

theorem en_place1 : ∀ args w, (callFunc 30 args).run Try.prog w = .ok (.enter 30 args) w := enters_of Try.func30 (by kernel_rfl) rfl
theorem DirAt.on {hi d : Nat} {w w' : World} {v : Value} {S : List Ent} (h : DirAt hi w d v S) (hb : Below w.heap.size w w') : DirAt hi w' d v S := ⟨h.box.on hb, rowS_on h.row hb, h.hid⟩
theorem DirAt.slice {hi d : Nat} {w : World} {v : Value} {S : List Ent} (h : DirAt hi w d v S) : ∃ p cap, v = .slice p S.length cap := by
  obtain ⟨p, cap, e, _⟩ := rowS_at h.row
  exact ⟨p, cap, e⟩

set_option maxRecDepth 100000 in
theorem len_any (hi d : Nat) (v : Value) (S : List Ent) (w : World) (h : DirAt hi w d v S) :
    Calls Try.prog 9 #[.pointer (some ⟨d, 0, none⟩)] w fun e w' => e = .returned (.int .i64 (S.length : Int)) ∧ w' = w := by
  have x0 := h.box.cell 0 rfl
  obtain ⟨p, cap, rfl⟩ := h.slice
  clear h
  go_enter Try.func9, Try.ntmps9
  go_wp2
  go_ret
  exact ⟨rfl, rfl⟩

set_option maxRecDepth 100000 in
set_option maxHeartbeats 1000000 in
theorem place_any (hi d : Nat) (v : Value) (S : List Ent) (nm : ByteArray) (w : World) (hlen : S.length ≤ 1000) (hs : Sorted S) (h : DirAt hi w d v S) :
    Calls Try.prog 25 #[.pointer (some ⟨d, 0, none⟩), .string nm] w fun e w' => e = .returned (.tuple #[.int .i64 (under nm S : Int), .bool (has nm S)]) ∧ Below w.heap.size w w' := by
  let c : Nat → Int := fun k => if hk : k < S.length then Lib.compareBytes nm.toList S[k].1.toList else 0
  have hc : ∀ k, k < S.length → decide (0 < c k) = decide (k < under nm S) := fun k hk => by
    show decide (0 < if hk : k < S.length then Lib.compareBytes nm.toList S[k].1.toList else 0) = _
    rw [dif_pos hk, cmp_gt]
    exact sorted_under nm S hs k hk
  have hh : (decide (under nm S < S.length) && c (under nm S) == 0) = has nm S := by
    rw [sorted_has hs]
    by_cases hk : under nm S < S.length
    · rw [dif_pos hk, decide_eq_true hk, Bool.true_and]
      show ((if hk : under nm S < S.length then Lib.compareBytes nm.toList S[under nm S].1.toList else 0) == 0) = _
      rw [dif_pos hk, cmp_eq]
      unfold same
      exact Bool.beq_comm
    · rw [dif_neg hk, decide_eq_false hk, Bool.false_and]
  have cL := fun W (hb : Below w.heap.size w W) => len_any hi d v S W (h.on hb)
  have B1 := on_trans (on_alloc w (.cells #[.pointer (some ⟨d, 0, none⟩)] 23)) (on_alloc _ (.cells #[.string nm] 9))
  have cF := find_some 30 #[.pointer (some ⟨w.heap.size + 1, 0, none⟩), .pointer (some ⟨w.heap.size, 0, none⟩)] c
    (fun W => Blk W (w.heap.size + 1) 9 [.string nm] ∧ Blk W w.heap.size 23 [.pointer (some ⟨d, 0, none⟩)] ∧ DirAt hi W d v S) S.length (under nm S) en_place1
    (fun W W' h hb => ⟨h.1.on hb, h.2.1.on hb, h.2.2.on hb⟩)
    (fun k W hk hS => by
      have := place1_any hi d (w.heap.size + 1) w.heap.size v S nm k W hk hlen hS.1 hS.2.1 hS.2.2
      show Calls Try.prog _ #[_, _, _] W fun e w' => e = .returned (.int .i64 (if hk : k < S.length then Lib.compareBytes nm.toList S[k].1.toList else 0)) ∧ _
      rw [dif_pos hk]
      exact this)
    (under_le _ _) hc ((w.alloc (.cells #[.pointer (some ⟨d, 0, none⟩)] 23)).alloc (.cells #[.string nm] 9))
    ⟨by have := Blk.new (w.alloc (.cells #[.pointer (some ⟨d, 0, none⟩)] 23)) 9 [.string nm]; simpa using this, (Blk.new w 23 [.pointer (some ⟨d, 0, none⟩)]).alloc _, h.on B1⟩ hlen
  rw [hh] at cF
  have CL : Hid _ := cL
  have HB : Hid _ := B1
  clear hh hc h cL B1
  generalize under nm S = p at *
  generalize has nm S = f at *
  clear_value c
  go_enter Try.func25, Try.ntmps25
  go_wp2_with fail
  refine (CL.out _ HB.out).mono ?_
  rintro e w1 ⟨rfl, rfl⟩
  go_wp2_with fail
  refine cF.mono ?_
  rintro e w1 ⟨rfl, hb⟩
  go_wp2
  go_ret2
  exact ⟨rfl, on_trans HB.out hb⟩

end Go.Proofs.Ytlpgflkfckhgeaa
