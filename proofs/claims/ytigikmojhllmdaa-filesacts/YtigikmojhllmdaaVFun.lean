/- What the calls of files answer and do, of a table that is there: New, Room, Numbers, place. -/
import Derived.Test.YtigikmojhllmdaaVMem
import Derived.Shelf.Abstract
namespace Go.Proofs.Ytigikmojhllmdaa.V
open Go Go.RowKit

set_option maxRecDepth 100000 in
theorem new_in (n : Nat) (w : World) (h1 : 1 ≤ n) (h2 : n ≤ 256) : Calls Try.prog 7 #[.int .i64 (n : Int)] w fun e w' => e = .returned (ptr w.heap.size) ∧ w' = w.alloc (.cells #[.slice none 0 0, .int .i64 (n : Int), .int .i64 1] 55) := by
  have z1 : decide ((n : Int) < 1) = false := decide_eq_false (by omega)
  have z2 : decide ((256 : Int) < (n : Int)) = false := decide_eq_false (by omega)
  go_enter Try.func7, Try.ntmps7
  go_wp2
  go_ret
  exact ⟨rfl, rfl⟩
set_option maxRecDepth 100000 in
theorem new_no (n : Int) (w : World) (h : n < 1 ∨ 256 < n) : Calls Try.prog 7 #[.int .i64 n] w fun e w' => e = .returned (.pointer none) ∧ w' = w := by
  by_cases h1 : n < 1
  · have z1 : decide (n < 1) = true := decide_eq_true h1
    go_enter Try.func7, Try.ntmps7
    go_wp2
    go_ret
    exact ⟨rfl, rfl⟩
  · have z1 : decide (n < 1) = false := decide_eq_false h1
    have z2 : decide (256 < n) = true := decide_eq_true (by omega)
    go_enter Try.func7, Try.ntmps7
    go_wp2
    go_ret
    exact ⟨rfl, rfl⟩
section
variable {hi b : Nat} {v : Value} {mo nx : Int} {S : List Fl} {w : World}
set_option maxRecDepth 100000 in
theorem room_any (h : TabAt hi 55 w b v mo nx S) (hm : 0 ≤ mo ∧ mo ≤ 1000) (hl : S.length ≤ 1000) :
    Calls Try.prog 12 #[ptr b] w fun e w' => e = .returned (.int .i64 (mo - (S.length : Int))) ∧ ∃ q, w' = w.drewN q := by
  have x0 := h.box.cell 0 rfl
  have x1 := h.box.cell 1 rfl
  obtain ⟨p, cap, rfl⟩ := h.slice
  clear h
  go_enter Try.func12, Try.ntmps12
  go_wp2
  go_quiet (fail)
  go_wp2
  go_ret
  exact ⟨rfl, _, rfl⟩
set_option maxRecDepth 100000 in
theorem numbers_any (h : TabAt hi 55 w b v mo nx S) :
    Calls Try.prog 13 #[ptr b] w fun e w' => e = .returned (.int .i64 nx) ∧ w' = w := by
  have x0 := h.box.cell 2 rfl
  clear h
  go_enter Try.func13, Try.ntmps13
  go_wp2
  go_ret
  exact ⟨rfl, rfl⟩
end

set_option maxRecDepth 100000 in
theorem nan_any (x : Int) (w : World) : Calls Try.prog 35 #[.int .i64 x] w fun e w' => e = .returned (.bool false) ∧ w' = w := by
  have h : (x != x) = false := by simp
  go_enter Try.func35, Try.ntmps35
  go_wp2
  go_ret
  exact ⟨by simp, rfl⟩
set_option maxRecDepth 100000 in
theorem compare_any (x y : Int) (w : World) : Calls Try.prog 34 #[.int .i64 x, .int .i64 y] w fun e w' => e = .returned (.int .i64 (cmpZ x y)) ∧ w' = w := by
  have c1 := fun w => nan_any x w
  have c2 := fun w => nan_any y w
  have HC : Hid (cmpZ x y = if x < y then -1 else if y < x then 1 else 0) := rfl
  generalize cmpZ x y = r at *
  by_cases h1 : x < y
  · have HR : Hid (r = -1) := by have := HC.out; rwa [if_pos h1] at this
    clear HC
    go_enter Try.func34, Try.ntmps34
    go_wp2_with fail
    refine (c1 _).mono ?_
    rintro e w1 ⟨rfl, rfl⟩
    go_wp2_with fail
    refine (c2 _).mono ?_
    rintro e w2 ⟨rfl, rfl⟩
    go_wp2
    go_ret
    exact ⟨by rw [HR.out]; rfl, rfl⟩
  · by_cases h2 : y < x
    · have HR : Hid (r = 1) := by have := HC.out; rwa [if_neg h1, if_pos h2] at this
      clear HC
      go_enter Try.func34, Try.ntmps34
      go_wp2_with fail
      refine (c1 _).mono ?_
      rintro e w1 ⟨rfl, rfl⟩
      go_wp2_with fail
      refine (c2 _).mono ?_
      rintro e w2 ⟨rfl, rfl⟩
      go_wp2
      go_ret
      exact ⟨by rw [HR.out]; rfl, rfl⟩
    · have HR : Hid (r = 0) := by have := HC.out; rwa [if_neg h1, if_neg h2] at this
      clear HC
      go_enter Try.func34, Try.ntmps34
      go_wp2_with fail
      refine (c1 _).mono ?_
      rintro e w1 ⟨rfl, rfl⟩
      go_wp2_with fail
      refine (c2 _).mono ?_
      rintro e w2 ⟨rfl, rfl⟩
      go_wp2
      go_ret
      exact ⟨by rw [HR.out]; rfl, rfl⟩

section
variable {hi b : Nat} {v : Value} {mo nx : Int} {S : List Fl} {w : World}
set_option maxRecDepth 100000 in
theorem place1_any (h : TabAt hi 55 w b v mo nx S) (i : Int) (k nb db : Nat) (hk : k < S.length) (_hl : S.length ≤ 1000) (hn : Blk w nb 3 [.int .i64 i]) (hp : Blk w db 23 [ptr b]) :
    Calls Try.prog 33 #[.int .i64 (k : Int), ptr nb, ptr db] w fun e w' => e = .returned (.int .i64 (cmpZ i S[k].id)) ∧ Below w.heap.size w w' := by
  have x0 := hn.cell 0 rfl
  have x1 := hp.cell 0 rfl
  have x2 := h.box.cell 0 rfl
  obtain ⟨g, cap, rfl, _, hc, _⟩ := h.cells hk
  have x3 := hc 0 _ rfl
  rw [Nat.add_zero] at x3
  have cC := fun w => compare_any i S[k].id w
  have hkz : (k : Int) < (S.length : Int) := by omega
  clear h hn hp hc
  generalize S[k].id = y at *
  generalize cmpZ i y = r at *
  go_enter Try.func33, Try.ntmps33
  go_wp2
  go_quiet (first | (go_at_call 34; refine Calls.quiet_of_same (cC _)))
  go_wp2
  go_ret
  exact ⟨rfl, on_drewN (Below.refl _ _) _⟩
theorem en_place1 : ∀ args w, (callFunc 33 args).run Try.prog w = .ok (.enter 33 args) w := fun _ _ => by simp [callFunc, Try.func33]; rfl
end

set_option maxRecDepth 100000 in
set_option maxHeartbeats 1000000 in
/-- sort.Find over numbers of which those below 'p' tell 'more': it finds 'p'. -/
theorem find_some (g : Nat) (lb : Array Value) (c : Nat → Int) (S : World → Prop) (n p : Nat) (eg : ∀ args w, (callFunc g args).run Try.prog w = .ok (.enter g args) w)
    (hS : ∀ W W', S W → Below W.heap.size W W' → S W') (hg : ∀ k W, k < n → S W → Calls Try.prog g (#[.int .i64 (k : Int)] ++ lb) W fun e w' => e = .returned (.int .i64 (c k)) ∧ Below W.heap.size W w')
    (hp : p ≤ n) (hc : ∀ k, k < n → decide (0 < c k) = decide (k < p)) (w : World) (hSw : S w) (hn : n ≤ 1000) :
    Calls Try.prog 32 #[.int .i64 (n : Int), .func (.func g) #[] lb] w fun e w' => e = .returned (.tuple #[.int .i64 (p : Int), .bool (decide (p < n) && c p == 0)]) ∧ Below w.heap.size w w' := by
  have HSw : Hid (S w) := hSw
  have HS : Hid (∀ W W', S W → Below W.heap.size W W' → S W') := hS
  have HG : Hid (∀ k W, k < n → S W → Calls Try.prog g (#[.int .i64 (k : Int)] ++ lb) W fun e w' => e = .returned (.int .i64 (c k)) ∧ Below W.heap.size W w') := hg
  have HC : Hid (∀ k, k < n → decide (0 < c k) = decide (k < p)) := hc
  have HP : Hid (p ≤ n) := hp
  obtain ⟨R, hR⟩ : ∃ R, (decide (p < n) && c p == 0) = R := ⟨_, rfl⟩
  have HR : Hid ((decide (p < n) && c p == 0) = R) := hR
  rw [hR]
  clear hSw hS hg hc hp hR
  go_enter Try.func32, Try.ntmps32
  go_wp2
  go_loopw [4, 6] (fun i j wr => ∃ a b : Nat, i = .int .i64 (a : Int) ∧ j = .int .i64 (b : Int) ∧ Hid (a ≤ p ∧ p ≤ b) ∧ b ≤ n ∧ Below w.heap.size w wr) (fun i j _ => (intOf j).toNat - (intOf i).toNat)
  case atStart => exact ⟨0, n, rfl, rfl, ⟨Nat.zero_le _, HP.out⟩, Nat.le_refl _, Below.refl _ _⟩
  case round =>
    obtain ⟨a, b, rfl, rfl, H, hbn, hBr⟩ := hrel
    by_cases hlt : a < b
    · have hltz : (a : Int) < (b : Int) := by omega
      have hm : (a + b) / 2 < n := by omega
      have hG := HG.out ((a + b) / 2) wr hm (HS.out w wr HSw.out hBr)
      have e2 : (((a + b) / 2 : Nat) : Int) = ((a : Int) + (b : Int)) / 2 := by omega
      have HCk : Hid (decide (0 < c ((a + b) / 2)) = decide ((a + b) / 2 < p)) := HC.out _ hm
      rw [e2] at hG
      by_cases hq : 0 < c ((a + b) / 2)
      · have HK : Hid ((a + b) / 2 < p) := by
          have := HCk.out
          rw [decide_eq_true hq] at this
          show (a + b) / 2 < p
          exact of_decide_eq_true this.symm
        generalize c ((a + b) / 2) = r at *
        go_wp2_with (go_at_fn g; refine hG.mono ?_; rintro e w1 ⟨rfl, hb1⟩)
        go_roundw
        case rel => exact ⟨(a + b) / 2 + 1, b, by go_num, rfl, ⟨HK.out, H.out.2⟩, hbn, on_trans hBr hb1⟩
        case measure => simp [intOf]; omega
      · have HK : Hid (p ≤ (a + b) / 2) := by
          have := HCk.out
          rw [decide_eq_false hq] at this
          exact Nat.le_of_not_lt (of_decide_eq_false this.symm)
        generalize c ((a + b) / 2) = r at *
        go_wp2_with (go_at_fn g; refine hG.mono ?_; rintro e w1 ⟨rfl, hb1⟩)
        go_roundw
        case rel => exact ⟨a, (a + b) / 2, rfl, by go_num, ⟨H.out.1, HK.out⟩, by omega, on_trans hBr hb1⟩
        case measure => simp [intOf]; omega
    · have hltz : ¬ (a : Int) < (b : Int) := by omega
      obtain rfl : a = p := by have := H.out; omega
      by_cases hpn : a < n
      · have hpz : (a : Int) < (n : Int) := by omega
        have hG := HG.out a wr hpn (HS.out w wr HSw.out hBr)
        have HRR : Hid ((c a == 0) = R) := by
          have := HR.out
          rw [decide_eq_true hpn, Bool.true_and] at this
          exact this
        obtain ⟨r, hr⟩ : ∃ r, c a = r := ⟨_, rfl⟩
        rw [hr] at hG HRR
        clear hr
        go_wp2_with (go_at_fn g; refine hG.mono ?_; rintro e w1 ⟨rfl, hb1⟩)
        go_ret2
        exact ⟨by rw [← HRR.out]; rfl, on_trans hBr hb1⟩
      · have hpz : ¬ (a : Int) < (n : Int) := by omega
        have HRR : Hid (R = false) := by
          have := HR.out
          rw [decide_eq_false hpn, Bool.false_and] at this
          exact this.symm
        go_wp2
        go_ret2
        exact ⟨by rw [HRR.out]; rfl, hBr⟩

section
variable {hi b : Nat} {v : Value} {mo nx : Int} {S : List Fl} {w : World}
set_option maxRecDepth 100000 in
set_option maxHeartbeats 1000000 in
theorem place_any (h : TabAt hi 55 w b v mo nx S) (hs : Sorted S) (hl : S.length ≤ 1000) (i : Int) :
    Calls Try.prog 27 #[ptr b, .int .i64 i] w fun e w' => e = .returned (.tuple #[.int .i64 (if has i S then (spot i S : Int) else 0), .int .i64 (errE i S)]) ∧ Below w.heap.size w w' := by
  let c : Nat → Int := fun k => if hk : k < S.length then cmpZ i S[k].id else 0
  have hc : ∀ k, k < S.length → decide (0 < c k) = decide (k < pl i S) := fun k hk => by
    show decide (0 < if hk : k < S.length then cmpZ i S[k].id else 0) = _
    rw [dif_pos hk, cmpZ_pos]
    exact sorted_pl hs hk
  have hh : (decide (pl i S < S.length) && c (pl i S) == 0) = has i S := by
    by_cases hk : pl i S < S.length
    · rw [decide_eq_true hk, Bool.true_and]
      show ((if hk : pl i S < S.length then cmpZ i S[pl i S].id else 0) == 0) = _
      rw [dif_pos hk, cmpZ_zero]
      cases hq : has i S with
      | true =>
        have e := pl_has hs hq
        have : S[pl i S].id = i := by simp only [e]; exact spot_id _
        rw [this]; simp
      | false =>
        have := no_id hq (List.getElem_mem hk)
        simpa using fun e : i = S[pl i S].id => this e.symm
    · rw [decide_eq_false hk, Bool.false_and]
      cases hq : has i S with
      | false => rfl
      | true =>
        have e := pl_has hs hq
        have := spot_lt hq
        omega
  have HB : Hid (Below w.heap.size w ((w.alloc (.cells #[ptr b] 23)).alloc (.cells #[.int .i64 i] 3))) := on_trans (on_alloc w (.cells #[ptr b] 23)) (on_alloc _ (.cells #[.int .i64 i] 3))
  have b1 : Blk ((w.alloc (.cells #[ptr b] 23)).alloc (.cells #[.int .i64 i] 3)) (w.heap.size + 1) 3 [.int .i64 i] := by have := Blk.new (w.alloc (.cells #[ptr b] 23)) 3 [.int .i64 i]; simpa using this
  have b2 : Blk ((w.alloc (.cells #[ptr b] 23)).alloc (.cells #[.int .i64 i] 3)) w.heap.size 23 [ptr b] := (Blk.new w 23 [ptr b]).alloc _
  have cF := find_some 33 #[ptr (w.heap.size + 1), ptr w.heap.size] c
    (fun W => Blk W (w.heap.size + 1) 3 [.int .i64 i] ∧ Blk W w.heap.size 23 [ptr b] ∧ TabAt hi 55 W b v mo nx S) S.length (pl i S) en_place1
    (fun W W' h hb => ⟨h.1.on hb, h.2.1.on hb, h.2.2.on hb⟩)
    (fun k W hk hS => by
      have := place1_any hS.2.2 i k (w.heap.size + 1) w.heap.size hk hl hS.1 hS.2.1
      show Calls Try.prog _ #[_, _, _] W fun e w' => e = .returned (.int .i64 (if hk : k < S.length then cmpZ i S[k].id else 0)) ∧ _
      rw [dif_pos hk]
      exact this)
    (pl_le _ _) hc ((w.alloc (.cells #[ptr b] 23)).alloc (.cells #[.int .i64 i] 3)) ⟨b1, b2, h.on HB.out⟩ hl
  rw [hh] at cF
  have x0 := b1.cell 0 rfl
  have x1 := b2.cell 0 rfl
  have x2 := (h.on HB.out).box.cell 0 rfl
  obtain ⟨p, cap, rfl⟩ := h.slice
  have hsp : has i S = true → pl i S = spot i S := fun hq => pl_has hs hq
  clear hh hc h b1 b2
  clear_value c
  unfold errE
  cases hq : has i S with
  | true =>
    rw [hq, hsp hq] at cF
    rw [if_pos rfl, if_pos rfl]
    clear hsp hq
    generalize spot i S = q at *
    go_enter Try.func27, Try.ntmps27
    go_wp2_with fail
    refine cF.mono ?_
    rintro e w1 ⟨rfl, hb⟩
    go_wp2
    go_ret2
    exact ⟨rfl, on_trans HB.out hb⟩
  | false =>
    rw [hq] at cF
    rw [if_neg (by decide), if_neg (by decide)]
    clear hsp hq
    generalize pl i S = q at *
    go_enter Try.func27, Try.ntmps27
    go_wp2_with fail
    refine cF.mono ?_
    rintro e w1 ⟨rfl, hb⟩
    go_wp2
    go_ret2
    exact ⟨rfl, on_trans HB.out hb⟩
theorem place_yes (h : TabAt hi 55 w b v mo nx S) (hs : Sorted S) (hl : S.length ≤ 1000) {i : Int} (hq : has i S = true) :
    Calls Try.prog 27 #[ptr b, .int .i64 i] w fun e w' => e = .returned (.tuple #[.int .i64 (spot i S : Int), .int .i64 0]) ∧ Below w.heap.size w w' := by
  have := place_any h hs hl i
  unfold errE at this
  rw [hq, if_pos rfl, if_pos rfl] at this
  exact this
theorem place_no (h : TabAt hi 55 w b v mo nx S) (hs : Sorted S) (hl : S.length ≤ 1000) {i : Int} (hq : has i S = false) :
    Calls Try.prog 27 #[ptr b, .int .i64 i] w fun e w' => e = .returned (.tuple #[.int .i64 0, .int .i64 9]) ∧ Below w.heap.size w w' := by
  have := place_any h hs hl i
  unfold errE at this
  rw [hq, if_neg (by decide), if_neg (by decide)] at this
  exact this
end
set_option maxRecDepth 100000 in
theorem place_nil (i : Int) (w : World) : Calls Try.prog 27 #[.pointer none, .int .i64 i] w fun e w' => e = .returned (.tuple #[.int .i64 0, .int .i64 22]) ∧ Below w.heap.size w w' := by
  have HB : Hid (Below w.heap.size w ((w.alloc (.cells #[.pointer none] 23)).alloc (.cells #[.int .i64 i] 3))) := on_trans (on_alloc w (.cells #[.pointer none] 23)) (on_alloc _ (.cells #[.int .i64 i] 3))
  go_enter Try.func27, Try.ntmps27
  go_wp2
  go_ret2
  exact ⟨rfl, HB.out⟩

end Go.Proofs.Ytigikmojhllmdaa.V
