/- alike: a table is as the reference says. -/
import Derived.Test.YtmccfcllehfebaaZDoes4
namespace Go.Proofs.Ytmccfcllehfebaa.Z
open Go Go.RowKit

theorem en_rget : ∀ args w, (callFunc 13 args).run Try.prog w = .ok (.enter 13 args) w := fun _ _ => by simp [callFunc, Try.func13]; rfl
theorem getX_held {S : List Sl} (hS : Fits S) {k : Nat} (hk : k < S.length) : getX S (k : Int) 0 = S.getD k zS := by
  unfold getX
  rw [sub_zero, Bool.and_true, live_of hk, show atS S (k : Int) = S.getD k zS from rfl]
  by_cases h : (S.getD k zS).file = 0
  · rw [if_neg (by simpa using h)]
    have := hS.at (k : Int)
    rw [show atS S (k : Int) = S.getD k zS from rfl] at this
    exact (this.none h).symm
  · rw [if_pos (by simpa using h)]
set_option maxRecDepth 100000 in
set_option maxHeartbeats 2000000 in
theorem alike_any {D F : Nat → Prop} {w : World} {tb : Nat} {v : Value} {S : List Sl} (h : TabAt D F w tb S) (hr : RowAt D w v S) (hD : Lt D w) (hS : Fits S) (hl : S.length ≤ 64) :
    Calls Try.prog 10 #[ptr tb, v] w fun e w' => e = .returned (.bool true) ∧ Below w.heap.size w w' := by
  have HT : Hid (∀ wr, Below w.heap.size w wr → TabAt D F wr tb S ∧ RowAt D wr v S ∧ Lt D wr) := fun wr hb => ⟨h.on hb, hr.on hb, hD.on hb⟩
  have HF : Hid (Fits S ∧ S.length ≤ 64) := ⟨hS, hl⟩
  obtain ⟨sp, sc, hv⟩ := hr.slice
  subst hv
  have HGet : Hid (∀ wr k, Below w.heap.size w wr → k < S.length → Calls Try.prog 12 #[ptr tb, .int .i64 (k : Int), .int .u32 0] wr (GPost D wr (S.getD k zS) fun u => .tuple #[u, .int .i64 (heldE S (k : Int))])) := fun wr k hb hk => by
    have c := get_any (HT.out wr hb).1 hS (HT.out wr hb).2.2 (k : Int) 0 (by decide)
    rw [getX_held hS hk, getE_zero] at c
    exact c
  have HAll : Hid (∀ wr, Below w.heap.size w wr → Calls Try.prog 28 #[ptr tb] wr (AllPost wr S)) := fun wr hb => all_any (HT.out wr hb).1 hl
  have HRAll : Hid (∀ wr, Below w.heap.size w wr → Calls Try.prog 37 #[.slice sp S.length sc] wr (AllPost wr S)) := fun wr hb => rall_any (HT.out wr hb).2.1 hS hl
  have HRoom : Hid (∀ wr, Below w.heap.size w wr → Calls Try.prog 27 #[ptr tb] wr fun e w' => e = .returned (.int .i64 ((S.length : Int) - ((allS S).length : Int))) ∧ Below wr.heap.size wr w') := fun wr hb => room_any (HT.out wr hb).1 hl
  have HLen : Hid ((allS S).length ≤ S.length) := allK_len S _
  have HB0 : Hid (Below w.heap.size w w) := Below.refl _ _
  clear h hr hD hS
  go_enter Try.func10, Try.ntmps10
  go_wp2
  go_loopw [5] (fun i wr => ∃ k : Nat, i = .int .i64 (k : Int) ∧ k ≤ S.length ∧ Hid (Below w.heap.size w wr)) (fun i _ => S.length - (intOf i).toNat)
  case atStart => exact ⟨0, rfl, Nat.zero_le _, HB0⟩
  case round =>
    obtain ⟨k, rfl, hk, HB⟩ := hrel
    clear HB0
    by_cases hlt : k < S.length
    · have hltz : (k : Int) < (S.length : Int) := by omega
      have cG := HGet.out wr k HB.out hlt
      obtain ⟨y, hy⟩ : ∃ y, S.getD k zS = y := ⟨_, rfl⟩
      have HY : Hid (S.getD k zS = y ∧ Fit y) := ⟨hy, by rw [← hy]; exact HF.out.1.at (k : Int)⟩
      rw [hy] at cG
      clear hy
      go_wp2_with fail
      refine cG.mono ?_
      rintro e w5 ⟨u5, rfl, hb5, lv5, rfl, p5, c5, rfl, hi5⟩
      have hal := on_alloc w5 (.cells #[.int .i64 y.file, .int .u32 (y.rights : Int), .bool y.all, .slice p5 y.ints.length c5, .int .i64 y.fc] 34)
      have HB5 : Hid (Below w.heap.size w (w5.alloc (.cells #[.int .i64 y.file, .int .u32 (y.rights : Int), .bool y.all, .slice p5 y.ints.length c5, .int .i64 y.fc] 34))) := on_trans (on_trans HB.out hb5) hal
      have HWK : Hid (Blk (w5.alloc (.cells #[.int .i64 y.file, .int .u32 (y.rights : Int), .bool y.all, .slice p5 y.ints.length c5, .int .i64 y.fc] 34)) w5.heap.size 34 (slC y (.slice p5 y.ints.length c5))) := Blk.new w5 _ (slC y (.slice p5 y.ints.length c5))
      have HIY : Hid (IntD D (w5.alloc (.cells #[.int .i64 y.file, .int .u32 (y.rights : Int), .bool y.all, .slice p5 y.ints.length c5, .int .i64 y.fc] 34)) (.slice p5 y.ints.length c5) y.ints) := IntD.on ⟨p5, c5, rfl, hi5⟩ hal
      clear cG hb5 hi5 hal HB
      simp only [slC]
      go_wp2_with fail
      generalize w5.alloc (.cells #[.int .i64 y.file, .int .u32 (y.rights : Int), .bool y.all, .slice p5 y.ints.length c5, .int .i64 y.fc] 34) = wb at *
      generalize w5.heap.size = wk at *
      have hRC := (HT.out wb HB5.out).2.1.cells hlt
      rw [HY.out.1] at hRC
      obtain ⟨rb, ro, sc', lv6, e6, ⟨p6, c6, rfl, hi6⟩, hc6⟩ := hRC
      obtain ⟨rfl, rfl⟩ : sp = some ⟨rb, ro, none⟩ ∧ sc = sc' := by simp at e6; exact ⟨e6.1, e6.2⟩
      clear e6
      have HI6 : Hid (IntD D wb (.slice p6 y.ints.length c6) y.ints) := ⟨p6, c6, rfl, hi6⟩
      have HRC : Hid (∀ W, Below wb.heap.size wb W → W.cell? ⟨rb, ro + k * 5, none⟩ = some (.int .i64 y.file) ∧ W.cell? ⟨rb, ro + k * 5 + 1, none⟩ = some (.int .u32 (y.rights : Int)) ∧ W.cell? ⟨rb, ro + k * 5 + 2, none⟩ = some (.bool y.all) ∧ W.cell? ⟨rb, ro + k * 5 + 3, none⟩ = some (.slice p6 y.ints.length c6) ∧ W.cell? ⟨rb, ro + k * 5 + 4, none⟩ = some (.int .i64 y.fc)) := fun W hb => by
        have hlt : rb < wb.heap.size := World.block_lt_of_cell? _ _ (hc6 0 _ rfl)
        have key : ∀ i cc, (slC y (.slice p6 y.ints.length c6))[i]? = some cc → W.cell? ⟨rb, ro + (k * 5 + i), none⟩ = some cc := fun i cc hi => (hb.cell (p := ⟨rb, ro + (k * 5 + i), none⟩) hlt).trans (hc6 i cc hi)
        refine ⟨?_, ?_, ?_, ?_, ?_⟩
        · exact key 0 _ rfl
        · rw [Nat.add_assoc]; exact key 1 _ rfl
        · rw [Nat.add_assoc]; exact key 2 _ rfl
        · rw [Nat.add_assoc]; exact key 3 _ rfl
        · rw [Nat.add_assoc]; exact key 4 _ rfl
      clear hc6 hi6
      have HWB : Hid (∀ W, Below wb.heap.size wb W → Blk W wk 34 (slC y (.slice p5 y.ints.length c5))) := fun W hb => HWK.out.on hb
      have HO : Hid (∀ W, Below wb.heap.size wb W → Calls Try.prog 16 #[.agg (slC y (.slice p5 y.ints.length c5)).toArray, .agg (slC y (.slice p6 y.ints.length c6)).toArray] W fun e W' => e = .returned (.bool true) ∧ Below W.heap.size W W') := fun W hb => (one_any y y p5 p6 c5 c6 W ((IntD.on HIY.out hb).at.1) ((IntD.on HI6.out hb).at.1) (by have := HY.out.2.len; omega)).mono fun e W' ⟨h1, h2⟩ => ⟨by rw [h1, one_self], h2⟩
      have HG : Hid (∀ W, Below wb.heap.size wb W → Calls Try.prog 13 #[.slice (some ⟨rb, ro, none⟩) S.length sc, .int .i64 (k : Int), .int .u32 0] W fun e W' => e = .returned (.int .i64 (heldE S (k : Int))) ∧ Below W.heap.size W W') := fun W hb => (rget_any ((HT.out wb HB5.out).2.1.on hb) HF.out.1 HF.out.2 (k : Int) 0 (by decide)).mono fun e W' ⟨h1, h2⟩ => ⟨by rw [h1, getE_zero], by rw [h2]; exact Below.refl _ _⟩
      have hz : (k : Int) < (S.length : Int) := hltz
      have hz0 : ¬ (k : Int) < 0 := by omega
      have hkn : k < S.length := hlt
      obtain ⟨E, hE⟩ : ∃ E, heldE S (k : Int) = E := ⟨_, rfl⟩
      rw [hE] at HG ⊢
      have zE : (E != E) = false := by simp
      have HBn : Hid (∀ W, Below wb.heap.size wb W → Below w.heap.size w W) := fun W hb => on_trans HB5.out hb
      clear HT HF HGet HAll HRAll HRoom HLen HWK HIY HY HI6 HB5 hE
      go_wp2
      refine wp_region_left (S := fun W => Below wb.heap.size wb W) (Keep := KeepK [])
        (g := fun jj vv WW => (([.is (.int .i64 E), .is (.slice (some ⟨rb, ro, none⟩) S.length sc), .is (.int .i64 (k : Int)), .is (.int .i64 E), .is (.bool false), .is (.bool false), .is (.agg (slC y (.slice p5 y.ints.length c5)).toArray), .is (.slice (some ⟨rb, ro, none⟩) S.length sc), .is (.int .i64 (k : Int)), .is (.pointer (some ⟨rb, ro + k * 5, none⟩)), .is (.agg (slC y (.slice p6 y.ints.length c6)).toArray), .is (.bool true), .is (.bool false), .is (.bool false)] : List (Kd 0)).getD jj Kd.any).ok vv WW)
        (tab := [[(7, none)], [(1, none)], [(5, none)], [(21, some 1), (22, some 2)], [(20, some 0), (23, some 3)], [(24, some 4)], [(25, some 5), (6, none)], [(25, some 5), (1, none)], [(25, some 5), (5, none)], [(25, some 5), (27, some 7), (28, some 8)], [(25, some 5), (29, some 9)], [(25, some 5), (26, some 6), (30, some 10)], [(25, some 5), (31, some 11)], [(25, some 5), (32, some 12)]]) (tl := []) (n := 50)
        (by kernel_rfl) rfl (by kernel_rfl) keep_none (on_drew (Below.refl _ _)) ?st ?en
      case st =>
        refine ⟨fun ρ W hr hS hs => ?_, fun ρ W hr hS hs => ?_, fun ρ W hr hS hs => ?_, fun ρ W hr hS hs => ?_, fun ρ W hr hS hs => ?_, fun ρ W hr hS hs => ?_, fun ρ W hr hS hs => ?_, fun ρ W hr hS hs => ?_, fun ρ W hr hS hs => ?_, fun ρ W hr hS hs => ?_, fun ρ W hr hS hs => ?_, fun ρ W hr hS hs => ?_, fun ρ W hr hS hs => ?_, fun ρ W hr hS hs => ?_, trivial⟩
        · have h7 : ρ (.tmp 7) = .int .i64 E := hs.1
          exact step_plain rfl (leaves_move (.tmp 7) rfl ⟨h7, hS, Below.refl _ _⟩)
        · have h1 : ρ (.tmp 1) = .slice (some ⟨rb, ro, none⟩) S.length sc := hs.1
          exact step_plain rfl (leaves_move (.tmp 1) rfl ⟨h1, hS, Below.refl _ _⟩)
        · have h5 : ρ (.tmp 5) = .int .i64 (k : Int) := hs.1
          exact step_plain rfl (leaves_move (.tmp 5) rfl ⟨h5, hS, Below.refl _ _⟩)
        · have h21 : ρ (.tmp 21) = .slice (some ⟨rb, ro, none⟩) S.length sc := hs.1
          have h22 : ρ (.tmp 22) = .int .i64 (k : Int) := hs.2.1
          have hcn := hr.const
          refine step_plain rfl (leaves_call en_rget hr #[.tmp 21, .tmp 22, .const (.int .u32 0)] _ rfl #[.slice (some ⟨rb, ro, none⟩) S.length sc, .int .i64 (k : Int), .int .u32 0] (by simp [h21, h22, hcn]) ((HG.out W hS).mono ?_))
          rintro e W' ⟨rfl, hb9⟩
          exact ⟨_, rfl, rfl, on_trans hS hb9, hb9⟩
        · have h20 : ρ (.tmp 20) = .int .i64 E := hs.1
          have h23 : ρ (.tmp 23) = .int .i64 E := hs.2.1
          refine step_plain rfl (leaves_value (v := .bool false) (w' := W) ?_ ⟨rfl, hS, Below.refl _ _⟩)
          simp [go_sem, h20, h23]
        · have h24 : ρ (.tmp 24) = .bool false := hs.1
          exact step_plain rfl (leaves_move (.tmp 24) rfl ⟨h24, hS, Below.refl _ _⟩)
        · have h25 : ρ (.tmp 25) = .bool false := hs.1
          have h6 : ρ (.tmp 6) = ptr wk := hs.2.1
          exact step_want rfl rfl h25 (leaves_load (cs := slC y (.slice p5 y.ints.length c5)) Try.isAgg34 infoS (.tmp 6) rfl h6 (HWB.out W hS) ⟨rfl, hS, Below.refl _ _⟩)
        · have h25 : ρ (.tmp 25) = .bool false := hs.1
          have h1 : ρ (.tmp 1) = .slice (some ⟨rb, ro, none⟩) S.length sc := hs.2.1
          exact step_want rfl rfl h25 (leaves_move (.tmp 1) rfl ⟨h1, hS, Below.refl _ _⟩)
        · have h25 : ρ (.tmp 25) = .bool false := hs.1
          have h5 : ρ (.tmp 5) = .int .i64 (k : Int) := hs.2.1
          exact step_want rfl rfl h25 (leaves_move (.tmp 5) rfl ⟨h5, hS, Below.refl _ _⟩)
        · have h25 : ρ (.tmp 25) = .bool false := hs.1
          have h27 : ρ (.tmp 27) = .slice (some ⟨rb, ro, none⟩) S.length sc := hs.2.1
          have h28 : ρ (.tmp 28) = .int .i64 (k : Int) := hs.2.2.1
          refine step_want rfl rfl h25 (leaves_value (v := .pointer (some ⟨rb, ro + k * 5, none⟩)) (w' := W) ?_ ⟨rfl, hS, Below.refl _ _⟩)
          simp [go_sem, h27, h28, hz, hz0]
        · have h25 : ρ (.tmp 25) = .bool false := hs.1
          have h29 : ρ (.tmp 29) = .pointer (some ⟨rb, ro + k * 5, none⟩) := hs.2.1
          obtain ⟨s0, s1, s2, s3, s4⟩ := HRC.out W hS
          refine step_want rfl rfl h25 (leaves_value (v := .agg (slC y (.slice p6 y.ints.length c6)).toArray) (w' := W) ?_ ⟨rfl, hS, Below.refl _ _⟩)
          simp [go_sem, h29, s0, s1, s2, s3, s4, slC]
        · have h25 : ρ (.tmp 25) = .bool false := hs.1
          have h26 : ρ (.tmp 26) = .agg (slC y (.slice p5 y.ints.length c5)).toArray := hs.2.1
          have h30 : ρ (.tmp 30) = .agg (slC y (.slice p6 y.ints.length c6)).toArray := hs.2.2.1
          refine step_want rfl rfl h25 (leaves_call2 en_one hr (.tmp 26) (.tmp 30) _ _ rfl h26 h30 ((HO.out W hS).mono ?_))
          rintro e W' ⟨rfl, hb9⟩
          exact ⟨_, rfl, rfl, on_trans hS hb9, hb9⟩
        · have h25 : ρ (.tmp 25) = .bool false := hs.1
          have h31 : ρ (.tmp 31) = .bool true := hs.2.1
          refine step_want rfl rfl h25 (leaves_value (v := .bool false) (w' := W) ?_ ⟨rfl, hS, Below.refl _ _⟩)
          simp [go_sem, h31]
        · have h25 : ρ (.tmp 25) = .bool false := hs.1
          have h32 : ρ (.tmp 32) = .bool false := hs.2.1
          refine step_plain rfl (leaves_value (v := .bool false) (w' := W) ?_ ⟨rfl, hS, Below.refl _ _⟩)
          have hcn := hr.const; simp [go_sem, hcn, h25, h32]
      case en =>
        intro W hS v0 h0 v1 h1 v2 h2 v3 h3 v4 h4 v5 h5 v6 h6 v7 h7 v8 h8 v9 h9 v10 h10 v11 h11 v12 h12 v13 h13
        have e0 : v0 = .int .i64 E := h0 rfl
        subst v0
        have e1 : v1 = .slice (some ⟨rb, ro, none⟩) S.length sc := h1 rfl
        subst v1
        have e2 : v2 = .int .i64 (k : Int) := h2 rfl
        subst v2
        have e3 : v3 = .int .i64 E := h3 rfl
        subst v3
        have e4 : v4 = .bool false := h4 rfl
        subst v4
        have e5 : v5 = .bool false := h5 rfl
        subst v5
        have e6 : v6 = .agg (slC y (.slice p5 y.ints.length c5)).toArray := h6 rfl
        subst v6
        have e7 : v7 = .slice (some ⟨rb, ro, none⟩) S.length sc := h7 rfl
        subst v7
        have e8 : v8 = .int .i64 (k : Int) := h8 rfl
        subst v8
        have e9 : v9 = .pointer (some ⟨rb, ro + k * 5, none⟩) := h9 rfl
        subst v9
        have e10 : v10 = .agg (slC y (.slice p6 y.ints.length c6)).toArray := h10 rfl
        subst v10
        have e11 : v11 = .bool true := h11 rfl
        subst v11
        have e12 : v12 = .bool false := h12 rfl
        subst v12
        have e13 : v13 = .bool false := h13 rfl
        subst v13
        clear h0 h1 h2 h3 h4 h5 h6 h7 h8 h9 h10 h11 h12 h13
        simp only [ends, Act.put, List.setIfInBounds_toArray, List.set_cons_succ, List.set_cons_zero]
        have HR : Hid (Below w.heap.size w W) := HBn.out W hS
        clear HG HO HWB HRC HBn hS
        go_wp2
        go_roundw
        case rel => exact ⟨k + 1, by go_num, by omega, HR⟩
        case measure => simp [intOf]; omega
    · obtain rfl : k = S.length := by omega
      have hltz : ¬ (S.length : Int) < (S.length : Int) := by omega
      have c1 := HAll.out wr HB.out
      go_wp2_with fail
      refine c1.mono ?_
      rintro e w1 ⟨p1, q1, rfl, hat1, hb1⟩
      have HB1 : Hid (Below w.heap.size w w1) := on_trans HB.out hb1
      have HA1 : Hid (W.AtF wr.heap.size w1 p1 (allS S)) := hat1
      have c2 := HRAll.out w1 HB1.out
      clear c1 hat1 hb1 HB
      go_wp2_with fail
      refine c2.mono ?_
      rintro e w2 ⟨p2, q2, rfl, hat2, hb2⟩
      have HB2 : Hid (Below w.heap.size w w2) := on_trans HB1.out hb2
      have c3 := W.nums_any p1 p2 q1 q2 (allS S) (allS S) w2 (by have := HLen.out; have := HF.out.2; omega) (W.AtF.on HA1.out hb2).at hat2.at
      rw [decide_eq_true rfl] at c3
      clear c2 hat2 hb2 HB1 HA1
      go_wp2_with fail
      refine c3.mono ?_
      rintro e w3 ⟨rfl, hb3⟩
      have HB3 : Hid (Below w.heap.size w w3) := on_trans HB2.out hb3
      have c4 := HRoom.out w3 HB3.out
      clear c3 hb3 HB2
      go_wp2_with fail
      refine c4.mono ?_
      rintro e w4 ⟨rfl, hb4⟩
      have HB4 : Hid (Below w.heap.size w w4) := on_trans HB3.out hb4
      have c5 := HRAll.out w4 HB4.out
      clear c4 hb4 HB3
      go_wp2_with fail
      refine c5.mono ?_
      rintro e w5 ⟨p5, q5, rfl, _, hb5⟩
      have HB5 : Hid (Below w.heap.size w w5) := on_trans HB4.out hb5
      have hlen := HLen.out
      clear c5 hb5 HB4 HT HF HGet HAll HRAll HRoom HLen
      generalize (allS S).length = a at *
      generalize S.length = n at *
      have zz : ((n : Int) - (a : Int) == (n : Int) - (a : Int)) = true := beq_self_eq_true _
      go_wp2
      go_ret
      exact ⟨rfl, HB5.out⟩

end Go.Proofs.Ytmccfcllehfebaa.Z
