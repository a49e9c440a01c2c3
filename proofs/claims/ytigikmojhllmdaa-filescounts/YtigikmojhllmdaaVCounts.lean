/- The law FilesCounts answers true at every input. -/
import Derived.Test.YtigikmojhllmdaaVCountM
import Derived.Test.YtigikmojhllmdaaVOpen
namespace Go.Proofs.Ytigikmojhllmdaa.V
open Go Go.RowKit

/-- What holds while acts are done. -/
structure CI (w : World) (b mb k : Nat) (W : World) : Prop where
  is : ∃ v nx S, TabAt w.heap.size 55 W b v ((200 : Nat) : Int) nx S ∧ Ok k 200 nx S ∧ Blk W mb 3 (mC S)
  below : Below w.heap.size w W
  lo : w.heap.size ≤ mb
theorem elemInt : ElemOk Try.prog 43 3 (.int .i64 0) 8 := ⟨Try.underlying43, by kernel_rfl, rfl, by decide⟩
theorem id_nat {c most : Nat} {nx i : Int} {S : List Fl} (ok : Ok c most nx S) (hq : has i S = true) : ∃ j : Nat, i = (j : Int) ∧ j ≤ c := by
  have hlt := spot_lt hq
  have h1 := ok.ids _ (List.getElem_mem hlt)
  have h2 := ok.next
  rw [spot_id hlt] at h1
  exact ⟨i.toNat, by omega, by omega⟩
theorem CI.tab {w W W1 : World} {b mb k : Nat} {v v1 : Value} {nx nx1 : Int} {S S1 : List Fl} (hT : TabAt w.heap.size 55 W b v ((200 : Nat) : Int) nx S) (hB : Below w.heap.size w W) (hM : Blk W mb 3 (mC S)) (hlo : w.heap.size ≤ mb) (hG : Goes b v v1 W W1) (hT1 : TabAt w.heap.size 55 W1 b v1 ((200 : Nat) : Int) nx1 S1) (ok1 : Ok (k + 1) 200 nx1 S1) (e : mC S1 = mC S) : CI w b mb (k + 1) W1 :=
  ⟨⟨v1, nx1, S1, hT1, ok1, by rw [e]; exact hG.blk hT hM (by decide) (by decide)⟩, hG.below hT hB (Nat.le_refl _) (Nat.le_trans hT.hid (Nat.le_of_lt hT.box.lt)), hlo⟩
/-- A count laid. -/
theorem CI.laid {w W W1 : World} {b mb k j : Nat} {v v1 : Value} {nx nx1 d : Int} {S S1 : List Fl} (hT : TabAt w.heap.size 55 W b v ((200 : Nat) : Int) nx S) (hB : Below w.heap.size w W) (hM : Blk W mb 3 (mC S)) (hlo : w.heap.size ≤ mb) (hG : Goes b v v1 W W1) (hT1 : TabAt w.heap.size 55 W1 b v1 ((200 : Nat) : Int) nx1 S1) (ok1 : Ok (k + 1) 200 nx1 S1) (hj : j < 300) (hd : ∀ i : Nat, cnt (i : Int) S1 = cnt (i : Int) S + (if i = j then d else 0)) (q : Nat) : CI w b mb (k + 1) ((W1.drewN q).setCell ⟨mb, j, none⟩ (.int .i64 (cnt (j : Int) S + d))) := by
  have hM1 := hG.blk hT hM (by decide) (by decide)
  have hB1 := hG.below hT hB (Nat.le_refl _) (Nat.le_trans hT.hid (Nat.le_of_lt hT.box.lt))
  have hD := on_drewN (Below.refl W1.heap.size W1) q
  have hM2 := (hM1.on hD).set j (.int .i64 (cnt (j : Int) S + d))
  rw [mC_set hj d hd] at hM2
  refine ⟨⟨v1, nx1, S1, blk_tab (_u := v1) (hT1.on hD) (but_set _ mb j (.int .i64 (cnt (j : Int) S + d))) (.inr ⟨fun e => ?_, fun e => ?_⟩), ok1, hM2⟩, below_but (hB1.trans (hD.mono (Nat.le_trans hB.size hG.size))) (but_set _ _ _ _) hlo, hlo⟩
  · have h7 := hM1.row
    rw [e] at h7
    have := h7.symm.trans hT1.box.row
    simp at this
  · obtain ⟨_, _, cs', fr, hg⟩ := own_at hT1.row e
    have := hM1.row.symm.trans hg
    simp at this

set_option maxRecDepth 100000 in
set_option maxHeartbeats 8000000 in
theorem counts_walk (p : Option Addr) (cap : Nat) (l : List ActV) (w : World) (_hcap : l.length ≤ cap) (_hl : l.length ≤ 9223372036854775807) (hat : ActsAt w p l) :
    Calls Try.prog 4 #[.slice p l.length cap] w fun e w' => e = .returned (.bool true) ∧ Below w.heap.size w w' := by
  have cN := new_in 200 w (by omega) (by omega)
  have cL := fun w => lives_any w
  have HA : Hid (ActsAt w p l) := hat
  have hT0 : TabAt w.heap.size 55 (w.alloc (.cells #[.slice none 0 0, .int .i64 ((200 : Nat) : Int), .int .i64 1] 55)) w.heap.size (.slice none 0 0) ((200 : Nat) : Int) 1 [] := TabAt.nil w _ _ _ _ (Nat.le_refl _)
  obtain ⟨w2, hmk, hB2, hb2, hs2⟩ := make_row elemInt rfl 300 (by omega) (w.alloc (.cells #[.slice none 0 0, .int .i64 ((200 : Nat) : Int), .int .i64 1] 55))
  rw [World.size_alloc] at hmk hB2
  have HI0 : Hid (CI w w.heap.size (w.heap.size + 1) 0 w2) := ⟨⟨_, 1, [], hT0.on hb2, Ok.new (by omega), by rw [mC_nil]; exact hB2⟩, on_trans (on_alloc w _) hb2, by omega⟩
  clear hT0 hB2 hb2 hs2 hat
  go_enter Try.func4, Try.ntmps4
  go_wp2_with fail
  refine cN.mono ?_
  rintro e w1 ⟨rfl, hw1⟩
  subst hw1
  generalize (w.alloc (.cells #[.slice none 0 0, .int .i64 ((200 : Nat) : Int), .int .i64 1] 55)) = w1 at *
  have hmk2 : (Instr.makeSlice 43 (.int .i64 300) (.int .i64 300)).run Try.prog w1 = .ok (.slice (some ⟨w.heap.size + 1, 0, none⟩) 300 300) w2 := hmk
  obtain ⟨mb, hmb⟩ : ∃ mb, w.heap.size + 1 = mb := ⟨_, rfl⟩
  obtain ⟨b, hb⟩ : ∃ b, w.heap.size = b := ⟨_, rfl⟩
  rw [show CI w w.heap.size (w.heap.size + 1) 0 w2 = CI w b mb 0 w2 by rw [hb, ← hmb, hb]] at HI0
  rw [hmb] at hmk2
  rw [hb]
  have HBe : Hid (w.heap.size = b) := hb
  clear cN hmk hmb hb
  go_wp2
  go_loopw [5] (fun iv wr => ∃ k : Nat, k ≤ 100 ∧ k ≤ l.length ∧ iv = .int .i64 (k : Int) ∧ Hid (CI w b mb k wr)) (fun iv _ => 100 - (intOf iv).toNat)
  case atStart => exact ⟨0, Nat.zero_le _, Nat.zero_le _, rfl, HI0⟩
  case round =>
    clear HI0 hmk2
    obtain ⟨k, hk, hkl, rfl, HI⟩ := hrel
    by_cases hgo : k < l.length ∧ k < 100
    · obtain ⟨hlt, hlt2⟩ := hgo
      have hltz : (k : Int) < (l.length : Int) := by omega
      obtain ⟨pb, off, hp, _, hpb, hc⟩ := HA.out.row.place (k := k * 4) (by rw [actsV_len]; omega)
      cases hp
      have hcw : ∀ i, i < 4 → ∀ v, (l[k].cells)[i]? = some v → wr.cell? ⟨pb, off + (k * 4 + i), none⟩ = some v := fun i hi v hv => (HI.out.below.cell (p := ⟨pb, off + (k * 4 + i), none⟩) hpb).trans (hc _ _ ((actsV_get hlt hi).trans hv))
      have x0 := hcw 0 (by omega) _ rfl
      have x1 := hcw 1 (by omega) _ rfl
      have x2 := hcw 2 (by omega) _ rfl
      have x3 := hcw 3 (by omega) _ rfl
      have okx := HA.out.ok l[k] (by simp)
      clear hc hcw
      generalize l[k] = x at *
      obtain ⟨xk, xi, xa, xb⟩ := x
      simp only [Nat.add_zero, ← Nat.add_assoc] at x0 x1 x2 x3
      obtain ⟨v, nx, S, hT, ok, hM⟩ := HI.out.is
      have hB := HI.out.below
      have hal := on_alloc wr (.cells #[.int .i64 xk, .int .i64 xi, .int .i64 xa, .int .i64 xb] 29)
      have hX := Blk.new wr 29 [.int .i64 xk, .int .i64 xi, .int .i64 xa, .int .i64 xb]
      have hTa := hT.on hal
      have hBa : Below w.heap.size w (wr.alloc (.cells #[.int .i64 xk, .int .i64 xi, .int .i64 xa, .int .i64 xb] 29)) := on_trans hB hal
      have hMa := hM.on hal
      have y0 := hX.cell 0 rfl
      have y1 := hX.cell 1 rfl
      have y2 := hX.cell 2 rfl
      have y3 := hX.cell 3 rfl
      have HX : Hid (Blk (wr.alloc (.cells #[.int .i64 xk, .int .i64 xi, .int .i64 xa, .int .i64 xb] 29)) wr.heap.size 29 [.int .i64 xk, .int .i64 xi, .int .i64 xa, .int .i64 xb]) := hX
      have HT : Hid _ := hTa
      have HB : Hid _ := hBa
      have HM : Hid _ := hMa
      have HLo : Hid (w.heap.size ≤ mb) := HI.out.lo
      have hfb : -9223372036854775808 ≤ xb ∧ xb ≤ 9223372036854775807 := by
        have := okx.bw
        simp [Lit.wf, IntKind.min, IntKind.max, IntKind.signed, IntKind.bits] at this
        omega
      clear hT hB hM hal hX hTa hBa hMa HI okx
      by_cases hk1 : xk = 1
      · subst hk1
        have cH := hold_any HT.out ok (by omega) xi
        have ok1 := ok.hold xi
        cases hq : has xi S with
        | false =>
          rw [show errE xi S = 9 by unfold errE; rw [hq]; rfl] at cH
          have e0 : mC (holdS xi S) = mC S := by rw [hold_no hq]
          go_wp2_with fail
          generalize wr.alloc (.cells #[.int .i64 1, .int .i64 xi, .int .i64 xa, .int .i64 xb] 29) = wa at *
          refine cH.mono ?_
          rintro e w3 ⟨rfl, v3, hT3, hG3⟩
          have HI3 : Hid (CI w b mb (k + 1) w3) := CI.tab HT.out HB.out HM.out HLo.out hG3 hT3 ok1 e0
          clear cH hT3 hG3 HT HB HM HX ok ok1 x0 x1 x2 x3 y0 y1 y2 y3 e0
          go_wp2
          go_roundw
          case rel => exact ⟨k + 1, by omega, by omega, by go_num, HI3⟩
          case measure => simp [intOf]; omega
        | true =>
          rw [show errE xi S = 0 by unfold errE; rw [hq]; rfl] at cH
          obtain ⟨j, rfl, hjc⟩ := id_nat ok hq
          have hcn := cnt_in ok (j : Int)
          have hd := fun i : Nat => cnt_hold hq (i : Int)
          go_wp2_with fail
          generalize wr.alloc (.cells #[.int .i64 1, .int .i64 (j : Int), .int .i64 xa, .int .i64 xb] 29) = wa at *
          refine cH.mono ?_
          rintro e w3 ⟨rfl, v3, hT3, hG3⟩
          have HI3 : Hid (CI w b mb (k + 1) (w3.setCell ⟨mb, j, none⟩ (.int .i64 (cnt (j : Int) S + 1)))) := CI.laid HT.out HB.out HM.out HLo.out hG3 hT3 ok1 (show j < 300 by omega) (fun i => by rw [hd i, ite_nat]) 0
          have hX3 := hG3.blk HT.out HX.out (by decide) (by decide)
          have hM3 := hG3.blk HT.out HM.out (by decide) (by decide)
          have a1 := hX3.cell 1 rfl
          have m1 := hM3.cell j (mC_get S (show j < 300 by omega))
          have mf := hM3.free j
          have hjz : (j : Int) < 300 := by omega
          have hj3 : j < 300 := by omega
          clear cH hT3 hG3 HT HB HM HX ok ok1 hX3 hM3 hd x0 x1 x2 x3 y0 y1 y2 y3
          generalize cnt (j : Int) S = r at *
          go_wp2
          go_roundw
          case rel => exact ⟨k + 1, by omega, by omega, by go_num, HI3⟩
          case measure => simp [intOf]; omega
      by_cases hk2 : xk = 2
      · subst hk2
        have cD := drop_any HT.out ok (by omega) xi
        have ok1 := ok.drop xi
        cases hq : has xi S with
        | false =>
          rw [show errE xi S = 9 by unfold errE; rw [hq]; rfl, last_no hq] at cD
          have e0 : mC (dropS xi S) = mC S := by rw [drop_no hq]
          go_wp2_with fail
          generalize wr.alloc (.cells #[.int .i64 2, .int .i64 xi, .int .i64 xa, .int .i64 xb] 29) = wa at *
          refine cD.mono ?_
          rintro e w3 ⟨rfl, v3, hT3, hG3⟩
          have HI3 : Hid (CI w b mb (k + 1) w3) := CI.tab HT.out HB.out HM.out HLo.out hG3 hT3 ok1 e0
          clear cD hT3 hG3 HT HB HM HX ok ok1 x0 x1 x2 x3 y0 y1 y2 y3 e0
          go_wp2
          go_roundw
          case rel => exact ⟨k + 1, by omega, by omega, by go_num, HI3⟩
          case measure => simp [intOf]; omega
        | true =>
          rw [show errE xi S = 0 by unfold errE; rw [hq]; rfl] at cD
          obtain ⟨j, rfl, hjc⟩ := id_nat ok hq
          have hcn := cnt_in ok (j : Int)
          have hd := fun i : Nat => cnt_drop ok hq (i : Int)
          generalize lastB (j : Int) S = lb at *
          go_wp2_with fail
          generalize wr.alloc (.cells #[.int .i64 2, .int .i64 (j : Int), .int .i64 xa, .int .i64 xb] 29) = wa at *
          refine cD.mono ?_
          rintro e w3 ⟨rfl, v3, hT3, hG3⟩
          have HI3 : Hid (∀ q, CI w b mb (k + 1) ((w3.drewN q).setCell ⟨mb, j, none⟩ (.int .i64 (cnt (j : Int) S - 1)))) := fun q => CI.laid HT.out HB.out HM.out HLo.out hG3 hT3 ok1 (show j < 300 by omega) (fun i => by rw [hd i, ite_nat]) q
          have hX3 := hG3.blk HT.out HX.out (by decide) (by decide)
          have hM3 := hG3.blk HT.out HM.out (by decide) (by decide)
          have a1 := hX3.cell 1 rfl
          have m1 := hM3.cell j (mC_get S (show j < 300 by omega))
          have mf := hM3.free j
          have hjz : (j : Int) < 300 := by omega
          have hjz0 : ¬ (j : Int) < 0 := by omega
          have hj3 : j < 300 := by omega
          clear cD hT3 hG3 HT HB HM HX ok ok1 hX3 hM3 hd x0 x1 x2 x3 y0 y1 y2 y3
          generalize cnt (j : Int) S = r at *
          have hsub : IntKind.i64.wrap (r - 1) = r - 1 := by rw [IntKind.wrap_i64]; omega
          obtain ⟨ab, hab⟩ : ∃ ab, wr.heap.size = ab := ⟨_, rfl⟩
          rw [hab] at a1
          rw [hab]
          clear hab
          go_wp2
          refine wp_region_two (S := fun f W => (f = true → ∃ q, W = w3.drewN q) ∧ (f = false → ∃ q, W = (w3.drewN q).setCell ⟨mb, j, none⟩ (.int .i64 (r - 1)))) (u := 10) (Keep := KeepU 10)
            (g := fun jj vv WW => (([.is (.slice (some ⟨mb, 0, none⟩) 300 300), .is (.pointer (some ⟨ab, 1, none⟩)), .is (.int .i64 (j : Int)), .is (.slice (some ⟨mb, 0, none⟩) 300 300), .is (.pointer (some ⟨ab, 1, none⟩)), .is (.int .i64 (j : Int)), .is (.pointer (some ⟨mb, j, none⟩)), .is (.int .i64 r), .is (.int .i64 (r - 1)), .is (.pointer (some ⟨mb, j, none⟩)), .is undef] : List (Kd 0)).getD jj Kd.any).ok vv WW)
            (tab := [[(4, none)], [(6, none)], [(80, some 1)], [(4, none)], [(6, none)], [(83, some 4)], [(82, some 3), (84, some 5)], [(85, some 6)], [(86, some 7)], [(79, some 0), (81, some 2)], [(88, some 9), (87, some 8)]]) (tl := []) (n := 143)
            (by kernel_rfl) rfl (by kernel_rfl) (keep_u ?kk) ⟨fun _ => ⟨1, rfl⟩, (fun e => by cases e)⟩ ?stR1 ?enR1
          case kk =>
            intro j hj
            match j, hj with
            | 0, _ | 1, _ | 2, _ | 3, _ | 4, _ | 5, _ | 6, _ | 7, _ | 8, _ | 9, _ => exact .inr (pure_is _)
            | 10, hj => exact absurd rfl hj
            | j + 11, _ => exact .inr pure_any
          case stR1 =>
            refine ⟨fun ρ W f hf hr hS hs => ?_, fun ρ W f hf hr hS hs => ?_, fun ρ W f hf hr hS hs => ?_, fun ρ W f hf hr hS hs => ?_, fun ρ W f hf hr hS hs => ?_, fun ρ W f hf hr hS hs => ?_, fun ρ W f hf hr hS hs => ?_, fun ρ W f hf hr hS hs => ?_, fun ρ W f hf hr hS hs => ?_, fun ρ W f hf hr hS hs => ?_, fun ρ W f hf hr hS hs => ?_, trivial⟩
            · have h4 : ρ (.tmp 4) = .slice (some ⟨mb, 0, none⟩) 300 300 := hs.1
              exact step_plain rfl (leaves_move (.tmp 4) rfl ⟨h4, by simpa using hS, .inr (Below.refl _ _)⟩)
            · have h6 : ρ (.tmp 6) = .pointer (some ⟨ab, 0, none⟩) := hs.1
              refine step_plain rfl (leaves_value (v := .pointer (some ⟨ab, 1, none⟩)) (w' := W) ?_ ⟨rfl, by simpa using hS, .inr (Below.refl _ _)⟩)
              simp [go_sem, h6]
            · have h80 : ρ (.tmp 80) = .pointer (some ⟨ab, 1, none⟩) := hs.1
              obtain rfl : f = true := hf (by kernel_rfl)
              obtain ⟨q, rfl⟩ := hS.1 rfl
              refine step_plain rfl (leaves_value (v := .int .i64 (j : Int)) (w' := w3.drewN q) ?_ ⟨rfl, by simpa using hS, .inr (Below.refl _ _)⟩)
              simp [go_sem, h80, a1]
            · have h4 : ρ (.tmp 4) = .slice (some ⟨mb, 0, none⟩) 300 300 := hs.1
              exact step_plain rfl (leaves_move (.tmp 4) rfl ⟨h4, by simpa using hS, .inr (Below.refl _ _)⟩)
            · have h6 : ρ (.tmp 6) = .pointer (some ⟨ab, 0, none⟩) := hs.1
              refine step_plain rfl (leaves_value (v := .pointer (some ⟨ab, 1, none⟩)) (w' := W) ?_ ⟨rfl, by simpa using hS, .inr (Below.refl _ _)⟩)
              simp [go_sem, h6]
            · have h83 : ρ (.tmp 83) = .pointer (some ⟨ab, 1, none⟩) := hs.1
              obtain rfl : f = true := hf (by kernel_rfl)
              obtain ⟨q, rfl⟩ := hS.1 rfl
              refine step_plain rfl (leaves_value (v := .int .i64 (j : Int)) (w' := w3.drewN q) ?_ ⟨rfl, by simpa using hS, .inr (Below.refl _ _)⟩)
              simp [go_sem, h83, a1]
            · have h82 : ρ (.tmp 82) = .slice (some ⟨mb, 0, none⟩) 300 300 := hs.1
              have h84 : ρ (.tmp 84) = .int .i64 (j : Int) := hs.2.1
              refine step_plain rfl (leaves_value (v := .pointer (some ⟨mb, j, none⟩)) (w' := W) ?_ ⟨rfl, by simpa using hS, .inr (Below.refl _ _)⟩)
              simp [go_sem, h82, h84, hjz, hjz0]
            · have h85 : ρ (.tmp 85) = .pointer (some ⟨mb, j, none⟩) := hs.1
              obtain rfl : f = true := hf (by kernel_rfl)
              obtain ⟨q, rfl⟩ := hS.1 rfl
              refine step_plain rfl (leaves_value (v := .int .i64 r) (w' := w3.drewN q) ?_ ⟨rfl, by simpa using hS, .inr (Below.refl _ _)⟩)
              simp [go_sem, h85, m1]
            · have h86 : ρ (.tmp 86) = .int .i64 r := hs.1
              refine step_plain rfl (leaves_value (v := .int .i64 (r - 1)) (w' := W) ?_ ⟨rfl, by simpa using hS, .inr (Below.refl _ _)⟩)
              have hcn := hr.const; simp [go_sem, hcn, h86, hsub]
            · have h79 : ρ (.tmp 79) = .slice (some ⟨mb, 0, none⟩) 300 300 := hs.1
              have h81 : ρ (.tmp 81) = .int .i64 (j : Int) := hs.2.1
              refine step_plain rfl (leaves_value (v := .pointer (some ⟨mb, j, none⟩)) (w' := W) ?_ ⟨rfl, by simpa using hS, .inr (Below.refl _ _)⟩)
              simp [go_sem, h79, h81, hjz, hjz0]
            · have h88 : ρ (.tmp 88) = .pointer (some ⟨mb, j, none⟩) := hs.1
              have h87 : ρ (.tmp 87) = .int .i64 (r - 1) := hs.2.1
              obtain rfl : f = true := hf (by kernel_rfl)
              obtain ⟨q, rfl⟩ := hS.1 rfl
              refine step_plain rfl (leaves_skip (w' := (w3.drewN q).setCell ⟨mb, j, none⟩ (.int .i64 (r - 1))) ?_ ⟨rfl, ⟨(fun e => by cases e), fun _ => ⟨q, rfl⟩⟩, .inl rfl⟩)
              simp [go_sem, h88, h87, m1, mf]
          case enR1 =>
            intro f W hf hS v0 h0 v1 h1 v2 h2 v3 h3 v4 h4 v5 h5 v6 h6 v7 h7 v8 h8 v9 h9 h10
            obtain rfl : f = false := hf (by decide)
            clear hf
            have e0 : v0 = .slice (some ⟨mb, 0, none⟩) 300 300 := h0 rfl
            subst v0
            have e1 : v1 = .pointer (some ⟨ab, 1, none⟩) := h1 rfl
            subst v1
            have e2 : v2 = .int .i64 (j : Int) := h2 rfl
            subst v2
            have e3 : v3 = .slice (some ⟨mb, 0, none⟩) 300 300 := h3 rfl
            subst v3
            have e4 : v4 = .pointer (some ⟨ab, 1, none⟩) := h4 rfl
            subst v4
            have e5 : v5 = .int .i64 (j : Int) := h5 rfl
            subst v5
            have e6 : v6 = .pointer (some ⟨mb, j, none⟩) := h6 rfl
            subst v6
            have e7 : v7 = .int .i64 r := h7 rfl
            subst v7
            have e8 : v8 = .int .i64 (r - 1) := h8 rfl
            subst v8
            have e9 : v9 = .pointer (some ⟨mb, j, none⟩) := h9 rfl
            subst v9
            clear h0 h1 h2 h3 h4 h5 h6 h7 h8 h9
            simp only [ends, Act.put, List.setIfInBounds_toArray, List.set_cons_succ, List.set_cons_zero]
            obtain ⟨q, rfl⟩ := hS.2 rfl
            have HI4 : Hid _ := HI3.out q
            clear hS HI3 a1 m1 mf
            generalize (w3.drewN q).setCell ⟨mb, j, none⟩ (.int .i64 (r - 1)) = w4 at *
            go_wp2
            go_roundw
            case rel => exact ⟨k + 1, by omega, by omega, by go_num, HI4⟩
            case measure => simp [intOf]; omega
      · have hk1b : (xk == 1) = false := by simp [hk1]
        have hk2b : (xk == 2) = false := by simp [hk2]
        have cO := open_any HT.out ok (by omega) xi xa xb hfb
        have ok1 := ok.opened xi xa xb
        cases hg : goodB xi xa xb && decide (S.length < 200) with
        | false =>
          have hne : openE 200 S xi xa xb ≠ 0 := by
            unfold openE
            cases h1 : goodB xi xa xb with
            | false => simp
            | true =>
              rw [h1] at hg
              have : ¬ S.length < 200 := by simpa using hg
              simp [this]
          have e0 : mC (openS 200 nx S xi xa xb) = mC S := by unfold openS; rw [hg]; rfl
          have hneb : (openE 200 S xi xa xb == 0) = false := by simp [hne]
          generalize openE 200 S xi xa xb = er at *
          generalize openN 200 nx S xi xa xb = en at *
          go_wp2_with fail
          generalize wr.alloc (.cells #[.int .i64 xk, .int .i64 xi, .int .i64 xa, .int .i64 xb] 29) = wa at *
          refine cO.mono ?_
          rintro e w3 ⟨rfl, v3, hT3, hG3⟩
          have HI3 : Hid (CI w b mb (k + 1) w3) := CI.tab HT.out HB.out HM.out HLo.out hG3 hT3 ok1 e0
          clear cO hT3 hG3 HT HB HM HX ok ok1 x0 x1 x2 x3 y0 y1 y2 y3 e0 hg
          go_wp2
          go_roundw
          case rel => exact ⟨k + 1, by omega, by omega, by go_num, HI3⟩
          case measure => simp [intOf]; omega
        | true =>
          have hg2 : goodB xi xa xb = true ∧ S.length < 200 := by simpa using hg
          have e4 : openE 200 S xi xa xb = 0 := by unfold openE; rw [hg2.1, if_pos rfl, if_pos hg2.2]
          have e3 : openN 200 nx S xi xa xb = nx := by unfold openN; rw [hg]; rfl
          have e2 : openS 200 nx S xi xa xb = S ++ [⟨nx, xi, xa, 0, xb, 1⟩] := by unfold openS; rw [hg]; rfl
          rw [e2, e3, e4] at cO
          rw [e2] at ok1
          have hnx := ok.next
          obtain ⟨j, rfl⟩ := Int.eq_ofNat_of_zero_le (show 0 ≤ nx by omega)
          have hcn : cnt (j : Int) S = 0 := cnt_no fun x hx => by have := (ok.ids x hx).2; omega
          have hd : ∀ i : Nat, cnt (i : Int) (S ++ [⟨(j : Int), xi, xa, 0, xb, 1⟩]) = cnt (i : Int) S + (if i = j then 1 else 0) := fun i => by
            rw [cnt_append]
            show cnt (i : Int) S + (if (j : Int) = (i : Int) then 1 else 0) = _
            rw [ite_nat]
            by_cases e : i = j
            · rw [if_pos e, if_pos e.symm]
            · rw [if_neg e, if_neg fun h => e h.symm]
          go_wp2_with fail
          generalize wr.alloc (.cells #[.int .i64 xk, .int .i64 xi, .int .i64 xa, .int .i64 xb] 29) = wa at *
          refine cO.mono ?_
          rintro e w3 ⟨rfl, v3, hT3, hG3⟩
          have HI3 : Hid (CI w b mb (k + 1) (w3.setCell ⟨mb, j, none⟩ (.int .i64 (cnt (j : Int) S + 1)))) := CI.laid HT.out HB.out HM.out HLo.out hG3 hT3 ok1 (show j < 300 by omega) hd 0
          have hM3 := hG3.blk HT.out HM.out (by decide) (by decide)
          have m1 := hM3.cell j (mC_get S (show j < 300 by omega))
          have mf := hM3.free j
          have hjz : (j : Int) < 300 := by omega
          have hj3 : j < 300 := by omega
          rw [hcn] at m1 HI3
          clear cO hT3 hG3 HT HB HM HX ok ok1 hM3 hd x0 x1 x2 x3 y0 y1 y2 y3 hg hg2 e2 e3 e4 hcn
          go_wp2
          go_roundw
          case rel => exact ⟨k + 1, by omega, by omega, by go_num, HI3⟩
          case measure => simp [intOf]; omega
    · obtain ⟨v, nx, S, hT, ok, hM⟩ := HI.out.is
      have hno : ¬ ((k : Int) < (l.length : Int) ∧ (k : Int) < 100) := by omega
      have hSl : S.length ≤ 200 := ok.len
      have cD := dump_any hT (by omega)
      have HB : Hid (Below w.heap.size w wr) := HI.out.below
      have HM : Hid (Blk wr mb 3 (mC S)) := hM
      have HK : Hid (Ok k 200 nx S) := ok
      have hnx := ok.next
      clear hT hM ok HI
      by_cases hlt : k < l.length
      · have hltz : (k : Int) < (l.length : Int) := by omega
        have h100 : ¬ (k : Int) < 100 := by omega
        have h100n : ¬ k < 100 := by omega
        go_wp2_with fail
        refine cD.mono ?_
        rintro e w3 ⟨d, rfl, hrow, hb3⟩
        have HB3 : Hid (Below w.heap.size w w3) := on_trans HB.out hb3
        have HM3 : Hid (Blk w3 mb 3 (mC S)) := HM.out.on hb3
        have HR3 : Hid (∀ w4, Below w3.heap.size w3 w4 → Row wr.heap.size w4 d S) := fun w4 hb => rowS_on hrow hb
        obtain ⟨dp, dcap, rfl, _⟩ := row_cells hrow
        clear cD hrow hb3 HB HM hlt
        have HS0 : Hid (Below w3.heap.size w3 w3) := Below.refl _ _
        go_wp2
        go_loopw [12, 13] (fun nv iv wq => ∃ t : Nat, t ≤ S.length ∧ iv = .int .i64 (t : Int) ∧ nv = .int .i64 (sumR (S.take t)) ∧ Hid (Below w3.heap.size w3 wq)) (fun _ iv _ => S.length - (intOf iv).toNat)
        case atStart => exact ⟨0, Nat.zero_le _, rfl, rfl, HS0⟩
        case round =>
          clear HS0
          obtain ⟨t, ht, rfl, rfl, HQ⟩ := hrel
          by_cases htl : t < S.length
          · have htz : (t : Int) < (S.length : Int) := by omega
            obtain ⟨p2, c2, e2, hcs⟩ := row_cells (HR3.out wr HQ.out)
            cases e2
            obtain ⟨g, rfl, hcell⟩ := hcs t htl
            have z5 := hcell 5 _ rfl
            have z0 := hcell 0 _ rfl
            rw [Nat.add_zero] at z0
            have hids := HK.out.ids _ (List.getElem_mem htl)
            have hrf := HK.out.refs _ (List.getElem_mem htl)
            have hcn := cnt_at HK.out.sorted htl
            have hsm := sumR_in HK.out t (by omega)
            have hst := sumR_take S htl
            obtain ⟨j, hj⟩ := Int.eq_ofNat_of_zero_le (show 0 ≤ S[t].id by omega)
            have m1 := (HM3.out.on HQ.out).cell j (mC_get S (show j < 300 by omega))
            rw [← hj, hcn] at m1
            rw [hj] at z0
            have hj3 : j < 300 := by omega
            have hjz : (j : Int) < 300 := by omega
            have HST : Hid (sumR (S.take (t + 1)) = sumR (S.take t) + S[t].refs) := hst
            have hbnd : (t : Int) * ((k : Int) + 1) ≤ 200 * 101 := Int.mul_le_mul (by omega) (by omega) (by omega) (by omega)
            clear hcs hcell hids hcn hst hj
            generalize S[t].refs = r at *
            generalize sumR (S.take t) = sm at *
            have hr1 : decide (r < 1) = false := decide_eq_false (by omega)
            have hrr : (r != r) = false := by simp
            have hsm2 : 0 ≤ sm ∧ sm ≤ 20200 := by omega
            clear hsm hbnd
            go_wp2
            go_quiet (fail)
            go_wp2
            go_roundw
            case rel => exact ⟨t + 1, by omega, by go_num, by rw [HST.out], on_drewN HQ.out _⟩
            case measure => simp [intOf]; omega
          · obtain rfl : t = S.length := by omega
            have htz : ¬ (S.length : Int) < (S.length : Int) := by omega
            have hall := allC_all 300 S fun x hx => by have := HK.out.ids x hx; omega
            rw [List.take_length]
            have HBq : Hid (Below w.heap.size w wr) := HB3.out.trans (HQ.out.mono HB3.out.size)
            have HMq : Hid (Blk wr mb 3 (mC S)) := HM3.out.on HQ.out
            have HSR : Hid (sumR S = allC 300 S) := hall.symm
            have hsn : sumR S = sumR S - allC 0 S := by unfold allC; simp [sumI]
            have HSN : Hid (sumR S = sumR S - allC 0 S) := hsn
            clear HQ HM3 HB3 HR3 hall hsn htl ht
            go_wp2
            go_loopw [12, 14] (fun nv iv wq2 => ∃ t : Nat, t ≤ 300 ∧ iv = .int .i64 (t : Int) ∧ nv = .int .i64 (sumR S - allC t S) ∧ wq2 = wr) (fun _ iv _ => 300 - (intOf iv).toNat)
            case atStart => exact ⟨0, Nat.zero_le _, rfl, by rw [← HSN.out], rfl⟩
            case round =>
              clear HSN
              obtain ⟨t, ht, rfl, rfl, hwq⟩ := hrel
              subst hwq
              by_cases htl : t < 300
              · have htz : (t : Int) < 300 := by omega
                have m1 := HMq.out.cell t (mC_get S htl)
                have hcn := cnt_in HK.out (t : Int)
                have ha1 := allC_in HK.out t
                have ha3 := allC_in HK.out 300
                have HAS : Hid (allC (t + 1) S = allC t S + cnt (t : Int) S) := allC_succ t S
                have hsr : 0 ≤ sumR S ∧ sumR S ≤ 300 * ((k : Int) + 1) := by rw [HSR.out]; exact ha3
                have hbnd : (t : Int) * ((k : Int) + 1) ≤ 300 * 101 := Int.mul_le_mul (by omega) (by omega) (by omega) (by omega)
                have ha2 : 0 ≤ allC t S ∧ allC t S ≤ 30300 := by omega
                have hsr2 : 0 ≤ sumR S ∧ sumR S ≤ 30300 := by omega
                clear ha1 ha3 hbnd hsr HSR
                generalize cnt (t : Int) S = r at *
                generalize allC t S = at_ at *
                generalize sumR S = sr at *
                go_wp2
                go_roundw
                case rel => exact ⟨t + 1, by omega, by go_num, by rw [HAS.out]; congr 1; omega, trivial⟩
                case measure => simp [intOf]; omega
              · obtain rfl : t = 300 := by omega
                have hz : sumR S - allC 300 S = 0 := by rw [HSR.out]; omega
                rw [hz]
                clear hz HSR
                go_wp2_with fail
                refine (cL _).mono ?_
                rintro e w5 ⟨rfl, hb5⟩
                go_wp2
                go_ret
                exact ⟨rfl, on_trans HBq.out hb5⟩
      · have hltz : ¬ (k : Int) < (l.length : Int) := by omega
        go_wp2_with fail
        refine cD.mono ?_
        rintro e w3 ⟨d, rfl, hrow, hb3⟩
        have HB3 : Hid (Below w.heap.size w w3) := on_trans HB.out hb3
        have HM3 : Hid (Blk w3 mb 3 (mC S)) := HM.out.on hb3
        have HR3 : Hid (∀ w4, Below w3.heap.size w3 w4 → Row wr.heap.size w4 d S) := fun w4 hb => rowS_on hrow hb
        obtain ⟨dp, dcap, rfl, _⟩ := row_cells hrow
        clear cD hrow hb3 HB HM hlt
        have HS0 : Hid (Below w3.heap.size w3 w3) := Below.refl _ _
        go_wp2
        go_loopw [12, 13] (fun nv iv wq => ∃ t : Nat, t ≤ S.length ∧ iv = .int .i64 (t : Int) ∧ nv = .int .i64 (sumR (S.take t)) ∧ Hid (Below w3.heap.size w3 wq)) (fun _ iv _ => S.length - (intOf iv).toNat)
        case atStart => exact ⟨0, Nat.zero_le _, rfl, rfl, HS0⟩
        case round =>
          clear HS0
          obtain ⟨t, ht, rfl, rfl, HQ⟩ := hrel
          by_cases htl : t < S.length
          · have htz : (t : Int) < (S.length : Int) := by omega
            obtain ⟨p2, c2, e2, hcs⟩ := row_cells (HR3.out wr HQ.out)
            cases e2
            obtain ⟨g, rfl, hcell⟩ := hcs t htl
            have z5 := hcell 5 _ rfl
            have z0 := hcell 0 _ rfl
            rw [Nat.add_zero] at z0
            have hids := HK.out.ids _ (List.getElem_mem htl)
            have hrf := HK.out.refs _ (List.getElem_mem htl)
            have hcn := cnt_at HK.out.sorted htl
            have hsm := sumR_in HK.out t (by omega)
            have hst := sumR_take S htl
            obtain ⟨j, hj⟩ := Int.eq_ofNat_of_zero_le (show 0 ≤ S[t].id by omega)
            have m1 := (HM3.out.on HQ.out).cell j (mC_get S (show j < 300 by omega))
            rw [← hj, hcn] at m1
            rw [hj] at z0
            have hj3 : j < 300 := by omega
            have hjz : (j : Int) < 300 := by omega
            have HST : Hid (sumR (S.take (t + 1)) = sumR (S.take t) + S[t].refs) := hst
            have hbnd : (t : Int) * ((k : Int) + 1) ≤ 200 * 101 := Int.mul_le_mul (by omega) (by omega) (by omega) (by omega)
            clear hcs hcell hids hcn hst hj
            generalize S[t].refs = r at *
            generalize sumR (S.take t) = sm at *
            have hr1 : decide (r < 1) = false := decide_eq_false (by omega)
            have hrr : (r != r) = false := by simp
            have hsm2 : 0 ≤ sm ∧ sm ≤ 20200 := by omega
            clear hsm hbnd
            go_wp2
            go_quiet (fail)
            go_wp2
            go_roundw
            case rel => exact ⟨t + 1, by omega, by go_num, by rw [HST.out], on_drewN HQ.out _⟩
            case measure => simp [intOf]; omega
          · obtain rfl : t = S.length := by omega
            have htz : ¬ (S.length : Int) < (S.length : Int) := by omega
            have hall := allC_all 300 S fun x hx => by have := HK.out.ids x hx; omega
            rw [List.take_length]
            have HBq : Hid (Below w.heap.size w wr) := HB3.out.trans (HQ.out.mono HB3.out.size)
            have HMq : Hid (Blk wr mb 3 (mC S)) := HM3.out.on HQ.out
            have HSR : Hid (sumR S = allC 300 S) := hall.symm
            have hsn : sumR S = sumR S - allC 0 S := by unfold allC; simp [sumI]
            have HSN : Hid (sumR S = sumR S - allC 0 S) := hsn
            clear HQ HM3 HB3 HR3 hall hsn htl ht
            go_wp2
            go_loopw [12, 14] (fun nv iv wq2 => ∃ t : Nat, t ≤ 300 ∧ iv = .int .i64 (t : Int) ∧ nv = .int .i64 (sumR S - allC t S) ∧ wq2 = wr) (fun _ iv _ => 300 - (intOf iv).toNat)
            case atStart => exact ⟨0, Nat.zero_le _, rfl, by rw [← HSN.out], rfl⟩
            case round =>
              clear HSN
              obtain ⟨t, ht, rfl, rfl, hwq⟩ := hrel
              subst hwq
              by_cases htl : t < 300
              · have htz : (t : Int) < 300 := by omega
                have m1 := HMq.out.cell t (mC_get S htl)
                have hcn := cnt_in HK.out (t : Int)
                have ha1 := allC_in HK.out t
                have ha3 := allC_in HK.out 300
                have HAS : Hid (allC (t + 1) S = allC t S + cnt (t : Int) S) := allC_succ t S
                have hsr : 0 ≤ sumR S ∧ sumR S ≤ 300 * ((k : Int) + 1) := by rw [HSR.out]; exact ha3
                have hbnd : (t : Int) * ((k : Int) + 1) ≤ 300 * 101 := Int.mul_le_mul (by omega) (by omega) (by omega) (by omega)
                have ha2 : 0 ≤ allC t S ∧ allC t S ≤ 30300 := by omega
                have hsr2 : 0 ≤ sumR S ∧ sumR S ≤ 30300 := by omega
                clear ha1 ha3 hbnd hsr HSR
                generalize cnt (t : Int) S = r at *
                generalize allC t S = at_ at *
                generalize sumR S = sr at *
                go_wp2
                go_roundw
                case rel => exact ⟨t + 1, by omega, by go_num, by rw [HAS.out]; congr 1; omega, trivial⟩
                case measure => simp [intOf]; omega
              · obtain rfl : t = 300 := by omega
                have hz : sumR S - allC 300 S = 0 := by rw [HSR.out]; omega
                rw [hz]
                clear hz HSR
                go_wp2_with fail
                refine (cL _).mono ?_
                rintro e w5 ⟨rfl, hb5⟩
                go_wp2
                go_ret
                exact ⟨rfl, on_trans HBq.out hb5⟩

end Go.Proofs.Ytigikmojhllmdaa.V
