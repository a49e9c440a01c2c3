/- The law ProcsStays answers true at every input. -/
import Derived.Test.YthmefiegoagkjaaYStep
import Derived.Deep.Cut
import Derived.Deep.CutRange
import Derived.Deep.DeepCutAuto
namespace Go.Proofs.Ythmefiegoagkjaa.Y
open Go Go.RowKit

section
variable {c most : Nat} {nx : Int} {S : List Pr}
theorem stay_does (h : Ok c most nx S) (xk xp xn : Int) : Stay S (doS most nx S xk xp xn) := by
  unfold doS
  repeat' split
  all_goals first | exact stay_exit h _ _ | exact stay_wait h _ _ | exact stay_reap h _ | exact stay_enter h _ | exact stay_move h _ _ | exact stay_fork h _ _
theorem at_more {p : Int} (h : has p S = true) (y : Pr) : at_ p (S ++ [y]) = at_ p S := by
  have hlt := spot_lt h
  have e : spot p (S ++ [y]) = spot p S := by
    unfold spot at *
    rw [List.findIdx_append, if_pos hlt]
  unfold at_
  rw [e, List.getD_eq_getElem?_getD, List.getD_eq_getElem?_getD, List.getElem?_append_left hlt]
theorem grown_cap (xk xp xn : Int) (hl : S.length < (doS most nx S xk xp xn).length) (q : Nat) (hq : (doS most nx S xk xp xn).length = q + 1) (hlt : q < (doS most nx S xk xp xn).length) : (at_ ((doS most nx S xk xp xn)[q]'hlt).parent (doS most nx S xk xp xn)).cap = true → ((doS most nx S xk xp xn)[q]'hlt).cap = true := by
  have hno : ∀ T : List Pr, T.length ≤ S.length → doS most nx S xk xp xn = T → False := fun T h1 h2 => by rw [h2] at hl; omega
  unfold doS at hno
  have key : doS most nx S xk xp xn = forkS most nx S xp (pdB xn) := by
    unfold doS
    split at hno
    · exact (hno _ (by unfold exitS; split <;> simp) rfl).elim
    · rename_i h1
      rw [if_neg h1]
      split at hno
      · exact (hno _ (by unfold waitS; split; exact List.length_filter_le _ _; exact Nat.le_refl _) rfl).elim
      · rename_i h2
        rw [if_neg h2]
        split at hno
        · exact (hno _ (by unfold reapS; split; exact List.length_filter_le _ _; exact Nat.le_refl _) rfl).elim
        · rename_i h3
          rw [if_neg h3]
          split at hno
          · exact (hno _ (by unfold enterS; split <;> simp) rfl).elim
          · rename_i h4
            rw [if_neg h4]
            split at hno
            · exact (hno _ (by unfold moveS; split <;> simp) rfl).elim
            · rename_i h5
              rw [if_neg h5]
  generalize doS most nx S xk xp xn = S1 at *
  subst key
  clear hno
  unfold forkS at *
  split
  · rename_i hc
    simp only [if_pos hc, List.length_append, List.length_singleton] at hq
    obtain rfl : q = S.length := by omega
    rw [Bool.and_eq_true] at hc
    simp only [List.getElem_append_right (Nat.le_refl _), Nat.sub_self, List.getElem_singleton]
    rw [at_more (lv_has hc.1)]
    exact fun h => h
  · rename_i hc
    rw [if_neg hc] at hl
    omega
end

set_option maxRecDepth 100000 in
set_option maxHeartbeats 8000000 in
theorem stays_walk (p : Option Addr) (cap : Nat) (l : List ActV) (w : World) (_hcap : l.length ≤ cap) (_hl : l.length ≤ 9223372036854775807) (hat : ActsAt w p l) :
    Calls Try.prog 5 #[.slice p l.length cap] w fun e w' => e = .returned (.bool true) ∧ Below w.heap.size w w' := by
  have cN := new_tab 8 w (by omega) (by omega)
  have HA : Hid (ActsAt w p l) := hat
  clear hat
  go_enter Try.func5, Try.ntmps5
  go_wp2_with fail
  refine cN.mono ?_
  rintro e w1 ⟨b1, v1, rfl, hT1, hb1⟩
  obtain ⟨hi, hhi⟩ : ∃ hi, w.heap.size = hi := ⟨_, rfl⟩
  have HI1 : Hid (∃ v nx S, Rd hi b1 0 8 v nx S w w1) := ⟨v1, 2, [first], by rw [← hhi]; exact hT1, Ok.new (by omega), hb1, hhi⟩
  have cL := fun w => lives_any w
  clear hT1 hb1 hhi cN
  go_wp2
  go_loopw [4] (fun iv wr => ∃ k : Nat, k ≤ 100 ∧ k ≤ l.length ∧ iv = .int .i64 (k : Int) ∧ Hid (∃ v nx S, Rd hi b1 k 8 v nx S w wr)) (fun iv _ => 100 - (intOf iv).toNat)
  case atStart => exact ⟨0, Nat.zero_le _, Nat.zero_le _, rfl, HI1.out⟩
  case round =>
    clear HI1
    obtain ⟨k, hk, hkl, rfl, HI⟩ := hrel
    obtain ⟨v, nx, S, hrd⟩ := HI.out
    clear HI
    by_cases hgo : k < l.length ∧ k < 100
    · obtain ⟨hlt, hlt2⟩ := hgo
      have hltz : (k : Int) < (l.length : Int) := by omega
      have hSl : S.length ≤ 1000 := Nat.le_trans hrd.ok.len (by omega)
      have cD := dump_any hrd.tab hSl
      have HRd : Hid _ := hrd
      clear hrd
      go_wp2_with fail
      refine cD.mono ?_
      rintro e w3 ⟨v5, rfl, hr5, hb3⟩
      have hrd := HRd.out.on hb3
      have hapt : T.Apt v v5 := fun z hx hy => by
        have := (T.own_at HRd.out.tab.row hx).2.1
        have := (T.own_at hr5 hy).1
        omega
      have HR5 : Hid (Row wr.heap.size w3 v5 S ∧ T.Apt v v5) := ⟨hr5, hapt⟩
      obtain ⟨p5, cap5, rfl, _⟩ := row_cells hr5
      clear cD hr5 hapt hb3 HRd
      generalize wr.heap.size = lo5 at *
      obtain ⟨pb, off, hp, _, hpb, hc⟩ := HA.out.row.place (k := k * 3) (by rw [actsV_len]; omega)
      cases hp
      have HXs : Hid (∀ W, Below w3.heap.size w3 W → ∀ i v, (l[k].cells)[i]? = some v → W.cell? ⟨pb, off + k * 3 + i, none⟩ = some v) := fun W hb i v hv => by
        have hi3 : i < 3 := by have := (List.getElem?_eq_some_iff.1 hv).1; simpa [ActV.cells] using this
        have := ((on_trans hrd.below hb).cell (p := ⟨pb, off + (k * 3 + i), none⟩) hpb).trans (hc _ _ ((actsV_get hlt hi3).trans hv))
        rwa [← Nat.add_assoc] at this
      have okx := HA.out.ok l[k] (by simp)
      clear hc
      generalize l[k] = x at *
      obtain ⟨xk, xp, xn⟩ := x
      have hfb : -9223372036854775808 ≤ xn ∧ xn ≤ 9223372036854775807 := by
        have := okx.nw
        simp [Lit.wf, IntKind.min, IntKind.max, IntKind.signed, IntKind.bits] at this
        omega
      have HD : Hid (∀ W b2 v2, TabAt w3.heap.size 34 W b2 v2 2 1 [first] → Below w3.heap.size w3 W → Calls Try.prog 9 #[ptr b1, ptr b2, .agg #[.int .i64 xk, .int .i64 xp, .int .i64 xn]] W (StepPost hi b1 k 8 v nx S xk xp xn w w3)) := fun W b2 v2 h2 hb => step_any hrd h2 hb (by omega) (by omega) xk xp xn hfb
      have HSt : Hid (Stay S (doS 8 nx S xk xp xn)) := stay_does hrd.ok xk xp xn
      have HGr : Hid (S.length < (doS 8 nx S xk xp xn).length → ∀ q, (doS 8 nx S xk xp xn).length = q + 1 → ∀ hlt : q < (doS 8 nx S xk xp xn).length, (at_ ((doS 8 nx S xk xp xn)[q]'hlt).parent (doS 8 nx S xk xp xn)).cap = true → ((doS 8 nx S xk xp xn)[q]'hlt).cap = true) := fun h q hq hlt => grown_cap xk xp xn h q hq hlt
      have x0 := HXs.out w3 (Below.refl _ _) 0 _ rfl
      have x1 := HXs.out w3 (Below.refl _ _) 1 _ rfl
      have x2 := HXs.out w3 (Below.refl _ _) 2 _ rfl
      rw [Nat.add_zero] at x0
      simp only at x0 x1 x2
      have cNw := fun W => rnew_any 1 W
      clear okx hrd
      have HDP : Hid (∀ e W, StepPost hi b1 k 8 v nx S xk xp xn w w3 e W → ∃ B, e = .returned (.bool B) ∧ (∃ v', Rd hi b1 (k + 1) 8 v' (doX 8 nx S xk xp) (doS 8 nx S xk xp xn) w W) ∧ Row lo5 W (.slice p5 S.length cap5) S) := by
        rintro e W ⟨B, h1, v', h2, h3⟩
        exact ⟨B, h1, ⟨v', h2⟩, h3 _ _ _ HR5.out.1 HR5.out.2⟩
      generalize StepPost hi b1 k 8 v nx S xk xp xn w w3 = SP at *
      generalize doS 8 nx S xk xp xn = S1 at *
      generalize doX 8 nx S xk xp = nx1 at *
      clear HR5
      go_wp2
      go_cut [34] (fun _ wx => Hid ((∃ v', Rd hi b1 (k + 1) 8 v' nx1 S1 w wx) ∧ Row lo5 wx (.slice p5 S.length cap5) S))
      case first =>
        go_region_with (first | (go_at_call 8; refine (cNw _).mono ?_; rintro e w2 ⟨b2, v2, rfl, hT2, hb2⟩; have hb3 : Below w3.heap.size w3 w2 := on_trans (on_drew (Below.refl _ _)) hb2; have u0 := HXs.out w2 hb3 0 _ rfl; have u1 := HXs.out w2 hb3 1 _ rfl; have u2 := HXs.out w2 hb3 2 _ rfl; rw [Nat.add_zero] at u0; simp only at u0 u1 u2; have hdo := HD.out w2 b2 v2 hT2 hb3; clear hT2 hb2 hb3) | (go_at_call 9; refine hdo.mono ?_; intro e w4 hsp; obtain ⟨B, rfl, hrd', hrow'⟩ := HDP.out e w4 hsp; clear hsp))
        all_goals (go_wp2_with fail; go_meet; exact ⟨hrd', hrow'⟩)
      case rest =>
        obtain ⟨⟨v', hrd⟩, hrow⟩ := hcut.out
        generalize wc = w4 at *
        clear hcut HD HXs HDP x0 x1 x2 cNw
        have hS1l : S1.length ≤ 1000 := Nat.le_trans hrd.ok.len (by omega)
        have HW : Hid (∀ W, Below w4.heap.size w4 W → Rd hi b1 (k + 1) 8 v' nx1 S1 w W ∧ Row lo5 W (.slice p5 S.length cap5) S) := fun W hb => ⟨hrd.on hb, rowS_on hrow hb⟩
        clear hrd hrow
        go_wp2
        go_loopw [6] (fun iv wq => ∃ j : Nat, j ≤ S.length ∧ iv = .int .i64 (j : Int) ∧ Hid (Below w4.heap.size w4 wq)) (fun iv _ => S.length - (intOf iv).toNat)
        case atStart => exact ⟨0, Nat.zero_le _, rfl, Below.refl _ _⟩
        case round =>
          obtain ⟨j, hj, rfl, HB⟩ := hrel
          obtain ⟨hrd, hrow⟩ := HW.out _ HB.out
          by_cases hjl : j < S.length
          · have hjz : (j : Int) < (S.length : Int) := by omega
            obtain ⟨q3, d3, e3, hc3⟩ := row_cells hrow
            cases e3
            obtain ⟨g, rfl, _, _, cc⟩ := hc3 j hjl
            have hmem : S[j] ∈ S := List.getElem_mem hjl
            have cG := get_any hrd.tab hS1l S[j].pid
            have HCap : Hid (has S[j].pid S1 = true → S[j].cap = true → (at_ S[j].pid S1).cap = true) := fun h1 h2 => by
              obtain ⟨m1, m2⟩ := at_mem h1
              exact HSt.out _ hmem _ m1 m2.symm h2
            have c0 := cc.c0
            have HC5 : Hid (∀ W, Below w4.heap.size w4 W → W.cell? ⟨g, j * 7 + 5, none⟩ = some (.bool S[j].cap)) := fun W hb => by
              obtain ⟨_, cc⟩ := row_at (HW.out W hb).2 hjl
              exact cc.c5
            clear hc3 hmem cc hrow hrd
            generalize S[j] = x at *
            obtain ⟨y0, y1, y2, y3, y4, y5, y6⟩ := x
            simp only at c0 HC5 HCap cG
            generalize at_ y0 S1 = F at *
            obtain ⟨F0, F1, F2, F3, F4, F5, F6⟩ := F
            simp only [prC] at cG HCap
            generalize has y0 S1 = hb0 at *
            go_wp2_with fail
            refine cG.mono ?_
            rintro e w6 ⟨rfl, hb6⟩
            have HB6 : Hid (Below w4.heap.size w4 (w6.alloc (.cells #[.int .i64 F0, .int .i64 F1, .bool F2, .int .i64 F3, .bool F4, .bool F5, .int .i64 F6] 37))) := on_trans (on_trans HB.out hb6) (on_alloc w6 _)
            have c5 := HC5.out _ HB6.out
            clear cG hb6 c0 HC5 HB
            cases hb0 with
            | false =>
              go_wp2
              go_roundw
              case rel => exact ⟨j + 1, by omega, by go_num, HB6.out⟩
              case measure => simp [intOf]; omega
            | true =>
              cases y5 with
              | false =>
                go_wp2
                go_roundw
                case rel => exact ⟨j + 1, by omega, by go_num, HB6.out⟩
                case measure => simp [intOf]; omega
              | true =>
                obtain rfl : F5 = true := HCap.out rfl rfl
                go_wp2
                go_roundw
                case rel => exact ⟨j + 1, by omega, by go_num, HB6.out⟩
                case measure => simp [intOf]; omega
          · have hjz : ¬ (j : Int) < (S.length : Int) := by omega
            have cD2 := dump_any hrd.tab hS1l
            have HRd2 : Hid _ := hrd
            clear hrow hrd HW HSt
            go_wp2_with fail
            refine cD2.mono ?_
            rintro e w7 ⟨v9, rfl, hr9, hb7⟩
            have HRd7 : Hid _ := HRd2.out.on hb7
            have HR9 : Hid _ := hr9
            obtain ⟨p9, cap9, rfl, _⟩ := row_cells hr9
            clear cD2 hr9 hb7 HRd2 HB
            by_cases hgrow : S.length < S1.length
            · have hgz : (S.length : Int) < (S1.length : Int) := by omega
              obtain ⟨q, hq⟩ : ∃ q, S1.length = q + 1 := ⟨S1.length - 1, by omega⟩
              have hql : q < S1.length := by omega
              have HG1 : Hid _ := HGr.out hgrow q hq hql
              obtain ⟨r9, d9, e9, hc9⟩ := row_cells HR9.out
              cases e9
              obtain ⟨g, rfl, _, _, cc⟩ := hc9 q hql
              obtain ⟨c0, c1, c2, c3, c4, c5, c6, _⟩ := cc
              clear hc9 HR9 HGr
              generalize S1[q] = x at *
              obtain ⟨y0, y1, y2, y3, y4, y5, y6⟩ := x
              simp only at c0 c1 c2 c3 c4 c5 c6 HG1
              have hal := on_alloc w7 (.cells #[.int .i64 y0, .int .i64 y1, .bool y2, .int .i64 y3, .bool y4, .bool y5, .int .i64 y6] 37)
              have cG := get_any (HRd7.out.on hal).tab hS1l y1
              have HX : Hid (Blk (w7.alloc (.cells #[.int .i64 y0, .int .i64 y1, .bool y2, .int .i64 y3, .bool y4, .bool y5, .int .i64 y6] 37)) w7.heap.size 37 (prC ⟨y0, y1, y2, y3, y4, y5, y6⟩)) := Blk.new w7 37 (prC ⟨y0, y1, y2, y3, y4, y5, y6⟩)
              have HRd8 : Hid _ := HRd7.out.on hal
              clear hal HRd7
              have HK1 : Hid (∀ W v' nx' , Rd hi b1 (k + 1) 8 v' nx' S1 w W → ∃ v nx S, Rd hi b1 (k + 1) 8 v nx S w W) := fun W v' nx' h => ⟨v', nx', S1, h⟩
              have HRL : Hid (∀ W, Below (w7.alloc (.cells #[.int .i64 y0, .int .i64 y1, .bool y2, .int .i64 y3, .bool y4, .bool y5, .int .i64 y6] 37)).heap.size (w7.alloc (.cells #[.int .i64 y0, .int .i64 y1, .bool y2, .int .i64 y3, .bool y4, .bool y5, .int .i64 y6] 37)) W → ∃ v nx S, Rd hi b1 (k + 1) 8 v nx S w W) := fun W hb => ⟨_, _, S1, HRd8.out.on hb⟩
              clear HRd8 HK1
              generalize at_ y1 S1 = F at *
              obtain ⟨F0, F1, F2, F3, F4, F5, F6⟩ := F
              simp only [prC] at cG HG1
              generalize has y1 S1 = hb0 at *
              go_wp2_with fail
              refine cG.mono ?_
              rintro e w8 ⟨rfl, hb8⟩
              have hX8 := (HX.out.on hb8).alloc (.cells #[.int .i64 F0, .int .i64 F1, .bool F2, .int .i64 F3, .bool F4, .bool F5, .int .i64 F6] 37)
              have z5 := hX8.cell 5 rfl
              simp only at z5
              have HI2 : Hid _ := HRL.out _ (on_trans hb8 (on_alloc w8 (.cells #[.int .i64 F0, .int .i64 F1, .bool F2, .int .i64 F3, .bool F4, .bool F5, .int .i64 F6] 37)))
              clear cG hX8 hb8 HX HRL c0 c1 c2 c3 c4 c5 c6
              cases F5 with
              | false =>
                go_wp2
                go_roundw
                case rel => exact ⟨k + 1, by omega, by omega, by go_num, HI2.out⟩
                case measure => simp [intOf]; omega
              | true =>
                obtain rfl : y5 = true := HG1.out rfl
                go_wp2
                go_roundw
                case rel => exact ⟨k + 1, by omega, by omega, by go_num, HI2.out⟩
                case measure => simp [intOf]; omega
            · have hgz : ¬ (S.length : Int) < (S1.length : Int) := by omega
              have HI2 : Hid (∃ v nx S, Rd hi b1 (k + 1) 8 v nx S w w7) := ⟨_, _, _, HRd7.out⟩
              clear HRd7 HR9 HGr
              go_wp2
              go_roundw
              case rel => exact ⟨k + 1, by omega, by omega, by go_num, HI2.out⟩
              case measure => simp [intOf]; omega
    · have HBw : Hid _ := hrd.below
      clear hrd HA
      by_cases hlt : k < l.length
      · have hltz : (k : Int) < (l.length : Int) := by omega
        have h100 : ¬ (k : Int) < 100 := by omega
        have h100n : ¬ k < 100 := by omega
        go_wp2_with fail
        refine (cL _).mono ?_
        rintro e w5 ⟨rfl, hb5⟩
        have HB5 : Hid _ := on_trans HBw.out hb5
        clear hb5
        go_wp2
        go_ret
        exact ⟨rfl, HB5.out⟩
      · have hltz : ¬ (k : Int) < (l.length : Int) := by omega
        go_wp2_with fail
        refine (cL _).mono ?_
        rintro e w5 ⟨rfl, hb5⟩
        have HB5 : Hid _ := on_trans HBw.out hb5
        clear hb5
        go_wp2
        go_ret
        exact ⟨rfl, HB5.out⟩

end Go.Proofs.Ythmefiegoagkjaa.Y
