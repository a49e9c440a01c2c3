/- The law ProcsFamily answers true at every input. -/
import Derived.Test.YthmefiegoagkjaaYStep
import Derived.Deep.Cut
import Derived.Deep.CutRange
import Derived.Deep.DeepCutAuto
namespace Go.Proofs.Ythmefiegoagkjaa.Y
open Go Go.RowKit

theorem ok_first {c most : Nat} {nx : Int} {S : List Pr} (h : Ok c most nx S) {x : Pr} (hx : x ∈ S) (h1 : x.pid = 1) : x.parent = 0 ∧ x.lives = true := by
  obtain ⟨r, y, rfl, e1, e2, e3⟩ := h.one
  obtain rfl := sorted_one h.sorted hx (List.mem_cons_self) (by omega)
  exact ⟨e2, e3⟩
set_option maxRecDepth 100000 in
set_option maxHeartbeats 8000000 in
theorem family_walk (m : Int) (p : Option Addr) (cap : Nat) (l : List ActV) (w : World) (hm : (Lit.int .u8 m).wf = true) (_hcap : l.length ≤ cap) (_hl : l.length ≤ 9223372036854775807) (hat : ActsAt w p l) :
    Calls Try.prog 4 #[.int .u8 m, .slice p l.length cap] w fun e w' => e = .returned (.bool true) ∧ Below w.heap.size w w' := by
  have hm2 : 0 ≤ m ∧ m ≤ 255 := by
    simp [Lit.wf, IntKind.min, IntKind.max, IntKind.signed, IntKind.bits] at hm
    omega
  obtain ⟨r, hr0⟩ : ∃ r : Nat, m % 8 = (r : Int) := ⟨(m % 8).toNat, by omega⟩
  have hrt : Int.tmod m 8 = (r : Int) := by rw [Int.tmod_eq_emod_of_nonneg hm2.1]; exact hr0
  have hr3 : r < 8 := by omega
  obtain ⟨n, hN⟩ : ∃ n : Nat, 1 + (r : Int) = (n : Int) := ⟨1 + r, by omega⟩
  have hn1 : 1 ≤ n ∧ n ≤ 8 := by omega
  have cN := new_tab n w (by omega) (by omega)
  have HA : Hid (ActsAt w p l) := hat
  clear hat hm hm2 hr0
  go_enter Try.func4, Try.ntmps4
  go_wp2_with fail
  refine cN.mono ?_
  rintro e w1 ⟨b1, v1, rfl, hT1, hb1⟩
  obtain ⟨hi, hhi⟩ : ∃ hi, w.heap.size = hi := ⟨_, rfl⟩
  have HI1 : Hid (∃ v nx S, Rd hi b1 0 n v nx S w w1) := ⟨v1, 2, [first], by rw [← hhi]; exact hT1, Ok.new hn1.1, hb1, hhi⟩
  clear hT1 hb1 hhi cN
  go_wp2
  go_loopw [6] (fun iv wr => ∃ k : Nat, k ≤ 100 ∧ k ≤ l.length ∧ iv = .int .i64 (k : Int) ∧ Hid (∃ v nx S, Rd hi b1 k n v nx S w wr)) (fun iv _ => 100 - (intOf iv).toNat)
  case atStart => exact ⟨0, Nat.zero_le _, Nat.zero_le _, rfl, HI1.out⟩
  case round =>
    clear HI1
    obtain ⟨k, hk, hkl, rfl, HI⟩ := hrel
    obtain ⟨v, nx, S, hrd⟩ := HI.out
    clear HI
    by_cases hgo : k < l.length ∧ k < 100
    · obtain ⟨hlt, hlt2⟩ := hgo
      have hltz : (k : Int) < (l.length : Int) := by omega
      obtain ⟨pb, off, hp, _, hpb, hc⟩ := HA.out.row.place (k := k * 3) (by rw [actsV_len]; omega)
      cases hp
      have hpb2 : pb < wr.heap.size := Nat.lt_of_lt_of_le hpb hrd.below.size
      have HXs : Hid (∀ W, Below wr.heap.size wr W → ∀ i v, (l[k].cells)[i]? = some v → W.cell? ⟨pb, off + k * 3 + i, none⟩ = some v) := fun W hb i v hv => by
        have hi3 : i < 3 := by have := (List.getElem?_eq_some_iff.1 hv).1; simpa [ActV.cells] using this
        have := ((on_trans hrd.below hb).cell (p := ⟨pb, off + (k * 3 + i), none⟩) hpb).trans (hc _ _ ((actsV_get hlt hi3).trans hv))
        rwa [← Nat.add_assoc] at this
      have okx := HA.out.ok l[k] (by simp)
      clear hc
      generalize l[k] = x at *
      obtain ⟨xk, xp, xn⟩ := x
      have hfb : -9223372036854775808 ≤ xn ∧ xn ≤ 9223372036854775807 := by
        have := okx.nw
        simp [Lit.wf, IntKind.min, IntKind.max, IntKind.signed, IntKind.bits] at this
        omega
      have HD : Hid (∀ W b2 v2, TabAt wr.heap.size 34 W b2 v2 2 1 [first] → Below wr.heap.size wr W → Calls Try.prog 9 #[ptr b1, ptr b2, .agg #[.int .i64 xk, .int .i64 xp, .int .i64 xn]] W (StepPost hi b1 k n v nx S xk xp xn w wr)) := fun W b2 v2 h2 hb => step_any hrd h2 hb (by omega) (by omega) xk xp xn hfb
      have x0 := HXs.out wr (Below.refl _ _) 0 _ rfl
      have x1 := HXs.out wr (Below.refl _ _) 1 _ rfl
      have x2 := HXs.out wr (Below.refl _ _) 2 _ rfl
      rw [Nat.add_zero] at x0
      simp only at x0 x1 x2
      have cNw := fun W => rnew_any 1 W
      clear okx hrd
      go_wp2
      go_region_with (first | (go_at_call 8; refine (cNw _).mono ?_; rintro e w2 ⟨b2, v2, rfl, hT2, hb2⟩; have hb3 : Below wr.heap.size wr w2 := on_trans (on_drew (Below.refl _ _)) hb2; have u0 := HXs.out w2 hb3 0 _ rfl; have u1 := HXs.out w2 hb3 1 _ rfl; have u2 := HXs.out w2 hb3 2 _ rfl; rw [Nat.add_zero] at u0; simp only at u0 u1 u2; have hdo := HD.out w2 b2 v2 hT2 hb3; clear hT2 hb2 hb3) | (go_at_call 9; refine hdo.mono ?_; rintro e w3 ⟨B, rfl, v', hrd', _⟩))
      all_goals
        have HI2 : Hid (∃ v nx S, Rd hi b1 (k + 1) n v nx S w w3) := ⟨_, _, _, hrd'⟩
        clear hrd' hdo HD HXs x0 x1 x2 u0 u1 u2 cNw
        go_wp2
        go_roundw
        case rel => exact ⟨k + 1, by omega, by omega, by go_num, HI2.out⟩
        case measure => simp [intOf]; omega
    · have hSl : S.length ≤ 1000 := Nat.le_trans hrd.ok.len (by omega)
      have cD := dump_any hrd.tab hSl
      have HRd : Hid _ := hrd
      have cL := fun w => lives_any w
      clear hrd HA
      have hno : ¬ ((k : Int) < (l.length : Int) ∧ (k : Int) < 100) := by omega
      by_cases hlt : k < l.length
      · have hltz : (k : Int) < (l.length : Int) := by omega
        have h100 : ¬ (k : Int) < 100 := by omega
        have h100n : ¬ k < 100 := by omega
        go_wp2_with fail
        refine cD.mono ?_
        rintro e w3 ⟨v3, rfl, hr3, hb3⟩
        have HR3 : Hid (∀ W, Below w3.heap.size w3 W → Row wr.heap.size W v3 S ∧ Rd hi b1 k n v nx S w W) := fun W hb => ⟨rowS_on hr3 hb, HRd.out.on (on_trans hb3 hb)⟩
        obtain ⟨p3, cap3, rfl, _⟩ := row_cells hr3
        clear cD HRd hr3 hb3
        go_wp2
        go_loopw [8] (fun iv wq => ∃ j : Nat, j ≤ S.length ∧ iv = .int .i64 (j : Int) ∧ Hid (Below w3.heap.size w3 wq)) (fun iv _ => S.length - (intOf iv).toNat)
        case atStart => exact ⟨0, Nat.zero_le _, rfl, Below.refl _ _⟩
        case round =>
          obtain ⟨j, hj, rfl, HB⟩ := hrel
          rename_i wq
          obtain ⟨hrow, hrd⟩ := HR3.out _ HB.out
          by_cases hjl : j < S.length
          · have hjz : (j : Int) < (S.length : Int) := by omega
            obtain ⟨q3, d3, e3, hc3⟩ := row_cells hrow
            cases e3
            obtain ⟨g, rfl, _, _, cc⟩ := hc3 j hjl
            have hmem : S[j] ∈ S := List.getElem_mem hjl
            have HF : Hid (S[j].pid = 1 → S[j].parent = 0 ∧ S[j].lives = true) := fun h => ok_first hrd.ok hmem h
            have HK : Hid (S[j].pid ≠ 1 → lv S[j].parent S = true) := hrd.ok.kin _ hmem
            have cLv := lives_t hrd.tab hrd.ok.sorted hSl S[j].parent
            obtain ⟨c0, c1, c2, _, _, _, _, _⟩ := cc
            clear hmem hc3 hrow hrd
            generalize S[j] = x at *
            obtain ⟨y0, y1, y2, y3, y4, y5, y6⟩ := x
            simp only at c0 c1 c2 HF HK cLv
            by_cases h1 : y0 = 1
            · subst h1
              obtain ⟨rfl, rfl⟩ := HF.out rfl
              clear HF HK cLv
              go_wp2
              go_roundw
              case rel => exact ⟨j + 1, by omega, by go_num, HB.out⟩
              case measure => simp [intOf]; omega
            · have h1b : (y0 == 1) = false := by rw [beq_eq_false_iff_ne]; exact h1
              have h1c : (y0 != 1) = true := by simp [h1]
              rw [HK.out h1] at cLv
              clear HF HK h1
              go_wp2_with fail
              refine cLv.mono ?_
              rintro e w4 ⟨rfl, hb4⟩
              have HB4 : Hid _ := on_trans HB.out hb4
              clear cLv hb4
              go_wp2
              go_roundw
              case rel => exact ⟨j + 1, by omega, by go_num, HB4.out⟩
              case measure => simp [intOf]; omega
          · have hjz : ¬ (j : Int) < (S.length : Int) := by omega
            obtain ⟨rr, y, hS, e1, _, _⟩ := hrd.ok.one
            have h0l : 0 < S.length := by rw [hS]; simp
            have h0z : (0 : Int) < (S.length : Int) := by omega
            obtain ⟨q3, d3, e3, hc3⟩ := row_cells hrow
            cases e3
            obtain ⟨g, rfl, _, _, cc⟩ := hc3 0 h0l
            have c0 := cc.c0
            have hp0 : S[0].pid = 1 := by simp only [hS]; exact e1
            rw [hp0] at c0
            rw [Nat.zero_mul] at c0
            have HBw : Hid _ := hrd.below
            clear hc3 hrow hrd cc hS e1 hp0
            go_wp2_with fail
            refine (cL _).mono ?_
            rintro e w5 ⟨rfl, hb5⟩
            have HB5 : Hid _ := on_trans HBw.out hb5
            clear hb5
            go_wp2
            go_ret
            exact ⟨rfl, HB5.out⟩
      · have hltz : ¬ (k : Int) < (l.length : Int) := by omega
        go_wp2_with fail
        refine cD.mono ?_
        rintro e w3 ⟨v3, rfl, hr3, hb3⟩
        have HR3 : Hid (∀ W, Below w3.heap.size w3 W → Row wr.heap.size W v3 S ∧ Rd hi b1 k n v nx S w W) := fun W hb => ⟨rowS_on hr3 hb, HRd.out.on (on_trans hb3 hb)⟩
        obtain ⟨p3, cap3, rfl, _⟩ := row_cells hr3
        clear cD HRd hr3 hb3
        go_wp2
        go_loopw [8] (fun iv wq => ∃ j : Nat, j ≤ S.length ∧ iv = .int .i64 (j : Int) ∧ Hid (Below w3.heap.size w3 wq)) (fun iv _ => S.length - (intOf iv).toNat)
        case atStart => exact ⟨0, Nat.zero_le _, rfl, Below.refl _ _⟩
        case round =>
          obtain ⟨j, hj, rfl, HB⟩ := hrel
          rename_i wq
          obtain ⟨hrow, hrd⟩ := HR3.out _ HB.out
          by_cases hjl : j < S.length
          · have hjz : (j : Int) < (S.length : Int) := by omega
            obtain ⟨q3, d3, e3, hc3⟩ := row_cells hrow
            cases e3
            obtain ⟨g, rfl, _, _, cc⟩ := hc3 j hjl
            have hmem : S[j] ∈ S := List.getElem_mem hjl
            have HF : Hid (S[j].pid = 1 → S[j].parent = 0 ∧ S[j].lives = true) := fun h => ok_first hrd.ok hmem h
            have HK : Hid (S[j].pid ≠ 1 → lv S[j].parent S = true) := hrd.ok.kin _ hmem
            have cLv := lives_t hrd.tab hrd.ok.sorted hSl S[j].parent
            obtain ⟨c0, c1, c2, _, _, _, _, _⟩ := cc
            clear hmem hc3 hrow hrd
            generalize S[j] = x at *
            obtain ⟨y0, y1, y2, y3, y4, y5, y6⟩ := x
            simp only at c0 c1 c2 HF HK cLv
            by_cases h1 : y0 = 1
            · subst h1
              obtain ⟨rfl, rfl⟩ := HF.out rfl
              clear HF HK cLv
              go_wp2
              go_roundw
              case rel => exact ⟨j + 1, by omega, by go_num, HB.out⟩
              case measure => simp [intOf]; omega
            · have h1b : (y0 == 1) = false := by rw [beq_eq_false_iff_ne]; exact h1
              have h1c : (y0 != 1) = true := by simp [h1]
              rw [HK.out h1] at cLv
              clear HF HK h1
              go_wp2_with fail
              refine cLv.mono ?_
              rintro e w4 ⟨rfl, hb4⟩
              have HB4 : Hid _ := on_trans HB.out hb4
              clear cLv hb4
              go_wp2
              go_roundw
              case rel => exact ⟨j + 1, by omega, by go_num, HB4.out⟩
              case measure => simp [intOf]; omega
          · have hjz : ¬ (j : Int) < (S.length : Int) := by omega
            obtain ⟨rr, y, hS, e1, _, _⟩ := hrd.ok.one
            have h0l : 0 < S.length := by rw [hS]; simp
            have h0z : (0 : Int) < (S.length : Int) := by omega
            obtain ⟨q3, d3, e3, hc3⟩ := row_cells hrow
            cases e3
            obtain ⟨g, rfl, _, _, cc⟩ := hc3 0 h0l
            have c0 := cc.c0
            have hp0 : S[0].pid = 1 := by simp only [hS]; exact e1
            rw [hp0] at c0
            rw [Nat.zero_mul] at c0
            have HBw : Hid _ := hrd.below
            clear hc3 hrow hrd cc hS e1 hp0
            go_wp2_with fail
            refine (cL _).mono ?_
            rintro e w5 ⟨rfl, hb5⟩
            have HB5 : Hid _ := on_trans HBw.out hb5
            clear hb5
            go_wp2
            go_ret
            exact ⟨rfl, HB5.out⟩

end Go.Proofs.Ythmefiegoagkjaa.Y
