/- What the reference's Wait and Fork do. -/
import Derived.Test.YthmefiegoagkjaaYRef3
namespace Go.Proofs.Ythmefiegoagkjaa.Y
open Go Go.RowKit

theorem at_index {S : List Pr} (hs : Sorted S) {a : Nat} (ha : a < S.length) : at_ S[a].pid S = S[a] := by
  have hq : has S[a].pid S = true := has_of (List.getElem_mem ha) rfl
  obtain ⟨h1, h2⟩ := at_mem hq
  exact sorted_one hs h1 (List.getElem_mem ha) h2
theorem reap_out {S : List Pr} (hs : Sorted S) {a : Nat} (ha : a < S.length) (hv : S[a].lives = false) : reapS S S[a].pid = S.filter (nq S[a].pid) := by
  unfold reapS
  rw [if_pos, filter_nq]
  rw [has_of (List.getElem_mem ha) rfl, at_index hs ha, hv]; rfl
section
variable {hi b : Nat} {v : Value} {nx mo : Int} {S : List Pr} {w : World}
set_option maxRecDepth 100000 in
set_option maxHeartbeats 4000000 in
theorem rwait_any (h : TabAt hi 34 w b v nx mo S) (hs : Sorted S) (hl : S.length ≤ 1000) (p q : Int) :
    Calls Try.prog 26 #[ptr b, .int .i64 p, .int .i64 q] w (TPost hi 34 b w v nx mo (waitS S p q) (.tuple #[.int .i64 (waitN S p q), .int .i64 (waitC S p q), .int .i64 (waitE S p q)])) := by
  have HT : Hid (∀ w1, Below w.heap.size w w1 → TabAt hi 34 w1 b v nx mo S) := fun w1 hb => h.on hb
  by_cases hq : q < 0
  · rw [show waitS S p q = S by unfold waitS; rw [decide_eq_false (by omega), Bool.false_and, if_neg (by decide)], show waitN S p q = 0 by unfold waitN; rw [decide_eq_false (by omega), Bool.false_and, if_neg (by decide)], show waitC S p q = 0 by unfold waitC; rw [decide_eq_false (by omega), Bool.false_and, if_neg (by decide)], show waitE S p q = 22 by unfold waitE; rw [if_pos hq]]
    have HP : Hid (TPost hi 34 b w v nx mo S (.tuple #[.int .i64 0, .int .i64 0, .int .i64 22]) (.returned (.tuple #[.int .i64 0, .int .i64 0, .int .i64 22])) w) := ⟨rfl, v, h, .refl _ _ _⟩
    generalize TPost hi 34 b w v nx mo S (.tuple #[.int .i64 0, .int .i64 0, .int .i64 22]) = Post at *
    clear h HT
    go_enter Try.func26, Try.ntmps26
    go_wp2
    go_ret3
    exact HP.out
  · have HC : Hid (∀ w1 i, Below w.heap.size w w1 → Calls Try.prog 27 #[ptr b, .int .i64 i] w1 (TPost hi 34 b w1 v nx mo (reapS S i) (.tuple #[.int .i64 (reapN S i), .int .i64 (reapE S i)]))) := fun w1 i hb => rreap_any (HT.out w1 hb) hs hl i
    have HF : Hid (∀ a E (ha : a < S.length), Seen p q S a E → kid p q S[a] = true → S[a].lives = false → ∀ w1 w2 e x, Below w.heap.size w w1 → Blk w1 x 37 (prC S[a]) → w.heap.size ≤ x → TPost hi 34 b w1 v nx mo (reapS S S[a].pid) (.tuple #[.int .i64 (reapN S S[a].pid), .int .i64 (reapE S S[a].pid)]) e w2 →
        e = .returned (.tuple #[.int .i64 (reapN S S[a].pid), .int .i64 (reapE S S[a].pid)]) ∧ w2.cell? ⟨x, 0, none⟩ = some (.int .i64 S[a].pid) ∧ w2.cell? ⟨x, 3, none⟩ = some (.int .i64 S[a].code) ∧ ∀ n, TPost hi 34 b w v nx mo (waitS S p q) (.tuple #[.int .i64 (waitN S p q), .int .i64 (waitC S p q), .int .i64 (waitE S p q)]) (.returned (.tuple #[.int .i64 S[a].pid, .int .i64 S[a].code, .int .i64 0])) (w2.drewN n)) := by
      rintro a E ha hsn hk hv w1 w2 e x hb hx hlx ⟨rfl, v', h1, h2⟩
      obtain ⟨g1, g2⟩ := hsn.found ha hk hv
      rw [show reapS S S[a].pid = S.filter (nq S[a].pid) from reap_out hs ha hv] at h1
      have hc : (decide (0 ≤ q) && S.any (gone p q)) = true := by rw [g1, decide_eq_true (by omega)]; rfl
      have hx2 : Blk w2 x 37 (prC S[a]) := ⟨(h2.block x hx.lt (by have := h.box.lt; omega) (fun e => by have := (T.own_at h.row e).2.1; omega)).trans hx.row⟩
      refine ⟨rfl, hx2.cell 0 rfl, hx2.cell 3 rfl, fun n => ?_⟩
      rw [show waitS S p q = S.filter (nq S[a].pid) by unfold waitS; rw [if_pos hc, g2, filter_nq], show waitN S p q = S[a].pid by unfold waitN; rw [if_pos hc, g2], show waitC S p q = S[a].code by unfold waitC; rw [if_pos hc, g2], show waitE S p q = 0 by unfold waitE; rw [if_neg hq, if_pos g1]]
      have hd : Below w2.heap.size w2 (w2.drewN n) := on_drewN (Below.refl _ _) n
      exact ⟨rfl, v', h1.on hd, ((T.Goes.on hb).trans h2).trans (.on hd)⟩
    have HE : Hid (∀ E, Seen p q S S.length E → ∀ w1, Below w.heap.size w w1 → TPost hi 34 b w v nx mo (waitS S p q) (.tuple #[.int .i64 (waitN S p q), .int .i64 (waitC S p q), .int .i64 (waitE S p q)]) (.returned (.tuple #[.int .i64 0, .int .i64 0, .int .i64 E])) w1) := by
      intro E hsn w1 hb
      obtain ⟨g1, g2⟩ := hsn.done
      have hc : ¬ (decide (0 ≤ q) && S.any (gone p q)) = true := by rw [g1]; simp
      rw [show waitS S p q = S by unfold waitS; rw [if_neg hc], show waitN S p q = 0 by unfold waitN; rw [if_neg hc], show waitC S p q = 0 by unfold waitC; rw [if_neg hc], show waitE S p q = E by unfold waitE; rw [if_neg hq, g1, if_neg (by decide), g2]]
      exact ⟨rfl, v, HT.out w1 hb, .on hb⟩
    generalize TPost hi 34 b w v nx mo (waitS S p q) (.tuple #[.int .i64 (waitN S p q), .int .i64 (waitC S p q), .int .i64 (waitE S p q)]) = Post at *
    have y0 := h.box.cell 0 rfl
    obtain ⟨pp, cap, rfl⟩ := h.slice
    clear h
    go_enter Try.func26, Try.ntmps26
    go_wp2
    go_loopw [9, 10] (fun ev iv wq => ∃ a : Nat, ∃ E : Int, a ≤ S.length ∧ ev = .int .i64 E ∧ iv = .int .i64 (a : Int) ∧ Hid (Seen p q S a E) ∧ Hid (Below w.heap.size w wq)) (fun _ iv _ => S.length - (intOf iv).toNat)
    case atStart => exact ⟨0, 10, Nat.zero_le _, rfl, rfl, Seen.start _ _ _, Below.refl _ _⟩
    case round =>
      obtain ⟨a, E, ha, rfl, rfl, HS, HB⟩ := hrel
      have y0 := (HT.out wr HB.out).box.cell 0 rfl
      by_cases hlt : a < S.length
      · have hltz : (a : Int) < (S.length : Int) := by omega
        obtain ⟨g, cap', e1, _, cc⟩ := tab_cells (HT.out wr HB.out) hlt
        cases e1
        obtain ⟨c0, c1, c2, c3, c4, c5, c6, _⟩ := cc
        have HK : Hid (kid p q S[a] = (decide (S[a].parent = p) && !S[a].pd && (decide (q = 0) || decide (S[a].pid = q)))) := rfl
        have HSk : Hid (kid p q S[a] = false → Seen p q S (a + 1) E) := HS.out.skip hlt
        have HMo : Hid (kid p q S[a] = true → S[a].lives = true → Seen p q S (a + 1) 35) := HS.out.more hlt
        have HFo : Hid _ := HF.out a E hlt HS.out
        clear HS HF HE
        generalize S[a] = x at *
        have HX : Hid (Blk (wr.alloc (.cells #[.int .i64 x.pid, .int .i64 x.parent, .bool x.lives, .int .i64 x.code, .bool x.pd, .bool x.cap, .int .i64 x.cwd] 37)) wr.heap.size 37 (prC x)) := Blk.new wr 37 (prC x)
        have HB2 : Hid (Below w.heap.size w (wr.alloc (.cells #[.int .i64 x.pid, .int .i64 x.parent, .bool x.lives, .int .i64 x.code, .bool x.pd, .bool x.cap, .int .i64 x.cwd] 37))) := on_trans HB.out (on_alloc wr _)
        have HSz : Hid (w.heap.size ≤ wr.heap.size) := HB.out.size
        obtain ⟨x0, x1, x2, x3, x4, x5, x6⟩ := x
        simp only at c0 c1 c2 c3 c4 c5 c6 HX HB2 HK HMo
        by_cases h1 : x1 = p
        · have h1b : (x1 == p) = true := by simp [h1]
          cases x4 with
          | true =>
            have HSS : Hid (Seen p q S (a + 1) E) := HSk.out (by rw [HK.out]; simp)
            clear HSk HMo HFo HK HC h1
            go_wp2
            go_roundw
            case rel => exact ⟨a + 1, E, by omega, rfl, by go_num, HSS.out, HB2.out⟩
            case measure => simp [intOf]; omega
          | false =>
            by_cases h2 : 0 < q ∧ x0 ≠ q
            · have h2a : 0 < q := h2.1
              have h2b : (x0 == q) = false := by simp [h2.2]
              have h2c : (q == 0) = false := by simp; omega
              have HSS : Hid (Seen p q S (a + 1) E) := HSk.out (by rw [HK.out, decide_eq_false (show ¬ q = 0 by omega), decide_eq_false h2.2]; simp)
              clear HSk HMo HFo HK HC h1 h2
              go_wp2
              go_roundw
              case rel => exact ⟨a + 1, E, by omega, rfl, by go_num, HSS.out, HB2.out⟩
              case measure => simp [intOf]; omega
            · have HKT : Hid (kid p q ⟨x0, x1, x2, x3, false, x5, x6⟩ = true) := by
                show _ = true
                rw [HK.out, decide_eq_true h1]
                by_cases h3 : q = 0
                · rw [decide_eq_true h3]; rfl
                · rw [decide_eq_true (show x0 = q by omega)]; simp
              have h3 : (q == 0) = true ∨ ((q == 0) = false ∧ (x0 == q) = true) := by
                by_cases h4 : 0 < q
                · exact .inr ⟨by simp; omega, by simp; omega⟩
                · exact .inl (by simp; omega)
              cases x2 with
              | true =>
                have HSS : Hid (Seen p q S (a + 1) 35) := HMo.out HKT.out rfl
                clear HSk HMo HFo HK HC h1 h2 HKT
                rcases h3 with h3 | ⟨h3, h4⟩
                · go_wp2
                  go_roundw
                  case rel => exact ⟨a + 1, 35, by omega, rfl, by go_num, HSS.out, HB2.out⟩
                  case measure => simp [intOf]; omega
                · go_wp2
                  go_roundw
                  case rel => exact ⟨a + 1, 35, by omega, rfl, by go_num, HSS.out, HB2.out⟩
                  case measure => simp [intOf]; omega
              | false =>
                have HFF : Hid _ := HFo.out HKT.out rfl
                clear HSk HMo HFo HK h1 h2 HKT
                rcases h3 with h3 | ⟨h3, h4⟩
                · go_wp2_with fail
                  refine (HC.out _ _ HB2.out).mono ?_
                  intro e w2 hp
                  obtain ⟨rfl, d0, d3, hpost⟩ := HFF.out _ w2 e _ HB2.out HX.out HSz.out hp
                  have HZ : Hid _ := hpost
                  clear hp HFF hpost HC HB2 HX
                  generalize reapN S x0 = rN at *
                  generalize reapE S x0 = rE at *
                  go_wp2
                  go_quiet (fail)
                  go_wp2
                  go_ret3
                  exact HZ.out _
                · go_wp2_with fail
                  refine (HC.out _ _ HB2.out).mono ?_
                  intro e w2 hp
                  obtain ⟨rfl, d0, d3, hpost⟩ := HFF.out _ w2 e _ HB2.out HX.out HSz.out hp
                  have HZ : Hid _ := hpost
                  clear hp HFF hpost HC HB2 HX
                  generalize reapN S x0 = rN at *
                  generalize reapE S x0 = rE at *
                  go_wp2
                  go_quiet (fail)
                  go_wp2
                  go_ret3
                  exact HZ.out _
        · have h1b : (x1 == p) = false := by simp [h1]
          have HSS : Hid (Seen p q S (a + 1) E) := HSk.out (by rw [HK.out, decide_eq_false h1]; rfl)
          clear HSk HMo HFo HK HC h1
          go_wp2
          go_roundw
          case rel => exact ⟨a + 1, E, by omega, rfl, by go_num, HSS.out, HB2.out⟩
          case measure => simp [intOf]; omega
      · have hltz : ¬ (a : Int) < (S.length : Int) := by omega
        obtain rfl : a = S.length := by omega
        have HZ : Hid _ := HE.out E HS.out wr HB.out
        clear HE HF HC HS
        go_wp2
        go_ret3
        exact HZ.out
end

end Go.Proofs.Ythmefiegoagkjaa.Y
