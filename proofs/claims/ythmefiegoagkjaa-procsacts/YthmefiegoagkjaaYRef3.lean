/- What the reference's Reap does. -/
import Derived.Test.YthmefiegoagkjaaYRef2
import Derived.Deep.RegionLaw
namespace Go.Proofs.Ythmefiegoagkjaa.Y
open Go Go.RowKit

theorem erase_filter {S : List Pr} {i : Int} (hs : Sorted S) (hq : has i S = true) : S.take (spot i S) ++ S.drop (spot i S + 1) = S.filter (fun x => decide (x.pid ≠ i)) := by
  have hlt := spot_lt hq
  have hid := spot_id hlt
  conv => rhs; rw [← List.take_append_drop (spot i S) S, List.drop_eq_getElem_cons hlt]
  rw [List.filter_append, List.filter_cons_of_neg (by simp [hid])]
  congr 1
  · refine (List.filter_eq_self.2 fun x hx => ?_).symm
    obtain ⟨j, hj, rfl⟩ := List.mem_iff_getElem.1 hx
    rw [List.length_take] at hj
    rw [List.getElem_take]
    have := List.pairwise_iff_getElem.1 hs j (spot i S) (by omega) hlt (by omega)
    exact decide_eq_true (by omega)
  · refine (List.filter_eq_self.2 fun x hx => ?_).symm
    obtain ⟨j, hj, rfl⟩ := List.mem_iff_getElem.1 hx
    rw [List.length_drop] at hj
    rw [List.getElem_drop]
    have := List.pairwise_iff_getElem.1 hs (spot i S) (spot i S + 1 + j) hlt (by omega) (by omega)
    exact decide_eq_true (by omega)
theorem slice_fromX {P : Program} {T e : TypeId} {z : Value} {size bytes : Nat} (E : ElemS P T e z size bytes) (sb so m c n : Nat) (hn : n ≤ m) (hm : m ≤ c) : ∃ x, (∀ w, (Instr.slice T (.slice (some ⟨sb, so, none⟩) m c) (some (.int .i64 (n : Int))) none none).run P w = .ok (.slice (some ⟨sb, x, none⟩) (m - n) (c - n)) w) ∧ (n < c → x = so + n * size) := by
  by_cases h : n < c
  · exact ⟨so + n * size, fun w => slice_fromS E sb so m c n hn h w, fun _ => rfl⟩
  · obtain rfl : n = c := by omega
    obtain rfl : m = n := by omega
    exact ⟨so, fun w => by rw [Nat.sub_self]; exact slice_endS E sb so m w, fun h => by omega⟩
section
variable {hi b : Nat} {v : Value} {nx mo : Int} {S : List Pr} {w : World}
/-- What the two appends of Reap come to. -/
theorem twice {g cap k xo : Nat} (h : TabAt hi 34 w b (.slice (some ⟨g, 0, none⟩) S.length cap) nx mo S) (hl : S.length ≤ 1000) (hk : k < S.length) (hxo : k + 1 < cap → xo = (k + 1) * 7) :
    ∃ p1 c1 W1 p2 c2 W2, (∀ t, (Builtin.append_ #[31, 31] t #[.slice (some ⟨w.heap.size, 0, none⟩) 0 0, .slice (some ⟨g, 0, none⟩) k cap]).run Try.prog (w.alloc (.cells #[] 37)).drew = .ok (.slice p1 k c1) W1) ∧
      (∀ t, (Builtin.append_ #[31, 31] t #[.slice p1 k c1, .slice (some ⟨g, xo, none⟩) (S.length - (k + 1)) (cap - (k + 1))]).run Try.prog W1 = .ok (.slice p2 (S.length - 1) c2) W2) ∧
      W1.cell? ⟨b, 0, none⟩ = some (.slice (some ⟨g, 0, none⟩) S.length cap) ∧ W2.cell? ⟨b, 0, none⟩ = some (.slice (some ⟨g, 0, none⟩) S.length cap) ∧ W2.frozen? ⟨b, 0, none⟩ = false ∧
      TabAt hi 34 (W2.setCell ⟨b, 0, none⟩ (.slice p2 (S.length - 1) c2)) b (.slice p2 (S.length - 1) c2) nx mo (S.take k ++ S.drop (k + 1)) ∧ T.Goes b (.slice (some ⟨g, 0, none⟩) S.length cap) (.slice p2 (S.length - 1) c2) w (W2.setCell ⟨b, 0, none⟩ (.slice p2 (S.length - 1) c2)) := by
  obtain ⟨cs, hB, hcl, hnc, hcm, hg, hct⟩ := rowS_blk h.row
  have hhi : hi ≤ w.heap.size := Nat.le_of_lt (Nat.lt_of_le_of_lt h.hid h.box.lt)
  have hal : Below w.heap.size w (w.alloc (.cells #[] 37)).drew := on_drew (on_alloc w _)
  have h0 := h.on hal
  have hB0 := hB.on hal
  have hr0 : (w.alloc (.cells #[] 37)).drew.ownsRow w.heap.size 37 7 (.slice (some ⟨w.heap.size, 0, none⟩) 0 0) 0 [] := rowS_on (rowS_empty w w.heap.size 37 7 (Nat.le_refl _)) (on_drew (Below.refl _ _))
  have hcs : ∀ (j : Nat) u, (flat S)[j]? = some u → cs[j]? = some u := fun j u hu => by
    have hj := (List.getElem?_eq_some_iff.1 hu).1
    have e : (flat S)[j]? = cs[j]? := by
      rw [show flat S = cs.take (S.length * encP.n) from hct.symm, List.getElem?_take_of_lt]
      rw [flat_length] at hj
      exact hj
    rw [← e]; exact hu
  have hat1 : At (w.alloc (.cells #[] 37)).drew (some ⟨g, 0, none⟩) (flat (S.take k)) := .inr ⟨g, 0, rfl, Nat.zero_le _, hB0.lt, fun j u hu => by
    rw [Nat.zero_add]
    refine hB0.cell j (hcs j u ?_)
    have e : flat (S.take k) = (flat S).take (k * 7) := (T.flat_take encP S k).symm
    rw [e] at hu
    have hj := (List.getElem?_eq_some_iff.1 hu).1
    rw [List.length_take] at hj
    rwa [List.getElem?_take_of_lt (by omega)] at hu⟩
  obtain ⟨v1, W1, hrun1, hr1, hg1, hgs1⟩ := append_rowA elemP w.heap.size (.slice (some ⟨w.heap.size, 0, none⟩) 0 0) 0 [] (some ⟨g, 0, none⟩) cap k (flat (S.take k)) _ (by omega) (by omega) (by rw [flat_length, List.length_take]; omega) (flat_cell _) hr0 hat1 hal.size
  rw [Nat.zero_add, List.nil_append] at hr1
  obtain ⟨p1, c1, rfl, _⟩ := rowS_at hr1
  have hb1 : Below w.heap.size w W1 := hg1.below hal (Nat.le_refl _) hal.size
  have h1 := h.on hb1
  have hB1 := hB.on hb1
  have hat2 : At W1 (some ⟨g, xo, none⟩) (flat (S.drop (k + 1))) := by
    by_cases hkc : k + 1 < cap
    · refine .inr ⟨g, xo, rfl, Nat.zero_le _, hB1.lt, fun j u hu => ?_⟩
      rw [hxo hkc]
      refine hB1.cell _ (hcs _ u ?_)
      have e : flat (S.drop (k + 1)) = (flat S).drop ((k + 1) * 7) := (T.flat_drop encP S (k + 1)).symm
      rw [e, List.getElem?_drop] at hu
      exact hu
    · have e : S.drop (k + 1) = [] := List.drop_of_length_le (by omega)
      rw [e]
      exact .inl rfl
  obtain ⟨v2, W2, hrun2, hr2, hg2, hgs2⟩ := append_rowA elemP w.heap.size (.slice p1 k c1) k (flat (S.take k)) (some ⟨g, xo, none⟩) (cap - (k + 1)) (S.length - (k + 1)) (flat (S.drop (k + 1))) W1 (by omega) (by omega) (by rw [flat_length, List.length_drop]) (flat_cell _) hr1 hat2 hb1.size
  have hb2 : Below w.heap.size w W2 := hg2.below hb1 (Nat.le_refl _) hb1.size
  rw [show k + (S.length - (k + 1)) = S.length - 1 by omega] at hr2
  obtain ⟨p2, c2, rfl, _⟩ := rowS_at hr2
  have h2 := h.on hb2
  have hlen : (S.take k ++ S.drop (k + 1)).length = S.length - 1 := by rw [List.length_append, List.length_take, List.length_drop]; omega
  have hrow : Row w.heap.size W2 (.slice p2 (S.length - 1) c2) (S.take k ++ S.drop (k + 1)) := by
    show W2.ownsRow w.heap.size _ 7 _ (S.take k ++ S.drop (k + 1)).length (flat (S.take k ++ S.drop (k + 1)))
    rw [hlen, show flat (S.take k ++ S.drop (k + 1)) = flat (S.take k) ++ flat (S.drop (k + 1)) from T.flat_append encP _ _]
    exact hr2
  have hrow2 : Row hi W2 (.slice p2 (S.length - 1) c2) (S.take k ++ S.drop (k + 1)) := by
    refine ⟨hrow.1, ?_⟩
    rcases hrow.2 with h0 | ⟨g', cap', cur, e, hbs, rest⟩
    · exact .inl h0
    · exact .inr ⟨g', cap', cur, e, Nat.le_trans hhi hbs, rest⟩
  refine ⟨p1, c1, W1, p2, c2, W2, hrun1, hrun2, h1.box.cell 0 rfl, h2.box.cell 0 rfl, h2.box.free 0, T.TabAt.laid h2.box hrow2 h.hid (by decide), ?_⟩
  have hB3 := but_set W2 b 0 (.slice p2 (S.length - 1) c2)
  exact ⟨hB3.os.trans hb2.os, hB3.tape.trans hb2.tape, hB3.output.trans hb2.output, by rw [hB3.size]; exact hb2.size, fun j hj h1 _ => (hB3.block j h1).trans (hb2.block j hj), fun x hx => .inr (T.own_at hrow hx).1⟩
set_option maxRecDepth 100000 in
set_option maxHeartbeats 4000000 in
theorem rreap_any (h : TabAt hi 34 w b v nx mo S) (hs : Sorted S) (hl : S.length ≤ 1000) (i : Int) :
    Calls Try.prog 27 #[ptr b, .int .i64 i] w (TPost hi 34 b w v nx mo (reapS S i) (.tuple #[.int .i64 (reapN S i), .int .i64 (reapE S i)])) := by
  unfold reapS reapN reapE
  cases hq : has i S with
  | false =>
    have cA := rat_no h hl hq
    rw [Bool.false_and, if_neg (by decide), if_neg (by decide), if_neg (by decide)]
    have HP : Hid (TPost hi 34 b w v nx mo S (.tuple #[.int .i64 0, .int .i64 3]) (.returned (.tuple #[.int .i64 0, .int .i64 3])) w) := ⟨rfl, v, h, .refl _ _ _⟩
    generalize TPost hi 34 b w v nx mo S (.tuple #[.int .i64 0, .int .i64 3]) = Post at *
    clear h hq hs
    go_enter Try.func27, Try.ntmps27
    go_wp2_with fail
    refine cA.mono ?_
    rintro e w1 ⟨rfl, rfl⟩
    go_wp2
    exact HP.out
  | true =>
    have cA := rat_yes h hl hq
    have hlt := spot_lt hq
    obtain ⟨g, cap, rfl, _, c⟩ := tab_cells h hlt
    have z2 := c.c2
    have z3 := c.c3
    have y0 := h.box.cell 0 rfl
    have hz : (spot i S : Int) < (S.length : Int) := by omega
    rw [Bool.true_and, if_pos rfl, at_get hq]
    cases hv : S[spot i S].lives with
    | true =>
      rw [hv] at z2
      rw [if_neg (by decide), if_neg (by decide), if_pos rfl]
      have HP : Hid (TPost hi 34 b w (.slice (some ⟨g, 0, none⟩) S.length cap) nx mo S (.tuple #[.int .i64 0, .int .i64 35]) (.returned (.tuple #[.int .i64 0, .int .i64 35])) w) := ⟨rfl, _, h, .refl _ _ _⟩
      generalize TPost hi 34 b w (.slice (some ⟨g, 0, none⟩) S.length cap) nx mo S (.tuple #[.int .i64 0, .int .i64 35]) = Post at *
      clear h hv c hs
      generalize S[spot i S].code = r at *
      clear hlt hq
      generalize spot i S = k at *
      go_enter Try.func27, Try.ntmps27
      go_wp2_with fail
      refine cA.mono ?_
      rintro e w1 ⟨rfl, rfl⟩
      go_wp2
      exact HP.out
    | false =>
      rw [hv] at z2
      rw [show (!false) = true from rfl, if_pos rfl, if_pos rfl, if_neg (by decide), ← erase_filter hs hq]
      obtain ⟨_, _, _, hnc, _⟩ := rowS_blk h.row
      have hw1 : (spot i S : Int) + 1 ≤ (S.length : Int) := by omega
      have hw2 : (S.length : Int) ≤ (cap : Int) := by omega
      have hw3 : (spot i S : Int) ≤ (cap : Int) := by omega
      have hwr : IntKind.i64.wrap ((spot i S : Int) + 1) = (spot i S : Int) + 1 := by rw [IntKind.wrap_i64]; omega
      have hw4 : (spot i S : Int) ≤ (spot i S : Int) + 1 := by omega
      have hw0 : (0 : Int) ≤ (spot i S : Int) + 1 := by omega
      by_cases hkc : cap = spot i S + 1
      · have hnk : S.length = spot i S + 1 := by omega
        obtain ⟨p1, c1, W1, p2, c2, W2, hrun1, hrun2, d1, d2, f2, hT2, hG2⟩ := twice (xo := 0) h hl hlt (fun _ => by omega)
        have HZ : Hid (TPost hi 34 b w (.slice (some ⟨g, 0, none⟩) S.length cap) nx mo (S.take (spot i S) ++ S.drop (spot i S + 1)) (.tuple #[.int .i64 S[spot i S].code, .int .i64 0]) (.returned (.tuple #[.int .i64 S[spot i S].code, .int .i64 0])) _) := ⟨rfl, _, hT2, hG2⟩
        generalize TPost hi 34 b w (.slice (some ⟨g, 0, none⟩) S.length cap) nx mo (S.take (spot i S) ++ S.drop (spot i S + 1)) (.tuple #[.int .i64 S[spot i S].code, .int .i64 0]) = Post at *
        have y0' := (h.on (on_alloc w (.cells #[] 37))).box.cell 0 rfl
        clear h hv c hs hT2 hG2
        generalize S[spot i S].code = r at *
        clear hlt hq
        generalize spot i S = k at *
        subst hkc
        rw [hnk] at hrun2 HZ
        simp only [Nat.sub_self, Nat.add_sub_cancel] at hrun2 HZ
        go_enter Try.func27, Try.ntmps27
        go_wp2_with fail
        refine cA.mono ?_
        rintro e w1 ⟨rfl, rfl⟩
        go_wp2
        go_region_law (first | (refine step_append_run rfl (.tmp 30) (.tmp 36) 31 rfl _ _ (by simp [Act.eval, Act.put]) (by simp [Act.eval, Act.put]) (hrun1 _) ?_) | (refine step_append_run rfl (.tmp 37) (.tmp 44) 31 rfl _ _ (by simp [Act.eval, Act.put]) (by simp [Act.eval, Act.put]) (hrun2 _) ?_))
        all_goals
          go_wp2
          exact HZ.out
      · obtain ⟨p1, c1, W1, p2, c2, W2, hrun1, hrun2, d1, d2, f2, hT2, hG2⟩ := twice (xo := (spot i S + 1) * 7) h hl hlt (fun _ => by omega)
        have HZ : Hid (TPost hi 34 b w (.slice (some ⟨g, 0, none⟩) S.length cap) nx mo (S.take (spot i S) ++ S.drop (spot i S + 1)) (.tuple #[.int .i64 S[spot i S].code, .int .i64 0]) (.returned (.tuple #[.int .i64 S[spot i S].code, .int .i64 0])) _) := ⟨rfl, _, hT2, hG2⟩
        generalize TPost hi 34 b w (.slice (some ⟨g, 0, none⟩) S.length cap) nx mo (S.take (spot i S) ++ S.drop (spot i S + 1)) (.tuple #[.int .i64 S[spot i S].code, .int .i64 0]) = Post at *
        have y0' := (h.on (on_alloc w (.cells #[] 37))).box.cell 0 rfl
        clear h hv c hs hT2 hG2
        generalize S[spot i S].code = r at *
        clear hlt hq
        generalize spot i S = k at *
        go_enter Try.func27, Try.ntmps27
        go_wp2_with fail
        refine cA.mono ?_
        rintro e w1 ⟨rfl, rfl⟩
        go_wp2
        go_region_law (first | (refine step_append_run rfl (.tmp 30) (.tmp 36) 31 rfl _ _ (by simp [Act.eval, Act.put]) (by simp [Act.eval, Act.put]) (hrun1 _) ?_) | (refine step_append_run rfl (.tmp 37) (.tmp 44) 31 rfl _ _ (by simp [Act.eval, Act.put]) (by simp [Act.eval, Act.put]) (hrun2 _) ?_))
        all_goals
          go_wp2
          exact HZ.out
end

end Go.Proofs.Ythmefiegoagkjaa.Y
