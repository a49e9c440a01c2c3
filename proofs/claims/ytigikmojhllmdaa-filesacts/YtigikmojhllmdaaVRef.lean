/- What the reference's New, At, Hold, Seek, SetFlags and Same answer and do. -/
import Derived.Test.YtigikmojhllmdaaVCountM
namespace Go.Proofs.Ytigikmojhllmdaa.V
open Go Go.RowKit

set_option maxRecDepth 100000 in
theorem rnew_any (n : Int) (w : World) : Calls Try.prog 8 #[.int .i64 n] w fun e w' => e = .returned (ptr w.heap.size) ∧ w' = w.alloc (.cells #[.slice none 0 0, .int .i64 1, .int .i64 n] 34) := by
  go_enter Try.func8, Try.ntmps8
  go_wp2
  go_ret
  exact ⟨rfl, rfl⟩
theorem spot_of {S : List Fl} {i : Int} {k : Nat} (hk : k < S.length) (h : S[k].id = i) (hb : ∀ j (hj : j < S.length), j < k → S[j].id ≠ i) : has i S = true ∧ spot i S = k := by
  have hq : has i S = true := has_of (List.getElem_mem hk) h
  refine ⟨hq, ?_⟩
  have hlt := spot_lt hq
  rcases Nat.lt_trichotomy (spot i S) k with h1 | h1 | h1
  · exact absurd (spot_id hlt) (hb _ hlt h1)
  · exact h1
  · have := List.not_of_lt_findIdx (xs := S) (p := fun x : Fl => x.id == i) h1
    simp at this
    exact absurd h this
theorem has_none {S : List Fl} {i : Int} (h : ∀ j (hj : j < S.length), S[j].id ≠ i) : has i S = false := List.any_eq_false.2 fun x hx => by
  obtain ⟨j, hj, rfl⟩ := List.mem_iff_getElem.1 hx
  simpa using h j hj
/-- Where a file lies, or -1. -/
def atZ (i : Int) (S : List Fl) : Int := if has i S then (spot i S : Int) else -1
section
variable {hi b c most : Nat} {v : Value} {nx mo : Int} {S : List Fl} {w : World}
set_option maxRecDepth 100000 in
set_option maxHeartbeats 1000000 in
theorem rat_any (h : TabAt hi 34 w b v nx mo S) (hl : S.length ≤ 1000) (i : Int) :
    Calls Try.prog 15 #[ptr b, .int .i64 i] w fun e w' => e = .returned (.int .i64 (atZ i S)) ∧ w' = w := by
  have HT : Hid (TabAt hi 34 w b v nx mo S) := h
  have y0 := h.box.cell 0 rfl
  obtain ⟨p, cap, rfl⟩ := h.slice
  have HZ : Hid (∀ k (hk : k < S.length), S[k].id = i → (∀ j (hj : j < S.length), j < k → S[j].id ≠ i) → atZ i S = (k : Int)) := fun k hk h1 h2 => by
    obtain ⟨h3, h4⟩ := spot_of hk h1 h2
    unfold atZ
    rw [h3, if_pos rfl, h4]
  have HN : Hid ((∀ j (hj : j < S.length), S[j].id ≠ i) → atZ i S = -1) := fun h1 => by
    unfold atZ
    rw [has_none h1]; rfl
  generalize atZ i S = z at *
  clear h
  go_enter Try.func15, Try.ntmps15
  go_wp2
  go_loop [5] (fun iv => ∃ k : Nat, k ≤ S.length ∧ iv = .int .i64 (k : Int) ∧ Hid (∀ j (hj : j < S.length), j < k → S[j].id ≠ i)) (fun iv => S.length - (intOf iv).toNat)
  case atStart => exact ⟨0, Nat.zero_le _, rfl, fun j hj h => absurd h (Nat.not_lt_zero _)⟩
  case round =>
    obtain ⟨k, hk, rfl, HB⟩ := hrel
    by_cases hlt : k < S.length
    · have hltz : (k : Int) < (S.length : Int) := by omega
      obtain ⟨g, cap2, e, _, hc, _⟩ := HT.out.cells hlt
      cases e
      have z0 := hc 0 _ rfl
      rw [Nat.add_zero] at z0
      by_cases he : S[k].id = i
      · have HE : Hid (z = (k : Int)) := HZ.out k hlt he HB.out
        have hb : (S[k].id == i) = true := by simpa using he
        clear hc he
        generalize S[k].id = y at *
        go_wp2
        go_ret
        exact ⟨by rw [HE.out]; rfl, rfl⟩
      · have hb : (S[k].id == i) = false := by simpa using he
        have HB2 : Hid (∀ j (hj : j < S.length), j < k + 1 → S[j].id ≠ i) := fun j hj h1 => by
          by_cases e : j = k
          · subst e; exact he
          · exact HB.out j hj (by omega)
        clear hc he
        generalize S[k].id = y at *
        go_wp2
        go_round
        case rel => exact ⟨k + 1, by omega, by go_num, HB2⟩
        case measure => simp [intOf]; omega
    · obtain rfl : k = S.length := by omega
      have hltz : ¬ (S.length : Int) < (S.length : Int) := by omega
      have HE : Hid (z = -1) := HN.out fun j hj => HB.out j hj hj
      go_wp2
      go_ret
      exact ⟨by rw [HE.out]; rfl, rfl⟩
theorem rat_yes (h : TabAt hi 34 w b v nx mo S) (hl : S.length ≤ 1000) {i : Int} (hq : has i S = true) :
    Calls Try.prog 15 #[ptr b, .int .i64 i] w fun e w' => e = .returned (.int .i64 (spot i S : Int)) ∧ w' = w := by
  have := rat_any h hl i
  unfold atZ at this
  rwa [hq, if_pos rfl] at this
theorem rat_no (h : TabAt hi 34 w b v nx mo S) (hl : S.length ≤ 1000) {i : Int} (hq : has i S = false) :
    Calls Try.prog 15 #[ptr b, .int .i64 i] w fun e w' => e = .returned (.int .i64 (-1)) ∧ w' = w := by
  have := rat_any h hl i
  unfold atZ at this
  rwa [hq, if_neg (by decide)] at this

set_option maxRecDepth 100000 in
set_option maxHeartbeats 1000000 in
theorem rhold_any (h : TabAt hi 34 w b v nx (most : Int) S) (ok : Ok c most nx S) (hc : c ≤ 900) (i : Int) :
    Calls Try.prog 22 #[ptr b, .int .i64 i] w (TPost hi 34 b w v nx (most : Int) (holdS i S) (.int .i64 (errE i S))) := by
  have hl : S.length ≤ 1000 := by have := ok.len; have := ok.most; omega
  have HT : Hid (TabAt hi 34 w b v nx (most : Int) S) := h
  unfold errE
  cases hq : has i S with
  | false =>
    have cP := rat_no h hl hq
    rw [hold_no hq, if_neg (by decide)]
    have HP : Hid (TPost hi 34 b w v nx (most : Int) S (.int .i64 9) (.returned (.int .i64 9)) w) := ⟨rfl, v, h, .refl _ _ _⟩
    generalize TPost hi 34 b w v nx (most : Int) S (.int .i64 9) = Post at *
    clear h HT hq ok
    go_enter Try.func22, Try.ntmps22
    go_wp2_with fail
    refine cP.mono ?_
    rintro e w1 ⟨rfl, rfl⟩
    go_wp2
    exact HP.out
  | true =>
    have cP := rat_yes h hl hq
    have hlt := spot_lt hq
    have hr := ok.refs _ (List.getElem_mem hlt)
    rw [if_pos rfl]
    unfold holdS
    have HP : Hid (∀ w1 v', TabAt hi 34 w1 b v' nx (most : Int) (S.modify (spot i S) moreF) → Goes b v v' w w1 → TPost hi 34 b w v nx (most : Int) (S.modify (spot i S) moreF) (.int .i64 0) (.returned (.int .i64 0)) w1) := fun w1 v' h1 h2 => ⟨rfl, v', h1, h2⟩
    generalize TPost hi 34 b w v nx (most : Int) (S.modify (spot i S) moreF) (.int .i64 0) = Post at *
    clear h hq ok
    generalize spot i S = k at *
    have y0 := HT.out.box.cell 0 rfl
    obtain ⟨g, cap, rfl, _, hcc, hfr⟩ := HT.out.cells hlt
    have z5 := hcc 5 _ rfl
    have f5 := hfr (k * 6 + 5)
    have hz : (k : Int) < (S.length : Int) := by omega
    have hz0 : ¬ (k : Int) < 0 := by omega
    have hst := HT.out.stored (by decide) hlt (i := 5) (by omega) (S[k].refs + 1) moreF rfl
    have HZ : Hid _ := HP.out _ _ hst.1 hst.2
    clear hcc hfr hst HP HT
    generalize S[k].refs = r at *
    go_enter Try.func22, Try.ntmps22
    go_wp2_with fail
    refine cP.mono ?_
    rintro e w1 ⟨rfl, rfl⟩
    go_wp2
    exact HZ.out

set_option maxRecDepth 100000 in
set_option maxHeartbeats 1000000 in
theorem rseek_any (h : TabAt hi 34 w b v nx (most : Int) S) (ok : Ok c most nx S) (i o : Int) :
    Calls Try.prog 24 #[ptr b, .int .i64 i, .int .i64 o] w (TPost hi 34 b w v nx (most : Int) (seekS i o S) (.int .i64 (seekE i o S))) := by
  have hl : S.length ≤ 1000 := by have := ok.len; have := ok.most; omega
  have HT : Hid (TabAt hi 34 w b v nx (most : Int) S) := h
  unfold seekE
  cases hq : has i S with
  | false =>
    have cP := rat_no h hl hq
    rw [seek_no hq, if_neg (by decide)]
    have HP : Hid (TPost hi 34 b w v nx (most : Int) S (.int .i64 9) (.returned (.int .i64 9)) w) := ⟨rfl, v, h, .refl _ _ _⟩
    generalize TPost hi 34 b w v nx (most : Int) S (.int .i64 9) = Post at *
    clear h HT hq ok
    go_enter Try.func24, Try.ntmps24
    go_wp2_with fail
    refine cP.mono ?_
    rintro e w1 ⟨rfl, rfl⟩
    go_wp2
    exact HP.out
  | true =>
    have cP := rat_yes h hl hq
    have hlt := spot_lt hq
    rw [if_pos rfl]
    unfold seekS
    by_cases ho : o < 0
    · rw [if_pos ho, if_pos ho]
      have HP : Hid (TPost hi 34 b w v nx (most : Int) S (.int .i64 22) (.returned (.int .i64 22)) w) := ⟨rfl, v, h, .refl _ _ _⟩
      generalize TPost hi 34 b w v nx (most : Int) S (.int .i64 22) = Post at *
      clear h HT hq ok
      generalize spot i S = k at *
      have hz0 : ¬ (k : Int) < 0 := by omega
      go_enter Try.func24, Try.ntmps24
      go_wp2_with fail
      refine cP.mono ?_
      rintro e w1 ⟨rfl, rfl⟩
      go_wp2
      exact HP.out
    · rw [if_neg ho, if_neg ho]
      have HP : Hid (∀ w1 v', TabAt hi 34 w1 b v' nx (most : Int) (S.modify (spot i S) (offF o)) → Goes b v v' w w1 → TPost hi 34 b w v nx (most : Int) (S.modify (spot i S) (offF o)) (.int .i64 0) (.returned (.int .i64 0)) w1) := fun w1 v' h1 h2 => ⟨rfl, v', h1, h2⟩
      generalize TPost hi 34 b w v nx (most : Int) (S.modify (spot i S) (offF o)) (.int .i64 0) = Post at *
      clear h hq ok
      generalize spot i S = k at *
      have y0 := HT.out.box.cell 0 rfl
      obtain ⟨g, cap, rfl, _, hcc, hfr⟩ := HT.out.cells hlt
      have z3 := hcc 3 _ rfl
      have f3 := hfr (k * 6 + 3)
      have hz : (k : Int) < (S.length : Int) := by omega
      have hz0 : ¬ (k : Int) < 0 := by omega
      have hst := HT.out.stored (by decide) hlt (i := 3) (by omega) o (offF o) rfl
      have HZ : Hid _ := HP.out _ _ hst.1 hst.2
      clear hcc hfr hst HP HT
      generalize S[k].off = r at *
      go_enter Try.func24, Try.ntmps24
      go_wp2_with fail
      refine cP.mono ?_
      rintro e w1 ⟨rfl, rfl⟩
      go_wp2
      exact HZ.out
end

set_option maxRecDepth 100000 in
set_option maxHeartbeats 1000000 in
theorem rbit_any (x : Int) (i : Nat) (hi : i < 64) (w : World) :
    Calls Try.prog 31 #[.int .i64 x, .int .i64 (i : Int)] w fun e w' => e = .returned (.bool (bitI x i)) ∧ w' = w := by
  have ha := i64_and1 (x / 2 ^ i)
  have hr : ((x / 2 ^ i % 2) == 1) = bitI x i := by unfold bitI; rfl
  have hsh := shift_shr .i64 .u64 x (i : Int) (by omega) (by show (i : Int) ≤ 64; omega)
  rw [show ((i : Int)).toNat = i by simp] at hsh
  generalize bitI x i = r at *
  have hw : IntKind.u64.wrap (i : Int) = i := by rw [IntKind.wrap_u64]; omega
  go_enter Try.func31, Try.ntmps31
  go_wp2
  go_ret
  exact ⟨rfl, rfl⟩

section
variable {hi b c most : Nat} {v : Value} {nx mo : Int} {S : List Fl} {w : World}
set_option maxRecDepth 100000 in
set_option maxHeartbeats 2000000 in
theorem rflags_any (h : TabAt hi 34 w b v nx (most : Int) S) (ok : Ok c most nx S) (i fl : Int) :
    Calls Try.prog 25 #[ptr b, .int .i64 i, .int .i64 fl] w (TPost hi 34 b w v nx (most : Int) (flagS i fl S) (.int .i64 (errE i S))) := by
  have hl : S.length ≤ 1000 := by have := ok.len; have := ok.most; omega
  have HT : Hid (TabAt hi 34 w b v nx (most : Int) S) := h
  unfold errE
  cases hq : has i S with
  | false =>
    have cP := rat_no h hl hq
    rw [flag_no hq, if_neg (by decide)]
    have HP : Hid (TPost hi 34 b w v nx (most : Int) S (.int .i64 9) (.returned (.int .i64 9)) w) := ⟨rfl, v, h, .refl _ _ _⟩
    generalize TPost hi 34 b w v nx (most : Int) S (.int .i64 9) = Post at *
    clear h HT hq ok
    go_enter Try.func25, Try.ntmps25
    go_wp2_with fail
    refine cP.mono ?_
    rintro e w1 ⟨rfl, rfl⟩
    go_wp2
    exact HP.out
  | true =>
    have cP := rat_yes h hl hq
    have hlt := spot_lt hq
    have hfl := ok.flags _ (List.getElem_mem hlt)
    rw [if_pos rfl]
    unfold flagS
    have HP : Hid (∀ w1 v', TabAt hi 34 w1 b v' nx (most : Int) (S.modify (spot i S) (flagF fl)) → Goes b v v' w w1 → TPost hi 34 b w v nx (most : Int) (S.modify (spot i S) (flagF fl)) (.int .i64 0) (.returned (.int .i64 0)) w1) := fun w1 v' h1 h2 => ⟨rfl, v', h1, h2⟩
    generalize TPost hi 34 b w v nx (most : Int) (S.modify (spot i S) (flagF fl)) (.int .i64 0) = Post at *
    clear h hq ok
    generalize spot i S = k at *
    have y0 := HT.out.box.cell 0 rfl
    obtain ⟨g, cap, rfl, _, hcc, hfr⟩ := HT.out.cells hlt
    have z4 := hcc 4 _ rfl
    have f4 := hfr (k * 6 + 4)
    have hz : (k : Int) < (S.length : Int) := by omega
    have hz0 : ¬ (k : Int) < 0 := by omega
    have hst := HT.out.stored (by decide) hlt (i := 4) (by omega) (S[k].flags % 4 + loose fl) (flagF fl) rfl
    have HZ : Hid _ := HP.out _ _ hst.1 hst.2
    have hL : loose fl = (if bitI fl 2 then 4 else 0) + (if bitI fl 3 then 8 else 0) := rfl
    have c2 := rbit_any fl 2 (by omega)
    have c3 := rbit_any fl 3 (by omega)
    clear hcc hfr hst HP HT
    rw [hL] at HZ
    clear hL
    have e1 : Int.tmod S[k].flags 4 = S[k].flags % 4 := Int.tmod_eq_emod_of_nonneg hfl.1
    generalize S[k].flags = r at *
    obtain ⟨m, hm⟩ : ∃ m, r % 4 = m := ⟨_, rfl⟩
    have hm4 : 0 ≤ m ∧ m ≤ 3 := by omega
    rw [hm] at e1 HZ
    generalize bitI fl 2 = b2 at *
    generalize bitI fl 3 = b3 at *
    cases b2
    all_goals
      cases b3
      all_goals
        simp only [if_true, if_false, Bool.false_eq_true, Int.add_zero, Int.zero_add, ← Int.add_assoc] at HZ
        go_enter Try.func25, Try.ntmps25
        go_wp2_with fail
        refine cP.mono ?_
        rintro e w1 ⟨rfl, rfl⟩
        go_wp2_with fail
        refine (c2 _).mono ?_
        rintro e w2 ⟨rfl, rfl⟩
        go_wp2_with fail
        refine (c3 _).mono ?_
        rintro e w3 ⟨rfl, rfl⟩
        go_wp2
        exact HZ.out
end

set_option maxRecDepth 100000 in
set_option maxHeartbeats 2000000 in
/-- Two rows of the same files are the same. -/
theorem same_any {hi hi2 : Nat} {u v : Value} {S : List Fl} {w : World} (h : Row hi w u S) (h2 : Row hi2 w v S) (hl : S.length ≤ 1000) :
    Calls Try.prog 10 #[u, v] w fun e w' => e = .returned (.bool true) ∧ Below w.heap.size w w' := by
  have HR : Hid (∀ w1, Below w.heap.size w w1 → Row hi w1 u S ∧ Row hi2 w1 v S) := fun w1 hb => ⟨rowS_on h hb, rowS_on h2 hb⟩
  obtain ⟨p, cap, rfl, _⟩ := row_cells h
  obtain ⟨p2, cap2, rfl, _⟩ := row_cells h2
  clear h h2
  go_enter Try.func10, Try.ntmps10
  go_wp2
  go_loopw [5] (fun iv wq => ∃ k : Nat, k ≤ S.length ∧ iv = .int .i64 (k : Int) ∧ Hid (Below w.heap.size w wq)) (fun iv _ => S.length - (intOf iv).toNat)
  case atStart => exact ⟨0, Nat.zero_le _, rfl, Below.refl _ _⟩
  case round =>
    obtain ⟨k, hk, rfl, HB⟩ := hrel
    by_cases hlt : k < S.length
    · have hltz : (k : Int) < (S.length : Int) := by omega
      obtain ⟨h1, h2⟩ := HR.out wr HB.out
      obtain ⟨q1, d1, e1, hc1⟩ := row_cells h1
      cases e1
      obtain ⟨g, rfl, ha⟩ := hc1 k hlt
      obtain ⟨q2, d2, e2, hc2⟩ := row_cells h2
      cases e2
      obtain ⟨g2, rfl, hb⟩ := hc2 k hlt
      have a0 := ha 0 _ rfl
      have a1 := ha 1 _ rfl
      have a2 := ha 2 _ rfl
      have a3 := ha 3 _ rfl
      have a4 := ha 4 _ rfl
      have a5 := ha 5 _ rfl
      have b0 := hb 0 _ rfl
      have b1 := hb 1 _ rfl
      have b2 := hb 2 _ rfl
      have b3 := hb 3 _ rfl
      have b4 := hb 4 _ rfl
      have b5 := hb 5 _ rfl
      rw [Nat.add_zero] at a0 b0
      have heq := fun w => eq_file S[k].id S[k].kind S[k].obj S[k].off S[k].flags S[k].refs w
      clear ha hb hc1 hc2 h1 h2
      generalize S[k] = x at *
      obtain ⟨x0, x1, x2, x3, x4, x5⟩ := x
      simp only at a0 a1 a2 a3 a4 a5 b0 b1 b2 b3 b4 b5 heq
      go_wp2
      go_quiet (fail)
      go_wp2
      go_roundw
      case rel => exact ⟨k + 1, by omega, by go_num, on_drewN HB.out _⟩
      case measure => simp [intOf]; omega
    · have hltz : ¬ (k : Int) < (S.length : Int) := by omega
      go_wp2
      go_ret
      exact ⟨rfl, HB.out⟩

end Go.Proofs.Ytigikmojhllmdaa.V
