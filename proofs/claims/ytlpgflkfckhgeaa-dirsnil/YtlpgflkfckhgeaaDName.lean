/- What path.Name and the reference's Name answer. -/
import Derived.Test.YtlpgflkfckhgeaaDRunes
namespace Go.Proofs.Ytlpgflkfckhgeaa
open Go Go.RowKit

set_option maxRecDepth 100000 in
theorem containsAny_any (s : ByteArray) (w : World) (hs : s.size ≤ 10000) : Calls Try.prog 33 #[.string s, .string slB] w fun e w' => e = .returned (.bool (badB s)) ∧ Below w.heap.size w w' := by
  have cI : Calls Try.prog 37 #[.string s, .string slB] w (AnyPost s w) := by
    by_cases h8 : s.size ≤ 8
    · exact indexAny_small s w h8
    · refine (Try.strings_IndexAny_long (fun W => by kernel_rfl) s slB w (by decide) (by omega) (by omega) (by decide) (fun j b h => by
        match j, h with
        | 0, h => simp [slB] at h; subst h; decide
        | 1, h => simp [slB] at h; subst h; decide
        | j + 2, h => simp [slB] at h)).mono ?_
      rintro e w' ⟨rfl, rfl⟩
      exact ⟨_, rfl, indexAny_bad _, on_trans (on_alloc _ _) (on_alloc _ _)⟩
  generalize slB = t at *
  go_enter Try.func33, Try.ntmps33
  go_wp2_with fail
  refine cI.mono ?_
  rintro e w1 ⟨n, rfl, hn, hb⟩
  have HN : Hid (decide (0 ≤ n) = badB s) := hn
  clear hn
  go_wp2
  go_ret
  exact ⟨by rw [← HN.out]; rfl, hb⟩

/-- Why a text can't be a name. -/
def nameE (s : ByteArray) : Int := if s.size = 0 then 2 else if 32 < s.size then 63 else if s.toList == [46] || s.toList == [46, 46] || badB s then 22 else 0

set_option maxRecDepth 100000 in
set_option maxHeartbeats 2000000 in
theorem name_any (s : ByteArray) (w : World) (hs : s.size ≤ 10000) : Calls Try.prog 26 #[.string s] w fun e w' => e = .returned (.int .i64 (nameE s)) ∧ Below w.heap.size w w' := by
  have cT := fun W => tooLong_any s W hs
  have cC := fun W => containsAny_any s W hs
  unfold slB at cC
  have hE := empty_iff s
  have HN : Hid (nameE s = if s.size = 0 then 2 else if 32 < s.size then 63 else if s.toList == [46] || s.toList == [46, 46] || badB s then 22 else 0) := rfl
  obtain ⟨n, hn⟩ : ∃ n, nameE s = n := ⟨_, rfl⟩
  have hN := HN.out
  rw [hn] at hN ⊢
  clear HN hn
  by_cases h0 : s.size = 0
  · rw [if_pos h0] at hN
    rw [decide_eq_true h0] at hE
    subst hN
    clear h0 cT cC
    go_enter Try.func26, Try.ntmps26
    go_wp2
    go_ret
    exact ⟨rfl, Below.refl _ _⟩
  rw [if_neg h0] at hN
  rw [decide_eq_false h0] at hE
  by_cases h1 : 32 < s.size
  · rw [if_pos h1] at hN
    rw [decide_eq_true h1] at cT
    subst hN
    clear h0 h1 cC
    go_enter Try.func26, Try.ntmps26
    go_wp2_with fail
    refine (cT _).mono ?_
    rintro e w1 ⟨rfl, rfl⟩
    go_wp2
    go_ret
    exact ⟨rfl, Below.refl _ _⟩
  rw [if_neg h1] at hN
  rw [decide_eq_false h1] at cT
  clear h0 h1
  generalize h2 : (s.toList == [46]) = b2 at *
  generalize h3 : (s.toList == [46, 46]) = b3 at *
  generalize badB s = b4 at *
  cases b2 with
  | true =>
    simp only [Bool.true_or, if_true] at hN
    subst hN
    clear cC
    go_enter Try.func26, Try.ntmps26
    go_wp2_with fail
    refine (cT _).mono ?_
    rintro e w1 ⟨rfl, rfl⟩
    go_wp2
    go_ret
    exact ⟨rfl, Below.refl _ _⟩
  | false =>
    cases b3 with
    | true =>
      simp only [Bool.true_or, Bool.or_true, if_true] at hN
      subst hN
      clear cC
      go_enter Try.func26, Try.ntmps26
      go_wp2_with fail
      refine (cT _).mono ?_
      rintro e w1 ⟨rfl, rfl⟩
      go_wp2
      go_ret
      exact ⟨rfl, Below.refl _ _⟩
    | false =>
      simp only [Bool.false_or] at hN
      cases b4 with
      | true =>
        simp only [if_true] at hN
        subst hN
        go_enter Try.func26, Try.ntmps26
        go_wp2_with fail
        refine (cT _).mono ?_
        rintro e w1 ⟨rfl, rfl⟩
        go_wp2_with fail
        refine (cC _).mono ?_
        rintro e w2 ⟨rfl, hb⟩
        go_wp2
        go_ret
        exact ⟨rfl, hb⟩
      | false =>
        simp only [Bool.false_eq_true, if_false] at hN
        subst hN
        go_enter Try.func26, Try.ntmps26
        go_wp2_with fail
        refine (cT _).mono ?_
        rintro e w1 ⟨rfl, rfl⟩
        go_wp2_with fail
        refine (cC _).mono ?_
        rintro e w2 ⟨rfl, hb⟩
        go_wp2
        go_ret
        exact ⟨rfl, hb⟩

set_option maxRecDepth 100000 in
set_option maxHeartbeats 2000000 in
theorem refName_any (s : ByteArray) (w : World) (hs : s.size ≤ 10000) : Calls Try.prog 18 #[.string s] w fun e w' => e = .returned (.int .i64 (nameE s)) ∧ w' = w := by
  have hE := empty_iff s
  have HN : Hid (nameE s = if s.size = 0 then 2 else if 32 < s.size then 63 else if s.toList == [46] || s.toList == [46, 46] || badB s then 22 else 0) := rfl
  obtain ⟨n, hn⟩ : ∃ n, nameE s = n := ⟨_, rfl⟩
  have hN := HN.out
  rw [hn] at hN ⊢
  clear HN hn
  by_cases h0 : s.size = 0
  · rw [if_pos h0] at hN
    rw [decide_eq_true h0] at hE
    subst hN
    clear h0
    go_enter Try.func18, Try.ntmps18
    go_wp2
    go_ret
    exact ⟨rfl, rfl⟩
  rw [if_neg h0] at hN
  rw [decide_eq_false h0] at hE
  by_cases h1 : 32 < s.size
  · rw [if_pos h1] at hN
    have hz : (32 : Int) < (s.size : Int) := by omega
    subst hN
    clear h0 h1
    go_enter Try.func18, Try.ntmps18
    go_wp2
    go_ret
    exact ⟨rfl, rfl⟩
  rw [if_neg h1] at hN
  have hz : ¬ (32 : Int) < (s.size : Int) := by omega
  clear h0 h1
  have HNN : Hid (n = if s.toList == [46] || s.toList == [46, 46] || badB s then 22 else 0) := hN
  clear hN
  go_enter Try.func18, Try.ntmps18
  go_wp2
  go_loop [3] (fun i => ∃ k : Nat, k ≤ s.size ∧ i = .int .i64 k ∧ Hid (∀ j, j < k → badC (byteAt s j) = false)) (fun i => s.size - (intOf i).toNat)
  case atStart => exact ⟨0, Nat.zero_le _, rfl, fun j hj => absurd hj (Nat.not_lt_zero _)⟩
  case round =>
    obtain ⟨k, hk, rfl, H⟩ := hrel
    by_cases hlt : k < s.size
    · have hltz : (k : Int) < (s.size : Int) := by omega
      have hix := idx_str s k hlt
      have HBA : Hid (badC (byteAt s k) = true → badB s = true) := fun hh => bad_at hlt hh
      by_cases h47 : byteAt s k = 47
      · have HB : Hid (n = 22) := by
          show n = 22
          rw [HNN.out, HBA.out (by unfold badC; rw [h47]; rfl)]; simp
        have hcq : (((byteAt s k).toNat : Int) == 47) = true := by rw [h47]; rfl
        clear h47 HBA
        generalize (byteAt s k).toNat = c at *
        go_wp2
        go_ret
        exact ⟨by rw [HB.out]; rfl, rfl⟩
      · have hcq : (((byteAt s k).toNat : Int) == 47) = false := byte_ne h47
        by_cases hz0 : byteAt s k = 0
        · have HB : Hid (n = 22) := by
            show n = 22
            rw [HNN.out, HBA.out (by unfold badC; rw [hz0]; rfl)]; simp
          have hcq0 : (((byteAt s k).toNat : Int) == 0) = true := by rw [hz0]; rfl
          clear h47 hz0 HBA
          generalize (byteAt s k).toNat = c at *
          go_wp2
          go_ret
          exact ⟨by rw [HB.out]; rfl, rfl⟩
        · have hcq0 : (((byteAt s k).toNat : Int) == 0) = false := byte_nz hz0
          have HBF : Hid (badC (byteAt s k) = false) := by
            show badC (byteAt s k) = false
            unfold badC
            rw [beq_eq_false_iff_ne.2 h47, beq_eq_false_iff_ne.2 hz0]; rfl
          clear h47 hz0 HBA
          generalize (byteAt s k).toNat = c at *
          go_wp2
          go_round
          case rel => exact ⟨k + 1, by omega, by go_num, fun j hj => by
            by_cases e : j = k
            · subst e; exact HBF.out
            · exact H.out j (by omega)⟩
          case measure => simp [intOf]; omega
    · obtain rfl : k = s.size := by omega
      have hltz : ¬ (s.size : Int) < (s.size : Int) := by omega
      have hbad : badB s = false := bad_none fun j hj => H.out j hj
      have hN := HNN.out
      rw [hbad, Bool.or_false] at hN
      clear HNN hbad
      generalize h2 : (s.toList == [46]) = b2 at *
      generalize h3 : (s.toList == [46, 46]) = b3 at *
      cases b2 with
      | true =>
        simp only [Bool.true_or, if_true] at hN
        subst hN
        go_wp2
        go_ret
        exact ⟨rfl, rfl⟩
      | false =>
        cases b3 with
        | true =>
          simp only [Bool.or_true, if_true] at hN
          subst hN
          go_wp2
          go_ret
          exact ⟨rfl, rfl⟩
        | false =>
          simp only [Bool.or_self, Bool.false_eq_true, if_false] at hN
          subst hN
          go_wp2
          go_ret
          exact ⟨rfl, rfl⟩

end Go.Proofs.Ytlpgflkfckhgeaa
