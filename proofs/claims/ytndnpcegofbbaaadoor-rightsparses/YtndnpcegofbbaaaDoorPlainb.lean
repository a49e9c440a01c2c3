/- A set's text, read again, is the set: facts on the plain functions alone. -/
import Derived.Test.YtndnpcegofbbaaaDoorPlaina
namespace Go.Proofs.YtndnpcegofbbaaaDoor
open Go

/-- The text of a set's rights below k. -/
def showL (a k : Nat) : List UInt8 := Lib.join ((heldL a k).map (·.data.toList)) [44]
def showS (a k : Nat) : ByteArray := ⟨(showL a k).toArray⟩

theorem join_snoc (l : List (List UInt8)) (x : List UInt8) (h : l ≠ []) : Lib.join (l ++ [x]) [44] = Lib.join l [44] ++ [44] ++ x := by
  cases l with
  | nil => exact absurd rfl h
  | cons y r => rw [List.cons_append, Lib.join_cons, Lib.join_cons]; simp [Lib.joinTail]

theorem nmB_ne (k : Nat) (hk : k < 32) : (nmB k).data.toList ≠ [] := by
  rw [nmB_data]
  rcases below32 hk with rfl | rfl | rfl | rfl | rfl | rfl | rfl | rfl | rfl | rfl | rfl | rfl | rfl | rfl | rfl | rfl | rfl | rfl | rfl | rfl | rfl | rfl | rfl | rfl | rfl | rfl | rfl | rfl | rfl | rfl | rfl | rfl
  all_goals decide
theorem nmB_size (k : Nat) : (nmB k).size ≤ 10 := by
  have := nmB_len k
  rw [Array.length_toList] at this
  exact this
theorem nmB_comma (k : Nat) (hk : k < 32) : (44 : UInt8) ∉ (nmB k).data.toList := by
  rw [nmB_data]
  rcases below32 hk with rfl | rfl | rfl | rfl | rfl | rfl | rfl | rfl | rfl | rfl | rfl | rfl | rfl | rfl | rfl | rfl | rfl | rfl | rfl | rfl | rfl | rfl | rfl | rfl | rfl | rfl | rfl | rfl | rfl | rfl | rfl | rfl
  all_goals decide
theorem bitAt_nmB (k : Nat) (hk : k < 32) : bitAt (nmB k) = k := by
  unfold bitAt
  rw [nmB_data]
  rcases below32 hk with rfl | rfl | rfl | rfl | rfl | rfl | rfl | rfl | rfl | rfl | rfl | rfl | rfl | rfl | rfl | rfl | rfl | rfl | rfl | rfl | rfl | rfl | rfl | rfl | rfl | rfl | rfl | rfl | rfl | rfl | rfl | rfl
  all_goals decide
theorem bitNat_nmB (k : Nat) (hk : k < 32) : bitNat (nmB k) = 2 ^ k := by unfold bitNat; rw [bitAt_nmB k hk, if_pos hk]
theorem bitOk_nmB (k : Nat) (hk : k < 32) : bitOk (nmB k) = true := by unfold bitOk; rw [bitAt_nmB k hk]; simpa using hk
theorem bitAt_none : bitAt noneB = 32 := by decide
theorem bitAt_all : bitAt allB = 32 := by decide

theorem heldL_mem {a k : Nat} (hk : k ≤ 32) {x : ByteArray} (h : x ∈ heldL a k) : ∃ i, i < 32 ∧ x = nmB i := by
  obtain ⟨i, hi, rfl⟩ := List.mem_map.1 h
  have := List.mem_range.1 (List.mem_filter.1 hi).1
  exact ⟨i, by omega, rfl⟩

theorem showL_zero (a : Nat) : showL a 0 = [] := rfl
theorem showL_no {a k : Nat} (h : a.testBit k = false) : showL a (k + 1) = showL a k := by unfold showL; rw [heldL_no h]
theorem showL_first {a k : Nat} (h : a.testBit k = true) (h0 : heldL a k = []) : showL a (k + 1) = (nmB k).data.toList := by
  unfold showL; rw [heldL_yes h, h0]; simp [Lib.join_one]
theorem showL_more {a k : Nat} (h : a.testBit k = true) (h0 : heldL a k ≠ []) : showL a (k + 1) = showL a k ++ [44] ++ (nmB k).data.toList := by
  unfold showL; rw [heldL_yes h, List.map_append, List.map_cons, List.map_nil, join_snoc]
  simpa using h0
theorem showL_empty {a k : Nat} (hk : k ≤ 32) : showL a k = [] ↔ heldL a k = [] := by
  constructor
  · intro h
    cases hl : heldL a k with
    | nil => rfl
    | cons x r =>
      unfold showL at h
      rw [hl, List.map_cons, Lib.join_cons] at h
      obtain ⟨i, hi, rfl⟩ := heldL_mem hk (x := x) (by rw [hl]; simp)
      exact absurd (List.append_eq_nil_iff.1 h).1 (nmB_ne i hi)
  · intro h; unfold showL; rw [h]; rfl
theorem showL_len (a k : Nat) : (showL a k).length ≤ 11 * k := by
  have h1 := join_len (heldL_short a k)
  have h2 := heldL_le a k
  unfold showL
  omega

theorem piecesL_free : ∀ (x : List UInt8), (44 : UInt8) ∉ x → piecesL x = [x]
  | [], _ => rfl
  | c :: r, h => by
    simp only [List.mem_cons, not_or] at h
    simp only [piecesL, Ne.symm h.1, if_false, piecesL_free r h.2]
theorem piecesL_sep : ∀ (x r : List UInt8), (44 : UInt8) ∉ x → piecesL (x ++ 44 :: r) = x :: piecesL r
  | [], r, _ => by simp [piecesL]
  | c :: x, r, h => by
    simp only [List.mem_cons, not_or] at h
    simp only [List.cons_append, piecesL, Ne.symm h.1, if_false, piecesL_sep x r h.2]
theorem piecesL_join : ∀ (l : List (List UInt8)), l ≠ [] → (∀ x ∈ l, (44 : UInt8) ∉ x) → piecesL (Lib.join l [44]) = l
  | [], h, _ => absurd rfl h
  | [x], _, h => by rw [Lib.join_one]; exact piecesL_free x (h x (by simp))
  | x :: y :: r, _, h => by
    have ih := piecesL_join (y :: r) (by simp) (fun z hz => h z (by simp [hz]))
    have e : Lib.join (x :: y :: r) [44] = x ++ 44 :: Lib.join (y :: r) [44] := by
      rw [Lib.join_cons, Lib.join_cons]; simp [Lib.joinTail]
    rw [e, piecesL_sep x _ (h x (by simp)), ih]

theorem pieces_show {a : Nat} (h : heldL a 32 ≠ []) : pieces (showS a 32) = heldL a 32 := by
  unfold pieces showS showL
  rw [show (⟨(Lib.join ((heldL a 32).map (·.data.toList)) [44]).toArray⟩ : ByteArray).data.toList = Lib.join ((heldL a 32).map (·.data.toList)) [44] by simp,
    piecesL_join _ (by simpa using h) (fun x hx => by
      obtain ⟨y, hy, rfl⟩ := List.mem_map.1 hx
      obtain ⟨i, hi, rfl⟩ := heldL_mem (Nat.le_refl _) hy
      exact nmB_comma i hi), List.map_map]
  have e : ∀ y ∈ heldL a 32, ((fun l : List UInt8 => (⟨l.toArray⟩ : ByteArray)) ∘ fun x : ByteArray => x.data.toList) y = y := fun y _ => by
    apply bytes_eq; simp
  rw [List.map_congr_left e, List.map_id']

theorem mod_succ_yes {a k : Nat} (h : a.testBit k = true) : a % 2 ^ (k + 1) = a % 2 ^ k + 2 ^ k := by
  rw [Nat.testBit_eq_decide_div_mod_eq, decide_eq_true_iff] at h
  rw [Nat.pow_succ, Nat.mod_mul, h, Nat.mul_one]
theorem mod_succ_no {a k : Nat} (h : a.testBit k = false) : a % 2 ^ (k + 1) = a % 2 ^ k := by
  rw [Nat.testBit_eq_decide_div_mod_eq, decide_eq_false_iff_not] at h
  rw [Nat.pow_succ, Nat.mod_mul, show a / 2 ^ k % 2 = 0 by omega, Nat.mul_zero, Nat.add_zero]
theorem accP_held (a k : Nat) (hk : k ≤ 32) : accP (heldL a k) = some (a % 2 ^ k) := by
  induction k with
  | zero => simp [heldL, accP, Nat.mod_one]
  | succ k ih =>
    have ih := ih (by omega)
    cases h : a.testBit k with
    | false => rw [heldL_no h, ih, mod_succ_no h]
    | true =>
      rw [heldL_yes h, accP_snoc, ih, mod_succ_yes h]
      simp only [stepP]
      rw [bitNat_nmB k (by omega), if_pos ⟨bitOk_nmB k (by omega), Nat.mod_lt _ (Nat.pow_pos (by omega))⟩]

theorem pieces_free (s : ByteArray) (h : (44 : UInt8) ∉ s.data.toList) : pieces s = [s] := by
  unfold pieces; rw [piecesL_free _ h]; simp
theorem show_ne {a : Nat} (h : heldL a 32 ≠ []) (s : ByteArray) (hc : (44 : UInt8) ∉ s.data.toList) (hb : bitAt s = 32) : showS a 32 ≠ s := by
  intro e
  have h1 := pieces_show h
  rw [e, pieces_free s hc] at h1
  obtain ⟨i, hi, hs⟩ := heldL_mem (Nat.le_refl _) (x := s) (a := a) (by rw [← h1]; simp)
  have := bitAt_nmB i hi
  rw [← hs, hb] at this
  omega
theorem showB_other {a : Nat} (h0 : a ≠ 0) (h1 : a ≠ 4294967295) : showB a = showS a 32 := by
  unfold showB showS showL; rw [if_neg h0, if_neg h1]
theorem parse_show (a : Nat) (ha : a < 4294967296) : parsePairs (showB a) = (a, 0) := by
  by_cases h0 : a = 0
  · subst h0; decide
  · by_cases h1 : a = 4294967295
    · subst h1; decide
    · have hl := heldL_some h0 ha
      rw [showB_other h0 h1]
      unfold parsePairs
      rw [if_neg (show_ne hl noneB (by decide) bitAt_none), if_neg (show_ne hl allB (by decide) bitAt_all), pieces_show hl, accP_held a 32 (Nat.le_refl _), Nat.mod_eq_of_lt (by simpa using ha)]
      simp [finP, h1]
theorem showB_size (a : Nat) : (showB a).size ≤ 352 := by
  unfold showB
  split
  · decide
  · split
    · decide
    · have := showL_len a 32
      unfold showL at this
      simpa [ByteArray.size] using this

theorem cntN_full {a : Nat} (ha : a < 4294967296) : cntN a 32 = 32 ↔ a = 4294967295 := by
  constructor
  · intro h
    have all : ∀ k, k ≤ 32 → cntN a k = k → ∀ i, i < k → a.testBit i = true := by
      intro k
      induction k with
      | zero => intro _ _ i hi; omega
      | succ k ih =>
        intro hk hc i hi
        rw [cntN_succ] at hc
        have hle := cntN_le a k
        have hb : a.testBit k = true := by
          cases hb : a.testBit k with
          | true => rfl
          | false => rw [hb] at hc; simp at hc; omega
        rw [hb] at hc
        simp at hc
        by_cases e : i = k
        · subst e; exact hb
        · exact ih (by omega) hc i (by omega)
    apply Nat.eq_of_testBit_eq
    intro i
    have hf := testBit_not (y := 0) (by decide) i
    simp only [Nat.sub_zero, Nat.zero_testBit, Bool.not_false, Bool.and_true] at hf
    rw [hf]
    by_cases hi : i < 32
    · rw [all 32 (Nat.le_refl _) h i hi]; simp [hi]
    · rw [testBit_big ha (by omega)]; simp [hi]
  · intro h; subst h; decide

end Go.Proofs.YtndnpcegofbbaaaDoor
