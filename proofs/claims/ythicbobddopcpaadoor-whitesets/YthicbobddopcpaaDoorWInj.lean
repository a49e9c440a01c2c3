/- Different whitelists have different texts. No program. -/
import Derived.Test.YthicbobddopcpaaDoorWShow
namespace Go.Proofs.YthicbobddopcpaaDoor
open Go

theorem dig_byte (k : Nat) (h : k < 10) : (UInt8.ofNat (48 + k)).toNat = 48 + k := by
  simp; omega
theorem dig_range : ∀ (n : Nat), ∀ b ∈ Lib.decDigits n, 48 ≤ b.toNat ∧ b.toNat ≤ 57 := by
  intro n
  induction n using Nat.strongRecOn with
  | ind n ih =>
    intro b hb
    by_cases h : n < 10
    · rw [Lib.decDigits_one h] at hb
      obtain rfl : b = UInt8.ofNat (48 + n) := by simpa using hb
      rw [dig_byte n h]; omega
    · rw [Lib.decDigits, dif_neg h] at hb
      rcases List.mem_append.1 hb with hb | hb
      · exact ih (n / 10) (by omega) b hb
      · obtain rfl : b = UInt8.ofNat (48 + n % 10) := by simpa using hb
        rw [dig_byte _ (by omega)]; omega
theorem dig_ne (n : Nat) : Lib.decDigits n ≠ [] := by
  rw [Lib.decDigits]
  split <;> simp

def valD (l : List UInt8) : Nat := l.foldl (fun a b => a * 10 + (b.toNat - 48)) 0
theorem valD_dec (n : Nat) : valD (Lib.decDigits n) = n := by
  induction n using Nat.strongRecOn with
  | ind n ih =>
    by_cases h : n < 10
    · rw [Lib.decDigits_one h]
      simp only [valD, List.foldl_cons, List.foldl_nil, dig_byte n h]; omega
    · rw [Lib.decDigits, dif_neg h]
      have := ih (n / 10) (by omega)
      unfold valD at *
      rw [List.foldl_append, this]
      simp only [List.foldl_cons, List.foldl_nil, dig_byte _ (show n % 10 < 10 by omega)]; omega

/-- A text without commas, then nothing or a comma: it parts in one way alone. -/
theorem part_one : ∀ {x y t u : List UInt8}, (∀ b ∈ x, b ≠ 44) → (∀ b ∈ y, b ≠ 44) → (t = [] ∨ ∃ r, t = 44 :: r) → (u = [] ∨ ∃ r, u = 44 :: r) → x ++ t = y ++ u → x = y ∧ t = u
  | [], [], _, _, _, _, _, _, h => ⟨rfl, h⟩
  | [], b :: y, t, u, _, hy, ht, _, h => by
    rcases ht with rfl | ⟨r, rfl⟩
    · simp at h
    · simp only [List.nil_append, List.cons_append, List.cons.injEq] at h
      exact absurd h.1.symm (hy b (by simp))
  | b :: x, [], t, u, hx, _, _, hu, h => by
    rcases hu with rfl | ⟨r, rfl⟩
    · simp at h
    · simp only [List.nil_append, List.cons_append, List.cons.injEq] at h
      exact absurd h.1 (hx b (by simp))
  | b :: x, c :: y, t, u, hx, hy, ht, hu, h => by
    simp only [List.cons_append, List.cons.injEq] at h
    obtain ⟨e1, e2⟩ := part_one (fun d hd => hx d (List.mem_cons_of_mem _ hd)) (fun d hd => hy d (List.mem_cons_of_mem _ hd)) ht hu h.2
    exact ⟨by rw [h.1, e1], e2⟩

theorem tail_form (r : List (List UInt8)) : Lib.joinTail [44] r = [] ∨ ∃ t, Lib.joinTail [44] r = 44 :: t := by
  cases r with
  | nil => exact .inl rfl
  | cons x r => exact .inr ⟨x ++ Lib.joinTail [44] r, by simp [Lib.joinTail]⟩
theorem tail_inj : ∀ {r s : List (List UInt8)}, (∀ x ∈ r, ∀ b ∈ x, b ≠ 44) → (∀ x ∈ s, ∀ b ∈ x, b ≠ 44) → Lib.joinTail [44] r = Lib.joinTail [44] s → r = s
  | [], [], _, _, _ => rfl
  | [], y :: s, _, _, h => by simp [Lib.joinTail] at h
  | x :: r, [], _, _, h => by simp [Lib.joinTail] at h
  | x :: r, y :: s, hr, hs, h => by
    have h' : x ++ Lib.joinTail [44] r = y ++ Lib.joinTail [44] s := by simpa [Lib.joinTail] using h
    obtain ⟨e1, e2⟩ := part_one (hr x (by simp)) (hs y (by simp)) (tail_form r) (tail_form s) h'
    rw [e1, tail_inj (fun z hz => hr z (List.mem_cons_of_mem _ hz)) (fun z hz => hs z (List.mem_cons_of_mem _ hz)) e2]
theorem join_inj {r s : List (List UInt8)} (hr : ∀ x ∈ r, ∀ b ∈ x, b ≠ 44) (hs : ∀ x ∈ s, ∀ b ∈ x, b ≠ 44) (h0 : r ≠ []) (h1 : s ≠ []) (h : Lib.join r [44] = Lib.join s [44]) : r = s := by
  cases r with
  | nil => exact absurd rfl h0
  | cons x r =>
    cases s with
    | nil => exact absurd rfl h1
    | cons y s =>
      rw [Lib.join_cons, Lib.join_cons] at h
      obtain ⟨e1, e2⟩ := part_one (hr x (by simp)) (hs y (by simp)) (tail_form r) (tail_form s) h
      rw [e1, tail_inj (fun z hz => hr z (List.mem_cons_of_mem _ hz)) (fun z hz => hs z (List.mem_cons_of_mem _ hz)) e2]

theorem itoa_nat {x : Int} (h : 0 ≤ x) : Lib.itoa x = Lib.decDigits x.toNat := by unfold Lib.itoa; rw [if_neg (by omega)]
theorem map_inj : ∀ {l m : List Int}, (∀ x ∈ l, 0 ≤ x) → (∀ x ∈ m, 0 ≤ x) → l.map Lib.itoa = m.map Lib.itoa → l = m
  | [], [], _, _, _ => rfl
  | [], _ :: _, _, _, h => by simp at h
  | _ :: _, [], _, _, h => by simp at h
  | x :: l, y :: m, hl, hm, h => by
    simp only [List.map_cons, List.cons.injEq] at h
    have e := h.1
    have hx := hl x (by simp)
    have hy := hm y (by simp)
    rw [itoa_nat hx, itoa_nat hy] at e
    have e2 := congrArg valD e
    rw [valD_dec, valD_dec] at e2
    have : x = y := by omega
    rw [this, map_inj (fun z hz => hl z (List.mem_cons_of_mem _ hz)) (fun z hz => hm z (List.mem_cons_of_mem _ hz)) h.2]
theorem no_comma {l : List Int} (h : ∀ x ∈ l, 0 ≤ x) : ∀ x ∈ l.map Lib.itoa, ∀ b ∈ x, b ≠ 44 := by
  intro x hx b hb e
  obtain ⟨y, hy, rfl⟩ := List.mem_map.1 hx
  rw [itoa_nat (h y hy)] at hb
  have := dig_range _ b hb
  rw [e] at this
  have : (44 : UInt8).toNat = 44 := rfl
  omega
/-- The text of numbers begins with a digit. -/
theorem join_head {l : List Int} (h : ∀ x ∈ l, 0 ≤ x) (hne : l ≠ []) : ∃ b t, Lib.join (l.map Lib.itoa) [44] = b :: t ∧ 48 ≤ b.toNat ∧ b.toNat ≤ 57 := by
  cases l with
  | nil => exact absurd rfl hne
  | cons x r =>
    rw [List.map_cons, Lib.join_cons, itoa_nat (h x (by simp))]
    cases hd : Lib.decDigits x.toNat with
    | nil => exact absurd hd (dig_ne _)
    | cons b t =>
      have := dig_range x.toNat b (by rw [hd]; simp)
      exact ⟨b, _, rfl, this⟩

theorem show_inj {a b : Bool} {l m : List Int} (hc : canB a l = true) (hd : canB b m = true) (h : showB a l = showB b m) : a = b ∧ l = m := by
  unfold showB at h
  rw [hc, hd] at h
  simp only [if_true] at h
  have d97 : (97 : UInt8).toNat = 97 := rfl
  have d110 : (110 : UInt8).toNat = 110 := rfl
  cases a <;> cases b
  · simp only [Bool.false_eq_true, if_false] at h
    refine ⟨rfl, ?_⟩
    by_cases h1 : l = []
    · by_cases h2 : m = []
      · rw [h1, h2]
      · rw [if_pos h1, if_neg h2] at h
        obtain ⟨c, t, e, e1, e2⟩ := join_head (canB_rise hd).2.1 h2
        rw [e] at h
        have := (List.cons.inj h).1
        rw [← this, d110] at e2; omega
    · by_cases h2 : m = []
      · rw [if_neg h1, if_pos h2] at h
        obtain ⟨c, t, e, e1, e2⟩ := join_head (canB_rise hc).2.1 h1
        rw [e] at h
        have := (List.cons.inj h).1
        rw [this, d110] at e2; omega
      · rw [if_neg h1, if_neg h2] at h
        exact map_inj (canB_rise hc).2.1 (canB_rise hd).2.1 (join_inj (no_comma (canB_rise hc).2.1) (no_comma (canB_rise hd).2.1) (by simpa using h1) (by simpa using h2) h)
  · simp only [Bool.false_eq_true, if_false, if_true] at h
    by_cases h1 : l = []
    · rw [if_pos h1] at h; exact absurd h (by decide)
    · rw [if_neg h1] at h
      obtain ⟨c, t, e, e1, e2⟩ := join_head (canB_rise hc).2.1 h1
      rw [e] at h
      have := (List.cons.inj h).1
      rw [this, d97] at e2; omega
  · simp only [Bool.false_eq_true, if_false, if_true] at h
    by_cases h1 : m = []
    · rw [if_pos h1] at h; exact absurd h (by decide)
    · rw [if_neg h1] at h
      obtain ⟨c, t, e, e1, e2⟩ := join_head (canB_rise hd).2.1 h1
      rw [e] at h
      have := (List.cons.inj h).1
      rw [← this, d97] at e2; omega
  · exact ⟨rfl, by rw [canB_all hc, canB_all hd]⟩

theorem join_snoc (y : List UInt8) : ∀ (xs : List (List UInt8)), xs ≠ [] → Lib.join (xs ++ [y]) [44] = Lib.join xs [44] ++ [44] ++ y
  | [], h => absurd rfl h
  | x :: r, _ => by
    rw [List.cons_append, Lib.join_cons, Lib.join_cons]
    simp [Lib.joinTail]

end Go.Proofs.YthicbobddopcpaaDoor
