/- Names in the order of their bytes; entries, sorted: the mathematics, of no program. -/
import Derived.Lib.Bytealg
import Derived.Laws.Strings
namespace Go.Proofs.Ytlpgflkfckhgeaa
open Go

theorem less_irrefl : ∀ a : List UInt8, Op.bytesLess a a = false
  | [] => rfl
  | a :: x => by simp [Op.bytesLess, less_irrefl x]
theorem less_trans : ∀ a b c : List UInt8, Op.bytesLess a b = true → Op.bytesLess b c = true → Op.bytesLess a c = true
  | _, [], _, h, _ => by simp [Op.bytesLess] at h
  | _, _ :: _, [], _, h => by simp [Op.bytesLess] at h
  | [], _ :: _, _ :: _, _, _ => rfl
  | a :: x, b :: y, c :: z, h, k => by
    simp only [Op.bytesLess, Bool.or_eq_true, Bool.and_eq_true, decide_eq_true_eq, beq_iff_eq] at h k ⊢
    rcases h with h | ⟨rfl, h⟩
    · rcases k with k | ⟨rfl, k⟩
      · exact .inl (UInt8.lt_trans h k)
      · exact .inl h
    · rcases k with k | ⟨rfl, k⟩
      · exact .inl k
      · exact .inr ⟨rfl, less_trans x y z h k⟩
theorem less_or : ∀ a b : List UInt8, a ≠ b → Op.bytesLess a b = true ∨ Op.bytesLess b a = true
  | [], [], h => absurd rfl h
  | [], _ :: _, _ => .inl rfl
  | _ :: _, [], _ => .inr rfl
  | a :: x, b :: y, h => by
    simp only [Op.bytesLess, Bool.or_eq_true, Bool.and_eq_true, decide_eq_true_eq, beq_iff_eq]
    by_cases e : a = b
    · subst e
      rcases less_or x y (fun e => h (by rw [e])) with k | k
      · exact .inl (.inr ⟨rfl, k⟩)
      · exact .inr (.inr ⟨rfl, k⟩)
    · rcases UInt8.lt_or_lt_of_ne e with k | k
      · exact .inl (.inl k)
      · exact .inr (.inl k)
theorem cmp_gt : ∀ a b : List UInt8, decide (0 < Lib.compareBytes a b) = Op.bytesLess b a
  | [], [] => rfl
  | [], _ :: _ => by simp [Lib.compareBytes, Op.bytesLess]
  | _ :: _, [] => by simp [Lib.compareBytes, Op.bytesLess]
  | a :: x, b :: y => by
    have ih := cmp_gt x y
    simp only [Lib.compareBytes, Op.bytesLess]
    by_cases h : a < b
    · have h1 : ¬ b < a := UInt8.lt_asymm h
      have h2 : ¬ b = a := fun e => by subst e; exact UInt8.lt_irrefl _ h
      simp [h, h1, h2]
    · by_cases h1 : b < a
      · simp [h, h1]
      · have h2 : b = a := by
          by_cases e : b = a
          · exact e
          · rcases UInt8.lt_or_lt_of_ne e with k | k
            · exact absurd k h1
            · exact absurd k h
        subst h2
        simp [h, ih]
theorem cmp_eq : ∀ a b : List UInt8, (Lib.compareBytes a b == 0) = (a == b)
  | [], [] => rfl
  | [], _ :: _ => rfl
  | _ :: _, [] => rfl
  | a :: x, b :: y => by
    have ih := cmp_eq x y
    simp only [Lib.compareBytes]
    by_cases h : a < b
    · have h2 : ¬ a = b := fun e => by subst e; exact UInt8.lt_irrefl _ h
      simp [h, h2]
    · by_cases h1 : b < a
      · have h2 : ¬ a = b := fun e => by subst e; exact UInt8.lt_irrefl _ h1
        simp [h, h1, h2]
      · have h2 : a = b := by
          by_cases e : a = b
          · exact e
          · rcases UInt8.lt_or_lt_of_ne e with k | k
            · exact absurd k h
            · exact absurd k h1
        subst h2
        simp [h, ih]

/-- An entry: a name and a number. -/
abbrev Ent := ByteArray × Int
theorem name_inj {a b : ByteArray} (h : a.toList = b.toList) : a = b := ByteArray.ext (Array.toList_inj.1 (by rwa [ByteArray.toList_eq, ByteArray.toList_eq] at h))
/-- One name below another one. -/
def lt (a b : ByteArray) : Bool := Op.bytesLess a.toList b.toList
/-- An entry of that name. -/
def same (n : ByteArray) (x : Ent) : Bool := x.1.toList == n.toList
theorem same_iff {n : ByteArray} {x : Ent} : same n x = true ↔ x.1 = n := by
  unfold same
  rw [beq_iff_eq]
  exact ⟨name_inj, fun e => by rw [e]⟩
theorem lt_irrefl (a : ByteArray) : lt a a = false := less_irrefl _
theorem lt_trans {a b c : ByteArray} (h : lt a b = true) (k : lt b c = true) : lt a c = true := less_trans _ _ _ h k
theorem lt_asymm {a b : ByteArray} (h : lt a b = true) : lt b a = false := by
  cases k : lt b a with
  | false => rfl
  | true => have := lt_trans h k; rw [lt_irrefl] at this; cases this
theorem lt_or {a b : ByteArray} (h : a ≠ b) : lt a b = true ∨ lt b a = true := less_or _ _ fun e => h (name_inj e)

/-- Names rise. -/
def Sorted (S : List Ent) : Prop := S.Pairwise fun x y => lt x.1 y.1 = true
/-- How many are below a name. -/
def under (n : ByteArray) (S : List Ent) : Nat := S.countP fun x => lt x.1 n
/-- The number of a name; 0: there is none. -/
def find (n : ByteArray) (l : List Ent) : Int := ((l.find? (same n)).map (·.2)).getD 0
def has (n : ByteArray) (l : List Ent) : Bool := l.any (same n)

theorem under_le (n : ByteArray) (S : List Ent) : under n S ≤ S.length := List.countP_le_length
/-- In a sorted list, what is below a name lies ahead. -/
theorem sorted_under (n : ByteArray) : ∀ S : List Ent, Sorted S → ∀ (k : Nat) (h : k < S.length), lt S[k].1 n = decide (k < under n S)
  | [], _, _, h => absurd h (Nat.not_lt_zero _)
  | x :: r, hs, k, h => by
    obtain ⟨h1, h2⟩ := List.pairwise_cons.1 hs
    have ih := sorted_under n r h2
    cases hx : lt x.1 n with
    | true =>
      have e : under n (x :: r) = under n r + 1 := by simp [under, hx]
      rw [e]
      cases k with
      | zero => simp [hx]
      | succ k => simpa using ih k (by simpa using h)
    | false =>
      have hr : ∀ y ∈ r, lt y.1 n = false := fun y hy => by
        cases hyn : lt y.1 n with
        | false => rfl
        | true => have := lt_trans (h1 y hy) hyn; rw [hx] at this; cases this
      have e : under n (x :: r) = 0 := by
        unfold under
        rw [List.countP_eq_zero]
        intro y hy
        rcases List.mem_cons.1 hy with rfl | hy
        · simp [hx]
        · simp [hr y hy]
      rw [e]
      have : (x :: r)[k] ∈ x :: r := List.getElem_mem _
      rcases List.mem_cons.1 this with e2 | h3
      · rw [e2, hx]; rfl
      · rw [hr _ h3]; rfl
/-- Where a name that there is lies. -/
theorem sorted_has {n : ByteArray} {S : List Ent} (hs : Sorted S) : has n S = (if h : under n S < S.length then same n S[under n S] else false) := by
  have hu := sorted_under n S hs
  cases hh : has n S with
  | true =>
    obtain ⟨x, hx, hsx⟩ := List.any_eq_true.1 hh
    obtain ⟨k, hk, rfl⟩ := List.mem_iff_getElem.1 hx
    have e := same_iff.1 hsx
    have h1 : ¬ k < under n S := fun h => by
      have := hu k hk
      rw [e, lt_irrefl] at this
      simp [h] at this
    have h2 : ¬ under n S < k := fun h => by
      have h3 := List.pairwise_iff_getElem.1 hs (under n S) k (by omega) hk h
      have h4 := hu (under n S) (by omega)
      rw [e] at h3
      rw [h3] at h4
      simp at h4
    have h3 : under n S = k := by omega
    rw [dif_pos (by omega)]
    simp only [h3, hsx]
  | false =>
    split
    · rename_i h
      have := List.any_eq_false.1 hh _ (List.getElem_mem h)
      cases hq : same n S[under n S] with
      | true => exact absurd hq this
      | false => rfl
    · rfl

end Go.Proofs.Ytlpgflkfckhgeaa
