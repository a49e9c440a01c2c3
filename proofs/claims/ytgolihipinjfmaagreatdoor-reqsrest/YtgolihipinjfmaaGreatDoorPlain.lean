/- The plain functions that the rights' calls compute, and facts on them: no program. -/
import Derived.Lib.Bytealg
import Derived.Lib.Join
namespace Go.Proofs.YtgolihipinjfmaaGreatDoor
open Go

/-- The rights' names, their bytes. -/
def nameL : List (List UInt8) := [[114, 101, 97, 100], [119, 114, 105, 116, 101], [115, 101, 101, 107], [116, 101, 108, 108], [99, 114, 101, 97, 116, 101], [102, 115, 121, 110, 99], [116, 114, 117, 110, 99, 97, 116, 101], [108, 111, 111, 107, 117, 112], [99, 104, 100, 105, 114], [102, 99, 110, 116, 108], [115, 116, 97, 116], [114, 101, 97, 100, 100, 105, 114], [108, 105, 110, 107, 102, 114, 111, 109], [108, 105, 110, 107, 116, 111], [109, 107, 100, 105, 114], [114, 101, 110, 97, 109, 101, 102, 114, 111, 109], [114, 101, 110, 97, 109, 101, 116, 111], [115, 121, 109, 108, 105, 110, 107], [114, 101, 97, 100, 108, 105, 110, 107], [117, 110, 108, 105, 110, 107], [97, 99, 99, 101, 112, 116], [98, 105, 110, 100], [99, 111, 110, 110, 101, 99, 116], [108, 105, 115, 116, 101, 110], [115, 104, 117, 116, 100, 111, 119, 110], [98, 105, 110, 100, 97, 116], [99, 111, 110, 110, 101, 99, 116, 97, 116], [101, 118, 101, 110, 116], [105, 111, 99, 116, 108], [112, 100, 103, 101, 116, 112, 105, 100], [112, 100, 119, 97, 105, 116], [112, 100, 107, 105, 108, 108]]
def nmB (k : Nat) : ByteArray := ⟨(nameL.getD k []).toArray⟩
def nm : Array Value := (nameL.map fun l => Value.string ⟨l.toArray⟩).toArray
theorem nameL_length : nameL.length = 32 := by decide
theorem nm_size : nm.size = 32 := by decide

theorem below32 {k : Nat} (h : k < 32) : k = 0 ∨ k = 1 ∨ k = 2 ∨ k = 3 ∨ k = 4 ∨ k = 5 ∨ k = 6 ∨ k = 7 ∨ k = 8 ∨ k = 9 ∨ k = 10 ∨ k = 11 ∨ k = 12 ∨ k = 13 ∨ k = 14 ∨ k = 15 ∨ k = 16 ∨ k = 17 ∨ k = 18 ∨ k = 19 ∨ k = 20 ∨ k = 21 ∨ k = 22 ∨ k = 23 ∨ k = 24 ∨ k = 25 ∨ k = 26 ∨ k = 27 ∨ k = 28 ∨ k = 29 ∨ k = 30 ∨ k = 31 := by omega

/-- The place of a name; 32 where it is none. -/
def bitAt (s : ByteArray) : Nat := nameL.idxOf s.data.toList
def bitOk (s : ByteArray) : Bool := bitAt s < 32
def bitVal (s : ByteArray) : Int := if bitAt s < 32 then 2 ^ bitAt s else 0

theorem bytes_eq {s t : ByteArray} (h : s.data.toList = t.data.toList) : s = t := by
  cases s; cases t; simp at h; simp [h]
theorem nmB_data (k : Nat) : (nmB k).data.toList = nameL.getD k [] := by simp [nmB]

theorem idxOf_of {l : List (List UInt8)} {x : List UInt8} {k : Nat} (hk : k < l.length) (h : l.getD k [] = x) (hno : ∀ j, j < k → l.getD j [] ≠ x) : l.idxOf x = k := by
  induction l generalizing k with
  | nil => simp at hk
  | cons y l ih =>
    cases k with
    | zero => simp at h; subst h; simp
    | succ k =>
      have h0 : y ≠ x := by have := hno 0 (by omega); simpa using this
      rw [List.idxOf_cons, beq_false_of_ne h0, cond_false]
      rw [ih (by simpa using hk) (by simpa using h) (fun j hj => by have := hno (j + 1) (by omega); simpa using this)]
theorem idxOf_no {l : List (List UInt8)} {x : List UInt8} (hno : ∀ j, j < l.length → l.getD j [] ≠ x) : l.idxOf x = l.length := by
  refine List.idxOf_eq_length (fun hm => ?_)
  obtain ⟨j, hj, e⟩ := List.getElem_of_mem hm
  exact hno j hj (by simp [hj, e])

theorem bitAt_of {s : ByteArray} {k : Nat} (hk : k < 32) (h : nmB k = s) (hno : ∀ j, j < k → nmB j ≠ s) : bitAt s = k := by
  refine idxOf_of (by rw [nameL_length]; exact hk) (by rw [← h, nmB_data]) (fun j hj e => hno j hj (bytes_eq ?_))
  rw [nmB_data, e]
theorem bitAt_no {s : ByteArray} (hno : ∀ j, j < 32 → nmB j ≠ s) : bitAt s = 32 := by
  have := idxOf_no (l := nameL) (x := s.data.toList) (fun j hj e => hno j (by rw [nameL_length] at hj; exact hj) (bytes_eq (by rw [nmB_data, e])))
  rw [bitAt, this, nameL_length]

/-- The pieces of a text between its commas. -/
def piecesL : List UInt8 → List (List UInt8)
  | [] => [[]]
  | c :: r => if c = 44 then [] :: piecesL r else match piecesL r with
    | p :: ps => (c :: p) :: ps
    | [] => [[c]]
def pieces (s : ByteArray) : List ByteArray := (piecesL s.data.toList).map fun l => ⟨l.toArray⟩

theorem piecesL_no : ∀ (l : List UInt8), Lib.indexByte l 44 < 0 → piecesL l = [l]
  | [], _ => rfl
  | c :: r, h => by
    unfold Lib.indexByte at h
    by_cases hc : c = 44
    · simp [hc] at h
    · rw [if_neg (by simpa using hc)] at h
      have hge := Lib.indexByte_ge r 44
      have hr : Lib.indexByte r 44 < 0 := by
        by_cases e : Lib.indexByte r 44 = -1
        · omega
        · rw [if_neg (by simpa using e)] at h; omega
      simp only [piecesL, hc, if_false, piecesL_no r hr]
theorem piecesL_at : ∀ (l : List UInt8) (k : Nat), Lib.indexByte l 44 = (k : Int) → k < l.length ∧ piecesL l = l.take k :: piecesL (l.drop (k + 1))
  | [], k, h => by simp [Lib.indexByte] at h
  | c :: r, k, h => by
    unfold Lib.indexByte at h
    by_cases hc : c = 44
    · simp [hc] at h
      obtain rfl : k = 0 := by omega
      simp [piecesL, hc]
    · rw [if_neg (by simpa using hc)] at h
      have hge := Lib.indexByte_ge r 44
      by_cases e : Lib.indexByte r 44 = -1
      · rw [if_pos (by simpa using e)] at h; omega
      · rw [if_neg (by simpa using e)] at h
        obtain ⟨j, rfl⟩ : ∃ j : Nat, k = j + 1 := ⟨k - 1, by omega⟩
        have ih := piecesL_at r j (by omega)
        refine ⟨by simp; omega, ?_⟩
        simp only [piecesL, hc, if_false, ih.2]
        simp

theorem pieces_no (s : ByteArray) (h : Lib.indexByte s.data.toList 44 < 0) : pieces s = [s] := by
  simp [pieces, piecesL_no _ h]
theorem pieces_at (s : ByteArray) (k : Nat) (h : Lib.indexByte s.data.toList 44 = (k : Int)) : k < s.size ∧ pieces s = s.extract 0 k :: pieces (s.extract (k + 1) s.size) := by
  obtain ⟨h1, h2⟩ := piecesL_at _ k h
  refine ⟨by simpa using h1, ?_⟩
  unfold pieces
  rw [h2, List.map_cons]
  have e1 : (s.extract 0 k) = (⟨(s.data.toList.take k).toArray⟩ : ByteArray) := by
    apply bytes_eq; simp [ByteArray.data_extract]
  have e2 : (s.extract (k + 1) s.size).data.toList = s.data.toList.drop (k + 1) := by
    simp [ByteArray.data_extract]; rw [List.take_of_length_le]; simp
  rw [e1, e2]

/-- The right of a name, as a number. -/
def bitNat (s : ByteArray) : Nat := if bitAt s < 32 then 2 ^ bitAt s else 0
theorem bitVal_nat (s : ByteArray) : bitVal s = ((bitNat s : Nat) : Int) := by
  unfold bitVal bitNat; split <;> simp
theorem bitNat_lt (s : ByteArray) : bitNat s < 4294967296 := by
  unfold bitNat; split
  · rename_i h
    exact Nat.lt_of_lt_of_le (Nat.pow_lt_pow_right (by omega) h) (by decide)
  · decide

/-- One piece more: its right, where it is a name's and above all that have come. -/
def stepP (a : Option Nat) (x : ByteArray) : Option Nat :=
  match a with
  | none => none
  | some a => if bitOk x = true ∧ a < bitNat x then some (a + bitNat x) else none
def accP (l : List ByteArray) : Option Nat := l.foldl stepP (some 0)
theorem accP_snoc (l : List ByteArray) (x : ByteArray) : accP (l ++ [x]) = stepP (accP l) x := by simp [accP]
theorem accP_none : ∀ (l : List ByteArray), l.foldl stepP none = none
  | [] => rfl
  | _ :: l => accP_none l
theorem accP_stop {l m : List ByteArray} (h : l <+: m) (e : accP l = none) : accP m = none := by
  obtain ⟨r, rfl⟩ := h
  unfold accP at e ⊢
  rw [List.foldl_append, e, accP_none]

theorem stepP_lt {a b : Nat} {x : ByteArray} (h : stepP (some a) x = some b) : b < 4294967296 := by
  unfold stepP at h
  simp only at h
  split at h
  · rename_i hc
    simp only [Option.some.injEq] at h
    have hok := hc.1
    unfold bitOk at hok
    have hi : bitAt x < 32 := by simpa using hok
    have e : bitNat x = 2 ^ bitAt x := by unfold bitNat; rw [if_pos hi]
    have h2 : 2 ^ bitAt x ≤ 2 ^ 31 := Nat.pow_le_pow_right (by omega) (by omega)
    have := hc.2
    rw [e] at this h
    omega
  · cases h

def noneB : ByteArray := ⟨#[110, 111, 110, 101]⟩
def allB : ByteArray := ⟨#[97, 108, 108]⟩
def finP : Option Nat → Nat × Int
  | none => (0, 22)
  | some a => if a = 4294967295 then (0, 22) else (a, 0)
/-- What rights.Parse answers: the set, and the error's number. -/
def parsePairs (s : ByteArray) : Nat × Int :=
  if s = noneB then (0, 0) else if s = allB then (4294967295, 0) else finP (accP (pieces s))

/-- Whether all rights of one set are in another one. -/
def subB (x y : Nat) : Bool := decide (x &&& (4294967295 - y) = 0)
theorem testBit_not {y : Nat} (hy : y < 4294967296) (i : Nat) : (4294967295 - y).testBit i = (decide (i < 32) && !y.testBit i) := by
  have h := Nat.testBit_two_pow_sub_succ (n := 32) (x := y) (by simpa using hy) i
  have e : 2 ^ 32 - (y + 1) = 4294967295 - y := by omega
  rw [e] at h
  exact h
theorem testBit_big {x i : Nat} (hx : x < 4294967296) (hi : 32 ≤ i) : x.testBit i = false :=
  Nat.testBit_lt_two_pow (Nat.lt_of_lt_of_le hx (by have := Nat.pow_le_pow_right (n := 2) (by omega) hi; simpa using this))
theorem subB_iff {x y : Nat} (hy : y < 4294967296) : subB x y = true ↔ ∀ i, i < 32 → x.testBit i = true → y.testBit i = true := by
  unfold subB
  rw [decide_eq_true_iff]
  constructor
  · intro h i hi hxi
    have := congrArg (·.testBit i) h
    simp only [Nat.testBit_and, testBit_not hy, Nat.zero_testBit, hxi, hi, decide_true, Bool.true_and, Bool.not_eq_false'] at this
    exact this
  · intro h
    apply Nat.eq_of_testBit_eq
    intro i
    simp only [Nat.testBit_and, testBit_not hy, Nat.zero_testBit]
    by_cases hi : i < 32
    · cases hxi : x.testBit i with
      | false => simp
      | true => simp [h i hi hxi]
    · simp [hi]
theorem pow_lt {k : Nat} (hk : k < 32) : 2 ^ k < 4294967296 := Nat.lt_of_lt_of_le (Nat.pow_lt_pow_right (by omega) hk) (by decide)
theorem subB_pow {k a : Nat} (hk : k < 32) (ha : a < 4294967296) : subB (2 ^ k) a = a.testBit k := by
  cases h : a.testBit k with
  | true =>
    refine (subB_iff ha).2 (fun i _ hi => ?_)
    rw [Nat.testBit_two_pow] at hi
    have e : k = i := by simpa using hi
    rw [← e]; exact h
  | false =>
    rw [Bool.eq_false_iff]
    intro hs
    have := (subB_iff ha).1 hs k hk (by rw [Nat.testBit_two_pow]; simp)
    rw [h] at this; cases this

/-- The names of a set's rights below k, in their order. -/
def heldL (a k : Nat) : List ByteArray := ((List.range k).filter fun i => a.testBit i).map nmB
theorem heldL_zero (a : Nat) : heldL a 0 = [] := rfl
theorem heldL_yes {a k : Nat} (h : a.testBit k = true) : heldL a (k + 1) = heldL a k ++ [nmB k] := by simp [heldL, List.range_succ, h]
theorem heldL_no {a k : Nat} (h : a.testBit k = false) : heldL a (k + 1) = heldL a k := by simp [heldL, List.range_succ, h]
theorem heldL_le (a k : Nat) : (heldL a k).length ≤ k := by
  unfold heldL; rw [List.length_map]; exact Nat.le_trans (List.length_filter_le _ _) (by simp)
theorem heldL_some {a : Nat} (h0 : a ≠ 0) (ha : a < 4294967296) : heldL a 32 ≠ [] := by
  intro h
  apply h0
  apply Nat.eq_of_testBit_eq
  intro i
  rw [Nat.zero_testBit]
  by_cases hi : i < 32
  · cases hb : a.testBit i with
    | false => rfl
    | true =>
      have : nmB i ∈ heldL a 32 := List.mem_map.2 ⟨i, List.mem_filter.2 ⟨List.mem_range.2 hi, hb⟩, rfl⟩
      rw [h] at this; cases this
  · exact testBit_big ha (by omega)

theorem nmB_len (k : Nat) : (nmB k).data.toList.length ≤ 10 := by
  rw [nmB_data]
  by_cases hk : k < 32
  · rcases below32 hk with rfl | rfl | rfl | rfl | rfl | rfl | rfl | rfl | rfl | rfl | rfl | rfl | rfl | rfl | rfl | rfl | rfl | rfl | rfl | rfl | rfl | rfl | rfl | rfl | rfl | rfl | rfl | rfl | rfl | rfl | rfl | rfl
    all_goals decide
  · rw [List.getD, List.getElem?_eq_none (by rw [nameL_length]; omega)]; simp
theorem lens_le {l : List ByteArray} (h : ∀ x ∈ l, x.data.toList.length ≤ 10) : Lib.lens (l.map (·.data.toList)) ≤ 10 * l.length := by
  induction l with
  | nil => simp [Lib.lens]
  | cons x l ih =>
    have h1 := h x (by simp)
    have h2 := ih (fun y hy => h y (by simp [hy]))
    simp only [Lib.lens, List.map_cons, List.sum_cons, List.length_cons] at h2 ⊢
    omega
theorem join_len {l : List ByteArray} (h : ∀ x ∈ l, x.data.toList.length ≤ 10) : (Lib.join (l.map (·.data.toList)) [44]).length ≤ 11 * l.length := by
  cases l with
  | nil => simp [Lib.join_nil]
  | cons x l =>
    have h1 := h x (by simp)
    have h2 := lens_le (l := l) (fun y hy => h y (by simp [hy]))
    rw [List.map_cons, Lib.join_cons, List.length_append, Lib.joinTail_length]
    simp only [List.length_cons, List.length_nil, List.length_map] at *
    omega
theorem heldL_short (a k : Nat) : ∀ x ∈ heldL a k, x.data.toList.length ≤ 10 := by
  intro x hx
  obtain ⟨i, _, rfl⟩ := List.mem_map.1 hx
  exact nmB_len i

/-- What rights.Show answers. -/
def showB (a : Nat) : ByteArray := if a = 0 then noneB else if a = 4294967295 then allB else ⟨(Lib.join ((heldL a 32).map (·.data.toList)) [44]).toArray⟩

/-- How many of the rights below k a set has. -/
def cntN (a k : Nat) : Nat := ((List.range k).filter fun i => a.testBit i).length
theorem cntN_succ (a k : Nat) : cntN a (k + 1) = cntN a k + if a.testBit k = true then 1 else 0 := by
  unfold cntN
  rw [List.range_succ, List.filter_append, List.length_append]
  cases h : a.testBit k <;> simp [h]
theorem cntN_le (a k : Nat) : cntN a k ≤ k := by
  unfold cntN; exact Nat.le_trans (List.length_filter_le _ _) (by simp)
theorem cntN_add (a j k : Nat) : cntN a (j + k) = cntN a j + cntN (a / 2 ^ j) k := by
  induction k with
  | zero => simp [cntN]
  | succ k ih => rw [← Nat.add_assoc, cntN_succ, cntN_succ, ih, Nat.testBit_div_two_pow, Nat.add_comm k j]; omega
theorem cntN_mod (a j : Nat) : cntN (a % 2 ^ j) j = cntN a j := by
  suffices h : ∀ k, k ≤ j → cntN (a % 2 ^ j) k = cntN a k from h j (Nat.le_refl _)
  intro k hk
  induction k with
  | zero => simp [cntN]
  | succ k ih => rw [cntN_succ, cntN_succ, ih (by omega), Nat.testBit_mod_two_pow]; simp [show k < j by omega]
theorem cntN_bytes (x : Nat) : cntN x 32 = cntN (x / 16777216) 8 + cntN (x / 65536 % 256) 8 + cntN (x / 256 % 256) 8 + cntN (x % 256) 8 := by
  have e1 := cntN_add x 8 24
  have e2 := cntN_add (x / 256) 8 16
  have e3 := cntN_add (x / 256 / 256) 8 8
  have m0 := cntN_mod x 8
  have m1 := cntN_mod (x / 256) 8
  have m2 := cntN_mod (x / 256 / 256) 8
  simp only [show (2 : Nat) ^ 8 = 256 from rfl, show 8 + 24 = 32 from rfl, show 8 + 16 = 24 from rfl, show 8 + 8 = 16 from rfl] at e1 e2 e3 m0 m1 m2
  have d1 : x / 256 / 256 = x / 65536 := by omega
  have d2 : x / 65536 / 256 = x / 16777216 := by omega
  rw [d1] at m2 e2 e3
  rw [d2] at e3
  rw [m0, m1, m2, e1, e2, e3]
  omega

theorem and_lt {a b : Nat} (ha : a < 4294967296) : a &&& b < 4294967296 := Nat.lt_of_le_of_lt Nat.and_le_left ha
theorem or_lt {a b : Nat} (ha : a < 4294967296) (hb : b < 4294967296) : a ||| b < 4294967296 := Nat.or_lt_two_pow (n := 32) (by simpa using ha) (by simpa using hb)
theorem sub_meet {a b c : Nat} (ha : a < 4294967296) (hb : b < 4294967296) : subB c (a &&& b) = (subB c a && subB c b) := by
  rw [Bool.eq_iff_iff, Bool.and_eq_true, subB_iff (and_lt ha), subB_iff ha, subB_iff hb]
  constructor
  · intro h
    exact ⟨fun i hi hc => by have := h i hi hc; simp [Nat.testBit_and] at this; exact this.1, fun i hi hc => by have := h i hi hc; simp [Nat.testBit_and] at this; exact this.2⟩
  · intro ⟨h1, h2⟩ i hi hc
    simp [Nat.testBit_and, h1 i hi hc, h2 i hi hc]
theorem sub_left {a b : Nat} (ha : a < 4294967296) : subB (a &&& b) a = true := by
  rw [subB_iff ha]; intro i _ h; simp [Nat.testBit_and] at h; exact h.1
theorem sub_right {a b : Nat} (hb : b < 4294967296) : subB (a &&& b) b = true := by
  rw [subB_iff hb]; intro i _ h; simp [Nat.testBit_and] at h; exact h.2
theorem parts_join {a b : Nat} (ha : a < 4294967296) (hb : b < 4294967296) : (a &&& (4294967295 - b)) ||| (a &&& b) = a := by
  apply Nat.eq_of_testBit_eq
  intro i
  simp only [Nat.testBit_or, Nat.testBit_and, testBit_not hb]
  by_cases hi : i < 32
  · simp only [hi, decide_true, Bool.true_and]
    cases a.testBit i <;> cases b.testBit i <;> rfl
  · simp [testBit_big ha (by omega : 32 ≤ i)]

end Go.Proofs.YtgolihipinjfmaaGreatDoor
