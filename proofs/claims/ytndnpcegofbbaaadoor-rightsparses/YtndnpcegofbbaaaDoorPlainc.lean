/- A text that is read as a set is the set's own text: facts on the plain functions alone. -/
import Derived.Test.YtndnpcegofbbaaaDoorPlainb
namespace Go.Proofs.YtndnpcegofbbaaaDoor
open Go

/-- All rights of the pieces together. -/
def orP (l : List ByteArray) : Nat := l.foldl (fun a x => a ||| bitNat x) 0
theorem orP_snoc (l : List ByteArray) (x : ByteArray) : orP (l ++ [x]) = orP l ||| bitNat x := by simp [orP]
theorem or_lt' {a b : Nat} (ha : a < 4294967296) (hb : b < 4294967296) : a ||| b < 4294967296 := or_lt ha hb
theorem orP_lt (l : List ByteArray) : orP l < 4294967296 := by
  suffices h : ∀ (l : List ByteArray) (a : Nat), a < 4294967296 → l.foldl (fun a x => a ||| bitNat x) a < 4294967296 from h l 0 (by decide)
  intro l
  induction l with
  | nil => intro a ha; exact ha
  | cons x l ih => intro a ha; exact ih _ (or_lt ha (bitNat_lt x))

theorem nmB_of_bitAt {x : ByteArray} (h : bitAt x < 32) : x = nmB (bitAt x) := by
  apply bytes_eq
  rw [nmB_data]
  unfold bitAt at h ⊢
  have hm : nameL.idxOf x.data.toList < nameL.length := by rw [nameL_length]; exact h
  have := List.getElem_idxOf hm
  rw [← this, List.getD, List.getElem?_eq_getElem (by rw [this]; exact hm)]
  simp [this]

theorem heldL_eq {a b : Nat} {k : Nat} (h : ∀ i, i < k → a.testBit i = b.testBit i) : heldL a k = heldL b k := by
  induction k with
  | zero => rfl
  | succ k ih =>
    have e := h k (by omega)
    have ih := ih (fun i hi => h i (by omega))
    cases hb : b.testBit k with
    | true => rw [heldL_yes (by rw [e]; exact hb), heldL_yes hb, ih]
    | false => rw [heldL_no (by rw [e]; exact hb), heldL_no hb, ih]
theorem heldL_top {a i : Nat} (h : a < 2 ^ i) (d : Nat) : heldL a (i + d) = heldL a i := by
  induction d with
  | zero => rfl
  | succ d ih =>
    rw [← Nat.add_assoc, heldL_no (Nat.testBit_lt_two_pow (Nat.lt_of_lt_of_le h (Nat.pow_le_pow_right (by omega) (by omega)))), ih]

theorem accP_some : ∀ (n : Nat) (l : List ByteArray), l.length = n → ∀ b, accP l = some b → b < 4294967296 ∧ l = heldL b 32 ∧ orP l = b
  | 0, l, hl, b, h => by
    obtain rfl := List.eq_nil_of_length_eq_zero hl
    simp [accP] at h
    subst h
    exact ⟨by decide, rfl, rfl⟩
  | n + 1, l, hl, b, h => by
    have hne : l ≠ [] := by intro e; rw [e] at hl; cases hl
    have hsn := List.dropLast_concat_getLast hne
    generalize hm : l.dropLast = m at hsn
    generalize l.getLast hne = x at hsn
    subst hsn
    rw [accP_snoc] at h
    cases hacc : accP m with
    | none => rw [hacc] at h; simp [stepP] at h
    | some a =>
      rw [hacc] at h
      obtain ⟨ha, hmh, hor⟩ := accP_some n m (by simpa using hl) a hacc
      have hlt := stepP_lt h
      simp only [stepP] at h
      split at h
      · rename_i hc
        simp only [Option.some.injEq] at h
        have hi : bitAt x < 32 := by simpa [bitOk] using hc.1
        have hx := nmB_of_bitAt hi
        generalize bitAt x = i at *
        subst hx
        rw [bitNat_nmB i hi] at hc h
        have hai := hc.2
        subst h
        have hj : a ||| 2 ^ i = a + 2 ^ i := by
          rw [Nat.or_comm, Nat.add_comm]
          have := Nat.two_pow_add_eq_or_of_lt hai 1
          simpa using this.symm
        refine ⟨hlt, ?_, by rw [orP_snoc, hor, bitNat_nmB i hi, hj]⟩
        have hb1 : a + 2 ^ i < 2 ^ (i + 1) := by rw [Nat.pow_succ]; omega
        have e1 : heldL (a + 2 ^ i) 32 = heldL (a + 2 ^ i) (i + 1) := by
          have := heldL_top hb1 (32 - (i + 1))
          rwa [show i + 1 + (32 - (i + 1)) = 32 by omega] at this
        have e2 : heldL a 32 = heldL a i := by
          have := heldL_top hai (32 - i)
          rwa [show i + (32 - i) = 32 by omega] at this
        have hbit : (a + 2 ^ i).testBit i = true := by
          rw [← hj, Nat.testBit_or, Nat.testBit_two_pow]; simp
        have hlow : ∀ j, j < i → (a + 2 ^ i).testBit j = a.testBit j := fun j hji => by
          rw [← hj, Nat.testBit_or, Nat.testBit_two_pow]; simp [show i ≠ j by omega]
        rw [e1, heldL_yes hbit, heldL_eq hlow, ← e2, ← hmh]
      · cases h

theorem join_piecesL : ∀ l : List UInt8, Lib.join (piecesL l) [44] = l
  | [] => rfl
  | c :: r => by
    have ih := join_piecesL r
    by_cases hc : c = 44
    · subst hc
      simp only [piecesL, if_true]
      cases hp : piecesL r with
      | nil => rw [hp] at ih; simp [Lib.join_nil] at ih; subst ih; simp [piecesL] at hp
      | cons p ps =>
        rw [hp] at ih
        rw [Lib.join_cons]
        rw [Lib.join_cons] at ih
        simp [Lib.joinTail] at ih ⊢
        exact ih
    · simp only [piecesL, hc, if_false]
      cases hp : piecesL r with
      | nil => rw [hp] at ih; simp [Lib.join_nil] at ih; subst ih; simp [piecesL] at hp
      | cons p ps =>
        rw [hp] at ih
        simp only
        rw [Lib.join_cons]
        rw [Lib.join_cons] at ih
        simpa using ih
theorem join_pieces (s : ByteArray) : Lib.join ((pieces s).map (·.data.toList)) [44] = s.data.toList := by
  unfold pieces
  rw [List.map_map]
  have e : ((fun x : ByteArray => x.data.toList) ∘ fun l : List UInt8 => (⟨l.toArray⟩ : ByteArray)) = id := by funext l; simp
  rw [e, List.map_id]
  exact join_piecesL _
theorem pieces_ne (s : ByteArray) : pieces s ≠ [] := by
  intro h
  have := congrArg List.length h
  unfold pieces at this
  rw [List.length_map] at this
  cases hl : s.data.toList with
  | nil => rw [hl] at this; simp [piecesL] at this
  | cons c r =>
    rw [hl] at this
    by_cases hc : c = 44
    · simp [piecesL, hc] at this
    · simp only [piecesL, hc, if_false] at this
      split at this <;> simp at this

theorem accP_bad {l : List ByteArray} {x : ByteArray} (hx : x ∈ l) (h : bitOk x = false) : accP l = none := by
  obtain ⟨p, q, rfl⟩ := List.append_of_mem hx
  refine accP_stop (l := p ++ [x]) ⟨q, by simp⟩ ?_
  rw [accP_snoc]
  cases accP p with
  | none => rfl
  | some a => simp [stepP, h]
theorem parse_bad {s x : ByteArray} (h1 : s ≠ noneB) (h2 : s ≠ allB) (hx : x ∈ pieces s) (h : bitOk x = false) : parsePairs s = (0, 22) := by
  unfold parsePairs; rw [if_neg h1, if_neg h2, accP_bad hx h]; rfl
theorem parse_same {s : ByteArray} (h : showB (orP (pieces s)) = s) : parsePairs s = (orP (pieces s), 0) := by
  have := parse_show (orP (pieces s)) (orP_lt _)
  rwa [h] at this
theorem parse_differs {s : ByteArray} (h1 : s ≠ noneB) (h2 : s ≠ allB) (h : showB (orP (pieces s)) ≠ s) : parsePairs s = (0, 22) := by
  unfold parsePairs
  rw [if_neg h1, if_neg h2]
  cases hacc : accP (pieces s) with
  | none => rfl
  | some b =>
    obtain ⟨hb, hl, ho⟩ := accP_some _ _ rfl b hacc
    by_cases he : b = 4294967295
    · simp [finP, he]
    · exfalso
      apply h
      have h0 : b ≠ 0 := by
        intro e; subst e
        exact pieces_ne s (by rw [hl]; decide)
      rw [ho, showB_other h0 he]
      apply bytes_eq
      have hj := join_pieces s
      rw [hl] at hj
      unfold showS showL
      simpa using hj

end Go.Proofs.YtndnpcegofbbaaaDoor
