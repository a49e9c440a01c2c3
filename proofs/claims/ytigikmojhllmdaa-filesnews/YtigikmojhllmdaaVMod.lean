/- Open files, of no program: a list by rising numbers, and what comes of each act. -/
import Derived.Test.YtigikmojhllmdaaWBits
namespace Go.Proofs.Ytigikmojhllmdaa.V
open Go

/-- An open file. -/
structure Fl where
  id : Int
  kind : Int
  obj : Int
  off : Int
  flags : Int
  refs : Int

def has (i : Int) (S : List Fl) : Bool := S.any fun x => x.id == i
def spot (i : Int) (S : List Fl) : Nat := S.findIdx fun x => x.id == i
def Sorted (S : List Fl) : Prop := S.Pairwise fun x y => x.id < y.id
/-- How many have lesser numbers. -/
def pl (i : Int) (S : List Fl) : Nat := S.findIdx fun x => decide (i ≤ x.id)

theorem spot_lt {i : Int} {S : List Fl} (h : has i S = true) : spot i S < S.length := by
  obtain ⟨x, hx, h2⟩ := List.any_eq_true.1 h
  exact List.findIdx_lt_length_of_exists ⟨x, hx, h2⟩
theorem spot_id {i : Int} {S : List Fl} (h : spot i S < S.length) : S[spot i S].id = i := by
  have := List.findIdx_getElem (xs := S) (p := fun x : Fl => x.id == i) (w := h)
  simp only [beq_iff_eq] at this
  exact this
theorem spot_no {i : Int} {S : List Fl} (h : has i S = false) : spot i S = S.length :=
  List.findIdx_eq_length_of_false fun x hx => by
    have := List.any_eq_false.1 h x hx
    simpa using this
theorem no_id {i : Int} {S : List Fl} (h : has i S = false) {x : Fl} (hx : x ∈ S) : x.id ≠ i := by
  have := List.any_eq_false.1 h x hx
  simpa using this
theorem has_of {i : Int} {S : List Fl} {x : Fl} (hx : x ∈ S) (h : x.id = i) : has i S = true := List.any_eq_true.2 ⟨x, hx, by simpa using h⟩
theorem pl_le (i : Int) (S : List Fl) : pl i S ≤ S.length := List.findIdx_le_length
theorem sorted_get {S : List Fl} (h : Sorted S) {j k : Nat} (hjk : j < k) (hk : k < S.length) : (S[j]'(by omega)).id < S[k].id := (List.pairwise_iff_getElem.1 h) j k (by omega) hk hjk
theorem sorted_pl {i : Int} {S : List Fl} (h : Sorted S) {k : Nat} (hk : k < S.length) : decide (S[k].id < i) = decide (k < pl i S) := by
  refine decide_eq_decide.2 ⟨fun h1 => ?_, fun h1 => ?_⟩
  · refine Nat.lt_of_not_le fun h2 => ?_
    have h3 : pl i S < S.length := by omega
    have h4 : i ≤ S[pl i S].id := by
      have := List.findIdx_getElem (xs := S) (p := fun x : Fl => decide (i ≤ x.id)) (w := h3)
      simp only [decide_eq_true_eq] at this
      exact this
    rcases Nat.lt_or_eq_of_le h2 with h5 | h5
    · have := sorted_get h h5 hk
      omega
    · have e : S[k].id = S[pl i S].id := by simp only [h5]
      omega
  · have := List.not_of_lt_findIdx (xs := S) (p := fun x => decide (i ≤ x.id)) h1
    simp at this
    omega
theorem pl_has {i : Int} {S : List Fl} (h : Sorted S) (hh : has i S = true) : pl i S = spot i S := by
  have h1 := spot_lt hh
  have h2 := spot_id h1
  refine Nat.le_antisymm (Nat.le_of_not_lt fun h3 => ?_) (Nat.le_of_not_lt fun h3 => ?_)
  · have := sorted_pl (i := i) h h1
    rw [decide_eq_true h3, decide_eq_true_eq, h2] at this
    omega
  · have h4 : pl i S < S.length := by omega
    have h5 : i ≤ S[pl i S].id := by
      have := List.findIdx_getElem (xs := S) (p := fun x : Fl => decide (i ≤ x.id)) (w := h4)
      simp only [decide_eq_true_eq] at this
      exact this
    have := sorted_get h h3 h1
    omega
/-- What comparing tells. -/
def cmpZ (a b : Int) : Int := if a < b then -1 else if b < a then 1 else 0
theorem cmpZ_pos (a b : Int) : decide (0 < cmpZ a b) = decide (b < a) := by
  unfold cmpZ
  refine decide_eq_decide.2 ?_
  split
  · omega
  · split <;> omega
theorem cmpZ_zero (a b : Int) : (cmpZ a b == 0) = decide (a = b) := by
  unfold cmpZ
  by_cases h : a < b
  · rw [if_pos h]
    have : ¬ a = b := by omega
    simp [this]
  · rw [if_neg h]
    by_cases h2 : b < a
    · rw [if_pos h2]
      have : ¬ a = b := by omega
      simp [this]
    · rw [if_neg h2]
      have : a = b := by omega
      simp [this]

/-- What comes of acts. -/
def errE (i : Int) (S : List Fl) : Int := if has i S then 0 else 9
def moreF (x : Fl) : Fl := { x with refs := x.refs + 1 }
def lessF (x : Fl) : Fl := { x with refs := x.refs - 1 }
def offF (o : Int) (x : Fl) : Fl := { x with off := o }
def loose (f : Int) : Int := (if bitI f 2 then 4 else 0) + (if bitI f 3 then 8 else 0)
def flagF (f : Int) (x : Fl) : Fl := { x with flags := x.flags % 4 + loose f }
def holdS (i : Int) (S : List Fl) : List Fl := S.modify (spot i S) moreF
def lastB (i : Int) (S : List Fl) : Bool := S.any fun x => x.id == i && decide (x.refs - 1 ≤ 0)
def dropS (i : Int) (S : List Fl) : List Fl := if lastB i S then S.eraseIdx (spot i S) else S.modify (spot i S) lessF
def seekE (i o : Int) (S : List Fl) : Int := if has i S then (if o < 0 then 22 else 0) else 9
def seekS (i o : Int) (S : List Fl) : List Fl := if o < 0 then S else S.modify (spot i S) (offF o)
def flagS (i f : Int) (S : List Fl) : List Fl := S.modify (spot i S) (flagF f)
def kindB (k : Int) : Bool := k == 1 || k == 2 || k == 5 || k == 6 || k == 7
def stayB (f : Int) : Bool := decide (0 ≤ f) && decide (f ≤ 15) && f % 4 != 3
def goodB (k o f : Int) : Bool := kindB k && decide (1 ≤ o) && stayB f
def openE (most : Nat) (S : List Fl) (k o f : Int) : Int := if goodB k o f then (if S.length < most then 0 else 23) else 22
def openN (most : Nat) (next : Int) (S : List Fl) (k o f : Int) : Int := if goodB k o f && decide (S.length < most) then next else 0
def openX (most : Nat) (next : Int) (S : List Fl) (k o f : Int) : Int := if goodB k o f && decide (S.length < most) then next + 1 else next
def openS (most : Nat) (next : Int) (S : List Fl) (k o f : Int) : List Fl := if goodB k o f && decide (S.length < most) then S ++ [⟨next, k, o, 0, f, 1⟩] else S

theorem modify_no (S : List Fl) (f : Fl → Fl) : S.modify S.length f = S := by
  apply List.ext_getElem?
  intro j
  rw [List.getElem?_modify]
  by_cases h : S.length = j
  · subst h; simp
  · simp [h]
theorem modify_at {S : List Fl} {k : Nat} (h : k < S.length) (f : Fl → Fl) : S.modify k f = S.set k (f S[k]) := by
  apply List.ext_getElem?
  intro j
  rw [List.getElem?_modify, List.getElem?_set]
  by_cases e : k = j
  · subst e; simp [h]
  · simp [e]
theorem hold_no {i : Int} {S : List Fl} (h : has i S = false) : holdS i S = S := by unfold holdS; rw [spot_no h, modify_no]
theorem flag_no {i f : Int} {S : List Fl} (h : has i S = false) : flagS i f S = S := by unfold flagS; rw [spot_no h, modify_no]
theorem seek_no {i o : Int} {S : List Fl} (h : has i S = false) : seekS i o S = S := by
  unfold seekS
  split
  · rfl
  · rw [spot_no h, modify_no]
theorem last_no {i : Int} {S : List Fl} (h : has i S = false) : lastB i S = false := List.any_eq_false.2 fun x hx => by
  have := List.any_eq_false.1 h x hx
  simp only [Bool.not_eq_true] at this
  simp [this]
theorem drop_no {i : Int} {S : List Fl} (h : has i S = false) : dropS i S = S := by
  unfold dropS
  rw [last_no h, if_neg (by decide), spot_no h, modify_no]
/-- Of one number there is one file. -/
theorem one_id {S : List Fl} (h : Sorted S) {j k : Nat} (hj : j < S.length) (hk : k < S.length) (e : S[j].id = S[k].id) : j = k := by
  rcases Nat.lt_trichotomy j k with h1 | h1 | h1
  · have := sorted_get h h1 hk; omega
  · exact h1
  · have := sorted_get h h1 hj; omega
theorem last_at {i : Int} {S : List Fl} (hs : Sorted S) (h : spot i S < S.length) : lastB i S = decide (S[spot i S].refs - 1 ≤ 0) := by
  by_cases h1 : S[spot i S].refs - 1 ≤ 0
  · rw [decide_eq_true h1]
    exact List.any_eq_true.2 ⟨_, List.getElem_mem h, by rw [spot_id h]; simpa using h1⟩
  · rw [decide_eq_false h1]
    refine List.any_eq_false.2 fun x hx h2 => h1 ?_
    obtain ⟨j, hj, rfl⟩ := List.mem_iff_getElem.1 hx
    simp only [Bool.and_eq_true, beq_iff_eq, decide_eq_true_eq] at h2
    have e := one_id hs hj h (by rw [h2.1, spot_id h])
    have : S[j].refs = S[spot i S].refs := by simp only [e]
    omega

/-- What acts lead to. -/
structure Ok (c most : Nat) (next : Int) (S : List Fl) : Prop where
  sorted : Sorted S
  ids : ∀ x ∈ S, 1 ≤ x.id ∧ x.id < next
  refs : ∀ x ∈ S, 1 ≤ x.refs ∧ x.refs ≤ (c : Int) + 1
  flags : ∀ x ∈ S, 0 ≤ x.flags ∧ x.flags ≤ 15
  len : S.length ≤ most
  most : most ≤ 256
  next : 1 ≤ next ∧ next ≤ (c : Int) + 1
theorem Ok.new {most : Nat} (h : most ≤ 256) : Ok 0 most 1 [] := ⟨List.Pairwise.nil, (fun _ h => by cases h), (fun _ h => by cases h), (fun _ h => by cases h), Nat.zero_le _, h, by omega⟩
section
variable {c most : Nat} {next : Int} {S : List Fl}
theorem Ok.more (h : Ok c most next S) : Ok (c + 1) most next S :=
  ⟨h.sorted, h.ids, fun x hx => by have := h.refs x hx; omega, h.flags, h.len, h.most, by have := h.next; omega⟩
theorem mem_modify {S : List Fl} {k : Nat} {f : Fl → Fl} {x : Fl} (h : x ∈ S.modify k f) : ∃ y ∈ S, x = y ∨ x = f y := by
  obtain ⟨j, hj, rfl⟩ := List.mem_iff_getElem.1 h
  have hj2 : j < S.length := by simpa using hj
  refine ⟨S[j], List.getElem_mem hj2, ?_⟩
  rw [List.getElem_modify]
  split
  · exact .inr rfl
  · exact .inl rfl
theorem sorted_modify {S : List Fl} (h : Sorted S) (k : Nat) (f : Fl → Fl) (hf : ∀ x, (f x).id = x.id) : Sorted (S.modify k f) := by
  refine List.pairwise_iff_getElem.2 fun i j hi hj hij => ?_
  have hi2 : i < S.length := by simpa using hi
  have hj2 : j < S.length := by simpa using hj
  have e : ∀ (q : Nat) (hq : q < (S.modify k f).length) (hq2 : q < S.length), ((S.modify k f)[q]).id = S[q].id := fun q hq hq2 => by
    rw [List.getElem_modify]
    split
    · exact hf _
    · rfl
  rw [e i hi hi2, e j hj hj2]
  exact sorted_get h hij hj2
theorem Ok.modify (h : Ok c most next S) (k : Nat) (f : Fl → Fl) (h1 : ∀ x, (f x).id = x.id) (h2 : ∀ x ∈ S, 1 ≤ (f x).refs ∧ (f x).refs ≤ (c : Int) + 2) (h3 : ∀ x ∈ S, 0 ≤ (f x).flags ∧ (f x).flags ≤ 15) : Ok (c + 1) most next (S.modify k f) := by
  refine ⟨sorted_modify h.sorted k f h1, fun x hx => ?_, fun x hx => ?_, fun x hx => ?_, by rw [List.length_modify]; exact h.len, h.most, by have := h.next; omega⟩
  · obtain ⟨y, hy, rfl | rfl⟩ := mem_modify hx
    · exact h.ids _ hy
    · rw [h1]; exact h.ids _ hy
  · obtain ⟨y, hy, rfl | rfl⟩ := mem_modify hx
    · have := h.refs _ hy; omega
    · have := h2 _ hy; omega
  · obtain ⟨y, hy, rfl | rfl⟩ := mem_modify hx
    · exact h.flags _ hy
    · exact h3 _ hy
theorem Ok.hold (h : Ok c most next S) (i : Int) : Ok (c + 1) most next (holdS i S) :=
  h.modify _ _ (fun _ => rfl) (fun x hx => by have := h.refs x hx; show 1 ≤ x.refs + 1 ∧ x.refs + 1 ≤ _; omega) (fun x hx => h.flags x hx)
theorem Ok.seek (h : Ok c most next S) (i o : Int) : Ok (c + 1) most next (seekS i o S) := by
  unfold seekS
  split
  · exact h.more
  · exact h.modify _ _ (fun _ => rfl) (fun x hx => by have := h.refs x hx; show 1 ≤ x.refs ∧ x.refs ≤ _; omega) (fun x hx => h.flags x hx)
theorem loose_in (f : Int) : 0 ≤ loose f ∧ loose f ≤ 12 := by unfold loose; split <;> split <;> omega
theorem Ok.flag (h : Ok c most next S) (i f : Int) : Ok (c + 1) most next (flagS i f S) :=
  h.modify _ _ (fun _ => rfl) (fun x hx => by have := h.refs x hx; show 1 ≤ x.refs ∧ x.refs ≤ _; omega) (fun x hx => by have := loose_in f; show 0 ≤ x.flags % 4 + loose f ∧ x.flags % 4 + loose f ≤ 15; omega)
theorem Ok.drop (h : Ok c most next S) (i : Int) : Ok (c + 1) most next (dropS i S) := by
  unfold dropS
  cases hl : lastB i S with
  | true =>
    rw [if_pos rfl]
    have hm : ∀ x ∈ S.eraseIdx (spot i S), x ∈ S := fun x hx => List.mem_of_mem_eraseIdx hx
    exact ⟨h.sorted.sublist (List.eraseIdx_sublist ..), fun x hx => h.ids x (hm x hx), fun x hx => by have := h.refs x (hm x hx); omega, fun x hx => h.flags x (hm x hx), Nat.le_trans (List.length_eraseIdx_le ..) h.len, h.most, by have := h.next; omega⟩
  | false =>
    rw [if_neg (by decide)]
    by_cases hk : spot i S < S.length
    · rw [last_at h.sorted hk, decide_eq_false_iff_not] at hl
      have hr := h.refs _ (List.getElem_mem hk)
      rw [modify_at hk]
      have hm : ∀ x ∈ S.set (spot i S) (lessF S[spot i S]), x ∈ S ∨ x = lessF S[spot i S] := fun x hx => List.mem_or_eq_of_mem_set hx
      refine ⟨?_, fun x hx => ?_, fun x hx => ?_, fun x hx => ?_, by rw [List.length_set]; exact h.len, h.most, by have := h.next; omega⟩
      · rw [← modify_at hk]; exact sorted_modify h.sorted _ _ (fun _ => rfl)
      · rcases hm x hx with h1 | rfl
        · exact h.ids _ h1
        · exact h.ids S[spot i S] (List.getElem_mem hk)
      · rcases hm x hx with h1 | rfl
        · have := h.refs _ h1; omega
        · show 1 ≤ S[spot i S].refs - 1 ∧ S[spot i S].refs - 1 ≤ _
          omega
      · rcases hm x hx with h1 | rfl
        · exact h.flags _ h1
        · exact h.flags S[spot i S] (List.getElem_mem hk)
    · have e : S.modify (spot i S) lessF = S := by
        have := List.findIdx_le_length (xs := S) (p := fun x => x.id == i)
        rw [show spot i S = S.length by unfold spot at hk ⊢; omega, modify_no]
      rw [e]
      exact h.more
theorem Ok.opened (h : Ok c most next S) (k o f : Int) : Ok (c + 1) most (openX most next S k o f) (openS most next S k o f) := by
  unfold openX openS
  cases hg : goodB k o f && decide (S.length < most) with
  | false => rw [if_neg (by decide), if_neg (by decide)]; exact h.more
  | true =>
    rw [if_pos rfl, if_pos rfl]
    simp only [Bool.and_eq_true, decide_eq_true_eq, goodB, stayB] at hg
    have hn := h.next
    have hm : ∀ x ∈ S ++ [(⟨next, k, o, 0, f, 1⟩ : Fl)], x ∈ S ∨ x = ⟨next, k, o, 0, f, 1⟩ := fun x hx => by simpa using hx
    refine ⟨List.pairwise_append.2 ⟨h.sorted, List.pairwise_singleton _ _, fun x hx y hy => ?_⟩, fun x hx => ?_, fun x hx => ?_, fun x hx => ?_, ?_, h.most, by omega⟩
    · obtain rfl := List.mem_singleton.1 hy
      exact (h.ids x hx).2
    · rcases hm x hx with h1 | rfl
      · have := h.ids _ h1; omega
      · show 1 ≤ next ∧ next < next + 1
        omega
    · rcases hm x hx with h1 | rfl
      · have := h.refs _ h1; omega
      · show (1 : Int) ≤ 1 ∧ (1 : Int) ≤ _
        omega
    · rcases hm x hx with h1 | rfl
      · exact h.flags _ h1
      · show 0 ≤ f ∧ f ≤ 15
        omega
    · rw [List.length_append, List.length_singleton]; omega
end

/-- Bits of a number of 64. -/
theorem and12 (f : Int) : bits .and .i64 f 12 = loose f := by
  have key : (BitVec.ofInt 64 f &&& BitVec.ofInt 64 12).toNat = (f % ((2 ^ 64 : Nat) : Int)).toNat % 16 &&& 12 := by
    rw [BitVec.toNat_and, BitVec.toNat_ofInt, show (BitVec.ofInt 64 12).toNat = 15 &&& 12 by decide, ← Nat.and_assoc, show (15 : Nat) = 2 ^ 4 - 1 by decide, Nat.and_two_pow_sub_one_eq_mod]
  have hb2 : bitI f 2 = decide ((f % ((2 ^ 64 : Nat) : Int)).toNat % 16 / 4 % 2 = 1) := by unfold bitI; refine decide_eq_decide.2 ?_; omega
  have hb3 : bitI f 3 = decide ((f % ((2 ^ 64 : Nat) : Int)).toNat % 16 / 8 % 2 = 1) := by unfold bitI; refine decide_eq_decide.2 ?_; omega
  show IntKind.i64.wrap ((BitVec.ofInt 64 f &&& BitVec.ofInt 64 12).toNat : Nat) = loose f
  unfold loose
  rw [key, hb2, hb3]
  have hr : (f % ((2 ^ 64 : Nat) : Int)).toNat % 16 < 16 := Nat.mod_lt _ (by decide)
  generalize (f % ((2 ^ 64 : Nat) : Int)).toNat % 16 = r at hr ⊢
  have : ∀ r : Fin 16, IntKind.i64.wrap (((r.val &&& 12 : Nat)) : Int) = (if decide (r.val / 4 % 2 = 1) = true then (4 : Int) else 0) + (if decide (r.val / 8 % 2 = 1) = true then 8 else 0) := by decide
  exact this ⟨r, hr⟩
theorem not12 (s : Int) (h : 0 ≤ s ∧ s ≤ 15) : bits .andNot .i64 s 12 = s % 4 := by
  obtain ⟨n, rfl⟩ := Int.eq_ofNat_of_zero_le h.1
  have hn : n < 16 := by omega
  have : ∀ r : Fin 16, bits .andNot .i64 ((r.val : Nat) : Int) 12 = ((r.val : Nat) : Int) % 4 := by decide
  exact this ⟨n, hn⟩
theorem or12 (s f : Int) : bits .or .i64 (s % 4) (loose f) = s % 4 + loose f := by
  have h1 : s % 4 = 0 ∨ s % 4 = 1 ∨ s % 4 = 2 ∨ s % 4 = 3 := by omega
  have h2 : loose f = 0 ∨ loose f = 4 ∨ loose f = 8 ∨ loose f = 12 := by unfold loose; split <;> split <;> omega
  rcases h1 with h1 | h1 | h1 | h1 <;> rcases h2 with h2 | h2 | h2 | h2 <;> rw [h1, h2] <;> decide
theorem not15 (f : Int) (hf : -9223372036854775808 ≤ f ∧ f ≤ 9223372036854775807) : (bits .andNot .i64 f 15 == 0) = (decide (0 ≤ f) && decide (f ≤ 15)) := by
  rw [Bool.eq_iff_iff, beq_iff_eq, Bool.and_eq_true, decide_eq_true_eq, decide_eq_true_eq]
  constructor
  · intro h
    have h1 : BitVec.ofInt 64 f &&& ~~~BitVec.ofInt 64 15 = 0#64 := (wrap_zero _).1 h
    have h2 : (BitVec.ofInt 64 f).toNat < 2 ^ 4 := by
      refine Nat.lt_pow_two_of_testBit _ fun i hi => ?_
      by_cases h64 : i < 64
      · have h3 := (bits_zero_iff _).1 h1 i h64
        have h4 : ∀ i : Fin 64, 4 ≤ i.val → (BitVec.ofInt 64 15).getLsbD i.val = false := by decide
        rw [BitVec.getLsbD_and, BitVec.getLsbD_not, h4 ⟨i, h64⟩ hi] at h3
        simp only [Bool.not_false, Bool.and_true] at h3
        rw [BitVec.testBit_toNat]
        simpa [h64] using h3
      · have := (BitVec.ofInt 64 f).isLt
        exact Nat.testBit_lt_two_pow (Nat.lt_of_lt_of_le this (Nat.pow_le_pow_right (by decide) (by omega)))
    rw [BitVec.toNat_ofInt] at h2
    omega
  · intro h
    obtain ⟨n, rfl⟩ := Int.eq_ofNat_of_zero_le h.1
    have hn : n < 16 := by omega
    have : ∀ r : Fin 16, bits .andNot .i64 ((r.val : Nat) : Int) 15 = 0 := by decide
    exact this ⟨n, hn⟩
theorem and3 (f : Int) (h : 0 ≤ f ∧ f ≤ 15) : bits .and .i64 f 3 = f % 4 := by
  obtain ⟨n, rfl⟩ := Int.eq_ofNat_of_zero_le h.1
  have hn : n < 16 := by omega
  have : ∀ r : Fin 16, bits .and .i64 ((r.val : Nat) : Int) 3 = ((r.val : Nat) : Int) % 4 := by decide
  exact this ⟨n, hn⟩
theorem bits01 (f : Int) : (bitI f 0 && bitI f 1) = decide (f % 4 = 3) := by
  unfold bitI
  rw [Bool.eq_iff_iff, Bool.and_eq_true, decide_eq_true_eq, decide_eq_true_eq, decide_eq_true_eq]
  omega

end Go.Proofs.Ytigikmojhllmdaa.V
