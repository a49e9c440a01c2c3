/- How many name each open file, of no program: counts by numbers. -/
import Derived.Test.YtigikmojhllmdaaVLives
namespace Go.Proofs.Ytigikmojhllmdaa.V
open Go Go.RowKit

def sumI : List Int → Int
  | [] => 0
  | x :: r => x + sumI r
theorem sumI_append : ∀ l m : List Int, sumI (l ++ m) = sumI l + sumI m
  | [], m => by simp [sumI]
  | x :: l, m => by simp only [List.cons_append, sumI, sumI_append l m]; omega
def cnt (j : Int) (S : List Fl) : Int := sumI (S.map fun x => if x.id = j then x.refs else 0)
def sumR (S : List Fl) : Int := sumI (S.map (·.refs))
theorem ite_nat (i j : Nat) (a b : Int) : (if (i : Int) = (j : Int) then a else b) = if i = j then a else b := by
  by_cases e : i = j
  · rw [if_pos e, if_pos (by omega)]
  · rw [if_neg e, if_neg (by omega)]
theorem cnt_cons (j : Int) (x : Fl) (S : List Fl) : cnt j (x :: S) = (if x.id = j then x.refs else 0) + cnt j S := rfl
theorem cnt_no {j : Int} : ∀ {S : List Fl}, (∀ x ∈ S, x.id ≠ j) → cnt j S = 0
  | [], _ => rfl
  | x :: r, h => by
    rw [cnt_cons, if_neg (h x (by simp)), cnt_no fun y hy => h y (by simp [hy])]
    rfl
theorem cnt_append (j : Int) (S : List Fl) (x : Fl) : cnt j (S ++ [x]) = cnt j S + (if x.id = j then x.refs else 0) := by
  unfold cnt
  rw [List.map_append, sumI_append]
  simp [sumI]
theorem cnt_set (j : Int) (y : Fl) : ∀ (S : List Fl) (k : Nat) (h : k < S.length), cnt j (S.set k y) = cnt j S - (if S[k].id = j then S[k].refs else 0) + (if y.id = j then y.refs else 0)
  | x :: r, 0, _ => by rw [List.set_cons_zero, cnt_cons, cnt_cons]; simp only [List.getElem_cons_zero]; omega
  | x :: r, k + 1, h => by
    rw [List.set_cons_succ, cnt_cons, cnt_cons, cnt_set j y r k (by simpa using h)]
    simp only [List.getElem_cons_succ]
    omega
theorem cnt_erase (j : Int) : ∀ (S : List Fl) (k : Nat) (h : k < S.length), cnt j (S.eraseIdx k) = cnt j S - (if S[k].id = j then S[k].refs else 0)
  | x :: r, 0, _ => by rw [List.eraseIdx_cons_zero, cnt_cons]; simp only [List.getElem_cons_zero]; omega
  | x :: r, k + 1, h => by
    rw [List.eraseIdx_cons_succ, cnt_cons, cnt_cons, cnt_erase j r k (by simpa using h)]
    simp only [List.getElem_cons_succ]
    omega
theorem cnt_at {S : List Fl} (hs : Sorted S) {k : Nat} (h : k < S.length) : cnt S[k].id S = S[k].refs := by
  have e := cnt_erase S[k].id S k h
  rw [if_pos rfl] at e
  have h0 : cnt S[k].id (S.eraseIdx k) = 0 := cnt_no fun x hx he => by
    obtain ⟨j, hj, hjk, rfl⟩ : ∃ j, ∃ (hj : j < S.length), j ≠ k ∧ S[j] = x := by
      obtain ⟨i, hi, rfl⟩ := List.mem_iff_getElem.1 hx
      rw [List.length_eraseIdx_of_lt h] at hi
      rw [List.getElem_eraseIdx]
      split
      · exact ⟨i, by omega, by omega, rfl⟩
      · exact ⟨i + 1, by omega, by omega, rfl⟩
    exact hjk (one_id hs hj h he)
  omega
/-- The cells of the counts. -/
def mN (n : Nat) (S : List Fl) : List Value := (List.range n).map fun j : Nat => .int .i64 (cnt (j : Int) S)
def mC (S : List Fl) : List Value := mN 300 S
theorem mN_len (n : Nat) (S : List Fl) : (mN n S).length = n := by simp [mN]
theorem mC_len (S : List Fl) : (mC S).length = 300 := mN_len 300 S
theorem mN_get (n : Nat) (S : List Fl) {j : Nat} (h : j < n) : (mN n S)[j]? = some (.int .i64 (cnt (j : Int) S)) := by simp [mN, h]
theorem mC_get (S : List Fl) {j : Nat} (h : j < 300) : (mC S)[j]? = some (.int .i64 (cnt (j : Int) S)) := mN_get 300 S h
theorem mN_nil (n : Nat) : mN n [] = List.replicate n (.int .i64 0) := by
  refine List.ext_getElem (by simp [mN]) fun i h1 h2 => ?_
  simp [mN, cnt, sumI]
theorem mC_nil : mC [] = List.replicate 300 (.int .i64 0) := mN_nil 300
theorem mC_set {S S' : List Fl} {j : Nat} (h : j < 300) (d : Int) (hd : ∀ i : Nat, cnt (i : Int) S' = cnt (i : Int) S + (if i = j then d else 0)) : (mC S).set j (.int .i64 (cnt (j : Int) S + d)) = mC S' := by
  refine List.ext_getElem? fun i => ?_
  rw [List.getElem?_set]
  by_cases e : j = i
  · subst e
    rw [if_pos rfl, mC_len, if_pos h, mC_get S' h, hd j, if_pos rfl]
  · rw [if_neg e]
    by_cases hi : i < 300
    · rw [mC_get S hi, mC_get S' hi, hd i, if_neg (fun e2 => e e2.symm), Int.add_zero]
    · rw [List.getElem?_eq_none (by rw [mC_len]; omega), List.getElem?_eq_none (by rw [mC_len]; omega)]
theorem mC_same {S S' : List Fl} (hd : ∀ i : Nat, cnt (i : Int) S' = cnt (i : Int) S) : mC S' = mC S := by
  unfold mC mN
  refine List.map_congr_left fun j _ => ?_
  rw [hd j]
section
variable {S : List Fl} {i : Int}
theorem cnt_hold (hq : has i S = true) (j : Int) : cnt j (holdS i S) = cnt j S + (if j = i then 1 else 0) := by
  have hlt := spot_lt hq
  have hid := spot_id hlt
  unfold holdS
  rw [modify_at hlt, cnt_set j _ S _ hlt]
  show cnt j S - (if S[spot i S].id = j then S[spot i S].refs else 0) + (if S[spot i S].id = j then S[spot i S].refs + 1 else 0) = _
  rw [hid]
  by_cases e : i = j
  · rw [if_pos e, if_pos e, if_pos e.symm]; omega
  · rw [if_neg e, if_neg e, if_neg fun e2 => e e2.symm]; omega
theorem cnt_drop {c most : Nat} {nx : Int} (ok : Ok c most nx S) (hq : has i S = true) (j : Int) : cnt j (dropS i S) = cnt j S + (if j = i then -1 else 0) := by
  have hlt := spot_lt hq
  have hid := spot_id hlt
  have hr := ok.refs _ (List.getElem_mem hlt)
  unfold dropS
  rw [last_at ok.sorted hlt]
  by_cases h1 : S[spot i S].refs - 1 ≤ 0
  · rw [decide_eq_true h1, if_pos rfl, cnt_erase j S _ hlt, hid]
    by_cases e : i = j
    · rw [if_pos e, if_pos e.symm]; omega
    · rw [if_neg e, if_neg fun e2 => e e2.symm]; omega
  · rw [decide_eq_false h1, if_neg (by decide), modify_at hlt, cnt_set j _ S _ hlt]
    show cnt j S - (if S[spot i S].id = j then S[spot i S].refs else 0) + (if S[spot i S].id = j then S[spot i S].refs - 1 else 0) = _
    rw [hid]
    by_cases e : i = j
    · rw [if_pos e, if_pos e, if_pos e.symm]; omega
    · rw [if_neg e, if_neg e, if_neg fun e2 => e e2.symm]; omega
end
/-- Of a file that there is, the count is from 1 on; of one that there is none of, 0. -/
theorem cnt_in {c most : Nat} {nx : Int} {S : List Fl} (ok : Ok c most nx S) (j : Int) : 0 ≤ cnt j S ∧ cnt j S ≤ (c : Int) + 1 := by
  cases hq : has j S with
  | false => rw [cnt_no fun x hx => no_id hq hx]; omega
  | true =>
    have hlt := spot_lt hq
    have hr := ok.refs _ (List.getElem_mem hlt)
    have := cnt_at ok.sorted hlt
    rw [spot_id hlt] at this
    omega
/-- All counts together. -/
def allC (t : Nat) (S : List Fl) : Int := sumI ((List.range t).map fun j : Nat => cnt (j : Int) S)
theorem allC_succ (t : Nat) (S : List Fl) : allC (t + 1) S = allC t S + cnt (t : Int) S := by
  unfold allC
  rw [List.range_succ, List.map_append, sumI_append]
  simp [sumI]
theorem one_sum (i r : Int) : ∀ t : Nat, sumI ((List.range t).map fun j : Nat => if i = (j : Int) then r else 0) = if 0 ≤ i ∧ i < (t : Int) then r else 0
  | 0 => by
    rw [if_neg (by omega)]; rfl
  | t + 1 => by
    rw [List.range_succ, List.map_append, sumI_append, one_sum i r t]
    simp only [List.map_cons, List.map_nil, sumI]
    by_cases h : i = (t : Int)
    · rw [if_neg (by omega), if_pos h, if_pos (by omega)]; omega
    · by_cases h2 : 0 ≤ i ∧ i < (t : Int)
      · rw [if_pos h2, if_neg h, if_pos (by omega)]; omega
      · rw [if_neg h2, if_neg h, if_neg (by omega)]; rfl
theorem sumI_add (f g : Nat → Int) : ∀ l : List Nat, sumI (l.map fun j => f j + g j) = sumI (l.map f) + sumI (l.map g)
  | [] => rfl
  | x :: r => by simp only [List.map_cons, sumI, sumI_add f g r]; omega
theorem allC_all (t : Nat) : ∀ S : List Fl, (∀ x ∈ S, 0 ≤ x.id ∧ x.id < (t : Int)) → allC t S = sumR S
  | [], _ => by
    unfold allC sumR
    have : ∀ l : List Nat, sumI (l.map fun j : Nat => cnt (j : Int) []) = 0 := fun l => by
      induction l with
      | nil => rfl
      | cons x r ih => simp only [List.map_cons, sumI, ih]; rfl
    rw [this]; rfl
  | x :: S, h => by
    have h1 := allC_all t S fun y hy => h y (by simp [hy])
    unfold allC at h1 ⊢
    simp only [cnt_cons]
    rw [sumI_add, one_sum, if_pos (h x (by simp)), h1]
    rfl
theorem allC_in {c most : Nat} {nx : Int} {S : List Fl} (ok : Ok c most nx S) : ∀ t : Nat, 0 ≤ allC t S ∧ allC t S ≤ (t : Int) * ((c : Int) + 1)
  | 0 => by unfold allC; simp [sumI]
  | t + 1 => by
    have h1 := allC_in ok t
    have h2 := cnt_in ok (t : Int)
    rw [allC_succ, Int.natCast_succ, Int.add_mul]
    omega
theorem sumR_take (S : List Fl) {k : Nat} (h : k < S.length) : sumR (S.take (k + 1)) = sumR (S.take k) + S[k].refs := by
  unfold sumR
  rw [List.take_add_one, List.getElem?_eq_getElem h, Option.toList_some, List.map_append, sumI_append]
  simp [sumI]
theorem sumR_in {c most : Nat} {nx : Int} {S : List Fl} (ok : Ok c most nx S) : ∀ k : Nat, k ≤ S.length → 0 ≤ sumR (S.take k) ∧ sumR (S.take k) ≤ (k : Int) * ((c : Int) + 1)
  | 0, _ => by simp [sumR, sumI]
  | k + 1, h => by
    have h1 := sumR_in ok k (by omega)
    have h2 := ok.refs _ (List.getElem_mem (show k < S.length by omega))
    rw [sumR_take S (by omega), Int.natCast_succ, Int.add_mul]
    omega
/-- A row's cells, where there is one. -/
theorem row_cells {hi : Nat} {w : World} {v : Value} {S : List Fl} (h : Row hi w v S) : ∃ p cap, v = .slice p S.length cap ∧ ∀ k (hk : k < S.length), ∃ g, p = some ⟨g, 0, none⟩ ∧ ∀ i u, (flC S[k])[i]? = some u → w.cell? ⟨g, k * 6 + i, none⟩ = some u := by
  obtain ⟨p, cap, rfl, hat, _⟩ := rowS_at h
  refine ⟨p, cap, rfl, fun k hk => ?_⟩
  obtain ⟨g, rfl⟩ : ∃ g, p = some ⟨g, 0, none⟩ := by
    rcases h.2 with ⟨_, h1⟩ | ⟨g, c, cur, h0, _⟩
    · omega
    · cases h0; exact ⟨g, rfl⟩
  obtain ⟨g', off, e, _, hlt, hc⟩ := hat.place (k := k * 6) (by rw [flat_length]; omega)
  cases e
  refine ⟨g, rfl, fun i u hu => ?_⟩
  have hi6 : i < 6 := by have := (List.getElem?_eq_some_iff.1 hu).1; rwa [flC_len] at this
  have := hc (k * 6 + i) u (by rw [flat_get S k i hk hi6]; exact hu)
  rwa [Nat.zero_add] at this

end Go.Proofs.Ytigikmojhllmdaa.V
