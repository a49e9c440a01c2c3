/- A sorted list and the reference's: what makes them one directory. -/
import Derived.Test.YtlpgflkfckhgeaaDPage2
namespace Go.Proofs.Ytlpgflkfckhgeaa
open Go Go.RowKit

/-- The reference's Add, Set, Remove. -/
def rAddE (nm : ByteArray) (ino : Int) (l : List Ent) : Int := if nameE nm ≠ 0 then nameE nm else if ino < 1 then 22 else if 0 < find nm l then 17 else if 64 ≤ l.length then 28 else 0
def rAdd (nm : ByteArray) (ino : Int) (l : List Ent) : List Ent := if rAddE nm ino l = 0 then l ++ [(nm, ino)] else l
def setF (nm : ByteArray) (ino : Int) (x : Ent) : Ent := if same nm x then (x.1, ino) else x
def rSetE (nm : ByteArray) (ino : Int) (l : List Ent) : Int := if ino < 1 then 22 else if find nm l = 0 then 2 else 0
def rSetN (nm : ByteArray) (ino : Int) (l : List Ent) : Int := if rSetE nm ino l = 0 then find nm l else 0
def rSet (nm : ByteArray) (ino : Int) (l : List Ent) : List Ent := if rSetE nm ino l = 0 then l.map (setF nm ino) else l
/-- The last number of a name. -/
def lastN (nm : ByteArray) (l : List Ent) : Int := l.foldl (fun o x => if same nm x then x.2 else o) 0
def rRemE (nm : ByteArray) (l : List Ent) : Int := if lastN nm l = 0 then 2 else 0
def rRem (nm : ByteArray) (l : List Ent) : List Ent := if lastN nm l = 0 then l else l.filter fun x => !same nm x

/-- One directory: the program's, sorted, and the reference's. -/
structure Rel (S l : List Ent) : Prop where
  perm : S.Perm l
  sorted : Sorted S
  pos : ∀ x ∈ l, 1 ≤ x.2
  few : l.length ≤ 64

theorem Rel.nil : Rel [] [] := ⟨.refl _, List.Pairwise.nil, fun _ h => by simp at h, by simp⟩
theorem sorted_one {S : List Ent} (hs : Sorted S) {x y : Ent} (hx : x ∈ S) (hy : y ∈ S) (h : x.1 = y.1) : x = y := by
  obtain ⟨i, hi, rfl⟩ := List.mem_iff_getElem.1 hx
  obtain ⟨j, hj, rfl⟩ := List.mem_iff_getElem.1 hy
  have hp := List.pairwise_iff_getElem.1 hs
  rcases Nat.lt_trichotomy i j with hij | rfl | hij
  · have := hp i j hi hj hij
    rw [h, lt_irrefl] at this; cases this
  · rfl
  · have := hp j i hj hi hij
    rw [h, lt_irrefl] at this; cases this
theorem sorted_index {S : List Ent} (hs : Sorted S) {i j : Nat} (hi : i < S.length) (hj : j < S.length) (h : S[i].1 = S[j].1) : i = j := by
  have hp := List.pairwise_iff_getElem.1 hs
  rcases Nat.lt_trichotomy i j with hij | h' | hij
  · have := hp i j hi hj hij
    rw [h, lt_irrefl] at this; cases this
  · exact h'
  · have := hp j i hj hi hij
    rw [h, lt_irrefl] at this; cases this
/-- The number of a name, where names are told apart. -/
theorem find_of {l : List Ent} (hd : ∀ x ∈ l, ∀ y ∈ l, x.1 = y.1 → x = y) {x : Ent} (hx : x ∈ l) : find x.1 l = x.2 := by
  unfold find
  cases h : l.find? (same x.1) with
  | none => exact absurd (same_iff.2 rfl) (List.find?_eq_none.1 h x hx)
  | some y =>
    have h1 := List.mem_of_find?_eq_some h
    have h2 := same_iff.1 (List.find?_some h)
    rw [hd y h1 x hx h2]; rfl
theorem last_of {nm : ByteArray} : ∀ (l : List Ent) (o : Int), (∀ x ∈ l, ∀ y ∈ l, x.1 = y.1 → x = y) → l.foldl (fun o x => if same nm x then x.2 else o) o = if has nm l then find nm l else o
  | [], o, _ => rfl
  | x :: r, o, hd => by
    have ih := last_of (nm := nm) r (if same nm x then x.2 else o) fun y hy z hz h => hd y (List.mem_cons_of_mem _ hy) z (List.mem_cons_of_mem _ hz) h
    rw [List.foldl_cons, ih]
    cases hx : same nm x with
    | true =>
      have e1 : has nm (x :: r) = true := by simp [has, hx]
      have e2 : find nm (x :: r) = x.2 := by simp [find, hx]
      rw [e1, e2]
      cases hr : has nm r with
      | false => simp
      | true =>
        obtain ⟨y, hy, hsy⟩ := List.any_eq_true.1 hr
        have : y = x := hd y (List.mem_cons_of_mem _ hy) x List.mem_cons_self ((same_iff.1 hsy).trans (same_iff.1 hx).symm)
        subst this
        have h3 := find_of (fun a ha b hb h => hd a (List.mem_cons_of_mem _ ha) b (List.mem_cons_of_mem _ hb) h) hy
        rw [same_iff.1 hx] at h3
        simp [h3]
    | false =>
      have e1 : has nm (x :: r) = has nm r := by simp [has, hx]
      have e2 : find nm (x :: r) = find nm r := by simp [find, hx]
      rw [e1, e2]
      rfl
section
variable {S l : List Ent} {nm : ByteArray} {ino : Int}
theorem Rel.len (h : Rel S l) : S.length = l.length := h.perm.length_eq
theorem Rel.few' (h : Rel S l) : S.length ≤ 64 := by rw [h.len]; exact h.few
theorem Rel.one (h : Rel S l) : ∀ x ∈ l, ∀ y ∈ l, x.1 = y.1 → x = y := fun _ hx _ hy e => sorted_one h.sorted (h.perm.mem_iff.2 hx) (h.perm.mem_iff.2 hy) e
theorem Rel.oneS (h : Rel S l) : ∀ x ∈ S, ∀ y ∈ S, x.1 = y.1 → x = y := fun _ hx _ hy e => sorted_one h.sorted hx hy e
theorem Rel.has (h : Rel S l) (nm : ByteArray) : has nm S = has nm l := h.perm.any_eq
theorem Rel.under (h : Rel S l) (nm : ByteArray) : under nm S = under nm l := h.perm.countP_eq _
theorem Rel.find (h : Rel S l) (nm : ByteArray) : find nm S = find nm l := by
  cases hh : Proofs.Ytlpgflkfckhgeaa.has nm l with
  | false => rw [find_none hh, find_none (by rw [h.has]; exact hh)]
  | true =>
    obtain ⟨x, hx, hs⟩ := List.any_eq_true.1 hh
    have e := same_iff.1 hs
    subst e
    rw [find_of h.one hx, find_of h.oneS (h.perm.mem_iff.2 hx)]
theorem Rel.found (h : Rel S l) (nm : ByteArray) : (0 < Proofs.Ytlpgflkfckhgeaa.find nm l ↔ Proofs.Ytlpgflkfckhgeaa.has nm l = true) ∧ (Proofs.Ytlpgflkfckhgeaa.find nm l = 0 ↔ Proofs.Ytlpgflkfckhgeaa.has nm l = false) := by
  cases hh : Proofs.Ytlpgflkfckhgeaa.has nm l with
  | false => rw [find_none hh]; simp
  | true =>
    obtain ⟨x, hx, hs⟩ := List.any_eq_true.1 hh
    have e := same_iff.1 hs
    subst e
    rw [find_of h.one hx]
    have := h.pos x hx
    constructor
    · simp; omega
    · simp; omega
theorem Rel.addE (h : Rel S l) : addE nm ino S = rAddE nm ino l := by
  unfold Proofs.Ytlpgflkfckhgeaa.addE rAddE
  rw [h.len, h.has]
  cases hh : Proofs.Ytlpgflkfckhgeaa.has nm l with
  | false => rw [if_neg (c := 0 < Proofs.Ytlpgflkfckhgeaa.find nm l) (by rw [(h.found nm).1, hh]; simp)]; rfl
  | true => rw [if_pos (c := 0 < Proofs.Ytlpgflkfckhgeaa.find nm l) ((h.found nm).1.2 hh)]; rfl
theorem Rel.add (h : Rel S l) : Rel (addS nm ino S) (rAdd nm ino l) := by
  unfold addS rAdd
  rw [← h.addE]
  by_cases h0 : Proofs.Ytlpgflkfckhgeaa.addE nm ino S = 0
  · rw [if_pos h0, if_pos h0]
    have hE := h0
    unfold Proofs.Ytlpgflkfckhgeaa.addE at hE
    have hino : 1 ≤ ino ∧ Proofs.Ytlpgflkfckhgeaa.has nm S = false ∧ S.length < 64 := by
      split at hE
      · rename_i h1; exact absurd hE h1
      · split at hE
        · cases hE
        · split at hE
          · cases hE
          · split at hE
            · cases hE
            · rename_i h1 h2 h3
              exact ⟨by omega, by simpa using h2, by omega⟩
    have hlt := sorted_under nm S h.sorted
    have hge : ∀ k (hk : k < S.length), Proofs.Ytlpgflkfckhgeaa.under nm S ≤ k → lt nm S[k].1 = true := fun k hk hle => by
      have h1 := hlt k hk
      rw [decide_eq_false (by omega)] at h1
      rcases lt_or (a := nm) (b := S[k].1) (fun e => by
        have := List.any_eq_false.1 hino.2.1 _ (List.getElem_mem hk)
        exact this (same_iff.2 e.symm)) with h2 | h2
      · exact h2
      · rw [h1] at h2; cases h2
    refine ⟨?_, ?_, ?_, ?_⟩
    · have h1 : (S.take (Proofs.Ytlpgflkfckhgeaa.under nm S) ++ (nm, ino) :: S.drop (Proofs.Ytlpgflkfckhgeaa.under nm S)).Perm ((nm, ino) :: S) := by
        have := List.perm_middle (a := (nm, ino)) (l₁ := S.take (Proofs.Ytlpgflkfckhgeaa.under nm S)) (l₂ := S.drop (Proofs.Ytlpgflkfckhgeaa.under nm S))
        rwa [List.take_append_drop] at this
      exact h1.trans ((List.Perm.cons _ h.perm).trans (List.perm_append_singleton _ _).symm)
    · refine List.pairwise_append.2 ⟨h.sorted.take, List.pairwise_cons.2 ⟨fun y hy => ?_, h.sorted.drop⟩, fun x hx y hy => ?_⟩
      · obtain ⟨k, hk, rfl⟩ := List.mem_iff_getElem.1 hy
        rw [List.getElem_drop]
        exact hge _ _ (by omega)
      · obtain ⟨k, hk, rfl⟩ := List.mem_iff_getElem.1 hx
        rw [List.length_take] at hk
        have hk1 : lt S[k].1 nm = true := by rw [hlt k (by omega)]; exact decide_eq_true (by omega)
        rw [List.getElem_take]
        rcases List.mem_cons.1 hy with rfl | hy
        · exact hk1
        · obtain ⟨j, hj, rfl⟩ := List.mem_iff_getElem.1 hy
          rw [List.getElem_drop]
          exact lt_trans hk1 (hge _ _ (by omega))
    · intro x hx
      rcases List.mem_append.1 hx with hx | hx
      · exact h.pos x hx
      · simp at hx; subst hx; exact hino.1
    · rw [List.length_append, ← h.len]
      show S.length + 1 ≤ 64
      omega
  · rw [if_neg h0, if_neg h0]; exact h
theorem Rel.setE (h : Rel S l) : setE nm ino S = rSetE nm ino l := by
  unfold Proofs.Ytlpgflkfckhgeaa.setE rSetE
  rw [h.has]
  cases hh : Proofs.Ytlpgflkfckhgeaa.has nm l with
  | false => rw [if_pos ((h.found nm).2.2 hh)]; rfl
  | true => rw [if_neg (c := Proofs.Ytlpgflkfckhgeaa.find nm l = 0) (by rw [(h.found nm).2, hh]; simp)]; rfl
theorem Rel.setN (h : Rel S l) : setN nm ino S = rSetN nm ino l := by
  unfold Proofs.Ytlpgflkfckhgeaa.setN rSetN
  rw [h.setE, h.find]
theorem setF_name (x : Ent) : (setF nm ino x).1 = x.1 := by unfold setF; split <;> rfl
theorem Rel.set (h : Rel S l) : Rel (setS nm ino S) (rSet nm ino l) := by
  unfold setS rSet
  rw [← h.setE]
  by_cases h0 : Proofs.Ytlpgflkfckhgeaa.setE nm ino S = 0
  · rw [if_pos h0, if_pos h0]
    have hE := h0
    unfold Proofs.Ytlpgflkfckhgeaa.setE at hE
    have hino : 1 ≤ ino ∧ Proofs.Ytlpgflkfckhgeaa.has nm S = true := by
      split at hE
      · cases hE
      · split at hE
        · rename_i h1 h2; exact ⟨by omega, h2⟩
        · cases hE
    obtain ⟨hlt, hn, _⟩ := has_place h.sorted hino.2
    have e : S.set (Proofs.Ytlpgflkfckhgeaa.under nm S) (nm, ino) = S.map (setF nm ino) := by
      refine List.ext_getElem (by simp) fun k h1 h2 => ?_
      rw [List.length_set] at h1
      rw [List.getElem_set, List.getElem_map]
      by_cases hk : Proofs.Ytlpgflkfckhgeaa.under nm S = k
      · subst hk
        rw [if_pos rfl]
        unfold setF
        rw [if_pos (same_iff.2 hn), hn]
      · rw [if_neg hk]
        unfold setF
        rw [if_neg fun hs => hk (sorted_index h.sorted hlt h1 (hn.trans (same_iff.1 hs).symm))]
    rw [e]
    refine ⟨h.perm.map _, ?_, ?_, by rw [List.length_map]; exact h.few⟩
    · refine List.pairwise_map.2 (h.sorted.imp fun {x y} hxy => ?_)
      rw [setF_name, setF_name]; exact hxy
    · intro x hx
      obtain ⟨y, hy, rfl⟩ := List.mem_map.1 hx
      unfold setF
      split
      · exact hino.1
      · exact h.pos y hy
  · rw [if_neg h0, if_neg h0]; exact h
theorem Rel.last (h : Rel S l) : lastN nm l = Proofs.Ytlpgflkfckhgeaa.find nm l := by
  unfold lastN
  rw [last_of l 0 h.one]
  cases hh : Proofs.Ytlpgflkfckhgeaa.has nm l with
  | false => rw [find_none hh]; rfl
  | true => rfl
theorem Rel.remE (h : Rel S l) : remE nm S = rRemE nm l := by
  unfold Proofs.Ytlpgflkfckhgeaa.remE rRemE
  rw [h.has, h.last]
  cases hh : Proofs.Ytlpgflkfckhgeaa.has nm l with
  | false => rw [if_pos ((h.found nm).2.2 hh)]; rfl
  | true => rw [if_neg (c := Proofs.Ytlpgflkfckhgeaa.find nm l = 0) (by rw [(h.found nm).2, hh]; simp)]; rfl
theorem Rel.rem (h : Rel S l) : Rel (remS nm S) (rRem nm l) := by
  unfold remS rRem
  rw [h.last]
  cases hh : Proofs.Ytlpgflkfckhgeaa.has nm S with
  | false => rw [if_pos ((h.found nm).2.2 (by rw [← h.has]; exact hh)), if_neg (by simp)]; exact h
  | true =>
    rw [if_pos rfl, if_neg (by rw [(h.found nm).2, ← h.has, hh]; simp)]
    obtain ⟨hlt, hn, _⟩ := has_place h.sorted hh
    have hu := fun {i j : Nat} (hi : i < S.length) (hj : j < S.length) (e : S[i].1 = S[j].1) => sorted_index h.sorted hi hj e
    have e : S.take (Proofs.Ytlpgflkfckhgeaa.under nm S) ++ S.drop (Proofs.Ytlpgflkfckhgeaa.under nm S + 1) = S.filter fun x => !same nm x := by
      have e1 : S.filter (fun x => !same nm x) = (S.take (Proofs.Ytlpgflkfckhgeaa.under nm S) ++ S[Proofs.Ytlpgflkfckhgeaa.under nm S] :: S.drop (Proofs.Ytlpgflkfckhgeaa.under nm S + 1)).filter fun x => !same nm x := by
        rw [← List.drop_eq_getElem_cons hlt, List.take_append_drop]
      rw [e1, List.filter_append, List.filter_cons, if_neg (by rw [same_iff.2 hn]; simp)]
      congr 1
      · refine (List.filter_eq_self.2 fun x hx => ?_).symm
        obtain ⟨k, hk, rfl⟩ := List.mem_iff_getElem.1 hx
        rw [List.length_take] at hk
        rw [List.getElem_take]
        cases hq : same nm S[k] with
        | false => rfl
        | true =>
          have := hu (show k < S.length by omega) hlt ((same_iff.1 hq).trans hn.symm)
          omega
      · refine (List.filter_eq_self.2 fun x hx => ?_).symm
        obtain ⟨k, hk, rfl⟩ := List.mem_iff_getElem.1 hx
        rw [List.length_drop] at hk
        rw [List.getElem_drop]
        cases hq : same nm S[Proofs.Ytlpgflkfckhgeaa.under nm S + 1 + k] with
        | false => rfl
        | true =>
          have := hu (show Proofs.Ytlpgflkfckhgeaa.under nm S + 1 + k < S.length by omega) hlt ((same_iff.1 hq).trans hn.symm)
          omega
    rw [e]
    exact ⟨h.perm.filter _, h.sorted.filter _, fun x hx => h.pos x (List.mem_filter.1 hx).1, Nat.le_trans (List.length_filter_le _ _) h.few⟩
end

end Go.Proofs.Ytlpgflkfckhgeaa
