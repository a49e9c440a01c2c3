/- Processes, of no program: a list by rising numbers, and what comes of each act. -/
import Derived.Test.YthmefiegoagkjaaA1
namespace Go.Proofs.Ythmefiegoagkjaa.Y
open Go

/-- A process. -/
structure Pr where
  pid : Int
  parent : Int
  lives : Bool
  code : Int
  pd : Bool
  cap : Bool
  cwd : Int
def zPr : Pr := ⟨0, 0, false, 0, false, false, 0⟩
def first : Pr := ⟨1, 0, true, 0, false, false, 1⟩
def has (i : Int) (S : List Pr) : Bool := S.any fun x => x.pid == i
def spot (i : Int) (S : List Pr) : Nat := S.findIdx fun x => x.pid == i
def Sorted (S : List Pr) : Prop := S.Pairwise fun x y => x.pid < y.pid
/-- Whether one is there, and alive. -/
def lv (i : Int) (S : List Pr) : Bool := S.any fun x => x.pid == i && x.lives
def at_ (i : Int) (S : List Pr) : Pr := S.getD (spot i S) zPr

theorem spot_lt {i : Int} {S : List Pr} (h : has i S = true) : spot i S < S.length := by
  obtain ⟨x, hx, h2⟩ := List.any_eq_true.1 h
  exact List.findIdx_lt_length_of_exists ⟨x, hx, h2⟩
theorem spot_id {i : Int} {S : List Pr} (h : spot i S < S.length) : S[spot i S].pid = i := by
  have := List.findIdx_getElem (xs := S) (p := fun x : Pr => x.pid == i) (w := h)
  simp only [beq_iff_eq] at this
  exact this
theorem spot_no {i : Int} {S : List Pr} (h : has i S = false) : spot i S = S.length :=
  List.findIdx_eq_length_of_false fun x hx => by
    have := List.any_eq_false.1 h x hx
    simpa using this
theorem no_id {i : Int} {S : List Pr} (h : has i S = false) {x : Pr} (hx : x ∈ S) : x.pid ≠ i := by
  have := List.any_eq_false.1 h x hx
  simpa using this
theorem has_of {i : Int} {S : List Pr} {x : Pr} (hx : x ∈ S) (h : x.pid = i) : has i S = true := List.any_eq_true.2 ⟨x, hx, by simpa using h⟩
theorem lv_of {i : Int} {S : List Pr} {x : Pr} (hx : x ∈ S) (h : x.pid = i) (hl : x.lives = true) : lv i S = true := List.any_eq_true.2 ⟨x, hx, by rw [hl, Bool.and_true]; simpa using h⟩
theorem lv_is {i : Int} {S : List Pr} (h : lv i S = true) : ∃ x ∈ S, x.pid = i ∧ x.lives = true := by
  obtain ⟨x, hx, h2⟩ := List.any_eq_true.1 h
  rw [Bool.and_eq_true, beq_iff_eq] at h2
  exact ⟨x, hx, h2⟩
theorem lv_has {i : Int} {S : List Pr} (h : lv i S = true) : has i S = true := by
  obtain ⟨x, hx, h1, _⟩ := lv_is h
  exact has_of hx h1
theorem sorted_one {S : List Pr} (h : Sorted S) {x y : Pr} (hx : x ∈ S) (hy : y ∈ S) (e : x.pid = y.pid) : x = y := by
  induction S with
  | nil => cases hx
  | cons z r ih =>
    have hz := List.pairwise_cons.1 h
    rcases List.mem_cons.1 hx with hx1 | hx1
    · rcases List.mem_cons.1 hy with hy1 | hy1
      · rw [hx1, hy1]
      · have := hz.1 y hy1; rw [hx1] at e; omega
    · rcases List.mem_cons.1 hy with hy1 | hy1
      · have := hz.1 x hx1; rw [hy1] at e; omega
      · exact ih hz.2 hx1 hy1
theorem at_mem {i : Int} {S : List Pr} (h : has i S = true) : at_ i S ∈ S ∧ (at_ i S).pid = i := by
  have hl := spot_lt h
  unfold at_
  rw [List.getD_eq_getElem?_getD, List.getElem?_eq_getElem hl]
  exact ⟨List.getElem_mem hl, spot_id hl⟩
theorem lv_at {i : Int} {S : List Pr} (hs : Sorted S) (h : has i S = true) : lv i S = (at_ i S).lives := by
  obtain ⟨h1, h2⟩ := at_mem h
  cases hl : lv i S with
  | true =>
    obtain ⟨x, hx, h3, h4⟩ := lv_is hl
    rw [sorted_one hs h1 hx (by omega), h4]
  | false =>
    cases hq : (at_ i S).lives with
    | false => rfl
    | true => rw [lv_of h1 h2 hq] at hl; cases hl

/-- What is left of one that ends, and of its children. -/
def endF (p c : Int) (x : Pr) : Pr := ⟨x.pid, if x.parent = p then 1 else x.parent, if x.pid = p then false else x.lives, if x.pid = p then c else x.code, x.pd, x.cap, if x.pid = p then 0 else x.cwd⟩
def capF (x : Pr) : Pr := ⟨x.pid, x.parent, x.lives, x.code, x.pd, true, x.cwd⟩
def cwdF (d : Int) (x : Pr) : Pr := ⟨x.pid, x.parent, x.lives, x.code, x.pd, x.cap, d⟩
def forkS (most : Nat) (num : Int) (S : List Pr) (p : Int) (pd : Bool) : List Pr := if lv p S && decide (S.length < most) then S ++ [⟨num, p, true, 0, pd, (at_ p S).cap, (at_ p S).cwd⟩] else S
def forkX (most : Nat) (num : Int) (S : List Pr) (p : Int) : Int := if lv p S && decide (S.length < most) then num + 1 else num
def forkN (most : Nat) (num : Int) (S : List Pr) (p : Int) : Int := if lv p S && decide (S.length < most) then num else 0
def forkE (most : Nat) (S : List Pr) (p : Int) : Int := if lv p S then (if S.length < most then 0 else 35) else 3
def exitS (S : List Pr) (p c : Int) : List Pr := if lv p S && decide (p ≠ 1) then S.map (endF p c) else S
def exitE (S : List Pr) (p : Int) : Int := if lv p S then (if p = 1 then 1 else 0) else 3
def reapS (S : List Pr) (p : Int) : List Pr := if has p S && !(at_ p S).lives then S.filter (fun x => decide (x.pid ≠ p)) else S
def reapN (S : List Pr) (p : Int) : Int := if has p S && !(at_ p S).lives then (at_ p S).code else 0
def reapE (S : List Pr) (p : Int) : Int := if has p S then (if (at_ p S).lives then 35 else 0) else 3
/-- A child that is waited for. -/
def kid (p q : Int) (x : Pr) : Bool := decide (x.parent = p) && !x.pd && (decide (q = 0) || decide (x.pid = q))
def gone (p q : Int) (x : Pr) : Bool := kid p q x && !x.lives
def waitP (S : List Pr) (p q : Int) : Pr := ((S.find? (gone p q)).getD zPr)
def waitS (S : List Pr) (p q : Int) : List Pr := if decide (0 ≤ q) && S.any (gone p q) then S.filter (fun x => decide (x.pid ≠ (waitP S p q).pid)) else S
def waitE (S : List Pr) (p q : Int) : Int := if q < 0 then 22 else if S.any (gone p q) then 0 else if S.any (kid p q) then 35 else 10
def enterS (S : List Pr) (p : Int) : List Pr := if lv p S then S.modify (spot p S) capF else S
def enterE (S : List Pr) (p : Int) : Int := if lv p S then 0 else 3
def moveS (S : List Pr) (p d : Int) : List Pr := if lv p S && decide (1 ≤ d) then S.modify (spot p S) (cwdF d) else S
def moveN (S : List Pr) (p d : Int) : Int := if lv p S && decide (1 ≤ d) then (at_ p S).cwd else 0
def moveE (S : List Pr) (p d : Int) : Int := if lv p S then (if d < 1 then 22 else 0) else 3

/-- What c acts can lead to. -/
structure Ok (c most : Nat) (num : Int) (S : List Pr) : Prop where
  sorted : Sorted S
  below : ∀ x ∈ S, 1 ≤ x.pid ∧ x.pid < num
  num : 2 ≤ num ∧ num ≤ 2 + c
  len : S.length ≤ most
  one : ∃ r x, S = x :: r ∧ x.pid = 1 ∧ x.parent = 0 ∧ x.lives = true
  kin : ∀ x ∈ S, x.pid ≠ 1 → lv x.parent S = true
section
variable {c most : Nat} {num : Int} {S : List Pr}
theorem Ok.new (h : 1 ≤ most) : Ok 0 most 2 [first] := by
  refine ⟨List.pairwise_singleton _ _, fun x hx => ?_, by omega, h, ⟨[], first, rfl, rfl, rfl, rfl⟩, fun x hx hn => ?_⟩
  · rw [List.mem_singleton.1 hx]; exact ⟨by decide, by decide⟩
  · rw [List.mem_singleton.1 hx] at hn; exact absurd rfl hn
theorem Ok.up (h : Ok c most num S) : Ok (c + 1) most num S := ⟨h.sorted, h.below, by have := h.num; omega, h.len, h.one, h.kin⟩
theorem Ok.lv1 (h : Ok c most num S) : lv 1 S = true := by
  obtain ⟨r, x, rfl, h1, _, h3⟩ := h.one
  exact lv_of (by simp) h1 h3
theorem Ok.fork (h : Ok c most num S) (p : Int) (pd : Bool) : Ok (c + 1) most (forkX most num S p) (forkS most num S p pd) := by
  unfold forkX forkS
  by_cases hc : (lv p S && decide (S.length < most)) = true
  · rw [if_pos hc, if_pos hc]
    rw [Bool.and_eq_true, decide_eq_true_iff] at hc
    have hn := h.num
    refine ⟨?_, fun x hx => ?_, by omega, by simp; omega, ?_, fun x hx hn1 => ?_⟩
    · refine List.pairwise_append.2 ⟨h.sorted, List.pairwise_singleton _ _, fun x hx y hy => ?_⟩
      rw [List.mem_singleton.1 hy]
      exact (h.below x hx).2
    · rcases List.mem_append.1 hx with hx | hx
      · have := h.below x hx; omega
      · rw [List.mem_singleton.1 hx]; show 1 ≤ num ∧ num < num + 1; omega
    · obtain ⟨r, x, rfl, h1, h2, h3⟩ := h.one
      exact ⟨_, x, rfl, h1, h2, h3⟩
    · have hm : ∀ i, lv i S = true → lv i (S ++ [⟨num, p, true, 0, pd, (at_ p S).cap, (at_ p S).cwd⟩]) = true := fun i hi => by
        obtain ⟨z, hz, e1, e2⟩ := lv_is hi
        exact lv_of (List.mem_append.2 (.inl hz)) e1 e2
      rcases List.mem_append.1 hx with hx | hx
      · exact hm _ (h.kin x hx hn1)
      · rw [List.mem_singleton.1 hx]; exact hm _ hc.1
  · rw [if_neg hc, if_neg hc]; exact h.up
theorem endF_pid (p c : Int) (x : Pr) : (endF p c x).pid = x.pid := rfl
theorem Ok.exit (h : Ok c most num S) (p d : Int) : Ok (c + 1) most num (exitS S p d) := by
  unfold exitS
  by_cases hc : (lv p S && decide (p ≠ 1)) = true
  · rw [if_pos hc]
    rw [Bool.and_eq_true, decide_eq_true_iff] at hc
    have hn := h.num
    refine ⟨List.pairwise_map.2 h.sorted, fun x hx => ?_, by omega, by rw [List.length_map]; exact h.len, ?_, fun x hx hn1 => ?_⟩
    · obtain ⟨y, hy, rfl⟩ := List.mem_map.1 hx
      exact h.below y hy
    · obtain ⟨r, x, rfl, h1, h2, h3⟩ := h.one
      refine ⟨_, endF p d x, rfl, h1, ?_, ?_⟩
      · show (if x.parent = p then 1 else x.parent) = 0
        rw [if_neg, h2]
        rw [h2]
        obtain ⟨z, hz, e1, _⟩ := lv_is hc.1
        have := h.below z hz
        omega
      · show (if x.pid = p then false else x.lives) = true
        rw [if_neg (by omega), h3]
    · obtain ⟨y, hy, rfl⟩ := List.mem_map.1 hx
      have hm : ∀ i, i ≠ p → lv i S = true → lv i (S.map (endF p d)) = true := fun i hi hl => by
        obtain ⟨z, hz, e1, e2⟩ := lv_is hl
        refine lv_of (List.mem_map.2 ⟨z, hz, rfl⟩) e1 ?_
        show (if z.pid = p then false else z.lives) = true
        rw [if_neg (by omega), e2]
      show lv (if y.parent = p then 1 else y.parent) _ = true
      by_cases hp : y.parent = p
      · rw [if_pos hp]; exact hm 1 (fun e => hc.2 e.symm) h.lv1
      · rw [if_neg hp]; exact hm _ hp (h.kin y hy hn1)
  · rw [if_neg hc]; exact h.up
/-- One that does not live taken out. -/
theorem Ok.out (h : Ok c most num S) {p : Int} (hp : lv p S = false) : Ok (c + 1) most num (S.filter fun x => decide (x.pid ≠ p)) := by
  have hn := h.num
  have hl1 := h.lv1
  have hp1 : p ≠ 1 := fun e => by rw [e, hl1] at hp; cases hp
  refine ⟨h.sorted.filter _, fun x hx => h.below x (List.mem_filter.1 hx).1, by omega, Nat.le_trans (List.length_filter_le _ _) h.len, ?_, fun x hx hn1 => ?_⟩
  · obtain ⟨r, x, rfl, h1, h2, h3⟩ := h.one
    refine ⟨_, x, List.filter_cons_of_pos (by simp; omega), h1, h2, h3⟩
  · obtain ⟨z, hz, e1, e2⟩ := lv_is (h.kin x (List.mem_filter.1 hx).1 hn1)
    refine lv_of (List.mem_filter.2 ⟨hz, ?_⟩) e1 e2
    refine decide_eq_true fun e => ?_
    rw [lv_of hz e e2] at hp
    cases hp
theorem Ok.reap (h : Ok c most num S) (p : Int) : Ok (c + 1) most num (reapS S p) := by
  unfold reapS
  by_cases hc : (has p S && !(at_ p S).lives) = true
  · rw [if_pos hc]
    rw [Bool.and_eq_true] at hc
    exact h.out (by rw [lv_at h.sorted hc.1]; simpa using hc.2)
  · rw [if_neg hc]; exact h.up
theorem wait_mem {p q : Int} (h : S.any (gone p q) = true) : waitP S p q ∈ S ∧ gone p q (waitP S p q) = true := by
  unfold waitP
  cases hf : S.find? (gone p q) with
  | none =>
    obtain ⟨x, hx, h2⟩ := List.any_eq_true.1 h
    have := List.find?_eq_none.1 hf x hx
    rw [h2] at this
    exact absurd rfl this
  | some x => exact ⟨List.mem_of_find?_eq_some hf, List.find?_some hf⟩
theorem Ok.wait (h : Ok c most num S) (p q : Int) : Ok (c + 1) most num (waitS S p q) := by
  unfold waitS
  by_cases hc : (decide (0 ≤ q) && S.any (gone p q)) = true
  · rw [if_pos hc]
    rw [Bool.and_eq_true] at hc
    obtain ⟨h1, h2⟩ := wait_mem hc.2
    refine h.out ?_
    cases hl : lv (waitP S p q).pid S with
    | false => rfl
    | true =>
      obtain ⟨z, hz, e1, e2⟩ := lv_is hl
      obtain rfl := sorted_one h.sorted hz h1 e1
      unfold gone at h2
      rw [e2] at h2
      simp at h2
  · rw [if_neg hc]; exact h.up
/-- One turned in its place, but for its number, parent and life. -/
theorem Ok.turn (h : Ok c most num S) (k : Nat) {f : Pr → Pr} (hf : ∀ x, (f x).pid = x.pid ∧ (f x).parent = x.parent ∧ (f x).lives = x.lives) : Ok (c + 1) most num (S.modify k f) := by
  have hn := h.num
  have key : ∀ x ∈ S.modify k f, ∃ y ∈ S, x.pid = y.pid ∧ x.parent = y.parent ∧ x.lives = y.lives := fun x hx => by
    obtain ⟨i, hi, rfl⟩ := List.mem_iff_getElem.1 hx
    rw [List.length_modify] at hi
    rw [List.getElem_modify]
    split
    · exact ⟨S[i], List.getElem_mem hi, hf _⟩
    · exact ⟨S[i], List.getElem_mem hi, rfl, rfl, rfl⟩
  have hlv : ∀ i, lv i S = true → lv i (S.modify k f) = true := fun i hi => by
    obtain ⟨z, hz, e1, e2⟩ := lv_is hi
    obtain ⟨j, hj, rfl⟩ := List.mem_iff_getElem.1 hz
    have hj' : j < (S.modify k f).length := by rw [List.length_modify]; exact hj
    refine lv_of (List.getElem_mem hj') ?_ ?_
    · rw [List.getElem_modify]; split
      · rw [(hf _).1]; exact e1
      · exact e1
    · rw [List.getElem_modify]; split
      · rw [(hf _).2.2]; exact e2
      · exact e2
  refine ⟨?_, fun x hx => ?_, by omega, by rw [List.length_modify]; exact h.len, ?_, fun x hx hn1 => ?_⟩
  · refine List.pairwise_iff_getElem.2 fun i j hi hj hij => ?_
    rw [List.length_modify] at hi hj
    have hs := List.pairwise_iff_getElem.1 h.sorted i j hi hj hij
    have e : ∀ (t : Nat) (ht : t < S.length), ((S.modify k f)[t]'(by rw [List.length_modify]; exact ht)).pid = S[t].pid := fun t ht => by
      rw [List.getElem_modify]; split
      · exact (hf _).1
      · rfl
    rw [e i hi, e j hj]
    exact hs
  · obtain ⟨y, hy, e1, _⟩ := key x hx
    have := h.below y hy
    omega
  · obtain ⟨r, x, rfl, h1, h2, h3⟩ := h.one
    cases k with
    | zero => exact ⟨r, f x, rfl, by rw [(hf x).1, h1], by rw [(hf x).2.1, h2], by rw [(hf x).2.2, h3]⟩
    | succ k => exact ⟨_, x, rfl, h1, h2, h3⟩
  · obtain ⟨y, hy, e1, e2, _⟩ := key x hx
    rw [e2]
    exact hlv _ (h.kin y hy (by omega))
theorem Ok.enter (h : Ok c most num S) (p : Int) : Ok (c + 1) most num (enterS S p) := by
  unfold enterS
  split
  · exact h.turn _ fun x => ⟨rfl, rfl, rfl⟩
  · exact h.up
theorem Ok.move (h : Ok c most num S) (p d : Int) : Ok (c + 1) most num (moveS S p d) := by
  unfold moveS
  split
  · exact h.turn _ fun x => ⟨rfl, rfl, rfl⟩
  · exact h.up
/-- Who is in capability mode stays so. -/
def Stay (S S' : List Pr) : Prop := ∀ x ∈ S, ∀ y ∈ S', x.pid = y.pid → x.cap = true → y.cap = true
theorem stay_self (hs : Sorted S) : Stay S S := fun x hx y hy e h => by rw [← sorted_one hs hx hy e]; exact h
theorem stay_filter (hs : Sorted S) (f : Pr → Bool) : Stay S (S.filter f) := fun x hx y hy e h => stay_self hs x hx y (List.mem_filter.1 hy).1 e h
theorem stay_fork (h : Ok c most num S) (p : Int) (pd : Bool) : Stay S (forkS most num S p pd) := by
  unfold forkS
  split
  · intro x hx y hy e hc
    rcases List.mem_append.1 hy with hy | hy
    · exact stay_self h.sorted x hx y hy e hc
    · rw [List.mem_singleton.1 hy] at e
      have := (h.below x hx).2
      have e' : x.pid = num := e
      omega
  · exact stay_self h.sorted
theorem stay_exit (h : Ok c most num S) (p d : Int) : Stay S (exitS S p d) := by
  unfold exitS
  split
  · intro x hx y hy e hc
    obtain ⟨z, hz, rfl⟩ := List.mem_map.1 hy
    exact stay_self h.sorted x hx z hz e hc
  · exact stay_self h.sorted
theorem stay_reap (h : Ok c most num S) (p : Int) : Stay S (reapS S p) := by
  unfold reapS
  split
  · exact stay_filter h.sorted _
  · exact stay_self h.sorted
theorem stay_wait (h : Ok c most num S) (p q : Int) : Stay S (waitS S p q) := by
  unfold waitS
  split
  · exact stay_filter h.sorted _
  · exact stay_self h.sorted
theorem stay_turn (h : Ok c most num S) (k : Nat) {f : Pr → Pr} (hf : ∀ x, (f x).pid = x.pid) (hc : ∀ x, x.cap = true → (f x).cap = true) : Stay S (S.modify k f) := fun x hx y hy e h1 => by
  obtain ⟨i, hi, rfl⟩ := List.mem_iff_getElem.1 hy
  rw [List.length_modify] at hi
  rw [List.getElem_modify] at e ⊢
  split
  · rename_i hk
    rw [if_pos hk, hf] at e
    exact hc _ (stay_self h.sorted x hx _ (List.getElem_mem hi) e h1)
  · rename_i hk
    rw [if_neg hk] at e
    exact stay_self h.sorted x hx _ (List.getElem_mem hi) e h1
theorem stay_enter (h : Ok c most num S) (p : Int) : Stay S (enterS S p) := by
  unfold enterS
  split
  · exact stay_turn h _ (fun _ => rfl) fun _ _ => rfl
  · exact stay_self h.sorted
theorem stay_move (h : Ok c most num S) (p d : Int) : Stay S (moveS S p d) := by
  unfold moveS
  split
  · exact stay_turn h _ (fun _ => rfl) fun _ hc => hc
  · exact stay_self h.sorted
end

end Go.Proofs.Ythmefiegoagkjaa.Y
