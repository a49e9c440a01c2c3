/- The mathematics of whitelists: rising lists, sets of numbers as rising lists, their texts. No program. -/
import Derived.Lib.ItoaNum
import Derived.Lib.Join
import Derived.Lib.SlicesCompact
namespace Go.Proofs.YthicbobddopcpaaDoor
open Go

def riseB : Int → List Int → Bool
  | _, [] => true
  | last, x :: r => !decide (x ≤ last) && riseB x r
def canB (all : Bool) (l : List Int) : Bool := if all then decide (l.length = 0) else decide (l.length ≤ 32) && riseB (-1) l
def hasB (all : Bool) (l : List Int) (x : Int) : Bool := if all then decide (0 ≤ x) else l.contains x
def hasF (all : Bool) (l : List Int) (x : Int) : Bool := canB all l && hasB all l x
def subB (a : Bool) (la : List Int) (b : Bool) (lb : List Int) : Bool := canB a la && canB b lb && (if a then b else la.all (hasB b lb))
def andA (a : Bool) (la : List Int) (b : Bool) (lb : List Int) : Bool := canB a la && canB b lb && (a && b)
def andL (a : Bool) (la : List Int) (b : Bool) (lb : List Int) : List Int := if canB a la && canB b lb then (if a then lb else la.filter (hasB b lb)) else []

theorem riseB_iff : ∀ (l : List Int) (last : Int), riseB last l = true ↔ (∀ x ∈ l, last < x) ∧ l.Pairwise (· < ·)
  | [], _ => by simp [riseB]
  | x :: r, last => by
    simp only [riseB, Bool.and_eq_true, Bool.not_eq_true', decide_eq_false_iff_not, riseB_iff r x, List.mem_cons, List.pairwise_cons]
    constructor
    · rintro ⟨h, h1, h2⟩
      refine ⟨?_, h1, h2⟩
      rintro y (rfl | hy)
      · omega
      · have := h1 y hy; omega
    · rintro ⟨h, h1, h2⟩
      exact ⟨by have := h x (.inl rfl); omega, h1, h2⟩

theorem canB_rise {l : List Int} (h : canB false l = true) : l.length ≤ 32 ∧ (∀ x ∈ l, 0 ≤ x) ∧ l.Pairwise (· < ·) := by
  simp only [canB, Bool.false_eq_true, if_false, Bool.and_eq_true, decide_eq_true_eq, riseB_iff] at h
  exact ⟨h.1, fun x hx => by have := h.2.1 x hx; omega, h.2.2⟩
theorem canB_of {l : List Int} (h : l.length ≤ 32) (h0 : ∀ x ∈ l, 0 ≤ x) (h1 : l.Pairwise (· < ·)) : canB false l = true := by
  simp only [canB, Bool.false_eq_true, if_false, Bool.and_eq_true, decide_eq_true_eq, riseB_iff]
  exact ⟨h, fun x hx => by have := h0 x hx; omega, h1⟩
theorem canB_all {l : List Int} (h : canB true l = true) : l = [] := by simpa [canB] using h
theorem canB_nil (a : Bool) : canB a [] = true := by cases a <;> rfl

/-- A number, put into a rising list where it is not yet. -/
def cntB (x : Int) (s : List Int) : Nat := (s.takeWhile (fun y => decide (y < x))).length
def insU (s : List Int) (x : Int) : List Int := if s.contains x then s else s.take (cntB x s) ++ x :: s.drop (cntB x s)
def srt (l : List Int) : List Int := l.foldl insU []

theorem take_cnt (x : Int) (s : List Int) : s.take (cntB x s) = s.takeWhile (fun y => decide (y < x)) := by
  unfold cntB
  induction s with
  | nil => rfl
  | cons y r ih =>
    by_cases h : y < x
    · simp [h, ih]
    · simp [h]
theorem drop_cnt (x : Int) (s : List Int) : s.drop (cntB x s) = s.dropWhile (fun y => decide (y < x)) := by
  unfold cntB
  induction s with
  | nil => rfl
  | cons y r ih =>
    by_cases h : y < x
    · simp [h, ih]
    · simp [h]
theorem cnt_le (x : Int) (s : List Int) : cntB x s ≤ s.length := (List.takeWhile_prefix _).length_le

theorem mem_insU {s : List Int} {x y : Int} : y ∈ insU s x ↔ y = x ∨ y ∈ s := by
  unfold insU
  split
  · rename_i h
    have hx : x ∈ s := by simpa using h
    constructor
    · exact .inr
    · rintro (rfl | h)
      · exact hx
      · exact h
  · conv => rhs; rw [← List.take_append_drop (cntB x s) s]
    simp only [List.mem_append, List.mem_cons]
    constructor
    · rintro (h | h | h)
      · exact .inr (.inl h)
      · exact .inl h
      · exact .inr (.inr h)
    · rintro (h | h | h)
      · exact .inr (.inl h)
      · exact .inl h
      · exact .inr (.inr h)

theorem dropWhile_ge {x : Int} : ∀ {s : List Int}, s.Pairwise (· < ·) → ∀ y ∈ s.dropWhile (fun y => decide (y < x)), x ≤ y
  | [], _, y, h => by simp at h
  | z :: r, hp, y, h => by
    have hp' := List.pairwise_cons.1 hp
    by_cases hz : z < x
    · rw [List.dropWhile_cons, if_pos (by simpa using hz)] at h
      exact dropWhile_ge hp'.2 y h
    · rw [List.dropWhile_cons, if_neg (by simpa using hz)] at h
      rcases List.mem_cons.1 h with rfl | h
      · omega
      · have := hp'.1 y h; omega

theorem takeWhile_lt {x : Int} : ∀ {s : List Int}, ∀ y ∈ s.takeWhile (fun y => decide (y < x)), y < x
  | [], y, h => by simp at h
  | z :: r, y, h => by
    by_cases hz : z < x
    · rw [List.takeWhile_cons, if_pos (by simpa using hz)] at h
      rcases List.mem_cons.1 h with rfl | h
      · exact hz
      · exact takeWhile_lt y h
    · rw [List.takeWhile_cons, if_neg (by simpa using hz)] at h
      simp at h

theorem insU_rises {s : List Int} {x : Int} (h : s.Pairwise (· < ·)) : (insU s x).Pairwise (· < ·) := by
  unfold insU
  split
  · exact h
  · rename_i hx
    have hx' : x ∉ s := by simpa using hx
    have hd : ∀ y ∈ s.drop (cntB x s), x < y := fun y hy => by
      have h1 := dropWhile_ge h y (by rwa [drop_cnt] at hy)
      have h2 : y ≠ x := fun e => hx' (e ▸ List.mem_of_mem_drop hy)
      omega
    have ht : ∀ y ∈ s.take (cntB x s), y < x := fun y hy => takeWhile_lt y (by rwa [take_cnt] at hy)
    rw [List.pairwise_append]
    refine ⟨h.sublist (List.take_sublist _ _), List.pairwise_cons.2 ⟨hd, h.sublist (List.drop_sublist _ _)⟩, fun y hy z hz => ?_⟩
    have h1 := ht y hy
    rcases List.mem_cons.1 hz with rfl | hz
    · exact h1
    · have := hd z hz; omega

theorem insU_len (s : List Int) (x : Int) : s.length ≤ (insU s x).length := by
  unfold insU
  split
  · exact Nat.le_refl _
  · simp only [List.length_append, List.length_cons, List.length_take, List.length_drop]; omega
theorem insU_len_le (s : List Int) (x : Int) : (insU s x).length ≤ s.length + 1 := by
  unfold insU
  split
  · omega
  · have := cnt_le x s
    simp only [List.length_append, List.length_cons, List.length_take, List.length_drop]; omega

theorem fold_rises : ∀ (l s : List Int), s.Pairwise (· < ·) → (l.foldl insU s).Pairwise (· < ·)
  | [], _, h => h
  | _ :: r, _, h => fold_rises r _ (insU_rises h)
theorem fold_mem : ∀ (l s : List Int) (y : Int), y ∈ l.foldl insU s ↔ y ∈ l ∨ y ∈ s
  | [], s, y => by simp
  | x :: r, s, y => by
    simp only [List.foldl_cons, fold_mem r, mem_insU, List.mem_cons]
    constructor
    · rintro (h | h | h)
      · exact .inl (.inr h)
      · exact .inl (.inl h)
      · exact .inr h
    · rintro ((h | h) | h)
      · exact .inr (.inl h)
      · exact .inl h
      · exact .inr (.inr h)
theorem fold_len : ∀ (l s : List Int), s.length ≤ (l.foldl insU s).length
  | [], _ => Nat.le_refl _
  | x :: r, s => Nat.le_trans (insU_len s x) (fold_len r _)

theorem srt_rises (l : List Int) : (srt l).Pairwise (· < ·) := fold_rises l [] .nil
theorem mem_srt {l : List Int} {y : Int} : y ∈ srt l ↔ y ∈ l := by unfold srt; rw [fold_mem]; simp
theorem srt_take_succ (l : List Int) (k : Nat) (h : k < l.length) : srt (l.take (k + 1)) = insU (srt (l.take k)) l[k] := by
  unfold srt
  rw [List.take_add_one, List.foldl_append]
  simp [h]
theorem srt_take_len (l : List Int) (k : Nat) : (srt (l.take k)).length ≤ (srt l).length := by
  unfold srt
  conv => rhs; rw [← List.take_append_drop k l, List.foldl_append]
  exact fold_len _ _

theorem can_srt {l : List Int} : canB false (srt l) = true ↔ (∀ x ∈ l, 0 ≤ x) ∧ (srt l).length ≤ 32 :=
  ⟨fun h => ⟨fun x hx => (canB_rise h).2.1 x (mem_srt.2 hx), (canB_rise h).1⟩, fun h => canB_of h.2 (fun x hx => h.1 x (mem_srt.1 hx)) (srt_rises l)⟩

theorem rises_unique : ∀ {a b : List Int}, a.Pairwise (· < ·) → b.Pairwise (· < ·) → (∀ x, x ∈ a ↔ x ∈ b) → a = b
  | [], [], _, _, _ => rfl
  | [], y :: r, _, _, h => absurd ((h y).2 (by simp)) (by simp)
  | x :: r, [], _, _, h => absurd ((h x).1 (by simp)) (by simp)
  | x :: r, y :: t, ha, hb, h => by
    have ha' := List.pairwise_cons.1 ha
    have hb' := List.pairwise_cons.1 hb
    have hxy : x = y := by
      rcases List.mem_cons.1 ((h x).1 (by simp)) with e | e
      · exact e
      · rcases List.mem_cons.1 ((h y).2 (by simp)) with e2 | e2
        · exact e2.symm
        · have h1 := hb'.1 x e
          have h2 := ha'.1 y e2
          omega
    subst hxy
    congr 1
    refine rises_unique ha'.2 hb'.2 fun z => ⟨fun hz => ?_, fun hz => ?_⟩
    · rcases List.mem_cons.1 ((h z).1 (List.mem_cons_of_mem _ hz)) with e | e
      · have := ha'.1 z hz; omega
      · exact e
    · rcases List.mem_cons.1 ((h z).2 (List.mem_cons_of_mem _ hz)) with e | e
      · have := hb'.1 z hz; omega
      · exact e

theorem compactUpTo_rises (d : Array Int) (hs : ∀ i j, i ≤ j → j < d.size → d[i]! ≤ d[j]!) : ∀ m, m ≤ d.size →
    (Lib.compactUpTo d m).Pairwise (· < ·) ∧ (∀ x, x ∈ Lib.compactUpTo d m ↔ ∃ j, j < m ∧ d[j]! = x)
  | 0, _ => by simp [Lib.compactUpTo]
  | m + 1, hm => by
    obtain ⟨h1, h2⟩ := compactUpTo_rises d hs m (by omega)
    rw [Lib.compactUpTo_succ]
    by_cases hk : Lib.keeps d m = true
    · rw [if_pos hk]
      refine ⟨List.pairwise_append.2 ⟨h1, by simp, fun a ha b hb => ?_⟩, fun x => ?_⟩
      · obtain rfl : b = d[m]! := by simpa using hb
        obtain ⟨j, hj, rfl⟩ := (h2 a).1 ha
        have hle := hs j (m - 1) (by omega) (by omega)
        have hle2 := hs (m - 1) m (by omega) (by omega)
        have hne : d[m]! ≠ d[m - 1]! := by
          have : m = 0 ∨ d[m]! ≠ d[m - 1]! := by simpa [Lib.keeps] using hk
          exact this.resolve_left (by omega)
        omega
      · simp only [List.mem_append, h2, List.mem_singleton]
        constructor
        · rintro (⟨j, hj, e⟩ | e)
          · exact ⟨j, by omega, e⟩
          · exact ⟨m, by omega, e.symm⟩
        · rintro ⟨j, hj, e⟩
          by_cases hjm : j = m
          · subst hjm; exact .inr e.symm
          · exact .inl ⟨j, by omega, e⟩
    · rw [if_neg hk, List.append_nil]
      have hk' : ¬ (m = 0 ∨ d[m]! ≠ d[m - 1]!) := by simpa [Lib.keeps] using hk
      have hm0 : m ≠ 0 := fun e => hk' (.inl e)
      have he : d[m]! = d[m - 1]! := Decidable.byContradiction fun e => hk' (.inr e)
      refine ⟨h1, fun x => ?_⟩
      rw [h2]
      constructor
      · rintro ⟨j, hj, e⟩; exact ⟨j, by omega, e⟩
      · rintro ⟨j, hj, e⟩
        by_cases hjm : j = m
        · subst hjm; exact ⟨j - 1, by omega, he ▸ e⟩
        · exact ⟨j, by omega, e⟩

/-- Sorted and cut is the rising list of the same numbers. -/
theorem compact_sort (l : List Int) : Lib.compact (l.mergeSort fun x y => decide (x ≤ y)) = srt l := by
  have hp : (l.mergeSort fun x y => decide (x ≤ y)).Pairwise (· ≤ ·) := by
    have := List.pairwise_mergeSort (le := fun x y => decide (x ≤ y)) (fun a b c h1 h2 => by simp at *; omega) (fun a b => by simp; omega) l
    simpa using this
  have hm : ∀ x, x ∈ (l.mergeSort fun x y => decide (x ≤ y)) ↔ x ∈ l := fun x => (List.mergeSort_perm l _).mem_iff
  generalize (l.mergeSort fun x y => decide (x ≤ y)) = s at hp hm
  have hs : ∀ i j, i ≤ j → j < s.toArray.size → s.toArray[i]! ≤ s.toArray[j]! := fun i j hij hj => by
    have hj' : j < s.length := by simpa using hj
    rw [getElem!_pos s.toArray i (by simp; omega), getElem!_pos s.toArray j hj]
    simp only [List.getElem_toArray]
    by_cases e : i = j
    · subst e; exact Int.le_refl _
    · exact List.pairwise_iff_getElem.1 hp i j (by omega) hj' (by omega)
  obtain ⟨h1, h2⟩ := compactUpTo_rises s.toArray hs s.length (by simp)
  refine rises_unique h1 (srt_rises l) fun x => ?_
  rw [mem_srt, ← hm]
  show x ∈ Lib.compactUpTo s.toArray s.length ↔ _
  rw [h2]
  constructor
  · rintro ⟨j, hj, e⟩
    rw [getElem!_pos s.toArray j (by simpa using hj)] at e
    rw [← e]; simp
  · intro hx
    obtain ⟨j, hj, e⟩ := List.getElem_of_mem hx
    exact ⟨j, hj, by rw [getElem!_pos s.toArray j (by simpa using hj)]; simpa using e⟩

theorem srt_len (l : List Int) : (srt l).length ≤ l.length := by
  rw [← compact_sort]
  have : (Lib.compact (l.mergeSort fun x y => decide (x ≤ y))).length ≤ (l.mergeSort fun x y => decide (x ≤ y)).length := by
    unfold Lib.compact Lib.compactUpTo
    rw [List.length_map]
    exact Nat.le_trans (List.length_filter_le _ _) (by simp)
  simpa using this

end Go.Proofs.YthicbobddopcpaaDoor
