/- The mathematics of whitelists: rising lists, sets of numbers as rising lists, their texts. No program. -/
import Derived.Lib.ItoaNum
import Derived.Lib.Join
import Derived.Lib.SlicesCompact
import Derived.Test.YtmccfcllehfebaaProg
import Derived.WalkKit
import Derived.WalkLawsBesides
import Derived.WalkSpells
import Derived.Laws.Rows
import Derived.BigQuiet
import Derived.Deep.QuietTactic
import Derived.RangeFuncRecord
import Derived.Laws.ResultCell
import Derived.Laws.AppendOwn
namespace Go.Proofs.Ytmccfcllehfebaa.W
open Go

def riseB : Int → List Int → Bool
  | _, [] => true
  | last, x :: r => !decide (x ≤ last) && riseB x r
def canB (all : Bool) (l : List Int) : Bool := if all then decide (l.length = 0) else decide (l.length ≤ 32) && riseB (-1) l
def hasB (all : Bool) (l : List Int) (x : Int) : Bool := if all then decide (0 ≤ x) else l.contains x
def hasF (all : Bool) (l : List Int) (x : Int) : Bool := canB all l && hasB all l x
def subB (a : Bool) (la : List Int) (b : Bool) (lb : List Int) : Bool := canB a la && canB b lb && (if a then b else la.all (hasB b lb))
def andA (a : Bool) (la : List Int) (b : Bool) (lb : List Int) : Bool := canB a la && canB b lb && (a && b)
def andL (a : Bool) (la : List Int) (b : Bool) (lb : List Int) : List Int := if canB a la && canB b lb then (if a then lb else la.filter (hasB b lb)) else []

theorem riseB_iff : ∀ (l : List Int) (last : Int), riseB last l = true ↔ (∀ x ∈ l, last < x) ∧ l.Pairwise (· < ·)
  | [], _ => by simp [riseB]
  | x :: r, last => by
    simp only [riseB, Bool.and_eq_true, Bool.not_eq_true', decide_eq_false_iff_not, riseB_iff r x, List.mem_cons, List.pairwise_cons]
    constructor
    · rintro ⟨h, h1, h2⟩
      refine ⟨?_, h1, h2⟩
      rintro y (rfl | hy)
      · omega
      · have := h1 y hy; omega
    · rintro ⟨h, h1, h2⟩
      exact ⟨by have := h x (.inl rfl); omega, h1, h2⟩

theorem canB_rise {l : List Int} (h : canB false l = true) : l.length ≤ 32 ∧ (∀ x ∈ l, 0 ≤ x) ∧ l.Pairwise (· < ·) := by
  simp only [canB, Bool.false_eq_true, if_false, Bool.and_eq_true, decide_eq_true_eq, riseB_iff] at h
  exact ⟨h.1, fun x hx => by have := h.2.1 x hx; omega, h.2.2⟩
theorem canB_of {l : List Int} (h : l.length ≤ 32) (h0 : ∀ x ∈ l, 0 ≤ x) (h1 : l.Pairwise (· < ·)) : canB false l = true := by
  simp only [canB, Bool.false_eq_true, if_false, Bool.and_eq_true, decide_eq_true_eq, riseB_iff]
  exact ⟨h, fun x hx => by have := h0 x hx; omega, h1⟩
theorem canB_all {l : List Int} (h : canB true l = true) : l = [] := by simpa [canB] using h
theorem canB_nil (a : Bool) : canB a [] = true := by cases a <;> rfl

/-- A number, put into a rising list where it is not yet. -/
def cntB (x : Int) (s : List Int) : Nat := (s.takeWhile (fun y => decide (y < x))).length
def insU (s : List Int) (x : Int) : List Int := if s.contains x then s else s.take (cntB x s) ++ x :: s.drop (cntB x s)
def srt (l : List Int) : List Int := l.foldl insU []

theorem take_cnt (x : Int) (s : List Int) : s.take (cntB x s) = s.takeWhile (fun y => decide (y < x)) := by
  unfold cntB
  induction s with
  | nil => rfl
  | cons y r ih =>
    by_cases h : y < x
    · simp [h, ih]
    · simp [h]
theorem drop_cnt (x : Int) (s : List Int) : s.drop (cntB x s) = s.dropWhile (fun y => decide (y < x)) := by
  unfold cntB
  induction s with
  | nil => rfl
  | cons y r ih =>
    by_cases h : y < x
    · simp [h, ih]
    · simp [h]
theorem cnt_le (x : Int) (s : List Int) : cntB x s ≤ s.length := (List.takeWhile_prefix _).length_le

theorem mem_insU {s : List Int} {x y : Int} : y ∈ insU s x ↔ y = x ∨ y ∈ s := by
  unfold insU
  split
  · rename_i h
    have hx : x ∈ s := by simpa using h
    constructor
    · exact .inr
    · rintro (rfl | h)
      · exact hx
      · exact h
  · conv => rhs; rw [← List.take_append_drop (cntB x s) s]
    simp only [List.mem_append, List.mem_cons]
    constructor
    · rintro (h | h | h)
      · exact .inr (.inl h)
      · exact .inl h
      · exact .inr (.inr h)
    · rintro (h | h | h)
      · exact .inr (.inl h)
      · exact .inl h
      · exact .inr (.inr h)

theorem dropWhile_ge {x : Int} : ∀ {s : List Int}, s.Pairwise (· < ·) → ∀ y ∈ s.dropWhile (fun y => decide (y < x)), x ≤ y
  | [], _, y, h => by simp at h
  | z :: r, hp, y, h => by
    have hp' := List.pairwise_cons.1 hp
    by_cases hz : z < x
    · rw [List.dropWhile_cons, if_pos (by simpa using hz)] at h
      exact dropWhile_ge hp'.2 y h
    · rw [List.dropWhile_cons, if_neg (by simpa using hz)] at h
      rcases List.mem_cons.1 h with rfl | h
      · omega
      · have := hp'.1 y h; omega

theorem takeWhile_lt {x : Int} : ∀ {s : List Int}, ∀ y ∈ s.takeWhile (fun y => decide (y < x)), y < x
  | [], y, h => by simp at h
  | z :: r, y, h => by
    by_cases hz : z < x
    · rw [List.takeWhile_cons, if_pos (by simpa using hz)] at h
      rcases List.mem_cons.1 h with rfl | h
      · exact hz
      · exact takeWhile_lt y h
    · rw [List.takeWhile_cons, if_neg (by simpa using hz)] at h
      simp at h

theorem insU_rises {s : List Int} {x : Int} (h : s.Pairwise (· < ·)) : (insU s x).Pairwise (· < ·) := by
  unfold insU
  split
  · exact h
  · rename_i hx
    have hx' : x ∉ s := by simpa using hx
    have hd : ∀ y ∈ s.drop (cntB x s), x < y := fun y hy => by
      have h1 := dropWhile_ge h y (by rwa [drop_cnt] at hy)
      have h2 : y ≠ x := fun e => hx' (e ▸ List.mem_of_mem_drop hy)
      omega
    have ht : ∀ y ∈ s.take (cntB x s), y < x := fun y hy => takeWhile_lt y (by rwa [take_cnt] at hy)
    rw [List.pairwise_append]
    refine ⟨h.sublist (List.take_sublist _ _), List.pairwise_cons.2 ⟨hd, h.sublist (List.drop_sublist _ _)⟩, fun y hy z hz => ?_⟩
    have h1 := ht y hy
    rcases List.mem_cons.1 hz with rfl | hz
    · exact h1
    · have := hd z hz; omega

theorem insU_len (s : List Int) (x : Int) : s.length ≤ (insU s x).length := by
  unfold insU
  split
  · exact Nat.le_refl _
  · simp only [List.length_append, List.length_cons, List.length_take, List.length_drop]; omega
theorem insU_len_le (s : List Int) (x : Int) : (insU s x).length ≤ s.length + 1 := by
  unfold insU
  split
  · omega
  · have := cnt_le x s
    simp only [List.length_append, List.length_cons, List.length_take, List.length_drop]; omega

theorem fold_rises : ∀ (l s : List Int), s.Pairwise (· < ·) → (l.foldl insU s).Pairwise (· < ·)
  | [], _, h => h
  | _ :: r, _, h => fold_rises r _ (insU_rises h)
theorem fold_mem : ∀ (l s : List Int) (y : Int), y ∈ l.foldl insU s ↔ y ∈ l ∨ y ∈ s
  | [], s, y => by simp
  | x :: r, s, y => by
    simp only [List.foldl_cons, fold_mem r, mem_insU, List.mem_cons]
    constructor
    · rintro (h | h | h)
      · exact .inl (.inr h)
      · exact .inl (.inl h)
      · exact .inr h
    · rintro ((h | h) | h)
      · exact .inr (.inl h)
      · exact .inl h
      · exact .inr (.inr h)
theorem fold_len : ∀ (l s : List Int), s.length ≤ (l.foldl insU s).length
  | [], _ => Nat.le_refl _
  | x :: r, s => Nat.le_trans (insU_len s x) (fold_len r _)

theorem srt_rises (l : List Int) : (srt l).Pairwise (· < ·) := fold_rises l [] .nil
theorem mem_srt {l : List Int} {y : Int} : y ∈ srt l ↔ y ∈ l := by unfold srt; rw [fold_mem]; simp
theorem srt_take_succ (l : List Int) (k : Nat) (h : k < l.length) : srt (l.take (k + 1)) = insU (srt (l.take k)) l[k] := by
  unfold srt
  rw [List.take_add_one, List.foldl_append]
  simp [h]
theorem srt_take_len (l : List Int) (k : Nat) : (srt (l.take k)).length ≤ (srt l).length := by
  unfold srt
  conv => rhs; rw [← List.take_append_drop k l, List.foldl_append]
  exact fold_len _ _

theorem can_srt {l : List Int} : canB false (srt l) = true ↔ (∀ x ∈ l, 0 ≤ x) ∧ (srt l).length ≤ 32 :=
  ⟨fun h => ⟨fun x hx => (canB_rise h).2.1 x (mem_srt.2 hx), (canB_rise h).1⟩, fun h => canB_of h.2 (fun x hx => h.1 x (mem_srt.1 hx)) (srt_rises l)⟩

theorem rises_unique : ∀ {a b : List Int}, a.Pairwise (· < ·) → b.Pairwise (· < ·) → (∀ x, x ∈ a ↔ x ∈ b) → a = b
  | [], [], _, _, _ => rfl
  | [], y :: r, _, _, h => absurd ((h y).2 (by simp)) (by simp)
  | x :: r, [], _, _, h => absurd ((h x).1 (by simp)) (by simp)
  | x :: r, y :: t, ha, hb, h => by
    have ha' := List.pairwise_cons.1 ha
    have hb' := List.pairwise_cons.1 hb
    have hxy : x = y := by
      rcases List.mem_cons.1 ((h x).1 (by simp)) with e | e
      · exact e
      · rcases List.mem_cons.1 ((h y).2 (by simp)) with e2 | e2
        · exact e2.symm
        · have h1 := hb'.1 x e
          have h2 := ha'.1 y e2
          omega
    subst hxy
    congr 1
    refine rises_unique ha'.2 hb'.2 fun z => ⟨fun hz => ?_, fun hz => ?_⟩
    · rcases List.mem_cons.1 ((h z).1 (List.mem_cons_of_mem _ hz)) with e | e
      · have := ha'.1 z hz; omega
      · exact e
    · rcases List.mem_cons.1 ((h z).2 (List.mem_cons_of_mem _ hz)) with e | e
      · have := hb'.1 z hz; omega
      · exact e

theorem compactUpTo_rises (d : Array Int) (hs : ∀ i j, i ≤ j → j < d.size → d[i]! ≤ d[j]!) : ∀ m, m ≤ d.size →
    (Lib.compactUpTo d m).Pairwise (· < ·) ∧ (∀ x, x ∈ Lib.compactUpTo d m ↔ ∃ j, j < m ∧ d[j]! = x)
  | 0, _ => by simp [Lib.compactUpTo]
  | m + 1, hm => by
    obtain ⟨h1, h2⟩ := compactUpTo_rises d hs m (by omega)
    rw [Lib.compactUpTo_succ]
    by_cases hk : Lib.keeps d m = true
    · rw [if_pos hk]
      refine ⟨List.pairwise_append.2 ⟨h1, by simp, fun a ha b hb => ?_⟩, fun x => ?_⟩
      · obtain rfl : b = d[m]! := by simpa using hb
        obtain ⟨j, hj, rfl⟩ := (h2 a).1 ha
        have hle := hs j (m - 1) (by omega) (by omega)
        have hle2 := hs (m - 1) m (by omega) (by omega)
        have hne : d[m]! ≠ d[m - 1]! := by
          have : m = 0 ∨ d[m]! ≠ d[m - 1]! := by simpa [Lib.keeps] using hk
          exact this.resolve_left (by omega)
        omega
      · simp only [List.mem_append, h2, List.mem_singleton]
        constructor
        · rintro (⟨j, hj, e⟩ | e)
          · exact ⟨j, by omega, e⟩
          · exact ⟨m, by omega, e.symm⟩
        · rintro ⟨j, hj, e⟩
          by_cases hjm : j = m
          · subst hjm; exact .inr e.symm
          · exact .inl ⟨j, by omega, e⟩
    · rw [if_neg hk, List.append_nil]
      have hk' : ¬ (m = 0 ∨ d[m]! ≠ d[m - 1]!) := by simpa [Lib.keeps] using hk
      have hm0 : m ≠ 0 := fun e => hk' (.inl e)
      have he : d[m]! = d[m - 1]! := Decidable.byContradiction fun e => hk' (.inr e)
      refine ⟨h1, fun x => ?_⟩
      rw [h2]
      constructor
      · rintro ⟨j, hj, e⟩; exact ⟨j, by omega, e⟩
      · rintro ⟨j, hj, e⟩
        by_cases hjm : j = m
        · subst hjm; exact ⟨j - 1, by omega, he ▸ e⟩
        · exact ⟨j, by omega, e⟩

/-- Sorted and cut is the rising list of the same numbers. -/
theorem compact_sort (l : List Int) : Lib.compact (l.mergeSort fun x y => decide (x ≤ y)) = srt l := by
  have hp : (l.mergeSort fun x y => decide (x ≤ y)).Pairwise (· ≤ ·) := by
    have := List.pairwise_mergeSort (le := fun x y => decide (x ≤ y)) (fun a b c h1 h2 => by simp at *; omega) (fun a b => by simp; omega) l
    simpa using this
  have hm : ∀ x, x ∈ (l.mergeSort fun x y => decide (x ≤ y)) ↔ x ∈ l := fun x => (List.mergeSort_perm l _).mem_iff
  generalize (l.mergeSort fun x y => decide (x ≤ y)) = s at hp hm
  have hs : ∀ i j, i ≤ j → j < s.toArray.size → s.toArray[i]! ≤ s.toArray[j]! := fun i j hij hj => by
    have hj' : j < s.length := by simpa using hj
    rw [getElem!_pos s.toArray i (by simp; omega), getElem!_pos s.toArray j hj]
    simp only [List.getElem_toArray]
    by_cases e : i = j
    · subst e; exact Int.le_refl _
    · exact List.pairwise_iff_getElem.1 hp i j (by omega) hj' (by omega)
  obtain ⟨h1, h2⟩ := compactUpTo_rises s.toArray hs s.length (by simp)
  refine rises_unique h1 (srt_rises l) fun x => ?_
  rw [mem_srt, ← hm]
  show x ∈ Lib.compactUpTo s.toArray s.length ↔ _
  rw [h2]
  constructor
  · rintro ⟨j, hj, e⟩
    rw [getElem!_pos s.toArray j (by simpa using hj)] at e
    rw [← e]; simp
  · intro hx
    obtain ⟨j, hj, e⟩ := List.getElem_of_mem hx
    exact ⟨j, hj, by rw [getElem!_pos s.toArray j (by simpa using hj)]; simpa using e⟩

theorem srt_len (l : List Int) : (srt l).length ≤ l.length := by
  rw [← compact_sort]
  have : (Lib.compact (l.mergeSort fun x y => decide (x ≤ y))).length ≤ (l.mergeSort fun x y => decide (x ≤ y)).length := by
    unfold Lib.compact Lib.compactUpTo
    rw [List.length_map]
    exact Nat.le_trans (List.length_filter_le _ _) (by simp)
  simpa using this

end Go.Proofs.Ytmccfcllehfebaa.W

namespace Go.Proofs.Ytmccfcllehfebaa.W
open Go Go.RowKit

/-- A slice at 'p' reads as these numbers. -/
def At (w : World) (p : Option Addr) (l : List Int) : Prop :=
  l = [] ∨ ∃ b off, p = some ⟨b, off, none⟩ ∧ b < w.heap.size ∧ ∀ j, j < l.length → w.cell? ⟨b, off + j, none⟩ = some (.int .i64 (l.getD j 0))

theorem At.nil (w : World) (p : Option Addr) : At w p [] := .inl rfl
theorem At.below {w w' : World} {p : Option Addr} {l : List Int} (h : At w p l) {B : Nat} (hb : Below B w w') (hB : w.heap.size ≤ B) : At w' p l := by
  rcases h with h | ⟨b, off, hp, hlt, hc⟩
  · exact .inl h
  · exact .inr ⟨b, off, hp, Nat.lt_of_lt_of_le hlt hb.size, fun j hj => (hb.cell (p := ⟨b, off + j, none⟩) (Nat.lt_of_lt_of_le hlt hB)).trans (hc j hj)⟩

theorem riseB_drop (l : List Int) (last : Int) (k : Nat) (h : k < l.length) :
    riseB last (l.drop k) = (!decide (l.getD k 0 ≤ last) && riseB (l.getD k 0) (l.drop (k + 1))) := by
  rw [List.drop_eq_getElem_cons h]
  simp [riseB, List.getD, h]

set_option maxRecDepth 100000 in
set_option maxHeartbeats 1000000 in
theorem rise_some (b off cap : Nat) (l : List Int) (w : World) (hl : l.length ≤ 9223372036854775807) (hc : ∀ j, j < l.length → w.cell? ⟨b, off + j, none⟩ = some (.int .i64 (l.getD j 0))) :
    Calls Try.prog 60 #[.slice (some ⟨b, off, none⟩) l.length cap] w fun e w' => e = .returned (.bool (riseB (-1) l)) ∧ w' = w := by
  have HC : Hid (∀ j, j < l.length → w.cell? ⟨b, off + j, none⟩ = some (.int .i64 (l.getD j 0))) := hc
  clear hc
  go_enter Try.func60, Try.ntmps60
  go_wp2
  go_loop [3, 8] (fun s i => ∃ (k : Nat) (z : Int), k ≤ l.length ∧ i = .int .i64 k ∧ s = .int .i64 z ∧ Hid (riseB (-1) l = riseB z (l.drop k))) (fun _ i => l.length - (intOf i).toNat)
  case atStart => exact ⟨0, -1, Nat.zero_le _, rfl, rfl, rfl⟩
  case round =>
    obtain ⟨k, z, hk, rfl, rfl, H⟩ := hrel
    by_cases hlt : k < l.length
    · have hltz : (k : Int) < (l.length : Int) := by omega
      have hck := HC.out k hlt
      have HR : Hid (riseB z (l.drop k) = (!decide (l.getD k 0 ≤ z) && riseB (l.getD k 0) (l.drop (k + 1)))) := riseB_drop l z k hlt
      generalize l.getD k 0 = x at *
      by_cases hx : x ≤ z
      · have hd : decide (x ≤ z) = true := by simpa using hx
        go_wp2
        go_ret
        refine ⟨?_, rfl⟩
        rw [H.out, HR.out, hd]; rfl
      · have hd : decide (x ≤ z) = false := by simpa using hx
        go_wp2
        go_round
        case rel => exact ⟨k + 1, x, by omega, by go_num, rfl, by show riseB (-1) l = _; rw [H.out, HR.out, hd]; rfl⟩
        case measure => simp [intOf]; omega
    · obtain rfl : k = l.length := by omega
      have hltz : ¬ (l.length : Int) < (l.length : Int) := by omega
      go_wp2
      go_ret
      refine ⟨?_, rfl⟩
      rw [H.out, List.drop_length]; rfl

set_option maxRecDepth 100000 in
set_option maxHeartbeats 1000000 in
theorem rise_zero (p : Option Addr) (cap : Nat) (w : World) :
    Calls Try.prog 60 #[.slice p 0 cap] w fun e w' => e = .returned (.bool true) ∧ w' = w := by
  go_enter Try.func60, Try.ntmps60
  go_wp2
  go_loop [8] (fun i => i = .int .i64 0) (fun _ => 0)
  case atStart => rfl
  case round =>
    subst hrel
    go_wp2
    go_ret
    exact ⟨rfl, rfl⟩

theorem rise_any (p : Option Addr) (n cap : Nat) (l : List Int) (w : World) (hn : n = l.length) (hl : l.length ≤ 9223372036854775807) (h : At w p l) :
    Calls Try.prog 60 #[.slice p n cap] w fun e w' => e = .returned (.bool (riseB (-1) l)) ∧ w' = w := by
  subst hn
  rcases h with rfl | ⟨b, off, rfl, _, hc⟩
  · exact rise_zero p cap w
  · exact rise_some b off cap l w hl hc

set_option maxRecDepth 100000 in
set_option maxHeartbeats 1000000 in
theorem can_any (all : Bool) (p : Option Addr) (n cap : Nat) (l : List Int) (w : World) (hn : n = l.length) (hl : l.length ≤ 9223372036854775807) (h : At w p l) :
    Calls Try.prog 55 #[.agg #[.bool all, .slice p n cap]] w fun e w' => e = .returned (.bool (canB all l)) ∧ Below w.heap.size w w' := by
  have hB : ∀ o, Below w.heap.size w (w.alloc o) := fun o => (Below.refl _ w).alloc (Nat.le_refl _) o
  have HB : Hid (∀ o, Below w.heap.size w (w.alloc o)) := hB
  have c := fun w1 (hb : Below w.heap.size w w1) => rise_any p n cap l w1 hn hl (h.below hb (Nat.le_refl _))
  clear hB
  cases all with
  | true =>
    obtain ⟨r, HA⟩ : ∃ r, Hid (canB true l = r) := ⟨_, rfl⟩
    have hr : ((n : Int) == 0) = r := by
      rw [← HA.out]
      simp only [canB, if_true, hn]
      by_cases h0 : l.length = 0
      · simp [h0]
      · rw [decide_eq_false h0]; exact beq_eq_false_iff_ne.2 (by omega)
    rw [HA.out]
    clear c h hn HA hl
    go_enter Try.func55, Try.ntmps55
    go_wp2
    go_ret
    exact ⟨rfl, HB.out _⟩
  | false =>
    by_cases h32 : n ≤ 32
    · have hd : decide ((n : Int) ≤ 32) = true := decide_eq_true (by omega)
      have HA : Hid (canB false l = riseB (-1) l) := by
        show canB false l = _
        simp only [canB, Bool.false_eq_true, if_false, ← hn]
        rw [decide_eq_true h32]; rfl
      rw [HA.out]
      clear h hn HA hl
      generalize riseB (-1) l = r at *
      go_enter Try.func55, Try.ntmps55
      go_wp2_with fail
      refine (c _ (HB.out _)).mono ?_
      rintro e w' ⟨rfl, rfl⟩
      go_wp2
      go_ret
      exact ⟨rfl, HB.out _⟩
    · have hd : decide ((n : Int) ≤ 32) = false := decide_eq_false (by omega)
      have HA : Hid (canB false l = false) := by
        show canB false l = _
        simp only [canB, Bool.false_eq_true, if_false, ← hn]
        rw [decide_eq_false h32]; rfl
      rw [HA.out]
      clear h c hn HA hl
      go_enter Try.func55, Try.ntmps55
      go_wp2
      go_ret
      exact ⟨rfl, HB.out _⟩

end Go.Proofs.Ytmccfcllehfebaa.W

namespace Go.Proofs.Ytmccfcllehfebaa.W
open Go Go.RowKit

/-- A whitelist's own block: two cells. -/
structure Box (w : World) (b : Nat) (v0 v1 : Value) : Prop where
  row : w.heap[b]? = some (.cells #[v0, v1] 32 (0, 0))

theorem Box.lt {w : World} {b : Nat} {v0 v1 : Value} (h : Box w b v0 v1) : b < w.heap.size := (Array.getElem?_eq_some_iff.1 h.row).1
theorem Box.fst {w : World} {b : Nat} {v0 v1 : Value} (h : Box w b v0 v1) : w.cell? ⟨b, 0, none⟩ = some v0 := cell_of_row _ _ 0 _ _ _ h.row
theorem Box.snd {w : World} {b : Nat} {v0 v1 : Value} (h : Box w b v0 v1) : w.cell? ⟨b, 1, none⟩ = some v1 := cell_of_row _ _ 1 _ _ _ h.row
theorem Box.free0 {w : World} {b : Nat} {v0 v1 : Value} (h : Box w b v0 v1) : w.frozen? ⟨b, 0, none⟩ = false := by simp only [World.frozen?, h.row]; rfl
theorem Box.free1 {w : World} {b : Nat} {v0 v1 : Value} (h : Box w b v0 v1) : w.frozen? ⟨b, 1, none⟩ = false := by simp only [World.frozen?, h.row]; rfl
theorem Box.new (w : World) (v0 v1 : Value) : Box (w.alloc (.cells #[v0, v1] 32)) w.heap.size v0 v1 := ⟨World.alloc_heap_new w _⟩
theorem Box.below {w w' : World} {b B : Nat} {v0 v1 : Value} (h : Box w b v0 v1) (hb : Below B w w') (hB : b < B) : Box w' b v0 v1 := ⟨(hb.block b hB).trans h.row⟩
theorem Box.on {w w' : World} {b : Nat} {v0 v1 : Value} (h : Box w b v0 v1) (hb : Below w.heap.size w w') : Box w' b v0 v1 := h.below hb h.lt
theorem Box.alloc {w : World} {b : Nat} {v0 v1 : Value} (h : Box w b v0 v1) (o : Obj) : Box (w.alloc o) b v0 v1 := h.on ((Below.refl _ w).alloc (Nat.le_refl _) o)
theorem At.on {w w' : World} {p : Option Addr} {l : List Int} (h : At w p l) (hb : Below w.heap.size w w') : At w' p l := h.below hb (Nat.le_refl _)
theorem At.alloc {w : World} {p : Option Addr} {l : List Int} (h : At w p l) (o : Obj) : At (w.alloc o) p l := h.on ((Below.refl _ w).alloc (Nat.le_refl _) o)

theorem addr_add (b o j : Nat) : (⟨b, o, none⟩ : Addr).add j = ⟨b, o + j, none⟩ := by unfold Addr.add; split <;> simp_all
theorem on_alloc (w : World) (o : Obj) : Below w.heap.size w (w.alloc o) := (Below.refl _ w).alloc (Nat.le_refl _) o
theorem on_trans {w w1 w2 : World} (h : Below w.heap.size w w1) (h2 : Below w1.heap.size w1 w2) : Below w.heap.size w w2 := h.trans (h2.mono h.size)
theorem on_drewN {w w1 : World} (h : Below w.heap.size w w1) (q : Nat) : Below w.heap.size w (w1.drewN q) := ⟨h.os, h.tape, h.output, h.size, h.block⟩
theorem on_drew {w w1 : World} (h : Below w.heap.size w w1) : Below w.heap.size w w1.drew := ⟨h.os, h.tape, h.output, h.size, h.block⟩

/-- A list in a block that is not older than 'base'. -/
def AtF (base : Nat) (w : World) (p : Option Addr) (l : List Int) : Prop :=
  l = [] ∨ ∃ b off, p = some ⟨b, off, none⟩ ∧ base ≤ b ∧ b < w.heap.size ∧ ∀ j, j < l.length → w.cell? ⟨b, off + j, none⟩ = some (.int .i64 (l.getD j 0))
theorem AtF.at {base : Nat} {w : World} {p : Option Addr} {l : List Int} (h : AtF base w p l) : At w p l := by
  rcases h with h | ⟨b, off, hp, _, hlt, hc⟩
  · exact .inl h
  · exact .inr ⟨b, off, hp, hlt, hc⟩
theorem AtF.nil (base : Nat) (w : World) (p : Option Addr) : AtF base w p [] := .inl rfl
theorem AtF.less {base base' : Nat} {w : World} {p : Option Addr} {l : List Int} (h : AtF base w p l) (hb : base' ≤ base) : AtF base' w p l := by
  rcases h with h | ⟨b, off, hp, hl, hlt, hc⟩
  · exact .inl h
  · exact .inr ⟨b, off, hp, Nat.le_trans hb hl, hlt, hc⟩
theorem AtF.on {base : Nat} {w w' : World} {p : Option Addr} {l : List Int} (h : AtF base w p l) (hb : Below w.heap.size w w') : AtF base w' p l := by
  rcases h with h | ⟨b, off, hp, hl, hlt, hc⟩
  · exact .inl h
  · exact .inr ⟨b, off, hp, hl, Nat.lt_of_lt_of_le hlt hb.size, fun j hj => (hb.cell (p := ⟨b, off + j, none⟩) hlt).trans (hc j hj)⟩
theorem AtF.alloc {base : Nat} {w : World} {p : Option Addr} {l : List Int} (h : AtF base w p l) (o : Obj) : AtF base (w.alloc o) p l := h.on (on_alloc w o)

/-- All blocks but one are as they were. -/
structure But (b : Nat) (w w' : World) : Prop where
  os : w'.os = w.os
  tape : w'.tape = w.tape
  output : w'.output = w.output
  size : w'.heap.size = w.heap.size
  block : ∀ k, k ≠ b → w'.heap[k]? = w.heap[k]?
theorem But.trans {b : Nat} {w w1 w2 : World} (h : But b w w1) (k : But b w1 w2) : But b w w2 :=
  ⟨k.os.trans h.os, k.tape.trans h.tape, k.output.trans h.output, k.size.trans h.size, fun j hj => (k.block j hj).trans (h.block j hj)⟩
theorem but_set (w : World) (b o : Nat) (v : Value) : But b w (w.setCell ⟨b, o, none⟩ v) :=
  ⟨rfl, rfl, rfl, by simp [World.setCell], fun k hk => by simp [World.setCell, Array.getElem?_modify, Ne.symm hk]⟩
theorem but_set2 (w : World) (b o o' : Nat) (v v' : Value) : But b w ((w.setCell ⟨b, o, none⟩ v).setCell ⟨b, o', none⟩ v') := (but_set w b o v).trans (but_set _ b o' v')
theorem below_but {B b : Nat} {w0 w w' : World} (h : Below B w0 w) (k : But b w w') (hb : B ≤ b) : Below B w0 w' :=
  ⟨k.os.trans h.os, k.tape.trans h.tape, k.output.trans h.output, by rw [k.size]; exact h.size, fun j hj => (k.block j (by omega)).trans (h.block j hj)⟩
theorem Box.but {w w' : World} {b c : Nat} {v0 v1 : Value} (h : Box w c v0 v1) (k : But b w w') (hne : c ≠ b) : Box w' c v0 v1 := ⟨(k.block c hne).trans h.row⟩
theorem AtF.but {base b : Nat} {w w' : World} {p : Option Addr} {l : List Int} (h : AtF base w p l) (k : But b w w') (hb : b < base) : AtF base w' p l := by
  rcases h with h | ⟨g, off, hp, hl, hlt, hc⟩
  · exact .inl h
  · refine .inr ⟨g, off, hp, hl, by rw [k.size]; exact hlt, fun j hj => ?_⟩
    rw [← hc j hj]
    simp only [World.cell?, k.block g (by omega)]
theorem Box.put {w : World} {b : Nat} {u0 u1 : Value} (h : Box w b u0 u1) (v0 v1 : Value) : Box ((w.setCell ⟨b, 0, none⟩ v0).setCell ⟨b, 1, none⟩ v1) b v0 v1 :=
  ⟨by simp [World.setCell, Array.getElem?_modify, h.row]⟩
theorem Box.put1 {w : World} {b : Nat} {u0 u1 : Value} (h : Box w b u0 u1) (v1 : Value) : Box (w.setCell ⟨b, 1, none⟩ v1) b u0 v1 :=
  ⟨by simp [World.setCell, Array.getElem?_modify, h.row]⟩

theorem Box.drew {w : World} {b : Nat} {v0 v1 : Value} (h : Box w b v0 v1) : Box w.drew b v0 v1 := ⟨h.row⟩
theorem infoList : (Try.prog.info? 32).map (·.size) = some 2 := by kernel_rfl

theorem run_loadVar_box {w : World} {b : Nat} {v0 v1 : Value} (h : Box w b v0 v1) : (loadVar 32 ⟨b, 0, none⟩).run Try.prog w = .ok (.agg #[v0, v1]) w := by
  have hl : (loadCells ⟨b, 0, none⟩ [v0, v1].length).run Try.prog w = .ok [v0, v1].toArray w :=
    run_loadCells_list (P := Try.prog) w ⟨b, 0, none⟩ [v0, v1] (fun j v hv => by
      match j, hv with
      | 0, hv => simp at hv; subst hv; exact h.fst
      | 1, hv => simp at hv; subst hv; exact h.snd)
  have hi := infoList
  cases hq : Try.prog.info? 32 with
  | none => simp [hq] at hi
  | some i =>
    have hs : i.size = 2 := by simpa [hq] using hi
    have hagg : (isAgg 32).run Try.prog w = .ok true w := Try.isAgg32 w
    have hl' : (loadCells ⟨b, 0, none⟩ 2).run Try.prog w = .ok #[v0, v1] w := hl
    simp [loadVar, Sem.run_bind, hagg, sizeOf, typeInfo, hq, hs, hl']

theorem results_box {fn : Func} {p : Tmp} (h : fn.results = #[.cell p 32]) (tmps : Array Value) (w : World) {b : Nat} {v0 v1 : Value}
    (hp : tmps.getD p undef = .pointer (some ⟨b, 0, none⟩)) (hb : Box w b v0 v1) : (results fn tmps).run Try.prog w = .ok (.agg #[v0, v1]) w := by
  have hp' : tmps[p]?.getD undef = .pointer (some ⟨b, 0, none⟩) := by simpa using hp
  simp [results, h, hp', asAddr, run_loadVar_box hb]

theorem results_box_tmp {fn : Func} {p u : Tmp} (h : fn.results = #[.cell p 32, .tmp u]) (tmps : Array Value) (w : World) {b : Nat} {v0 v1 v2 : Value}
    (hp : tmps.getD p undef = .pointer (some ⟨b, 0, none⟩)) (hu : tmps.getD u undef = v2) (hb : Box w b v0 v1) : (results fn tmps).run Try.prog w = .ok (.tuple #[.agg #[v0, v1], v2]) w := by
  rw [results_cell_tmp h, hp, hu]
  simp [asAddr, run_loadVar_box hb, Result.andThen]

/-- A slice that owns its row, as a list of numbers. -/
theorem at_of_row {w : World} {base n : Nat} {v : Value} {l : List Int} (h : w.ownsRow base 3 1 v n (l.map (Value.int .i64))) :
    ∃ p cap, v = .slice p n cap ∧ At w p l ∧ n = l.length := by
  have hn : n = l.length := by have := h.1; simpa using this.symm
  rcases h.2 with ⟨h0, h1⟩ | ⟨g, cap, cur, rfl, hb, hg, hc, _, hs, ht⟩
  · refine ⟨none, 0, ?_, ?_, hn⟩
    · rw [h0, h1]
    · subst hn
      refine .inl (List.eq_nil_of_length_eq_zero ?_)
      exact h1
  · refine ⟨some ⟨g, 0, none⟩, cap, rfl, .inr ⟨g, 0, rfl, (Array.getElem?_eq_some_iff.1 hg).1, fun j hj => ?_⟩, hn⟩
    have hu : (l.map (Value.int .i64))[j]? = some (.int .i64 (l.getD j 0)) := by simp [List.getD, hj]
    rw [← ht, List.getElem?_take_of_lt (by omega)] at hu
    simp only [World.cell?, hg]
    simpa using hu

end Go.Proofs.Ytmccfcllehfebaa.W
