/- Lists in memory; what white.rise and white.Can answer. -/
import Derived.Test.YthicbobddopcpaaDoorWPlain
import Derived.Test.YthicbobddopcpaaDoorProg
import Derived.WalkKit
import Derived.WalkLawsBesides
import Derived.WalkSpells
import Derived.Laws.Rows
import Derived.BigQuiet
import Derived.Deep.QuietTactic
namespace Go.Proofs.YthicbobddopcpaaDoor
open Go Go.RowKit

/-- A slice at 'p' reads as these numbers. -/
def At (w : World) (p : Option Addr) (l : List Int) : Prop :=
  l = [] ∨ ∃ b off, p = some ⟨b, off, none⟩ ∧ b < w.heap.size ∧ ∀ j, j < l.length → w.cell? ⟨b, off + j, none⟩ = some (.int .i64 (l.getD j 0))

theorem At.nil (w : World) (p : Option Addr) : At w p [] := .inl rfl
theorem At.below {w w' : World} {p : Option Addr} {l : List Int} (h : At w p l) {B : Nat} (hb : Below B w w') (hB : w.heap.size ≤ B) : At w' p l := by
  rcases h with h | ⟨b, off, hp, hlt, hc⟩
  · exact .inl h
  · exact .inr ⟨b, off, hp, Nat.lt_of_lt_of_le hlt hb.size, fun j hj => (hb.cell (p := ⟨b, off + j, none⟩) (Nat.lt_of_lt_of_le hlt hB)).trans (hc j hj)⟩

theorem riseB_drop (l : List Int) (last : Int) (k : Nat) (h : k < l.length) :
    riseB last (l.drop k) = (!decide (l.getD k 0 ≤ last) && riseB (l.getD k 0) (l.drop (k + 1))) := by
  rw [List.drop_eq_getElem_cons h]
  simp [riseB, List.getD, h]

set_option maxRecDepth 100000 in
set_option maxHeartbeats 1000000 in
theorem rise_some (b off cap : Nat) (l : List Int) (w : World) (hl : l.length ≤ 9223372036854775807) (hc : ∀ j, j < l.length → w.cell? ⟨b, off + j, none⟩ = some (.int .i64 (l.getD j 0))) :
    Calls Tryd.prog 35 #[.slice (some ⟨b, off, none⟩) l.length cap] w fun e w' => e = .returned (.bool (riseB (-1) l)) ∧ w' = w := by
  have HC : Hid (∀ j, j < l.length → w.cell? ⟨b, off + j, none⟩ = some (.int .i64 (l.getD j 0))) := hc
  clear hc
  go_enter Tryd.func35, Tryd.ntmps35
  go_wp2
  go_loop [3, 8] (fun s i => ∃ (k : Nat) (z : Int), k ≤ l.length ∧ i = .int .i64 k ∧ s = .int .i64 z ∧ Hid (riseB (-1) l = riseB z (l.drop k))) (fun _ i => l.length - (intOf i).toNat)
  case atStart => exact ⟨0, -1, Nat.zero_le _, rfl, rfl, rfl⟩
  case round =>
    obtain ⟨k, z, hk, rfl, rfl, H⟩ := hrel
    by_cases hlt : k < l.length
    · have hltz : (k : Int) < (l.length : Int) := by omega
      have hck := HC.out k hlt
      have HR : Hid (riseB z (l.drop k) = (!decide (l.getD k 0 ≤ z) && riseB (l.getD k 0) (l.drop (k + 1)))) := riseB_drop l z k hlt
      generalize l.getD k 0 = x at *
      by_cases hx : x ≤ z
      · have hd : decide (x ≤ z) = true := by simpa using hx
        go_wp2
        go_ret
        refine ⟨?_, rfl⟩
        rw [H.out, HR.out, hd]; rfl
      · have hd : decide (x ≤ z) = false := by simpa using hx
        go_wp2
        go_round
        case rel => exact ⟨k + 1, x, by omega, by go_num, rfl, by show riseB (-1) l = _; rw [H.out, HR.out, hd]; rfl⟩
        case measure => simp [intOf]; omega
    · obtain rfl : k = l.length := by omega
      have hltz : ¬ (l.length : Int) < (l.length : Int) := by omega
      go_wp2
      go_ret
      refine ⟨?_, rfl⟩
      rw [H.out, List.drop_length]; rfl

set_option maxRecDepth 100000 in
set_option maxHeartbeats 1000000 in
theorem rise_zero (p : Option Addr) (cap : Nat) (w : World) :
    Calls Tryd.prog 35 #[.slice p 0 cap] w fun e w' => e = .returned (.bool true) ∧ w' = w := by
  go_enter Tryd.func35, Tryd.ntmps35
  go_wp2
  go_loop [8] (fun i => i = .int .i64 0) (fun _ => 0)
  case atStart => rfl
  case round =>
    subst hrel
    go_wp2
    go_ret
    exact ⟨rfl, rfl⟩

theorem rise_any (p : Option Addr) (n cap : Nat) (l : List Int) (w : World) (hn : n = l.length) (hl : l.length ≤ 9223372036854775807) (h : At w p l) :
    Calls Tryd.prog 35 #[.slice p n cap] w fun e w' => e = .returned (.bool (riseB (-1) l)) ∧ w' = w := by
  subst hn
  rcases h with rfl | ⟨b, off, rfl, _, hc⟩
  · exact rise_zero p cap w
  · exact rise_some b off cap l w hl hc

set_option maxRecDepth 100000 in
set_option maxHeartbeats 1000000 in
theorem can_any (all : Bool) (p : Option Addr) (n cap : Nat) (l : List Int) (w : World) (hn : n = l.length) (hl : l.length ≤ 9223372036854775807) (h : At w p l) :
    Calls Tryd.prog 14 #[.agg #[.bool all, .slice p n cap]] w fun e w' => e = .returned (.bool (canB all l)) ∧ Below w.heap.size w w' := by
  have hB : ∀ o, Below w.heap.size w (w.alloc o) := fun o => (Below.refl _ w).alloc (Nat.le_refl _) o
  have HB : Hid (∀ o, Below w.heap.size w (w.alloc o)) := hB
  have c := fun w1 (hb : Below w.heap.size w w1) => rise_any p n cap l w1 hn hl (h.below hb (Nat.le_refl _))
  clear hB
  cases all with
  | true =>
    obtain ⟨r, HA⟩ : ∃ r, Hid (canB true l = r) := ⟨_, rfl⟩
    have hr : ((n : Int) == 0) = r := by
      rw [← HA.out]
      simp only [canB, if_true, hn]
      by_cases h0 : l.length = 0
      · simp [h0]
      · rw [decide_eq_false h0]; exact beq_eq_false_iff_ne.2 (by omega)
    rw [HA.out]
    clear c h hn HA hl
    go_enter Tryd.func14, Tryd.ntmps14
    go_wp2
    go_ret
    exact ⟨rfl, HB.out _⟩
  | false =>
    by_cases h32 : n ≤ 32
    · have hd : decide ((n : Int) ≤ 32) = true := decide_eq_true (by omega)
      have HA : Hid (canB false l = riseB (-1) l) := by
        show canB false l = _
        simp only [canB, Bool.false_eq_true, if_false, ← hn]
        rw [decide_eq_true h32]; rfl
      rw [HA.out]
      clear h hn HA hl
      generalize riseB (-1) l = r at *
      go_enter Tryd.func14, Tryd.ntmps14
      go_wp2_with fail
      refine (c _ (HB.out _)).mono ?_
      rintro e w' ⟨rfl, rfl⟩
      go_wp2
      go_ret
      exact ⟨rfl, HB.out _⟩
    · have hd : decide ((n : Int) ≤ 32) = false := decide_eq_false (by omega)
      have HA : Hid (canB false l = false) := by
        show canB false l = _
        simp only [canB, Bool.false_eq_true, if_false, ← hn]
        rw [decide_eq_false h32]; rfl
      rw [HA.out]
      clear h c hn HA hl
      go_enter Tryd.func14, Tryd.ntmps14
      go_wp2
      go_ret
      exact ⟨rfl, HB.out _⟩

end Go.Proofs.YthicbobddopcpaaDoor
