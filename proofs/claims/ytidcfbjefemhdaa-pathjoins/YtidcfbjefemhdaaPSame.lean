/- What the reference's Names and Same answer of two that are one. -/
import Derived.Test.YtidcfbjefemhdaaPSteps
namespace Go.Proofs.Ytidcfbjefemhdaa
open Go Go.RowKit

theorem toList_refl (y : ByteArray) : (y.toList == y.toList) = true := by simp
theorem toList_refl2 (y : ByteArray) : (y.toList != y.toList) = false := by simp

set_option maxRecDepth 100000 in
set_option maxHeartbeats 1000000 in
theorem names_zero (p q : Option Addr) (c d : Nat) (w : World) :
    Calls Try.prog 28 #[.slice p 0 c, .slice q 0 d] w fun e w' => e = .returned (.bool true) ∧ w' = w := by
  go_enter Try.func28, Try.ntmps28
  go_wp2
  go_loop [5] (fun i => i = .int .i64 0) (fun _ => 0)
  case atStart => rfl
  case round =>
    subst hrel
    go_wp2
    go_ret
    exact ⟨rfl, rfl⟩

set_option maxRecDepth 100000 in
set_option maxHeartbeats 1000000 in
theorem names_some (b off b2 off2 : Nat) (c d : Nat) (l : List ByteArray) (w : World) (hl : l.length ≤ 9223372036854775807) (hc : ∀ j, j < l.length → w.cell? ⟨b, off + j, none⟩ = some (.string (l.getD j ByteArray.empty)))
    (hd : ∀ j, j < l.length → w.cell? ⟨b2, off2 + j, none⟩ = some (.string (l.getD j ByteArray.empty))) :
    Calls Try.prog 28 #[.slice (some ⟨b, off, none⟩) l.length c, .slice (some ⟨b2, off2, none⟩) l.length d] w fun e w' => e = .returned (.bool true) ∧ Below w.heap.size w w' := by
  have HC : Hid (∀ j, j < l.length → w.cell? ⟨b, off + j, none⟩ = some (.string (l.getD j ByteArray.empty))) := hc
  have HD : Hid (∀ j, j < l.length → w.cell? ⟨b2, off2 + j, none⟩ = some (.string (l.getD j ByteArray.empty))) := hd
  clear hc hd
  go_enter Try.func28, Try.ntmps28
  go_wp2
  go_loopw [5] (fun i wr => ∃ k q : Nat, k ≤ l.length ∧ i = .int .i64 k ∧ wr = w.drewN q) (fun i _ => l.length - (intOf i).toNat)
  case atStart => exact ⟨0, 0, Nat.zero_le _, rfl, rfl⟩
  case round =>
    obtain ⟨k, q, hk, rfl, rfl⟩ := hrel
    by_cases hlt : k < l.length
    · have hltz : (k : Int) < (l.length : Int) := by omega
      have hck := HC.out k hlt
      have hdk := HD.out k hlt
      generalize l.getD k ByteArray.empty = y at hck hdk
      have e1 := toList_refl y
      have e2 := toList_refl2 y
      go_wp2
      go_quiet (fail)
      go_wp2
      go_roundw
      case rel => exact ⟨k + 1, _, by omega, by go_num, rfl⟩
      case measure => simp [intOf]; omega
    · obtain rfl : k = l.length := by omega
      have hltz : ¬ (l.length : Int) < (l.length : Int) := by omega
      go_wp2
      go_ret
      exact ⟨rfl, on_drewN (Below.refl _ _) _⟩

theorem names_any (p q : Option Addr) (c d : Nat) (l : List ByteArray) (w : World) (hl : l.length ≤ 9223372036854775807) (h : At w p l) (h2 : At w q l) :
    Calls Try.prog 28 #[.slice p l.length c, .slice q l.length d] w fun e w' => e = .returned (.bool true) ∧ Below w.heap.size w w' := by
  rcases h with rfl | ⟨b, off, rfl, _, hc⟩
  · refine (names_zero p q c d w).mono ?_
    rintro e w' ⟨rfl, rfl⟩
    exact ⟨rfl, Below.refl _ _⟩
  · rcases h2 with rfl | ⟨b2, off2, rfl, _, hd⟩
    · refine (names_zero (some ⟨b, off, none⟩) q c d w).mono ?_
      rintro e w' ⟨rfl, rfl⟩
      exact ⟨rfl, Below.refl _ _⟩
    · exact names_some b off b2 off2 c d l w hl hc hd

set_option maxRecDepth 100000 in
set_option maxHeartbeats 1000000 in
theorem same_any (a1 a2 : Bool) (p q : Option Addr) (c d : Nat) (l : List ByteArray) (w : World) (hl : l.length ≤ 9223372036854775807) (h : At w p l) (h2 : At w q l) :
    Calls Try.prog 11 #[.agg #[.bool a1, .bool a2, .slice p l.length c], .agg #[.bool a1, .bool a2, .slice q l.length d]] w fun e w' => e = .returned (.bool true) ∧ Below w.heap.size w w' := by
  have hB := on_trans (on_alloc w (.cells #[.bool a1, .bool a2, .slice p l.length c] 24)) (on_alloc _ (.cells #[.bool a1, .bool a2, .slice q l.length d] 24))
  have cN := fun w1 (hb : Below w.heap.size w w1) => names_any p q c d l w1 hl (h.below hb (Nat.le_refl _)) (h2.below hb (Nat.le_refl _))
  have HB : Hid _ := hB
  have hq : (a1 == a1) = true := by simp
  have hq2 : (a2 == a2) = true := by simp
  clear h h2 hB
  go_enter Try.func11, Try.ntmps11
  go_wp2_with fail
  refine (cN _ HB.out).mono ?_
  rintro e w1 ⟨rfl, hb1⟩
  go_wp2
  go_ret
  exact ⟨rfl, on_trans HB.out hb1⟩

end Go.Proofs.Ytidcfbjefemhdaa
