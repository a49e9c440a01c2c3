/- What the reference's readers answer: In, Nums, Same, Can, Has. -/
import Derived.Test.YthicbobddopcpaaDoorWFew
namespace Go.Proofs.YthicbobddopcpaaDoor
open Go Go.RowKit Go.Shelf Go.Sort

set_option maxRecDepth 100000 in
set_option maxHeartbeats 1000000 in
theorem in_some (b off cap : Nat) (l : List Int) (x : Int) (w : World) (hl : l.length ≤ 9223372036854775807) (hc : ∀ j, j < l.length → w.cell? ⟨b, off + j, none⟩ = some (.int .i64 (l.getD j 0))) :
    Calls Tryd.prog 33 #[.slice (some ⟨b, off, none⟩) l.length cap, .int .i64 x] w fun e w' => e = .returned (.bool (l.contains x)) ∧ w' = w := by
  have HC : Hid (∀ j, j < l.length → w.cell? ⟨b, off + j, none⟩ = some (.int .i64 (l.getD j 0))) := hc
  clear hc
  obtain ⟨r, hr⟩ : ∃ r, l.contains x = r := ⟨_, rfl⟩
  have HR : Hid (l.contains x = r) := hr
  rw [hr]
  clear hr
  go_enter Tryd.func33, Tryd.ntmps33
  go_wp2
  go_loop [5] (fun i => ∃ k : Nat, k ≤ l.length ∧ i = .int .i64 k ∧ Hid (∀ j, j < k → l.getD j 0 ≠ x)) (fun i => l.length - (intOf i).toNat)
  case atStart => exact ⟨0, Nat.zero_le _, rfl, fun j hj => absurd hj (Nat.not_lt_zero _)⟩
  case round =>
    obtain ⟨k, hk, rfl, H⟩ := hrel
    by_cases hlt : k < l.length
    · have hltz : (k : Int) < (l.length : Int) := by omega
      have hck := HC.out k hlt
      by_cases hx : l.getD k 0 = x
      · have HM : Hid (l.contains x = true) := by
          show l.contains x = true
          rw [← hx]; simp [List.getD, hlt]
        rw [hx] at hck
        clear hx
        go_wp2
        go_ret
        exact ⟨by rw [← HR.out, HM.out]; rfl, rfl⟩
      · have hq : (l.getD k 0 == x) = false := beq_eq_false_iff_ne.2 hx
        have HX : Hid (l.getD k 0 ≠ x) := hx
        clear hx
        generalize l.getD k 0 = y at hck hq
        go_wp2
        go_round
        case rel => exact ⟨k + 1, by omega, by go_num, fun j hj => by
          by_cases e : j = k
          · subst e; exact HX.out
          · exact H.out j (by omega)⟩
        case measure => simp [intOf]; omega
    · obtain rfl : k = l.length := by omega
      have hltz : ¬ (l.length : Int) < (l.length : Int) := by omega
      have HM : Hid (l.contains x = false) := by
        show l.contains x = false
        cases hc : l.contains x with
        | false => rfl
        | true =>
          obtain ⟨j, hj, e⟩ := List.getElem_of_mem (show x ∈ l by simpa using hc)
          exact absurd (by simp [List.getD, hj, e]) (H.out j hj)
      go_wp2
      go_ret
      exact ⟨by rw [← HR.out, HM.out]; rfl, rfl⟩

set_option maxRecDepth 100000 in
theorem in_zero (p : Option Addr) (cap : Nat) (x : Int) (w : World) :
    Calls Tryd.prog 33 #[.slice p 0 cap, .int .i64 x] w fun e w' => e = .returned (.bool false) ∧ w' = w := by
  go_enter Tryd.func33, Tryd.ntmps33
  go_wp2
  go_loop [5] (fun i => i = .int .i64 0) (fun _ => 0)
  case atStart => rfl
  case round =>
    subst hrel
    go_wp2
    go_ret
    exact ⟨rfl, rfl⟩

theorem in_any (p : Option Addr) (cap : Nat) (l : List Int) (x : Int) (w : World) (hl : l.length ≤ 9223372036854775807) (h : At w p l) :
    Calls Tryd.prog 33 #[.slice p l.length cap, .int .i64 x] w fun e w' => e = .returned (.bool (l.contains x)) ∧ w' = w := by
  rcases h with rfl | ⟨b, off, rfl, _, hc⟩
  · exact in_zero p cap x w
  · exact in_some b off cap l x w hl hc

set_option maxRecDepth 100000 in
set_option maxHeartbeats 1000000 in
theorem nums_ne (p q : Option Addr) (c d : Nat) (l m : List Int) (w : World) (hne : l.length ≠ m.length) :
    Calls Tryd.prog 34 #[.slice p l.length c, .slice q m.length d] w fun e w' => e = .returned (.bool false) ∧ w' = w := by
  have hq : ((l.length : Int) == (m.length : Int)) = false := beq_eq_false_iff_ne.2 (by omega)
  have hq2 : ((l.length : Int) != (m.length : Int)) = true := by simp [bne, hq]
  clear hne
  generalize (l.length : Nat) = x at *
  generalize (m.length : Nat) = y at *
  go_enter Tryd.func34, Tryd.ntmps34
  go_wp2
  go_ret
  exact ⟨rfl, rfl⟩

set_option maxRecDepth 100000 in
set_option maxHeartbeats 1000000 in
theorem nums_zero (p q : Option Addr) (c d : Nat) (w : World) :
    Calls Tryd.prog 34 #[.slice p 0 c, .slice q 0 d] w fun e w' => e = .returned (.bool true) ∧ w' = w := by
  go_enter Tryd.func34, Tryd.ntmps34
  go_wp2
  go_loop [5] (fun i => i = .int .i64 0) (fun _ => 0)
  case atStart => rfl
  case round =>
    subst hrel
    go_wp2
    go_ret
    exact ⟨rfl, rfl⟩

set_option maxRecDepth 100000 in
set_option maxHeartbeats 1000000 in
theorem nums_some (b off b2 off2 : Nat) (c d : Nat) (l m : List Int) (w : World) (hlm : l.length = m.length) (hl : l.length ≤ 9223372036854775807) (hc : ∀ j, j < l.length → w.cell? ⟨b, off + j, none⟩ = some (.int .i64 (l.getD j 0)))
    (hd : ∀ j, j < m.length → w.cell? ⟨b2, off2 + j, none⟩ = some (.int .i64 (m.getD j 0))) :
    Calls Tryd.prog 34 #[.slice (some ⟨b, off, none⟩) l.length c, .slice (some ⟨b2, off2, none⟩) m.length d] w fun e w' => e = .returned (.bool (decide (l = m))) ∧ Below w.heap.size w w' := by
  have HC : Hid (∀ j, j < l.length → w.cell? ⟨b, off + j, none⟩ = some (.int .i64 (l.getD j 0))) := hc
  have HD : Hid (∀ j, j < m.length → w.cell? ⟨b2, off2 + j, none⟩ = some (.int .i64 (m.getD j 0))) := hd
  have HL : Hid (l.length = m.length) := hlm
  rw [← hlm]
  clear hc hd hlm
  obtain ⟨r, hr⟩ : ∃ r, decide (l = m) = r := ⟨_, rfl⟩
  have HR : Hid (decide (l = m) = r) := hr
  rw [hr]
  clear hr
  go_enter Tryd.func34, Tryd.ntmps34
  go_wp2
  go_loopw [5] (fun i wr => ∃ k q : Nat, k ≤ l.length ∧ i = .int .i64 k ∧ wr = w.drewN q ∧ Hid (∀ j, j < k → l.getD j 0 = m.getD j 0)) (fun i _ => l.length - (intOf i).toNat)
  case atStart => exact ⟨0, 0, Nat.zero_le _, rfl, rfl, fun j hj => absurd hj (Nat.not_lt_zero _)⟩
  case round =>
    obtain ⟨k, q, hk, rfl, rfl, H⟩ := hrel
    by_cases hlt : k < l.length
    · have hltz : (k : Int) < (l.length : Int) := by omega
      have hck := HC.out k hlt
      have hdk := HD.out k (by have := HL.out; omega)
      by_cases hx : l.getD k 0 = m.getD k 0
      · have HX : Hid (l.getD k 0 = m.getD k 0) := hx
        rw [← hx] at hdk
        clear hx
        generalize l.getD k 0 = y at hck hdk
        go_wp2
        go_quiet (fail)
        go_wp2
        go_roundw
        case rel => exact ⟨k + 1, _, by omega, by go_num, rfl, fun j hj => by
          by_cases e : j = k
          · subst e; exact HX.out
          · exact H.out j (by omega)⟩
        case measure => simp [intOf]; omega
      · have hq : (l.getD k 0 == m.getD k 0) = false := beq_eq_false_iff_ne.2 hx
        have HM : Hid (decide (l = m) = false) := decide_eq_false fun e => hx (by rw [e])
        clear hx
        generalize l.getD k 0 = y at hck hq
        generalize m.getD k 0 = z at hdk hq
        have hq2 : (y != z) = true := by simp only [bne, hq]; rfl
        obtain rfl : r = false := by rw [← HR.out, HM.out]
        go_wp2
        go_quiet (fail)
        go_wp2
        go_ret
        exact ⟨rfl, on_drewN (on_drewN (Below.refl _ _) _) _⟩
    · obtain rfl : k = l.length := by omega
      have hltz : ¬ (l.length : Int) < (l.length : Int) := by omega
      have HM : Hid (decide (l = m) = true) := decide_eq_true (by
        refine List.ext_getElem HL.out fun j h1 h2 => ?_
        have := H.out j h1
        simpa [List.getD, h1, h2] using this)
      obtain rfl : r = true := by rw [← HR.out, HM.out]
      go_wp2
      go_ret
      exact ⟨rfl, on_drewN (Below.refl _ _) _⟩

theorem nums_any (p q : Option Addr) (c d : Nat) (l m : List Int) (w : World) (hl : l.length ≤ 9223372036854775807) (h : At w p l) (h2 : At w q m) :
    Calls Tryd.prog 34 #[.slice p l.length c, .slice q m.length d] w fun e w' => e = .returned (.bool (decide (l = m))) ∧ Below w.heap.size w w' := by
  by_cases hlm : l.length = m.length
  · rcases h with rfl | ⟨b, off, rfl, _, hc⟩
    · obtain rfl : m = [] := List.eq_nil_of_length_eq_zero (by simpa using hlm.symm)
      refine (nums_zero p q c d w).mono ?_
      rintro e w' ⟨rfl, rfl⟩
      exact ⟨rfl, Below.refl _ _⟩
    · rcases h2 with rfl | ⟨b2, off2, rfl, _, hd⟩
      · obtain rfl : l = [] := List.eq_nil_of_length_eq_zero (by simpa using hlm)
        refine (nums_zero (some ⟨b, off, none⟩) q c d w).mono ?_
        rintro e w' ⟨rfl, rfl⟩
        exact ⟨rfl, Below.refl _ _⟩
      · exact nums_some b off b2 off2 c d l m w hlm hl hc hd
  · refine (nums_ne p q c d l m w hlm).mono ?_
    rintro e w' ⟨rfl, rfl⟩
    exact ⟨by rw [decide_eq_false fun e => hlm (by rw [e])], Below.refl _ _⟩

set_option maxRecDepth 100000 in
set_option maxHeartbeats 1000000 in
theorem same_any (a1 a2 : Bool) (p q : Option Addr) (c d : Nat) (l m : List Int) (w : World) (hl : l.length ≤ 9223372036854775807) (h : At w p l) (h2 : At w q m) :
    Calls Tryd.prog 13 #[.agg #[.bool a1, .slice p l.length c], .agg #[.bool a2, .slice q m.length d]] w fun e w' => e = .returned (.bool ((a1 == a2) && decide (l = m))) ∧ Below w.heap.size w w' := by
  have hB := on_trans (on_alloc w (.cells #[.bool a1, .slice p l.length c] 24)) (on_alloc _ (.cells #[.bool a2, .slice q m.length d] 24))
  have cN := fun w1 (hb : Below w.heap.size w w1) => nums_any p q c d l m w1 hl (h.below hb (Nat.le_refl _)) (h2.below hb (Nat.le_refl _))
  have HB : Hid _ := hB
  clear h h2 hB
  generalize decide (l = m) = r at *
  by_cases ha : a1 = a2
  · subst ha
    rw [show (a1 == a1) = true by simp, Bool.true_and]
    have hq : (a1 == a1) = true := by simp
    go_enter Tryd.func13, Tryd.ntmps13
    go_wp2_with fail
    refine (cN _ HB.out).mono ?_
    rintro e w1 ⟨rfl, hb1⟩
    go_wp2
    go_ret
    exact ⟨rfl, on_trans HB.out hb1⟩
  · have hq : (a1 == a2) = false := beq_eq_false_iff_ne.2 ha
    rw [hq, Bool.false_and]
    clear cN ha
    go_enter Tryd.func13, Tryd.ntmps13
    go_wp2
    go_ret
    exact ⟨rfl, HB.out⟩

end Go.Proofs.YthicbobddopcpaaDoor
