/- What the reference's Has, Subset and Count answer, for every set. -/
import Derived.Test.YtndnpcegofbbaaaDoorLives
import Derived.Test.YtndnpcegofbbaaaDoorPlaina
namespace Go.Proofs.YtndnpcegofbbaaaDoor
open Go Go.RowKit Go.Shelf

theorem ret_bool {a b : Bool} (h : a = b) : Ending.returned (.bool a) = .returned (.bool b) := by rw [h]

theorem refHas_any (a k : Nat) (hk : k < 32) (_ha : a < 4294967296) (w : World) :
    Calls Tryd.prog 29 #[.int .u32 (a : Int), .int .i64 (k : Int)] w fun e w' => e = .returned (.bool (a.testBit k)) ∧ w' = w := by
  have HB : Hid (a.testBit k = (((a : Int) / 2 ^ k).tmod 2 == 1)) := testBit_div a k
  go_enter Tryd.func29, Tryd.ntmps29
  go_wp2
  go_ret
  exact ⟨ret_bool (by rw [HB.out]), rfl⟩

set_option maxHeartbeats 400000 in
theorem refSub_any (a b : Nat) (ha : a < 4294967296) (hb : b < 4294967296) (w : World) :
    Calls Tryd.prog 17 #[.int .u32 (a : Int), .int .u32 (b : Int)] w fun e w' => e = .returned (.bool (subB a b)) ∧ w' = w := by
  go_enter Tryd.func17, Tryd.ntmps17
  go_wp2
  go_loop [5] (fun i => ∃ k : Nat, k ≤ 32 ∧ i = .int .i64 k ∧ Hid (∀ j, j < k → a.testBit j = true → b.testBit j = true)) (fun i => 32 - (intOf i).toNat)
  case atStart => exact ⟨0, Nat.zero_le _, rfl, fun j hj => absurd hj (Nat.not_lt_zero _)⟩
  case round =>
    obtain ⟨k, hk, rfl, hall⟩ := hrel
    by_cases hlt : k < 32
    · have c1 := refHas_any a k hlt ha
      have c2 := refHas_any b k hlt hb
      have HF : Hid (a.testBit k = true → b.testBit k = false → subB a b = false) := fun h1 h2 => subB_false hb hlt h1 h2
      have HT : Hid (¬ (a.testBit k = true ∧ b.testBit k = false) → ∀ j, j < k + 1 → a.testBit j = true → b.testBit j = true) := fun hn j hj h1 => by
        by_cases e : j = k
        · subst e
          cases h2 : b.testBit j with
          | true => rfl
          | false => exact absurd ⟨h1, h2⟩ hn
        · exact hall j (by omega) h1
      generalize a.testBit k = p at *
      generalize b.testBit k = q at *
      clear ha hb
      cases p with
      | false =>
        have HT2 : Hid (∀ j, j < k + 1 → a.testBit j = true → b.testBit j = true) := HT (by simp)
        clear HF HT
        go_wp2_with fail
        refine (c1 _).mono ?_
        rintro e w' ⟨rfl, rfl⟩
        go_wp2
        exact ⟨⟨k + 1, by omega, by go_num, HT2⟩, by simp [intOf]; omega⟩
      | true =>
        cases q with
        | false =>
          have HF2 : Hid (subB a b = false) := HF rfl rfl
          clear HF HT
          go_wp2_with fail
          refine (c1 _).mono ?_
          rintro e w' ⟨rfl, rfl⟩
          go_wp2_with fail
          refine (c2 _).mono ?_
          rintro e w' ⟨rfl, rfl⟩
          go_wp2
          go_ret
          exact ⟨ret_bool HF2.out.symm, rfl⟩
        | true =>
          have HT2 : Hid (∀ j, j < k + 1 → a.testBit j = true → b.testBit j = true) := HT (by simp)
          clear HF HT
          go_wp2_with fail
          refine (c1 _).mono ?_
          rintro e w' ⟨rfl, rfl⟩
          go_wp2_with fail
          refine (c2 _).mono ?_
          rintro e w' ⟨rfl, rfl⟩
          go_wp2
          exact ⟨⟨k + 1, by omega, by go_num, HT2⟩, by simp [intOf]; omega⟩
    · have HS : Hid (subB a b = true) := (subB_iff hb).2 (fun i hi => hall i (by omega))
      go_wp2
      go_ret
      exact ⟨ret_bool (by rw [HS.out]), rfl⟩

set_option maxHeartbeats 400000 in
theorem refCount_any (a : Nat) (ha : a < 4294967296) (w : World) :
    Calls Tryd.prog 14 #[.int .u32 (a : Int)] w fun e w' => e = .returned (.int .i64 (cntN a 32)) ∧ w' = w := by
  go_enter Tryd.func14, Tryd.ntmps14
  go_wp2
  go_loop [3, 4] (fun c i => ∃ k : Nat, k ≤ 32 ∧ i = .int .i64 k ∧ c = .int .i64 (cntN a k)) (fun _ i => 32 - (intOf i).toNat)
  case atStart => exact ⟨0, Nat.zero_le _, rfl, rfl⟩
  case round =>
    obtain ⟨k, hk, rfl, rfl⟩ := hrel
    have hle := cntN_le a k
    by_cases hlt : k < 32
    · have c1 := refHas_any a k hlt ha
      have HC : Hid (cntN a (k + 1) = cntN a k + if a.testBit k = true then 1 else 0) := cntN_succ a k
      generalize a.testBit k = p at *
      clear ha
      generalize cntN a k = c at *
      cases p
      all_goals
        go_wp2_with fail
        refine (c1 _).mono ?_
        rintro e w' ⟨rfl, rfl⟩
        go_wp2
        exact ⟨⟨k + 1, by omega, by go_num, by rw [HC.out]; simp⟩, by simp [intOf]; omega⟩
    · obtain rfl : k = 32 := by omega
      go_wp2
      go_ret
      exact ⟨rfl, rfl⟩

end Go.Proofs.YtndnpcegofbbaaaDoor
