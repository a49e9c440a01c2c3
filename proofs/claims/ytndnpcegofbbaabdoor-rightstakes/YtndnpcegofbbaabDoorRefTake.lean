/- What the reference's Take answers. -/
import Derived.Test.YtndnpcegofbbaabDoorTake
namespace Go.Proofs.YtndnpcegofbbaabDoor
open Go Go.RowKit Go.Shelf

theorem takeOk_iff (l0 l1 : Nat) : takeOk l0 l1 = true ↔ (144115188075855872 ≤ l0 ∧ l0 < 144115188076904448 ∧ 288230376151711744 ≤ l1 ∧ l1 < 288230376151715840) := by
  unfold takeOk
  rw [putA_take, putB_take, Bool.and_eq_true, beq_iff_eq, beq_iff_eq]
  omega
theorem take_bad {l0 l1 : Nat} (h : ¬ (144115188075855872 ≤ l0 ∧ l0 < 144115188076904448 ∧ 288230376151711744 ≤ l1 ∧ l1 < 288230376151715840)) : takeV l0 l1 = 0 ∧ takeE l0 l1 = 22 := by
  have hf : ¬ takeOk l0 l1 = true := fun e => h ((takeOk_iff l0 l1).1 e)
  unfold takeV takeE
  rw [if_neg hf, if_neg hf]; exact ⟨rfl, rfl⟩
theorem take_good {l0 l1 : Nat} (h : 144115188075855872 ≤ l0 ∧ l0 < 144115188076904448 ∧ 288230376151711744 ≤ l1 ∧ l1 < 288230376151715840) :
    takeV l0 l1 = ((l0 : Int) - 144115188075855872) + ((l1 : Int) - 288230376151711744) * 1048576 ∧ takeE l0 l1 = 0 := by
  have ht := (takeOk_iff l0 l1).2 h
  unfold takeV takeE
  rw [if_pos ht, if_pos ht]
  refine ⟨?_, rfl⟩
  unfold takeA
  omega

set_option maxHeartbeats 400000 in
theorem refTake_len (a : Option Addr) (len cap : Nat) (h2 : len ≠ 2) (w : World) : Calls Tryd.prog 6 #[.slice a len cap] w fun e w' => e = .returned (.tuple #[.int .u32 0, .int .i64 22]) ∧ w' = w := by
  have hne : ((len : Int) != 2) = true := by rw [bne_iff_ne]; omega
  go_enter Tryd.func6, Tryd.ntmps6
  go_wp2
  go_ret2
  exact ⟨rfl, rfl⟩

set_option maxRecDepth 100000 in
set_option maxHeartbeats 1000000 in
theorem refTake_two (b off cap l0 l1 : Nat) (hb0 : l0 < 18446744073709551616) (hb1 : l1 < 18446744073709551616) (w : World) (h0 : w.cell? ⟨b, off, none⟩ = some (.int .u64 (l0 : Int))) (h1 : w.cell? ⟨b, off + 1, none⟩ = some (.int .u64 (l1 : Int))) :
    Calls Tryd.prog 6 #[.slice (some ⟨b, off, none⟩) 2 cap] w fun e w' => e = .returned (.tuple #[.int .u32 (takeV l0 l1), .int .i64 (takeE l0 l1)]) ∧ Below w.heap.size w w' := by
  have hne : ((2 : Int) != 2) = false := rfl
  by_cases g1 : 144115188075855872 ≤ l0
  · by_cases g2 : l0 < 144115188076904448
    · by_cases g3 : 288230376151711744 ≤ l1
      · by_cases g4 : l1 < 288230376151715840
        · obtain ⟨HV, HE⟩ : Hid (takeV l0 l1 = ((l0 : Int) - 144115188075855872) + ((l1 : Int) - 288230376151711744) * 1048576) ∧ Hid (takeE l0 l1 = 0) := take_good ⟨g1, g2, g3, g4⟩
          have k1 : ¬ ((l0 : Int) < 144115188075855872) := by omega
          have k2 : ¬ ((144115188076904448 : Int) ≤ (l0 : Int)) := by omega
          have k3 : ¬ ((l1 : Int) < 288230376151711744) := by omega
          have k4 : ¬ ((288230376151715840 : Int) ≤ (l1 : Int)) := by omega
          go_enter Tryd.func6, Tryd.ntmps6
          go_wp2
          go_quiet (fail)
          go_wp2
          go_ret2
          exact ⟨by rw [HV.out, HE.out]; rfl, below_drewN (Below.refl _ _) _⟩
        · obtain ⟨HV, HE⟩ : Hid (takeV l0 l1 = 0) ∧ Hid (takeE l0 l1 = 22) := take_bad (by omega)
          have k1 : ¬ ((l0 : Int) < 144115188075855872) := by omega
          have k2 : ¬ ((144115188076904448 : Int) ≤ (l0 : Int)) := by omega
          have k3 : ¬ ((l1 : Int) < 288230376151711744) := by omega
          have k4 : ((288230376151715840 : Int) ≤ (l1 : Int)) := by omega
          go_enter Tryd.func6, Tryd.ntmps6
          go_wp2
          go_ret2
          exact ⟨by rw [HV.out, HE.out]; rfl, Below.refl _ _⟩
      · obtain ⟨HV, HE⟩ : Hid (takeV l0 l1 = 0) ∧ Hid (takeE l0 l1 = 22) := take_bad (by omega)
        have k1 : ¬ ((l0 : Int) < 144115188075855872) := by omega
        have k2 : ¬ ((144115188076904448 : Int) ≤ (l0 : Int)) := by omega
        have k3 : ((l1 : Int) < 288230376151711744) := by omega
        go_enter Tryd.func6, Tryd.ntmps6
        go_wp2
        go_ret2
        exact ⟨by rw [HV.out, HE.out]; rfl, Below.refl _ _⟩
    · obtain ⟨HV, HE⟩ : Hid (takeV l0 l1 = 0) ∧ Hid (takeE l0 l1 = 22) := take_bad (by omega)
      have k1 : ¬ ((l0 : Int) < 144115188075855872) := by omega
      have k2 : ((144115188076904448 : Int) ≤ (l0 : Int)) := by omega
      go_enter Tryd.func6, Tryd.ntmps6
      go_wp2
      go_ret2
      exact ⟨by rw [HV.out, HE.out]; rfl, Below.refl _ _⟩
  · obtain ⟨HV, HE⟩ : Hid (takeV l0 l1 = 0) ∧ Hid (takeE l0 l1 = 22) := take_bad (by omega)
    have k1 : ((l0 : Int) < 144115188075855872) := by omega
    go_enter Tryd.func6, Tryd.ntmps6
    go_wp2
    go_ret2
    exact ⟨by rw [HV.out, HE.out]; rfl, Below.refl _ _⟩

end Go.Proofs.YtndnpcegofbbaabDoor
