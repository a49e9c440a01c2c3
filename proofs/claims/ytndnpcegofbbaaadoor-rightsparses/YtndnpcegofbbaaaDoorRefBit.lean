/- What the reference's Bit answers, for every text. -/
import Derived.Test.YtndnpcegofbbaaaDoorRefShow
import Derived.Deep.DeepCutAuto
import Derived.Deep.RegionWith
namespace Go.Proofs.YtndnpcegofbbaaaDoor
open Go Go.RowKit Go.Shelf

def noBools : Array Value := Array.replicate 32 (.bool false)
def oneBool (k : Nat) : List Bool := (List.range 32).map fun i => decide (i = k)

theorem make32 (w : World) : (Instr.makeSlice 47 (.int .i64 32) (.int .i64 32)).run Tryd.prog w = .ok (.slice (some ⟨w.heap.size, 0, none⟩) 32 32) (w.alloc (.cells noBools 4)) := by kernel_rfl

theorem oneBool_length (k : Nat) : (oneBool k).length = 32 := by simp [oneBool]
theorem ofL_one {k : Nat} (hk : k < 32) : ofL (oneBool k) = 2 ^ k := ofL_map _ _ (pow_lt hk) (fun i _ => by rw [Nat.testBit_two_pow]; simp [eq_comm])
theorem noBools_cell {W : World} {b : Nat} (h : W.heap[b]? = some (.cells noBools 4 (0, 0))) (j : Nat) (hj : j < 32) : W.cell? ⟨b, j, none⟩ = some (.bool false) := by
  simp only [World.cell?, h, noBools]
  simp [hj]
theorem noBools_frozen {W : World} {b : Nat} (h : W.heap[b]? = some (.cells noBools 4 (0, 0))) (j : Nat) : W.frozen? ⟨b, j, none⟩ = false := by
  simp [World.frozen?, h]
theorem oneBool_cell {W : World} {b k : Nat} (h : W.heap[b]? = some (.cells noBools 4 (0, 0))) (hk : k < 32) (j : Nat) (hj : j < (oneBool k).length) :
    (W.setCell ⟨b, k, none⟩ (.bool true)).cell? ⟨b, j, none⟩ = some (.bool ((oneBool k).getD j false)) := by
  rw [oneBool_length] at hj
  by_cases e : j = k
  · subst e
    rw [World.cell?_setCell_same' _ _ _ (by rw [noBools_cell h j hj]; rfl)]
    simp [oneBool, hj]
  · rw [World.cell?_setCell_other _ _ _ _ (by intro h; cases h; exact e rfl), noBools_cell h j hj]
    simp [oneBool, hj, e]

set_option maxRecDepth 100000 in
set_option maxHeartbeats 1000000 in
theorem refBit_any (s : ByteArray) (w : World) : Calls Tryd.prog 20 #[.string s] w fun e w' => e = .returned (.tuple #[.int .u32 (bitVal s), .bool (bitOk s)]) ∧ Below w.heap.size w w' := by
  have hmk := make32
  go_enter Tryd.func20, Tryd.ntmps20
  go_wp2_with fail
  go_cut [4, 5] (fun s4 s5 wc => ∃ b1 b2, s4 = .slice (some ⟨b1, 0, none⟩) 32 32 ∧ s5 = .slice (some ⟨b2, 0, none⟩) 32 32 ∧ NmAt wc b1 ∧ wc.heap[b2]? = some (.cells noBools 4 (0, 0)) ∧ w.heap.size ≤ b2 ∧ Below w.heap.size w wc)
  case first =>
    go_region_with (go_at_call 21; refine (refNames_any _).mono ?_; rintro e w' ⟨rfl, rfl⟩)
    · go_wp2_with fail
      go_meet
      case rel => exact ⟨w.heap.size, w.heap.size + 1, rfl, rfl, (Below.heap_alloc _ _ _ (by simp)).trans (NmAt.new w), by have := World.alloc_heap_new (w.alloc (.cells nm 9)) (.cells noBools 4); rwa [World.size_alloc] at this, by omega, (((Below.refl _ _).alloc (Nat.le_refl _) _).alloc (by simp) _).drew⟩
    · go_wp2_with fail
      go_meet
      case rel => exact ⟨w.heap.size + 1, w.heap.size, rfl, rfl, by have := NmAt.new (w.alloc (.cells noBools 4)); rwa [World.size_alloc] at this, (Below.heap_alloc _ _ _ (by simp)).trans (World.alloc_heap_new w _), by omega, (((Below.refl _ _).alloc (Nat.le_refl _) _).alloc (by simp) _).drew⟩
  case rest =>
    obtain ⟨b1, b2, rfl, rfl, hN, hb2, hle, hB⟩ := hcut
    clear hmk
    go_wp2
    go_loop [6] (fun i => ∃ k : Nat, k ≤ 32 ∧ i = .int .i64 k ∧ Hid (∀ j, j < k → nmB j ≠ s)) (fun i => 32 - (intOf i).toNat)
    case atStart => exact ⟨0, Nat.zero_le _, rfl, fun j hj => absurd hj (Nat.not_lt_zero _)⟩
    case round =>
      obtain ⟨k, hk, rfl, hno⟩ := hrel
      by_cases hlt : k < 32
      · have hcell := hN.cell k hlt
        by_cases he : nmB k = s
        · have hbq : ((nmB k).toList == s.toList) = true := by rw [he]; exact beq_self_eq_true _
          have HE : Hid (bitAt s = k) := bitAt_of hlt he hno
          have f1 := noBools_cell hb2 k hlt
          have f2 := noBools_frozen hb2 k
          have hcall := refOf_any b2 32 (oneBool k) (wc.setCell ⟨b2, k, none⟩ (.bool true)) (by rw [oneBool_length]; omega) (oneBool_cell hb2 hlt)
          rw [oneBool_length, ofL_one hlt] at hcall
          clear he hb2
          go_wp2_with (go_at_call 30; refine hcall.mono ?_; rintro e w' ⟨rfl, rfl⟩)
          go_ret2
          exact ⟨by simp only [bitVal, bitOk, HE.out, hlt, if_true, decide_true]; simp, hB.setCell (p := ⟨b2, k, none⟩) hle _⟩
        · have hbq : ((nmB k).toList == s.toList) = false := by
            rw [beq_eq_false_iff_ne, ByteArray.toList_eq, ByteArray.toList_eq]; exact fun e => he (bytes_eq e)
          go_wp2
          refine ⟨⟨k + 1, by omega, by go_num, fun j hj => ?_⟩, by simp [intOf]; omega⟩
          by_cases e : j = k
          · subst e; exact he
          · exact hno j (by omega)
      · have HE : Hid (bitAt s = 32) := bitAt_no (fun j hj => hno j (by omega))
        go_wp2
        go_ret2
        exact ⟨by simp [bitVal, bitOk, HE.out], hB⟩

end Go.Proofs.YtndnpcegofbbaaaDoor
