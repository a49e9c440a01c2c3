/- What rights.Count answers, for every set: how many bits it has. -/
import Derived.Test.YtndnpcegofbbaaaDoorShow
import Derived.BigQuiet
import Derived.Deep.QuietTactic
namespace Go.Proofs.YtndnpcegofbbaaaDoor
open Go Go.RowKit Go.Shelf

theorem tab_size : (⟨(([0, 1, 1, 2, 1, 2, 2, 3, 1, 2, 2, 3, 2, 3, 3, 4, 1, 2, 2, 3, 2, 3, 3, 4, 2, 3, 3, 4, 3, 4, 4, 5, 1, 2, 2, 3, 2, 3, 3, 4, 2, 3, 3, 4, 3, 4, 4, 5, 2, 3, 3, 4, 3, 4, 4, 5, 3, 4, 4, 5, 4, 5, 5, 6].append [1, 2, 2, 3, 2, 3, 3, 4, 2, 3, 3, 4, 3, 4, 4, 5, 2, 3, 3, 4, 3, 4, 4, 5, 3, 4, 4, 5, 4, 5, 5, 6, 2, 3, 3, 4, 3, 4, 4, 5, 3, 4, 4, 5, 4, 5, 5, 6, 3, 4, 4, 5, 4, 5, 5, 6, 4, 5, 5, 6, 5, 6, 6, 7]).append ([1, 2, 2, 3, 2, 3, 3, 4, 2, 3, 3, 4, 3, 4, 4, 5, 2, 3, 3, 4, 3, 4, 4, 5, 3, 4, 4, 5, 4, 5, 5, 6, 2, 3, 3, 4, 3, 4, 4, 5, 3, 4, 4, 5, 4, 5, 5, 6, 3, 4, 4, 5, 4, 5, 5, 6, 4, 5, 5, 6, 5, 6, 6, 7].append [2, 3, 3, 4, 3, 4, 4, 5, 3, 4, 4, 5, 4, 5, 5, 6, 3, 4, 4, 5, 4, 5, 5, 6, 4, 5, 5, 6, 5, 6, 6, 7, 3, 4, 4, 5, 4, 5, 5, 6, 4, 5, 5, 6, 5, 6, 6, 7, 4, 5, 5, 6, 5, 6, 6, 7, 5, 6, 6, 7, 6, 7, 7, 8])).toArray⟩ : ByteArray).size = 256 := by decide +kernel
theorem tab_at : ∀ n : Fin 256, (((⟨(([0, 1, 1, 2, 1, 2, 2, 3, 1, 2, 2, 3, 2, 3, 3, 4, 1, 2, 2, 3, 2, 3, 3, 4, 2, 3, 3, 4, 3, 4, 4, 5, 1, 2, 2, 3, 2, 3, 3, 4, 2, 3, 3, 4, 3, 4, 4, 5, 2, 3, 3, 4, 3, 4, 4, 5, 3, 4, 4, 5, 4, 5, 5, 6].append [1, 2, 2, 3, 2, 3, 3, 4, 2, 3, 3, 4, 3, 4, 4, 5, 2, 3, 3, 4, 3, 4, 4, 5, 3, 4, 4, 5, 4, 5, 5, 6, 2, 3, 3, 4, 3, 4, 4, 5, 3, 4, 4, 5, 4, 5, 5, 6, 3, 4, 4, 5, 4, 5, 5, 6, 4, 5, 5, 6, 5, 6, 6, 7]).append ([1, 2, 2, 3, 2, 3, 3, 4, 2, 3, 3, 4, 3, 4, 4, 5, 2, 3, 3, 4, 3, 4, 4, 5, 3, 4, 4, 5, 4, 5, 5, 6, 2, 3, 3, 4, 3, 4, 4, 5, 3, 4, 4, 5, 4, 5, 5, 6, 3, 4, 4, 5, 4, 5, 5, 6, 4, 5, 5, 6, 5, 6, 6, 7].append [2, 3, 3, 4, 3, 4, 4, 5, 3, 4, 4, 5, 4, 5, 5, 6, 3, 4, 4, 5, 4, 5, 5, 6, 4, 5, 5, 6, 5, 6, 6, 7, 3, 4, 4, 5, 4, 5, 5, 6, 4, 5, 5, 6, 5, 6, 6, 7, 4, 5, 5, 6, 5, 6, 6, 7, 5, 6, 6, 7, 6, 7, 7, 8])).toArray⟩ : ByteArray).data.toList.getD n.val 0).toNat) = cntN n.val 8 := by decide +kernel

theorem shr_div (x : Nat) (hx : x < 4294967296) : x / 16777216 < 256 := by omega
theorem and255 (x : Nat) (hx : x < 4294967296) : bits .and .u32 (x : Int) 255 = ((x % 256 : Nat) : Int) := by
  have := u32_and_nat x 255 hx (by decide)
  rw [show ((255 : Nat) : Int) = 255 from rfl] at this
  rw [this, show x &&& 255 = x % 256 from Nat.and_two_pow_sub_one_eq_mod x 8]

theorem ret_i64 {a b : Int} (h : a = b) : Ending.returned (.int .i64 a) = .returned (.int .i64 b) := by rw [h]
theorem idx_tab (T : ByteArray) (hs : T.size = 256) (ht : ∀ n : Fin 256, (T.data.toList.getD n.val 0).toNat = cntN n.val 8) (j : Nat) (hj : j < 256) (w : World) :
    (Instr.index 9 (.string T) (.int .u32 (j : Int))).run Tryd.prog w = .ok (.int .u8 ((cntN j 8 : Nat) : Int)) w := by
  rw [run_index_string w 9 T .u32 (j : Int) Tryd.underlying9]
  have h := ht ⟨j, hj⟩
  simp only at h
  rw [← h]
  have hjs : j < T.size := by omega
  have e : T.data.toList.getD j 0 = T[j] := by
    simp [List.getD, hjs]
    rfl
  rw [e]
  simp [hjs]

set_option maxRecDepth 100000 in
set_option maxHeartbeats 1000000 in
theorem ones_any (x : Nat) (hx : x < 4294967296) (w : World) : Calls Tryd.prog 31 #[.int .u32 (x : Int)] w fun e w' => e = .returned (.int .i64 (cntN x 32)) ∧ ∃ q, w' = w.drewN q := by
  have hs := tab_size
  have ht := tab_at
  have a1 := and255 (x / 65536) (by omega)
  have a2 := and255 (x / 256) (by omega)
  have a3 := and255 x hx
  go_enter Tryd.func31, Tryd.ntmps31
  generalize (⟨(([0, 1, 1, 2, 1, 2, 2, 3, 1, 2, 2, 3, 2, 3, 3, 4, 1, 2, 2, 3, 2, 3, 3, 4, 2, 3, 3, 4, 3, 4, 4, 5, 1, 2, 2, 3, 2, 3, 3, 4, 2, 3, 3, 4, 3, 4, 4, 5, 2, 3, 3, 4, 3, 4, 4, 5, 3, 4, 4, 5, 4, 5, 5, 6].append [1, 2, 2, 3, 2, 3, 3, 4, 2, 3, 3, 4, 3, 4, 4, 5, 2, 3, 3, 4, 3, 4, 4, 5, 3, 4, 4, 5, 4, 5, 5, 6, 2, 3, 3, 4, 3, 4, 4, 5, 3, 4, 4, 5, 4, 5, 5, 6, 3, 4, 4, 5, 4, 5, 5, 6, 4, 5, 5, 6, 5, 6, 6, 7]).append ([1, 2, 2, 3, 2, 3, 3, 4, 2, 3, 3, 4, 3, 4, 4, 5, 2, 3, 3, 4, 3, 4, 4, 5, 3, 4, 4, 5, 4, 5, 5, 6, 2, 3, 3, 4, 3, 4, 4, 5, 3, 4, 4, 5, 4, 5, 5, 6, 3, 4, 4, 5, 4, 5, 5, 6, 4, 5, 5, 6, 5, 6, 6, 7].append [2, 3, 3, 4, 3, 4, 4, 5, 3, 4, 4, 5, 4, 5, 5, 6, 3, 4, 4, 5, 4, 5, 5, 6, 4, 5, 5, 6, 5, 6, 6, 7, 3, 4, 4, 5, 4, 5, 5, 6, 4, 5, 5, 6, 5, 6, 6, 7, 4, 5, 5, 6, 5, 6, 6, 7, 5, 6, 6, 7, 6, 7, 7, 8])).toArray⟩ : ByteArray) = T at hs ht ⊢
  have i1 := idx_tab T hs ht (x / 16777216) (by omega)
  have i2 := idx_tab T hs ht (x / 65536 % 256) (by omega)
  have i3 := idx_tab T hs ht (x / 256 % 256) (by omega)
  have i4 := idx_tab T hs ht (x % 256) (by omega)
  have HB : Hid (cntN x 32 = cntN (x / 16777216) 8 + cntN (x / 65536 % 256) 8 + cntN (x / 256 % 256) 8 + cntN (x % 256) 8) := cntN_bytes x
  have l1 := cntN_le (x / 16777216) 8
  have l2 := cntN_le (x / 65536 % 256) 8
  have l3 := cntN_le (x / 256 % 256) 8
  have l4 := cntN_le (x % 256) 8
  clear hs ht
  generalize cntN (x / 16777216) 8 = c1 at *
  generalize cntN (x / 65536 % 256) 8 = c2 at *
  generalize cntN (x / 256 % 256) 8 = c3 at *
  generalize cntN (x % 256) 8 = c4 at *
  rw [show ((x / 16777216 : Nat) : Int) = (x : Int) / 16777216 from by omega] at i1
  rw [show ((x / 65536 : Nat) : Int) = (x : Int) / 65536 from by omega] at a1
  rw [show ((x / 256 : Nat) : Int) = (x : Int) / 256 from by omega] at a2
  generalize x / 65536 % 256 = j2 at *
  generalize x / 256 % 256 = j3 at *
  generalize x % 256 = j4 at *
  go_wp2
  go_quiet (fail)
  go_wp2
  go_ret
  exact ⟨ret_i64 (by rw [HB.out]; simp), _, rfl⟩
set_option maxHeartbeats 400000 in
theorem count_any (x : Nat) (hx : x < 4294967296) (w : World) : Calls Tryd.prog 13 #[.int .u32 (x : Int)] w fun e w' => e = .returned (.int .i64 (cntN x 32)) ∧ ∃ q, w' = w.drewN q := by
  go_enter Tryd.func13, Tryd.ntmps13
  go_wp2_with (go_at_call 31; refine (ones_any x hx _).mono ?_; rintro e w' ⟨rfl, q, rfl⟩)
  go_ret
  exact ⟨rfl, _, rfl⟩

end Go.Proofs.YtndnpcegofbbaaaDoor
