/- What rights.Put and rights.Take answer. -/
import Derived.Test.YtndnpcegofbbaaaDoorLives
import Derived.Test.YtndnpcegofbbaaaDoorPlaina
import Derived.Deep.DeepCutAuto
import Derived.Deep.RegionWith
namespace Go.Proofs.YtndnpcegofbbaaaDoor
open Go Go.RowKit Go.Shelf

def putA (a : Nat) : Nat := 144115188075855872 + a % 1048576
def putB (a : Nat) : Nat := 288230376151711744 + a / 1048576

theorem and20 (a : Nat) (ha : a < 18446744073709551616) : bits .and .u64 (a : Int) 1048575 = ((a % 1048576 : Nat) : Int) := by
  have h := u64_and_nat a 1048575 ha (by decide)
  rw [show a &&& 1048575 = a % 1048576 from Nat.and_two_pow_sub_one_eq_mod a 20] at h
  exact h
theorem and12 (a : Nat) (ha : a < 18446744073709551616) : bits .and .u64 (a : Int) 4095 = ((a % 4096 : Nat) : Int) := by
  have h := u64_and_nat a 4095 ha (by decide)
  rw [show a &&& 4095 = a % 4096 from Nat.and_two_pow_sub_one_eq_mod a 12] at h
  exact h
theorem or57 (x : Nat) (hx : x < 1048576) : bits .or .u64 (x : Int) 144115188075855872 = ((144115188075855872 + x : Nat) : Int) := by
  have h := u64_or_nat x 144115188075855872 (by omega) (by decide)
  have e : x ||| 144115188075855872 = 144115188075855872 + x := by
    rw [Nat.or_comm]; exact nat_join 57 144115188075855872 x (by decide) (by omega)
  rw [e] at h
  exact h
theorem or58 (x : Nat) (hx : x < 4096) : bits .or .u64 (x : Int) 288230376151711744 = ((288230376151711744 + x : Nat) : Int) := by
  have h := u64_or_nat x 288230376151711744 (by omega) (by decide)
  have e : x ||| 288230376151711744 = 288230376151711744 + x := by
    rw [Nat.or_comm]; exact nat_join 58 288230376151711744 x (by decide) (by omega)
  rw [e] at h
  exact h

set_option maxHeartbeats 400000 in
theorem put_any (a : Nat) (ha : a < 4294967296) (w : World) : Calls Tryd.prog 26 #[.int .u32 (a : Int)] w fun e w' => e = .returned (.agg #[.int .u64 (putA a), .int .u64 (putB a)]) ∧ w' = w.alloc (.cells #[.int .u64 (putA a), .int .u64 (putB a)] 43) := by
  have e1 := and20 a (by omega)
  have e2 := or57 (a % 1048576) (by omega)
  have e3 := or58 (a / 1048576) (by omega)
  have H1 : Hid (putA a = 144115188075855872 + a % 1048576) := rfl
  have H2 : Hid (putB a = 288230376151711744 + a / 1048576) := rfl
  rw [show ((a / 1048576 : Nat) : Int) = (a : Int) / 1048576 by omega] at e3
  generalize a % 1048576 = x at *
  generalize (144115188075855872 + x : Nat) = x2 at *
  generalize (288230376151711744 + a / 1048576 : Nat) = y2 at *
  go_enter Tryd.func26, Tryd.ntmps26
  go_wp2
  rw [H1.out, H2.out]
  exact bodyPost_ret (v := .agg #[.int .u64 x2, .int .u64 y2]) (results_cell_row rfl _ _ w.heap.size 43 _ (0, 0) _ rfl (World.alloc_heap_new w _) Tryd.underlying43 rfl (by kernel_rfl)) rfl ⟨rfl, rfl⟩

def takeA (l0 l1 : Nat) : Nat := l0 % 1048576 + l1 % 4096 * 1048576
theorem takeA_lt (l0 l1 : Nat) : takeA l0 l1 < 4294967296 := by unfold takeA; omega
def takeOk (l0 l1 : Nat) : Bool := putA (takeA l0 l1) == l0 && putB (takeA l0 l1) == l1
def takeV (l0 l1 : Nat) : Int := if takeOk l0 l1 = true then (takeA l0 l1 : Int) else 0
def takeE (l0 l1 : Nat) : Int := if takeOk l0 l1 = true then 0 else 22
theorem putA_take (l0 l1 : Nat) : putA (takeA l0 l1) = 144115188075855872 + l0 % 1048576 := by unfold putA takeA; omega
theorem putB_take (l0 l1 : Nat) : putB (takeA l0 l1) = 288230376151711744 + l1 % 4096 := by unfold putB takeA; omega

theorem or_take (x y : Nat) (hx : x < 1048576) (hy : y < 4096) : bits .or .u64 (x : Int) ((y : Int) * 1048576) = ((x + y * 1048576 : Nat) : Int) := by
  have h := u64_or_nat x (y * 1048576) (by omega) (by omega)
  have e : x ||| y * 1048576 = x + y * 1048576 := by
    rw [Nat.or_comm, Nat.add_comm]; exact nat_join 20 (y * 1048576) x (by simp) (by simpa using hx)
  rw [e] at h
  rw [← h]; simp

theorem eqPair (a b c d : Int) (w : World) : (Op.equalIn 10000 43 (.agg #[.int .u64 a, .int .u64 b]) (.agg #[.int .u64 c, .int .u64 d])).run Tryd.prog w = .ok (a == c && b == d) w := by
  have u3 := Tryd.underlying42
  have a3 := Tryd.isAgg42
  have z3 := Tryd.sizeOf42
  rw [show (10000 : Nat) = 9999 + 1 from rfl, Op.equalIn]
  simp only [Sem.run_bind, run_underlying Tryd.underlying43, Result.andThen_ok]
  simp only [Std.Legacy.Range.forIn_eq_forIn_range', Std.Legacy.Range.size, Nat.sub_zero, Nat.add_sub_cancel, Nat.div_one, List.range'_succ, List.range'_zero, List.forIn_cons, List.forIn_nil]
  go_simp
  by_cases h1 : a = c <;> by_cases h2 : b = d <;> simp [h1, h2]

set_option maxHeartbeats 400000 in
theorem take_len (a : Option Addr) (len cap : Nat) (h2 : len ≠ 2) (w : World) : Calls Tryd.prog 27 #[.slice a len cap] w fun e w' => e = .returned (.tuple #[.int .u32 0, .int .i64 22]) ∧ w' = w := by
  have hne : ((len : Int) != 2) = true := by rw [bne_iff_ne]; omega
  go_enter Tryd.func27, Tryd.ntmps27
  go_wp2
  go_ret2
  exact ⟨rfl, rfl⟩

set_option maxRecDepth 100000 in
set_option maxHeartbeats 1000000 in
theorem take_two (b off cap l0 l1 : Nat) (hb0 : l0 < 18446744073709551616) (hb1 : l1 < 18446744073709551616) (w : World) (h0 : w.cell? ⟨b, off, none⟩ = some (.int .u64 (l0 : Int))) (h1 : w.cell? ⟨b, off + 1, none⟩ = some (.int .u64 (l1 : Int))) (hbw : b < w.heap.size) :
    Calls Tryd.prog 27 #[.slice (some ⟨b, off, none⟩) 2 cap] w fun e w' => e = .returned (.tuple #[.int .u32 (takeV l0 l1), .int .i64 (takeE l0 l1)]) ∧ Below w.heap.size w w' := by
  have e0 := and20 l0 hb0
  have e1 := and12 l1 hb1
  have e2 := or_take (l0 % 1048576) (l1 % 4096) (by omega) (by omega)
  have hA : (l0 % 1048576 + l1 % 4096 * 1048576 : Nat) = takeA l0 l1 := rfl
  rw [hA] at e2
  have hlt := takeA_lt l0 l1
  have HT : Hid (takeOk l0 l1 = (putA (takeA l0 l1) == l0 && putB (takeA l0 l1) == l1)) := rfl
  have HV : Hid (takeV l0 l1 = if takeOk l0 l1 = true then (takeA l0 l1 : Int) else 0) := rfl
  have HE : Hid (takeE l0 l1 = if takeOk l0 l1 = true then 0 else 22) := rfl
  have hm : l1 % 4096 < 4096 := by omega
  have cP := put_any (takeA l0 l1) hlt
  clear hA
  generalize l0 % 1048576 = x at *
  generalize l1 % 4096 = y at *
  generalize takeA l0 l1 = A at *
  go_enter Tryd.func27, Tryd.ntmps27
  go_wp2
  go_quiet (fail)
  go_wp2
  have hB1 : Below w.heap.size w (w.drewN nq) := below_drewN (Below.refl _ _) nq
  have k0 : (w.drewN nq).cell? ⟨b, off, none⟩ = some (.int .u64 (l0 : Int)) := h0
  have k1 : (w.drewN nq).cell? ⟨b, off + 1, none⟩ = some (.int .u64 (l1 : Int)) := h1
  have kb : b < (w.drewN nq).heap.size := hbw
  generalize w.drewN nq = W at *
  clear h0 h1 hbw
  have g0 : ∀ o, (W.alloc o).cell? ⟨b, off, none⟩ = some (.int .u64 (l0 : Int)) := fun o => (((Below.refl _ W).alloc (Nat.le_refl _) o).cell (p := ⟨b, off, none⟩) kb).trans k0
  have g1 : ∀ o, (W.alloc o).cell? ⟨b, off + 1, none⟩ = some (.int .u64 (l1 : Int)) := fun o => (((Below.refl _ W).alloc (Nat.le_refl _) o).cell (p := ⟨b, off + 1, none⟩) kb).trans k1
  have hE := eqPair (putA A) (putB A) l0 l1
  have HQ : Hid ((((putA A : Nat) : Int) == (l0 : Int) && ((putB A : Nat) : Int) == (l1 : Int)) = (putA A == l0 && putB A == l1)) := show _ = _ by
    rw [Bool.eq_iff_iff]; simp; omega
  generalize (((putA A : Nat) : Int) == (l0 : Int) && ((putB A : Nat) : Int) == (l1 : Int)) = z at *
  go_cut [32] (fun s32 wc => s32 = .bool (!z) ∧ Below w.heap.size w wc)
  case first =>
    go_region_with (go_at_call 26; refine (cP _).mono ?_; rintro e w' ⟨rfl, rfl⟩)
    all_goals
      go_wp2_with fail
      go_meet
      case rel => exact ⟨rfl, (hB1.alloc hB1.size _).drew⟩
  case rest =>
    obtain ⟨rfl, hBc⟩ := hcut
    have HZ : Hid (takeOk l0 l1 = z) := show _ = _ by rw [HT.out, ← HQ.out]
    clear HQ HT hE g0 g1 k0 k1 kb
    cases z
    · go_wp2
      go_ret2
      exact ⟨by rw [HV.out, HE.out, HZ.out]; rfl, hBc⟩
    · go_wp2
      go_ret2
      exact ⟨by rw [HV.out, HE.out, HZ.out]; rfl, hBc⟩

end Go.Proofs.YtndnpcegofbbaaaDoor
