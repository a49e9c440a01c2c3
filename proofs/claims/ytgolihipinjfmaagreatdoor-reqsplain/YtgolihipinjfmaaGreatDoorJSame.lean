/- Two requests that are one: the reference's Same. -/
import Derived.Test.YtgolihipinjfmaaGreatDoorJOwn
import Derived.BigQuiet
namespace Go.Proofs.YtgolihipinjfmaaGreatDoor.J
open Go Go.RowKit

theorem eq_arr (a0 a1 a2 a3 a4 : Int) (w : World) : (Op.equalIn 10000 22 (.agg #[.int .i64 a0, .int .i64 a1, .int .i64 a2, .int .i64 a3, .int .i64 a4]) (.agg #[.int .i64 a0, .int .i64 a1, .int .i64 a2, .int .i64 a3, .int .i64 a4])).run Tryz.prog w = .ok true w := by
  have u23 := Tryz.underlying3
  have a23 := Tryz.isAgg3
  have z23 := Tryz.sizeOf3
  rw [show (10000 : Nat) = 9999 + 1 from rfl, Op.equalIn]
  simp only [Sem.run_bind, run_underlying Tryz.underlying22, Result.andThen_ok]
  simp only [Std.Legacy.Range.forIn_eq_forIn_range', Std.Legacy.Range.size, Nat.sub_zero, Nat.add_sub_cancel, Nat.div_one, List.range'_succ, List.range'_zero, List.forIn_cons, List.forIn_nil]
  go_simp

set_option maxRecDepth 100000 in
set_option maxHeartbeats 2000000 in
theorem same_any (s : Rq) (p q : Option Addr) (c d : Nat) (w : World) (hp : At w p (ints s.l)) (hq : At w q (ints s.l)) (hl : s.l.length ≤ 1000000) :
    Calls Tryz.prog 16 #[rqV s p c, rqV s q d] w fun e W => e = .returned (.bool true) ∧ Below w.heap.size w W := by
  have bA := (Blk.new w 25 (rqC s p c)).alloc (.cells (rqC s q d).toArray 25)
  have bB := Blk.new (w.alloc (.cells (rqC s p c).toArray 25)) 25 (rqC s q d)
  have hB := (on_alloc w (.cells (rqC s p c).toArray 25)).alloc (on_alloc w (.cells (rqC s p c).toArray 25)).size (.cells (rqC s q d).toArray 25)
  simp only [World.size_alloc] at bB
  have HP : Hid (At w p (ints s.l)) := hp
  have HQ : Hid (At w q (ints s.l)) := hq
  have heq := eq_arr s.a0 s.a1 s.a2 s.a3 s.a4
  obtain ⟨n, hn⟩ : ∃ n, s.l.length = n := ⟨_, rfl⟩
  have HN : Hid (s.l.length = n) := hn
  unfold rqV rqC at *
  rw [hn] at hl bA bB hB ⊢
  clear hn hp hq
  generalize s.l = l at *
  generalize s.no = no at *
  generalize s.a0 = a0 at *
  generalize s.a1 = a1 at *
  generalize s.a2 = a2 at *
  generalize s.a3 = a3 at *
  generalize s.a4 = a4 at *
  generalize s.S = sS at *
  generalize s.T = sT at *
  have HA : Hid (∀ W, Below ((w.alloc (.cells #[.int .i64 no, .int .i64 a0, .int .i64 a1, .int .i64 a2, .int .i64 a3, .int .i64 a4, .string sS, .string sT, .slice p n c] 25)).alloc (.cells #[.int .i64 no, .int .i64 a0, .int .i64 a1, .int .i64 a2, .int .i64 a3, .int .i64 a4, .string sS, .string sT, .slice q n d] 25)).heap.size ((w.alloc (.cells #[.int .i64 no, .int .i64 a0, .int .i64 a1, .int .i64 a2, .int .i64 a3, .int .i64 a4, .string sS, .string sT, .slice p n c] 25)).alloc (.cells #[.int .i64 no, .int .i64 a0, .int .i64 a1, .int .i64 a2, .int .i64 a3, .int .i64 a4, .string sS, .string sT, .slice q n d] 25)) W → W.cell? ⟨w.heap.size, 8, none⟩ = some (.slice p n c) ∧ W.cell? ⟨w.heap.size + 1, 8, none⟩ = some (.slice q n d) ∧ Below w.heap.size w W) := fun W h => ⟨(bA.on h).cell 8 rfl, (bB.on h).cell 8 rfl, on_trans hB h⟩
  obtain ⟨⟨b0, b1, b2, b3, b4, b5, b6, b7, b8⟩, _⟩ := rq_cells bA
  obtain ⟨⟨r0, r1, r2, r3, r4, r5, r6, r7, r8⟩, _⟩ := rq_cells bB
  clear bA bB hB
  go_enter Tryz.func16, Tryz.ntmps16
  go_upto_region 3 with fail
  clear b0 b1 b2 b3 b4 b5 b6 b7 b8 r0 r1 r2 r3 r4 r5 r6 r7 r8 heq
  generalize (w.alloc (.cells #[.int .i64 no, .int .i64 a0, .int .i64 a1, .int .i64 a2, .int .i64 a3, .int .i64 a4, .string sS, .string sT, .slice p n c] 25)).alloc (.cells #[.int .i64 no, .int .i64 a0, .int .i64 a1, .int .i64 a2, .int .i64 a3, .int .i64 a4, .string sS, .string sT, .slice q n d] 25) = X at *
  have HI0 : Hid (Below X.heap.size X X) := Below.refl _ _
  go_wp2
  go_loopw [5] (fun iv wr => ∃ i : Nat, i ≤ n ∧ iv = .int .i64 (i : Int) ∧ Hid (Below X.heap.size X wr)) (fun iv _ => n - (intOf iv).toNat)
  case atStart => exact ⟨0, Nat.zero_le _, rfl, by first | exact HI0.out | exact HI0.out.drew⟩
  case round =>
    clear HI0
    obtain ⟨i, hi, rfl, HI⟩ := hrel
    obtain ⟨x8, y8, hw⟩ := HA.out wr HI.out
    by_cases hlt : i < n
    · have hltz : (i : Int) < (n : Int) := by omega
      obtain ⟨pb, po, hpe, _, hpb, hpc⟩ := AtF.place (AtF.on HP.out hw) (k := i) (by rw [ints_len, HN.out]; exact hlt)
      obtain ⟨qb, qo, hqe, _, hqb, hqc⟩ := AtF.place (AtF.on HQ.out hw) (k := i) (by rw [ints_len, HN.out]; exact hlt)
      subst hpe
      subst hqe
      obtain ⟨z, hz⟩ : ∃ z, l[i]? = some z := ⟨l[i]'(by rw [HN.out]; exact hlt), List.getElem?_eq_getElem _⟩
      have hx := hpc _ _ (ints_get hz)
      have hy := hqc _ _ (ints_get hz)
      clear hpc hqc hz hw
      go_wp2
      go_quiet (fail)
      go_wp2
      refine ⟨⟨i + 1, by omega, by go_num, by first | exact HI.out | exact HI.out.drew | exact on_drewN HI.out _⟩, by simp [intOf]; omega⟩
    · have hge : ¬ (i : Int) < (n : Int) := by omega
      go_wp2
      go_ret
      exact ⟨rfl, hw⟩

end Go.Proofs.YtgolihipinjfmaaGreatDoor.J
