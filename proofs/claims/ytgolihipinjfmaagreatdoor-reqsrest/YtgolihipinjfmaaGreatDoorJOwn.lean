/- Requests in memory of their own: the reference's Own, and the laws' short. -/
import Derived.Test.YtgolihipinjfmaaGreatDoorJCheck
import Derived.Test.YtgolihipinjfmaaGreatDoorGMore
import Derived.Lib.SliceRun
namespace Go.Proofs.YtgolihipinjfmaaGreatDoor.J
open Go Go.RowKit

theorem elemInt : ElemOk Tryz.prog 23 3 (.int .i64 0) 8 := ⟨Tryz.underlying23, by kernel_rfl, rfl, by decide⟩
theorem aggRq : ∀ w, (isAgg 25).run Tryz.prog w = .ok true w := Tryz.isAgg25
theorem infoRq : (Tryz.prog.info? 25).map (·.size) = some 9 := by kernel_rfl
theorem one_ints (l : List Int) : ∀ u ∈ ints l, u.oneCell' = true := fun u hu => by
  obtain ⟨z, _, rfl⟩ := List.mem_map.1 hu
  rfl
def zeroC : List Value := [.int .i64 0, .int .i64 0, .int .i64 0, .int .i64 0, .int .i64 0, .int .i64 0, .string ⟨#[]⟩, .string ⟨#[]⟩, .slice none 0 0]
/-- A request, told with a list of its own. -/
def OwnPost (r : Rq) (w : World) (e : Ending) (W : World) : Prop := ∃ p c, e = .returned (rqV r p c) ∧ AtF w.heap.size W p (ints r.l) ∧ r.l.length ≤ c ∧ Below w.heap.size w W

/-- The cells of a request's box. -/
theorem rq_cells {W : World} {B : Nat} {v0 v1 v2 v3 v4 v5 v6 v7 v8 : Value} (h : Blk W B 25 [v0, v1, v2, v3, v4, v5, v6, v7, v8]) :
    (W.cell? ⟨B, 0, none⟩ = some v0 ∧ W.cell? ⟨B, 1, none⟩ = some v1 ∧ W.cell? ⟨B, 2, none⟩ = some v2 ∧ W.cell? ⟨B, 3, none⟩ = some v3 ∧ W.cell? ⟨B, 4, none⟩ = some v4 ∧ W.cell? ⟨B, 5, none⟩ = some v5 ∧ W.cell? ⟨B, 6, none⟩ = some v6 ∧ W.cell? ⟨B, 7, none⟩ = some v7 ∧ W.cell? ⟨B, 8, none⟩ = some v8) ∧
    W.frozen? ⟨B, 0, none⟩ = false ∧ W.frozen? ⟨B, 1, none⟩ = false ∧ W.frozen? ⟨B, 2, none⟩ = false ∧ W.frozen? ⟨B, 3, none⟩ = false ∧ W.frozen? ⟨B, 4, none⟩ = false ∧ W.frozen? ⟨B, 5, none⟩ = false ∧ W.frozen? ⟨B, 6, none⟩ = false ∧ W.frozen? ⟨B, 7, none⟩ = false ∧ W.frozen? ⟨B, 8, none⟩ = false :=
  ⟨⟨h.cell 0 rfl, h.cell 1 rfl, h.cell 2 rfl, h.cell 3 rfl, h.cell 4 rfl, h.cell 5 rfl, h.cell 6 rfl, h.cell 7 rfl, h.cell 8 rfl⟩, h.free 0, h.free 1, h.free 2, h.free 3, h.free 4, h.free 5, h.free 6, h.free 7, h.free 8⟩

set_option maxRecDepth 100000 in
set_option maxHeartbeats 1000000 in
theorem own_any (r : Rq) (p : Option Addr) (c : Nat) (w : World) (hat : At w p (ints r.l)) (hl : r.l.length ≤ 1000000) :
    Calls Tryz.prog 10 #[rqV r p c] w (OwnPost r w) := by
  obtain ⟨n, hn⟩ : ∃ n, r.l.length = n := ⟨_, rfl⟩
  have hB1 := on_alloc w (.cells (rqC r p c).toArray 25)
  have bB1 := Blk.new w 25 (rqC r p c)
  have hB2 := hB1.alloc hB1.size (.cells zeroC.toArray 25)
  have bR2 := Blk.new (w.alloc (.cells (rqC r p c).toArray 25)) 25 zeroC
  have bB2 := bB1.alloc (.cells zeroC.toArray 25)
  obtain ⟨v1, w4, hrun, hb4, ho4⟩ := append_copy elemInt ((w.alloc (.cells (rqC r p c).toArray 25)).alloc (.cells zeroC.toArray 25)).heap.size ((w.alloc (.cells (rqC r p c).toArray 25)).alloc (.cells zeroC.toArray 25)).heap.size p c (ints r.l)
    (((w.alloc (.cells (rqC r p c).toArray 25)).alloc (.cells zeroC.toArray 25)).alloc (.cells #[] 3)) (by rw [ints_len]; exact hl) (one_ints _) (ownV_empty _ _ _ (Nat.le_refl _)) (by simp) (AtF.on hat (on_trans hB2 (on_alloc _ _)))
  obtain ⟨q, c2, rfl, hq, hc2⟩ := ownV_at ho4
  rw [ints_len] at hrun hc2
  have hb24 := on_trans (on_alloc ((w.alloc (.cells (rqC r p c).toArray 25)).alloc (.cells zeroC.toArray 25)) (.cells #[] 3)) hb4
  have bB4 := bB2.on hb24
  have bR4 := bR2.on hb24
  have hw4 := on_trans hB2 hb24
  have HP : Hid (∀ W, AtF w.heap.size W q (ints r.l) → Below w.heap.size w W → OwnPost r w (.returned (rqV r q c2)) W) := fun W h1 h2 => ⟨q, c2, rfl, h1, hc2, h2⟩
  have hzz : (w.alloc (.cells (rqC r p c).toArray 25)).heap.size < ((w.alloc (.cells (rqC r p c).toArray 25)).alloc (.cells zeroC.toArray 25)).heap.size ∧ w.heap.size < (w.alloc (.cells (rqC r p c).toArray 25)).heap.size := ⟨by simp, by simp⟩
  unfold rqV at HP ⊢
  unfold zeroC at *
  unfold rqC at *
  rw [hn] at *
  generalize r.no = no at *
  generalize r.a0 = a0 at *
  generalize r.a1 = a1 at *
  generalize r.a2 = a2 at *
  generalize r.a3 = a3 at *
  generalize r.a4 = a4 at *
  generalize r.S = sS at *
  generalize r.T = sT at *
  simp only [World.size_alloc] at hrun bR4 hzz hq
  have hR1 : w.heap.size < w.heap.size + 1 := by omega
  have hR2 : w.heap.size + 1 < w.heap.size + 1 + 1 := by omega
  clear hzz
  have HQ2 : Hid (∀ W W2, But w.heap.size w4 W → But (w.heap.size + 1) W W2 → AtF w.heap.size W2 q (ints r.l) ∧ Below w.heap.size w W2) := fun W W2 k1 k2 => ⟨((hq.but k1 (by omega)).but k2 hR2).less (by omega), below_but (below_but hw4 k1 (Nat.le_refl _)) k2 (by omega)⟩
  clear hb24 hw4 ho4 hq hc2 hb4 bB2 bR2 bB1 hB1 hB2 hat
  have x8 := bB4.cell 8 rfl
  have f8 := bB4.free 8
  go_enter Tryz.func10, Tryz.ntmps10
  go_upto_region 2 with (at_builtin; refine wpList_run_append (by rfl) _ _ _ (by rfl) _ _ (by rfl) (by rfl) hrun ?_)
  have bB5 := bB4.set 8 (.slice q n c2)
  have bR5 := bR4.but (but_set w4 w.heap.size 8 (.slice q n c2)) (by omega)
  have k5 := but_set w4 w.heap.size 8 (.slice q n c2)
  obtain ⟨w5, hw5⟩ : ∃ w5, w4.setCell ⟨w.heap.size, 8, none⟩ (.slice q n c2) = w5 := ⟨_, rfl⟩
  simp only [List.set_cons_succ, List.set_cons_zero] at bB5
  rw [hw5] at bB5 bR5 k5 ⊢
  obtain ⟨⟨b0, b1, b2, b3, b4, b5, b6, b7, b8⟩, _⟩ := rq_cells bB5
  obtain ⟨⟨r0, r1, r2, r3, r4, r5, r6, r7, r8⟩, f0, f1, f2, f3, f4, f5, f6, f7, f8⟩ := rq_cells bR5
  have hfin := bR5.put [.int .i64 no, .int .i64 a0, .int .i64 a1, .int .i64 a2, .int .i64 a3, .int .i64 a4, .string sS, .string sT, .slice q n c2] rfl
  have hk6 := but_putL (w.heap.size + 1) [.int .i64 no, .int .i64 a0, .int .i64 a1, .int .i64 a2, .int .i64 a3, .int .i64 a4, .string sS, .string sT, .slice q n c2] w5 0
  have HF : Hid (OwnPost r w (.returned (.agg [.int .i64 no, .int .i64 a0, .int .i64 a1, .int .i64 a2, .int .i64 a3, .int .i64 a4, .string sS, .string sT, .slice q n c2].toArray)) (putL w5 (w.heap.size + 1) 0 [.int .i64 no, .int .i64 a0, .int .i64 a1, .int .i64 a2, .int .i64 a3, .int .i64 a4, .string sS, .string sT, .slice q n c2])) := by
    obtain ⟨h1, h2⟩ := HQ2.out _ _ k5 hk6
    exact HP.out _ h1 h2
  clear k5 hk6 hrun x8 hw5 bB4 bR4 bB5
  go_wp2
  exact bodyPost_ret (results_blk (cs := [.int .i64 no, .int .i64 a0, .int .i64 a1, .int .i64 a2, .int .i64 a3, .int .i64 a4, .string sS, .string sT, .slice q n c2]) aggRq infoRq rfl _ _ rfl hfin) rfl HF.out

end Go.Proofs.YtgolihipinjfmaaGreatDoor.J
