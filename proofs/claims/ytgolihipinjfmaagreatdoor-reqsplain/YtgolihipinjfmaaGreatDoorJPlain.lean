/- What Plain answers, for every request. -/
import Derived.Test.YtgolihipinjfmaaGreatDoorJOwn
namespace Go.Proofs.YtgolihipinjfmaaGreatDoor.J
open Go Go.RowKit

theorem pln_len (r : Rq) (h : r.l.length ≤ 1000000) : (pln r).l.length ≤ 1000000 := by
  unfold pln
  split
  · exact h
  · simp [bare]

set_option maxRecDepth 100000 in
set_option maxHeartbeats 1000000 in
theorem plain_any (r : Rq) (p : Option Addr) (c : Nat) (w : World) (hat : At w p (ints r.l)) (hl : r.l.length ≤ 1000000) (he : Env w) :
    Calls Tryz.prog 15 #[rqV r p c] w (OwnPost (pln r) w) := by
  have hB1 := on_alloc w (.cells (rqC r p c).toArray 25)
  have bB2 := (Blk.new w 25 (rqC r p c)).alloc (.cells zeroC.toArray 25)
  have bR2 := Blk.new (w.alloc (.cells (rqC r p c).toArray 25)) 25 zeroC
  have hB2 := hB1.alloc hB1.size (.cells zeroC.toArray 25)
  simp only [World.size_alloc] at bR2
  have cC := check_any r p c ((w.alloc (.cells (rqC r p c).toArray 25)).alloc (.cells zeroC.toArray 25)) (AtF.on hat hB2) hl (he.below hB2)
  have hs2 : w.heap.size + 1 < ((w.alloc (.cells (rqC r p c).toArray 25)).alloc (.cells zeroC.toArray 25)).heap.size := by simp
  have HAp : Hid (∀ X, Below w.heap.size w X → w.heap.size + 1 < X.heap.size → ∃ q c2 Y, (Builtin.append_ #[23, 23] 23 #[.slice none 0 0, .slice p r.l.length c]).run Tryz.prog X = .ok (.slice q r.l.length c2) Y ∧ AtF X.heap.size Y q (ints r.l) ∧ r.l.length ≤ c2 ∧ Below X.heap.size X Y) := fun X h hs => by
    obtain ⟨v, Y, h1, h2, h3⟩ := append_row elemInt X.heap.size (.slice none 0 0) [] p c (ints r.l) X (by simp) (by rw [ints_len]; exact hl) (one_ints _) (ownV_nil _ _ _) (AtF.on hat h) (Nat.le_refl _)
    rw [List.nil_append] at h2
    obtain ⟨q, c2, rfl, h4, h5⟩ := ownV_at h2
    rw [ints_len] at h1 h5
    exact ⟨q, c2, Y, h1, h4, h5, h3.below (Below.refl _ _) (Nat.le_refl _) (Nat.le_refl _)⟩
  have HE1 : Hid (chk r = 0 → ∀ X Y Z Y2 q c2, Below w.heap.size w X → w.heap.size + 1 < X.heap.size → AtF X.heap.size Y q (ints r.l) → r.l.length ≤ c2 → Below X.heap.size X Y → But w.heap.size Y Z → But (w.heap.size + 1) Z Y2 → OwnPost (pln r) w (.returned (rqV r q c2)) Y2) := fun h0 X Y Z Y2 q c2 h1 h2 h3 h4 h5 h6 h7 => by
    have e : pln r = r := by unfold pln; rw [if_pos h0]
    rw [e]
    exact ⟨q, c2, rfl, ((h3.but h6 (by omega)).but h7 h2).less (by omega), h4, below_but (below_but (h1.trans (h5.mono h1.size)) h6 (Nat.le_refl _)) h7 (by omega)⟩
  have HE2 : Hid (chk r ≠ 0 → ∀ X Y2, Below w.heap.size w X → But (w.heap.size + 1) X Y2 → OwnPost (pln r) w (.returned (.agg #[.int .i64 r.no, .int .i64 0, .int .i64 0, .int .i64 0, .int .i64 0, .int .i64 0, .string ⟨#[]⟩, .string ⟨#[]⟩, .slice none 0 0])) Y2) := fun h0 X Y2 h1 h2 => by
    have e : pln r = bare r.no := by unfold pln; rw [if_neg h0]
    rw [e]
    exact ⟨none, 0, rfl, .inl rfl, Nat.le_refl _, below_but h1 h2 (by omega)⟩
  have HOP : Hid (∀ e W, OwnPost (pln r) w e W → OwnPost (pln r) w e W) := fun _ _ h => h
  generalize OwnPost (pln r) w = Post at *
  generalize chk r = E at *
  clear he hat HOP
  unfold rqV at *
  unfold zeroC at *
  unfold rqC at *
  generalize r.l.length = n at *
  generalize r.no = no at *
  generalize r.a0 = a0 at *
  generalize r.a1 = a1 at *
  generalize r.a2 = a2 at *
  generalize r.a3 = a3 at *
  generalize r.a4 = a4 at *
  generalize r.S = sS at *
  generalize r.T = sT at *
  obtain ⟨⟨b0, b1, b2, b3, b4, b5, b6, b7, b8⟩, _⟩ := rq_cells bB2
  go_enter Tryz.func15, Tryz.ntmps15
  by_cases h0 : E = 0
  · subst h0
    go_upto_region 3 with (go_at_call 9; refine cC.mono ?_; rintro e X ⟨rfl, hb⟩)
    have hX := on_trans hB2 hb
    have hsX : w.heap.size + 1 < X.heap.size := Nat.lt_of_lt_of_le hs2 hb.size
    have bBX := bB2.on hb
    have bRX := bR2.on hb
    clear b0 b1 b2 b3 b4 b5 b6 b7 b8 cC bB2 bR2 hB2 hb hB1 hs2
    obtain ⟨q, c2, Y, hrun, h3, h4, h5⟩ := HAp.out X hX hsX
    have bBY := bBX.on h5
    have bRY := bRX.on h5
    have x8 := bBX.cell 8 rfl
    have y8 := bBY.cell 8 rfl
    have f8 := bBY.free 8
    go_upto_region 4 with (at_builtin; refine wpList_run_append (by rfl) _ _ _ (by rfl) _ _ (by rfl) (by rfl) hrun ?_)
    have bBZ := bBY.set 8 (.slice q n c2)
    have bRZ := bRY.but (but_set Y w.heap.size 8 (.slice q n c2)) (by omega)
    have kZ := but_set Y w.heap.size 8 (.slice q n c2)
    obtain ⟨Z, hZ⟩ : ∃ Z, Y.setCell ⟨w.heap.size, 8, none⟩ (.slice q n c2) = Z := ⟨_, rfl⟩
    simp only [List.set_cons_succ, List.set_cons_zero] at bBZ
    rw [hZ] at bBZ bRZ kZ ⊢
    clear x8 y8 f8 hZ bBX bRX bBY bRY hrun
    obtain ⟨⟨b0, b1, b2, b3, b4, b5, b6, b7, b8⟩, _⟩ := rq_cells bBZ
    obtain ⟨⟨r0, r1, r2, r3, r4, r5, r6, r7, r8⟩, f0, f1, f2, f3, f4, f5, f6, f7, f8⟩ := rq_cells bRZ
    have hfin := bRZ.put [.int .i64 no, .int .i64 a0, .int .i64 a1, .int .i64 a2, .int .i64 a3, .int .i64 a4, .string sS, .string sT, .slice q n c2] rfl
    have HF : Hid (Post (.returned (.agg [.int .i64 no, .int .i64 a0, .int .i64 a1, .int .i64 a2, .int .i64 a3, .int .i64 a4, .string sS, .string sT, .slice q n c2].toArray)) (putL Z (w.heap.size + 1) 0 [.int .i64 no, .int .i64 a0, .int .i64 a1, .int .i64 a2, .int .i64 a3, .int .i64 a4, .string sS, .string sT, .slice q n c2])) :=
      HE1.out (by trivial) X Y Z _ q c2 hX hsX h3 h4 h5 kZ (but_putL _ _ _ _)
    clear kZ h3 h4 h5 HAp HE1 HE2
    go_wp2
    exact bodyPost_ret (results_blk (cs := [.int .i64 no, .int .i64 a0, .int .i64 a1, .int .i64 a2, .int .i64 a3, .int .i64 a4, .string sS, .string sT, .slice q n c2]) aggRq infoRq rfl _ _ rfl hfin) rfl HF.out
  · have h0b : (E != 0) = true := by simpa using h0
    have HF : Hid (∀ X Y2, Below w.heap.size w X → But (w.heap.size + 1) X Y2 → Post (.returned (.agg #[.int .i64 no, .int .i64 0, .int .i64 0, .int .i64 0, .int .i64 0, .int .i64 0, .string ⟨#[]⟩, .string ⟨#[]⟩, .slice none 0 0])) Y2) := HE2.out h0
    go_upto_region 2 with (go_at_call 9; refine cC.mono ?_; rintro e X ⟨rfl, hb⟩)
    have hX := on_trans hB2 hb
    have bBX := bB2.on hb
    have bRX := bR2.on hb
    clear b0 b1 b2 b3 b4 b5 b6 b7 b8 cC bB2 bR2 hB2 hb hB1 hs2 HAp HE1 HE2
    have b0 := bBX.cell 0 rfl
    obtain ⟨⟨r0, r1, r2, r3, r4, r5, r6, r7, r8⟩, f0, f1, f2, f3, f4, f5, f6, f7, f8⟩ := rq_cells bRX
    have hfin := bRX.put [.int .i64 no, .int .i64 0, .int .i64 0, .int .i64 0, .int .i64 0, .int .i64 0, .string ⟨#[]⟩, .string ⟨#[]⟩, .slice none 0 0] rfl
    have HF2 : Hid (Post (.returned (.agg [.int .i64 no, .int .i64 0, .int .i64 0, .int .i64 0, .int .i64 0, .int .i64 0, .string ⟨#[]⟩, .string ⟨#[]⟩, .slice none 0 0].toArray)) (putL X (w.heap.size + 1) 0 [.int .i64 no, .int .i64 0, .int .i64 0, .int .i64 0, .int .i64 0, .int .i64 0, .string ⟨#[]⟩, .string ⟨#[]⟩, .slice none 0 0])) := HF.out X _ hX (but_putL _ _ _ _)
    go_wp2
    exact bodyPost_ret (results_blk (cs := [.int .i64 no, .int .i64 0, .int .i64 0, .int .i64 0, .int .i64 0, .int .i64 0, .string ⟨#[]⟩, .string ⟨#[]⟩, .slice none 0 0]) aggRq infoRq rfl _ _ rfl hfin) rfl HF2.out

end Go.Proofs.YtgolihipinjfmaaGreatDoor.J
