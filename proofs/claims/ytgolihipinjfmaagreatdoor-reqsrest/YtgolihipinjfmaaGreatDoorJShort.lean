/- The laws' short: a list cut to its first hundred numbers, in memory of its own. -/
import Derived.Test.YtgolihipinjfmaaGreatDoorJOwn
namespace Go.Proofs.YtgolihipinjfmaaGreatDoor.J
open Go Go.RowKit

def cutR (r : Rq) : Rq := { r with l := r.l.take 100 }
theorem cutR_len (r : Rq) : (cutR r).l.length ≤ 100 := by unfold cutR; simp; omega

set_option maxRecDepth 100000 in
set_option maxHeartbeats 1000000 in
theorem short_any (r : Rq) (p : Option Addr) (c : Nat) (w : World) (hat : At w p (ints r.l)) (hl : r.l.length ≤ c) :
    Calls Tryz.prog 8 #[rqV r p c] w (OwnPost (cutR r) w) := by
  have bB2 := (Blk.new w 25 (rqC r p c)).alloc (.cells zeroC.toArray 25)
  have hB2 := (on_alloc w (.cells (rqC r p c).toArray 25)).alloc (on_alloc w (.cells (rqC r p c).toArray 25)).size (.cells zeroC.toArray 25)
  have bR2 := Blk.new (w.alloc (.cells (rqC r p c).toArray 25)) 25 zeroC
  simp only [World.size_alloc] at bR2
  have HAt : Hid (∀ X, Below w.heap.size w X → At X p (ints (cutR r).l)) := fun X h => by
    have := AtF.take (AtF.on hat h) 100
    show At _ p (ints (r.l.take 100))
    rw [show ints (r.l.take 100) = (ints r.l).take 100 by simp [ints, List.map_take]]
    exact this
  have HOwn : Hid (∀ X, Below w.heap.size w X → Calls Tryz.prog 10 #[rqV (cutR r) p c] X fun e Y => ∃ q2 c2, e = .returned (rqV (cutR r) q2 c2) ∧ AtF X.heap.size Y q2 (ints (cutR r).l) ∧ (cutR r).l.length ≤ c2 ∧ Below X.heap.size X Y) := fun X h1 => own_any (cutR r) p c X (HAt.out X h1) (by have := cutR_len r; omega)
  have HEnd : Hid (∀ X Y q2 c2, AtF X.heap.size Y q2 (ints (cutR r).l) → (cutR r).l.length ≤ c2 → Below X.heap.size X Y → Below w.heap.size w X → w.heap.size + 1 < X.heap.size → OwnPost (cutR r) w (.returned (rqV (cutR r) q2 c2)) (putL Y (w.heap.size + 1) 0 (rqC (cutR r) q2 c2))) := fun X Y q2 c2 h1 h2 h3 h4 h5 =>
    ⟨q2, c2, rfl, (h1.but (but_putL _ _ _ _) h5).less (by omega), h2, below_but (h4.trans (h3.mono h4.size)) (but_putL _ _ _ _) (by omega)⟩
  clear hat
  by_cases h100 : 100 < r.l.length
  · have hz : (100 : Int) < (r.l.length : Int) := by omega
    have hcz : (100 : Int) ≤ (c : Int) := by omega
    have hcn : 100 ≤ c := by omega
    have hlen : (cutR r).l.length = 100 := by unfold cutR; simp; omega
    have hv : rqV (cutR r) = fun q c2 => .agg #[.int .i64 r.no, .int .i64 r.a0, .int .i64 r.a1, .int .i64 r.a2, .int .i64 r.a3, .int .i64 r.a4, .string r.S, .string r.T, .slice q 100 c2] := by
      funext q c2; unfold rqV rqC; rw [hlen]; rfl
    have hv2 : rqC (cutR r) = fun q c2 => [.int .i64 r.no, .int .i64 r.a0, .int .i64 r.a1, .int .i64 r.a2, .int .i64 r.a3, .int .i64 r.a4, .string r.S, .string r.T, .slice q 100 c2] := by
      funext q c2; unfold rqC; rw [hlen]; rfl
    rw [hv] at HOwn HEnd
    rw [hv2] at HEnd
    clear hv hv2 hlen h100
    unfold rqV
    unfold zeroC at *
    unfold rqC at *
    generalize r.l.length = n at *
    generalize r.no = no at *
    generalize r.a0 = a0 at *
    generalize r.a1 = a1 at *
    generalize r.a2 = a2 at *
    generalize r.a3 = a3 at *
    generalize r.a4 = a4 at *
    generalize r.S = sS at *
    generalize r.T = sT at *
    have bB3 := (Blk.new w 25 [.int .i64 no, .int .i64 a0, .int .i64 a1, .int .i64 a2, .int .i64 a3, .int .i64 a4, .string sS, .string sT, .slice p 100 c]).alloc (.cells #[.int .i64 0, .int .i64 0, .int .i64 0, .int .i64 0, .int .i64 0, .int .i64 0, .string ⟨#[]⟩, .string ⟨#[]⟩, .slice none 0 0] 25)
    have bR3 := Blk.new (w.alloc (.cells #[.int .i64 no, .int .i64 a0, .int .i64 a1, .int .i64 a2, .int .i64 a3, .int .i64 a4, .string sS, .string sT, .slice p 100 c] 25)) 25 [.int .i64 0, .int .i64 0, .int .i64 0, .int .i64 0, .int .i64 0, .int .i64 0, .string ⟨#[]⟩, .string ⟨#[]⟩, .slice none 0 0]
    simp only [World.size_alloc] at bR3
    have hB3 := (on_alloc w (.cells #[.int .i64 no, .int .i64 a0, .int .i64 a1, .int .i64 a2, .int .i64 a3, .int .i64 a4, .string sS, .string sT, .slice p 100 c] 25)).alloc (on_alloc w (.cells #[.int .i64 no, .int .i64 a0, .int .i64 a1, .int .i64 a2, .int .i64 a3, .int .i64 a4, .string sS, .string sT, .slice p 100 c] 25)).size (.cells #[.int .i64 0, .int .i64 0, .int .i64 0, .int .i64 0, .int .i64 0, .int .i64 0, .string ⟨#[]⟩, .string ⟨#[]⟩, .slice none 0 0] 25)
    obtain ⟨⟨b0, b1, b2, b3, b4, b5, b6, b7, b8⟩, g0, g1, g2, g3, g4, g5, g6, g7, g8⟩ := rq_cells bB2
    have hX : w.heap.size + 1 < ((w.alloc (.cells #[.int .i64 no, .int .i64 a0, .int .i64 a1, .int .i64 a2, .int .i64 a3, .int .i64 a4, .string sS, .string sT, .slice p 100 c] 25)).alloc (.cells #[.int .i64 0, .int .i64 0, .int .i64 0, .int .i64 0, .int .i64 0, .int .i64 0, .string ⟨#[]⟩, .string ⟨#[]⟩, .slice none 0 0] 25)).heap.size := by simp
    clear bB2 bR2 hB2
    go_enter Tryz.func8, Tryz.ntmps8
    go_upto_region 3 with fail
    clear b0 b1 b2 b3 b4 b5 b6 b7 b8 g0 g1 g2 g3 g4 g5 g6 g7 g8
    obtain ⟨X, hXX⟩ : ∃ X, (w.alloc (.cells #[.int .i64 no, .int .i64 a0, .int .i64 a1, .int .i64 a2, .int .i64 a3, .int .i64 a4, .string sS, .string sT, .slice p 100 c] 25)).alloc (.cells #[.int .i64 0, .int .i64 0, .int .i64 0, .int .i64 0, .int .i64 0, .int .i64 0, .string ⟨#[]⟩, .string ⟨#[]⟩, .slice none 0 0] 25) = X := ⟨_, rfl⟩
    rw [hXX] at bB3 bR3 hB3 hX ⊢
    clear hXX
    have cO := HOwn.out X hB3
    obtain ⟨⟨b0, b1, b2, b3, b4, b5, b6, b7, b8⟩, _⟩ := rq_cells bB3
    have HE := fun Y q2 c2 h1 h2 h3 => HEnd.out X Y q2 c2 h1 h2 h3 hB3 hX
    have HR : Hid (Blk X (w.heap.size + 1) 25 [.int .i64 0, .int .i64 0, .int .i64 0, .int .i64 0, .int .i64 0, .int .i64 0, .string ⟨#[]⟩, .string ⟨#[]⟩, .slice none 0 0]) := bR3
    have HE2 : Hid (∀ Y q2 c2, AtF X.heap.size Y q2 (ints (cutR r).l) → (cutR r).l.length ≤ c2 → Below X.heap.size X Y → OwnPost (cutR r) w (.returned (.agg #[.int .i64 no, .int .i64 a0, .int .i64 a1, .int .i64 a2, .int .i64 a3, .int .i64 a4, .string sS, .string sT, .slice q2 100 c2])) (putL Y (w.heap.size + 1) 0 [.int .i64 no, .int .i64 a0, .int .i64 a1, .int .i64 a2, .int .i64 a3, .int .i64 a4, .string sS, .string sT, .slice q2 100 c2])) := HE
    clear bB3 bR3 HE HEnd HOwn
    go_wp2_with (go_at_call 10; refine cO.mono ?_; rintro e Y ⟨q2, c2, rfl, hq, hc2, hb⟩; have bRY := HR.out.on hb; obtain ⟨⟨r0, r1, r2, r3, r4, r5, r6, r7, r8⟩, f0, f1, f2, f3, f4, f5, f6, f7, f8⟩ := rq_cells bRY)
    have hfin := bRY.put [.int .i64 no, .int .i64 a0, .int .i64 a1, .int .i64 a2, .int .i64 a3, .int .i64 a4, .string sS, .string sT, .slice q2 100 c2] rfl
    have HF : Hid (OwnPost (cutR r) w (.returned (.agg #[.int .i64 no, .int .i64 a0, .int .i64 a1, .int .i64 a2, .int .i64 a3, .int .i64 a4, .string sS, .string sT, .slice q2 100 c2])) (putL Y (w.heap.size + 1) 0 [.int .i64 no, .int .i64 a0, .int .i64 a1, .int .i64 a2, .int .i64 a3, .int .i64 a4, .string sS, .string sT, .slice q2 100 c2])) := HE2.out Y q2 c2 hq hc2 hb
    exact bodyPost_ret (results_blk (cs := [.int .i64 no, .int .i64 a0, .int .i64 a1, .int .i64 a2, .int .i64 a3, .int .i64 a4, .string sS, .string sT, .slice q2 100 c2]) aggRq infoRq rfl _ _ rfl hfin) rfl HF.out
  · have hz : ¬ (100 : Int) < (r.l.length : Int) := by omega
    have hcut : cutR r = r := by unfold cutR; rw [List.take_of_length_le (by omega)]
    rw [hcut] at HOwn HEnd ⊢
    clear hcut h100 HAt
    unfold rqV at *
    unfold zeroC at *
    unfold rqC at *
    generalize r.l.length = n at *
    generalize r.no = no at *
    generalize r.a0 = a0 at *
    generalize r.a1 = a1 at *
    generalize r.a2 = a2 at *
    generalize r.a3 = a3 at *
    generalize r.a4 = a4 at *
    generalize r.S = sS at *
    generalize r.T = sT at *
    have hX : w.heap.size + 1 < ((w.alloc (.cells #[.int .i64 no, .int .i64 a0, .int .i64 a1, .int .i64 a2, .int .i64 a3, .int .i64 a4, .string sS, .string sT, .slice p n c] 25)).alloc (.cells #[.int .i64 0, .int .i64 0, .int .i64 0, .int .i64 0, .int .i64 0, .int .i64 0, .string ⟨#[]⟩, .string ⟨#[]⟩, .slice none 0 0] 25)).heap.size := by simp
    have bB3 := bB2
    have bR3 := bR2
    have hB3 := hB2
    have b8 := bB2.cell 8 rfl
    clear bB2 bR2 hB2
    go_enter Tryz.func8, Tryz.ntmps8
    go_upto_region 3 with fail
    clear b8
    obtain ⟨X, hXX⟩ : ∃ X, (w.alloc (.cells #[.int .i64 no, .int .i64 a0, .int .i64 a1, .int .i64 a2, .int .i64 a3, .int .i64 a4, .string sS, .string sT, .slice p n c] 25)).alloc (.cells #[.int .i64 0, .int .i64 0, .int .i64 0, .int .i64 0, .int .i64 0, .int .i64 0, .string ⟨#[]⟩, .string ⟨#[]⟩, .slice none 0 0] 25) = X := ⟨_, rfl⟩
    rw [hXX] at bB3 bR3 hB3 hX ⊢
    clear hXX
    have cO := HOwn.out X hB3
    obtain ⟨⟨b0, b1, b2, b3, b4, b5, b6, b7, b8⟩, _⟩ := rq_cells bB3
    have HE := fun Y q2 c2 h1 h2 h3 => HEnd.out X Y q2 c2 h1 h2 h3 hB3 hX
    have HR : Hid (Blk X (w.heap.size + 1) 25 [.int .i64 0, .int .i64 0, .int .i64 0, .int .i64 0, .int .i64 0, .int .i64 0, .string ⟨#[]⟩, .string ⟨#[]⟩, .slice none 0 0]) := bR3
    have HE2 : Hid (∀ Y q2 c2, AtF X.heap.size Y q2 (ints (r).l) → n ≤ c2 → Below X.heap.size X Y → OwnPost (r) w (.returned (.agg #[.int .i64 no, .int .i64 a0, .int .i64 a1, .int .i64 a2, .int .i64 a3, .int .i64 a4, .string sS, .string sT, .slice q2 n c2])) (putL Y (w.heap.size + 1) 0 [.int .i64 no, .int .i64 a0, .int .i64 a1, .int .i64 a2, .int .i64 a3, .int .i64 a4, .string sS, .string sT, .slice q2 n c2])) := HE
    clear bB3 bR3 HE HEnd HOwn
    go_wp2_with (go_at_call 10; refine cO.mono ?_; rintro e Y ⟨q2, c2, rfl, hq, hc2, hb⟩; have bRY := HR.out.on hb; obtain ⟨⟨r0, r1, r2, r3, r4, r5, r6, r7, r8⟩, f0, f1, f2, f3, f4, f5, f6, f7, f8⟩ := rq_cells bRY)
    have hfin := bRY.put [.int .i64 no, .int .i64 a0, .int .i64 a1, .int .i64 a2, .int .i64 a3, .int .i64 a4, .string sS, .string sT, .slice q2 n c2] rfl
    have HF : Hid (OwnPost (r) w (.returned (.agg #[.int .i64 no, .int .i64 a0, .int .i64 a1, .int .i64 a2, .int .i64 a3, .int .i64 a4, .string sS, .string sT, .slice q2 n c2])) (putL Y (w.heap.size + 1) 0 [.int .i64 no, .int .i64 a0, .int .i64 a1, .int .i64 a2, .int .i64 a3, .int .i64 a4, .string sS, .string sT, .slice q2 n c2])) := HE2.out Y q2 c2 hq hc2 hb
    exact bodyPost_ret (results_blk (cs := [.int .i64 no, .int .i64 a0, .int .i64 a1, .int .i64 a2, .int .i64 a3, .int .i64 a4, .string sS, .string sT, .slice q2 n c2]) aggRq infoRq rfl _ _ rfl hfin) rfl HF.out

end Go.Proofs.YtgolihipinjfmaaGreatDoor.J
