/- What the reference's Gate answers, for every request and mode. -/
import Derived.Test.YtgolihipinjfmaaGreatDoorJRCheck
import Derived.Test.YtgolihipinjfmaaGreatDoorJOwn
namespace Go.Proofs.YtgolihipinjfmaaGreatDoor.J
open Go Go.RowKit Go.Shelf
open Go.Proofs.YtgolihipinjfmaaGreatDoor.C (cshape cname cgate cneed0 cneed1 byt byt_list byt_size row_size callV callC rget_at)

theorem shape_tw : ∀ k : Fin 64, (1 < (cshape k).length → (ltr (cshape k) 1 == 100) = (ltr (sm k) 1 == 100)) ∧ (¬ 1 < (cshape k).length → (ltr (sm k) 1 == 100) = false) := by decide +kernel

theorem rgate_bad (r : Rq) (p : Option Addr) (c : Nat) (cap : Bool) (w : World) (hE : chk r ≠ 0) (hat : At w p (ints r.l)) (hl : r.l.length ≤ 1000000) :
    Calls Tryz.prog 19 #[rqV r p c, .bool cap] w fun e W => e = .returned (.int .i64 (chk r)) ∧ Below w.heap.size w W := by
  have hB1 := on_alloc w (.cells (rqC r p c).toArray 25)
  have bB1 := Blk.new w 25 (rqC r p c)
  have cC := rcheck_any r p c (w.alloc (.cells (rqC r p c).toArray 25)) (AtF.on hat hB1) hl
  have h0b : (chk r != 0) = true := by simpa using hE
  generalize chk r = E at *
  clear hat hE
  unfold rqV at *
  unfold rqC at *
  obtain ⟨⟨b0, b1, b2, b3, b4, b5, b6, b7, b8⟩, _⟩ := rq_cells bB1
  go_enter Tryz.func19, Tryz.ntmps19
  go_wp2_with (go_at_call 11; refine cC.mono ?_; rintro e X ⟨rfl, hb⟩)
  go_ret
  exact ⟨rfl, on_trans hB1 hb⟩
theorem rgate_off (r : Rq) (p : Option Addr) (c : Nat) (w : World) (hE : chk r = 0) (hat : At w p (ints r.l)) (hl : r.l.length ≤ 1000000) :
    Calls Tryz.prog 19 #[rqV r p c, .bool false] w fun e W => e = .returned (.int .i64 0) ∧ Below w.heap.size w W := by
  have hB1 := on_alloc w (.cells (rqC r p c).toArray 25)
  have bB1 := Blk.new w 25 (rqC r p c)
  have cC := rcheck_any r p c (w.alloc (.cells (rqC r p c).toArray 25)) (AtF.on hat hB1) hl
  rw [hE] at cC
  clear hat hE
  unfold rqV at *
  unfold rqC at *
  obtain ⟨⟨b0, b1, b2, b3, b4, b5, b6, b7, b8⟩, _⟩ := rq_cells bB1
  go_enter Tryz.func19, Tryz.ntmps19
  go_wp2_with (go_at_call 11; refine cC.mono ?_; rintro e X ⟨rfl, hb⟩)
  go_ret
  exact ⟨rfl, on_trans hB1 hb⟩

set_option maxRecDepth 100000 in
set_option maxHeartbeats 2000000 in
theorem rgate_on (k : Fin 64) (r : Rq) (hk : (k.val : Int) + 1 = r.no) (p : Option Addr) (c : Nat) (w : World) (hE : chk r = 0) (hat : At w p (ints r.l)) (hl : r.l.length ≤ 1000000) :
    Calls Tryz.prog 19 #[rqV r p c, .bool true] w fun e W => e = .returned (.int .i64 (if shutB k r true then 94 else 0)) ∧ Below w.heap.size w W := by
  have hB1 := on_alloc w (.cells (rqC r p c).toArray 25)
  have bB1 := Blk.new w 25 (rqC r p c)
  have cC := rcheck_any r p c (w.alloc (.cells (rqC r p c).toArray 25)) (AtF.on hat hB1) hl
  rw [hE] at cC
  have cG := fun W => rget_at k W
  rw [hk] at cG
  have HS : Hid (shutB k r true = (cgate k == 1 || (cgate k == 2 && (r.a0 == -100 || (ltr (sm k) 1 == 100 && r.a1 == -100))))) := by show _ = _; unfold shutB; simp
  obtain ⟨ht1, ht2⟩ := shape_tw k
  have hsz : (byt (cshape k)).size = (cshape k).length := byt_size _
  have hix := fun h => idx_at (cshape k) 1 h 1 rfl
  generalize shutB k r true = sh at *
  generalize (ltr (sm k) 1 == 100) = tw at *
  generalize ltr (cshape k) 1 = y at *
  unfold callV callC at cG
  clear hat hE hk
  unfold rqV at *
  unfold rqC at *
  generalize r.l.length = n at *
  generalize r.no = no at *
  generalize r.a0 = a0 at *
  generalize r.a1 = a1 at *
  generalize r.a2 = a2 at *
  generalize r.a3 = a3 at *
  generalize r.a4 = a4 at *
  generalize r.S = sS at *
  generalize r.T = sT at *
  generalize byt (cname k) = nm at *
  generalize byt (cshape k) = sb at *
  generalize (cshape k).length = N at *
  generalize cgate k = gt at *
  generalize ((cneed0 k : Nat) : Int) = n0 at *
  generalize ((cneed1 k : Nat) : Int) = n1 at *
  obtain ⟨⟨b0, b1, b2, b3, b4, b5, b6, b7, b8⟩, _⟩ := rq_cells bB1
  go_enter Tryz.func19, Tryz.ntmps19
  go_upto_region 4 with (go_at_call 11; refine cC.mono ?_; rintro e X ⟨rfl, hb⟩)
  have bX := bB1.on hb
  have hX := on_trans hB1 hb
  clear b0 b1 b2 b3 b4 b5 b6 b7 b8 cC bB1 hB1 hb
  have b0 := bX.cell 0 rfl
  have b1 := bX.cell 1 rfl
  have b2 := bX.cell 2 rfl
  go_upto_region 5 with (go_at_call 17; refine (cG _).mono ?_; rintro e Z ⟨rfl, hbZ⟩)
  have hZ := (on_trans hX hbZ).alloc (on_trans hX hbZ).size (.cells #[.string nm, .string sb, .int .i64 gt, .int .u32 n0, .int .u32 n1] 37)
  have bBZ := (bX.on hbZ).alloc (.cells #[.string nm, .string sb, .int .i64 gt, .int .u32 n0, .int .u32 n1] 37)
  have bDZ := Blk.new Z 37 [.string nm, .string sb, .int .i64 gt, .int .u32 n0, .int .u32 n1]
  obtain ⟨D, hD⟩ : ∃ D, Z.heap.size = D := ⟨_, rfl⟩
  obtain ⟨V, hV⟩ : ∃ V, Z.alloc (.cells #[.string nm, .string sb, .int .i64 gt, .int .u32 n0, .int .u32 n1] 37) = V := ⟨_, rfl⟩
  rw [hV] at hZ bBZ bDZ ⊢
  rw [hD] at bDZ ⊢
  clear hD hV b0 b1 b2 cG hbZ bX hX
  have d1 := bDZ.cell 1 rfl
  have d2 := bDZ.cell 2 rfl
  have b1 := bBZ.cell 1 rfl
  have b2 := bBZ.cell 2 rfl
  clear bDZ bBZ
  have HF : Hid (∀ W, Below V.heap.size V W → Below w.heap.size w W) := fun W h => hZ.trans (h.mono hZ.size)
  have main : ∀ (_ : True), True := fun _ => trivial
  clear main
  by_cases hN : 1 < N
  · have hNz : (1 : Int) < (N : Int) := by omega
    have hi := hix hN
    have hy := ht1 hN
    clear hix ht1 ht2
    cases tw
    all_goals
      cases h1 : (gt == 1)
      · cases h2 : (gt == 2)
        · have hs : sh = false := by rw [HS.out, h1, h2]; rfl
          subst hs
          go_wp2
          go_ret
          exact ⟨rfl, hZ⟩
        · cases h3 : (a0 == -100)
          · cases h4 : (a1 == -100)
            all_goals
              have hs := HS.out
              rw [h1, h2, h3, h4] at hs
              simp only [Bool.or_false, Bool.and_true, Bool.and_false, Bool.or_true] at hs
              subst hs
              go_wp2
              go_ret
              exact ⟨rfl, hZ⟩
          · have hs : sh = true := by rw [HS.out, h1, h2, h3]; rfl
            subst hs
            go_wp2
            go_ret
            exact ⟨rfl, hZ⟩
      · have hs : sh = true := by rw [HS.out, h1]; rfl
        subst hs
        go_wp2
        go_ret
        exact ⟨rfl, hZ⟩
  · have hNz : ¬ (1 : Int) < (N : Int) := by omega
    have htw : tw = false := ht2 hN
    subst htw
    clear hix ht1 ht2
    cases h1 : (gt == 1)
    · cases h2 : (gt == 2)
      · have hs : sh = false := by rw [HS.out, h1, h2]; rfl
        subst hs
        go_wp2
        go_ret
        exact ⟨rfl, hZ⟩
      · cases h3 : (a0 == -100)
        · have hs : sh = false := by rw [HS.out, h1, h2, h3]; rfl
          subst hs
          go_wp2
          go_ret
          exact ⟨rfl, hZ⟩
        · have hs : sh = true := by rw [HS.out, h1, h2, h3]; rfl
          subst hs
          go_wp2
          go_ret
          exact ⟨rfl, hZ⟩
    · have hs : sh = true := by rw [HS.out, h1]; rfl
      subst hs
      go_wp2
      go_ret
      exact ⟨rfl, hZ⟩

theorem rgate_all (r : Rq) (p : Option Addr) (c : Nat) (cap : Bool) (w : World) (hat : At w p (ints r.l)) (hl : r.l.length ≤ 1000000) :
    Calls Tryz.prog 19 #[rqV r p c, .bool cap] w fun e W => e = .returned (.int .i64 (gat r cap)) ∧ Below w.heap.size w W := by
  by_cases hE : chk r = 0
  · rcases kcases r.no with ⟨k, hk⟩ | hk
    · have ho : okB k r = true := by
        rw [chk_at hk] at hE
        cases h : okB k r
        · rw [h] at hE; cases hE
        · rfl
      rw [gat_at hk]
      unfold gatE
      rw [ho]
      cases cap
      · exact rgate_off r p c w hE hat hl
      · exact rgate_on k r hk p c w hE hat hl
    · rw [chk_no hk] at hE; cases hE
  · have e : gat r cap = chk r := by
      rcases kcases r.no with ⟨k, hk⟩ | hk
      · rw [gat_at hk, chk_at hk]
        rw [chk_at hk] at hE
        unfold gatE
        cases h : okB k r
        · rfl
        · rw [h] at hE; exact absurd rfl hE
      · rw [gat_no hk, chk_no hk]
    rw [e]
    exact rgate_bad r p c cap w hE hat hl

end Go.Proofs.YtgolihipinjfmaaGreatDoor.J
