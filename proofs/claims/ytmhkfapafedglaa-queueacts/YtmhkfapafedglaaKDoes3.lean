/- The law's does: Put. -/
import Derived.Test.YtmhkfapafedglaaKDoes
namespace Go.Proofs.Ytmhkfapafedglaa.K
open Go Go.RowKit

theorem PasO.goes {F G F' G' : Nat → Prop} {w w' : World} {v : Value} {L : List Ps} (h : PasO (fun k => ¬ F k) w v L) (hg : Goes F G F' G' w w') : PasO (fun k => ¬ F' k) w' v L :=
  ((h.mono (O' := fun k => ¬ F k ∧ ¬ F' k) fun k hk h7 => ⟨h7, hg.out k hk h7⟩).keep (hg.keep.mono fun _ _ h => h.1)).mono fun _ _ h => h.2
set_option maxRecDepth 100000 in
set_option maxHeartbeats 4000000 in
theorem does_put {F G : Nat → Prop} {w0 w : World} {qb n : Nat} {ps : List Pt} {lv : Value} (hs : QS w0 F G w qb n ps) (hl : ParO (fun k => ¬ F k) w lv ps) (p : Option Addr) (bl c : Nat) (xk a m fr : Int) (hk1 : xk ≠ 1) (hk2 : xk ≠ 2) (hf0 : 0 ≤ fr) (hf1 : fr ≤ 1000000) (hbc : bl ≤ c) (hp : 200 < bl → ∃ b o, p = some ⟨b, o, none⟩) (X : List UInt8) (hXl : X.length = min 200 bl) (hX : At w0 p (bytesV X)) :
    Calls Try.prog 8 #[.pointer (some ⟨qb, 0, none⟩), .int .i64 (n : Int), lv, .agg #[.int .i64 xk, .slice p bl c, .int .i64 a, .int .i64 m], .int .i64 fr] w (DoesPost F G w qb n (putF n ps X (passedF a fr)).1) := by
  have h := hs.q
  have HOk : Hid (Ok n ps) := h.ok
  have HFl : Hid (∀ k, F k → k < w.heap.size) := h.lt
  have key : ∀ (q : Option Addr) (L : Nat), Hid (∀ w1, w1 = w.alloc (.cells #[.int .i64 xk, .slice q L c, .int .i64 a, .int .i64 m] 31) → QS w0 F G w1 qb n ps ∧ ParO (fun k => ¬ F k) w1 lv ps ∧ Below w.heap.size w w1 ∧ Blk w1 w.heap.size 31 [.int .i64 xk, .slice q L c, .int .i64 a, .int .i64 m]) := fun q L w1 e => by
    subst e
    have a1 := on_alloc w (.cells #[.int .i64 xk, .slice q L c, .int .i64 a, .int .i64 m] 31)
    exact ⟨hs.on a1, hl.keep (keep_on a1), a1, Blk.new w _ _⟩
  have HX : Hid (At w0 p (bytesV X)) := hX
  have HPo : Hid (∀ v pv F' G' W, ParO (fun k => ¬ F' k) W v (putF n ps X (passedF a fr)).1 → QAt F' G' W qb n (putF n ps X (passedF a fr)).1 → Goes F G F' G' w W → DoesPost F G w qb n (putF n ps X (passedF a fr)).1 (.returned (.tuple #[v, pv, .bool true])) W) := fun v pv F' G' W h1 h2 h3 => ⟨v, pv, F', G', rfl, h1, h2, h3⟩
  generalize DoesPost F G w qb n (putF n ps X (passedF a fr)).1 = Post at *
  clear h hs hl hX
  by_cases hbig : 200 < bl
  · have hbz : (200 : Int) < (bl : Int) := by omega
    have hcz : (200 : Int) ≤ (c : Int) := by omega
    obtain ⟨bb, bo, rfl⟩ := hp hbig
    clear hp
    have HXl : Hid (X.length = 200) := show X.length = 200 by omega
    have hblz : 200 ≤ 200 := by omega
    clear hXl
    go_enter Try.func8, Try.ntmps8
    go_wp2_with fail
    generalize hw1 : w.alloc (.cells #[.int .i64 xk, .slice (some ⟨bb, bo, none⟩) 200 c, .int .i64 a, .int .i64 m] 31) = w1
    obtain ⟨hq1, hl1, hb1, hB1⟩ := (key (some ⟨bb, bo, none⟩) 200).out w1 hw1.symm
    have hs1 : w.heap.size < w1.heap.size := by rw [← hw1]; simp
    clear key hw1
    refine (passed_any a fr w1 hf0 hf1).mono ?_
    rintro e w2 ⟨pv, rfl, hpas, hb2⟩
    have hB2 := hB1.on hb2
    have hb02 := on_trans hb1 hb2
    have hq2 := hq1.on hb2
    have hl2 := hl1.keep (keep_on hb2)
    have hfew := passed_few a fr
    obtain ⟨M, eM, hM⟩ := hpas
    rw [← eM] at hfew
    rw [List.length_map] at hfew
    obtain ⟨pp, pc, ev, _, _⟩ := hM.row
    subst ev
    -- bytes in a row of their own
    obtain ⟨v4, w4, hr4, hb4, ho4⟩ := append_copy elemByte w2.heap.size w2.heap.size (some ⟨bb, bo, none⟩) c (bytesV X) (w2.alloc (.cells #[] 5)) (by have := HXl.out; simp; omega) (one_bytes _) (ownV_empty w2 w2.heap.size _ (Nat.le_refl _)) (by simp) ((HX.out.below hq2.below (Nat.le_refl _)).alloc _)
    rw [List.length_map, HXl.out] at hr4
    have hb24 : Below w2.heap.size w2 w4 := on_trans (on_alloc _ _) hb4
    have hM4 := hM.keep (keep_on hb24)
    -- what is passed in a row of its own
    obtain ⟨v6, w6, hr6, hM6, hb6⟩ := pas_copy hM4 (by omega) (fun _ h => h) (Nat.le_trans hb2.size hb24.size)
    have hrA := hr4
    have hrB := hr6 26
    have hb26 := on_trans hb24 hb6
    have hb06 := on_trans hb02 hb26
    have hw2s := hb2.size
    have hby : BytO (fun k => ¬ F k) w6 v4 X := ((BytO.of_own ho4).keep (keep_on hb6)).mono fun j _ h7 h8 => by have := HFl.out j h8; omega
    have hpa : PasO (fun k => ¬ F k) w6 v6 (M.map Prod.fst) := ⟨M, rfl, hM6.mono fun j _ h7 h8 => by have := HFl.out j h8; omega⟩
    have cP := put_any (hq2.on hb26).q v4 v6 X (M.map Prod.fst) hby hpa (by have := HXl.out; omega) hfew.2
    unfold PutPost at cP
    have hPM : PasO (fun k => ¬ F k) w6 (.slice pp M.length pc) (M.map Prod.fst) := ⟨M, rfl, (hM.keep (keep_on hb26)).mono fun j _ h7 h8 => by have := HFl.out j h8; omega⟩
    have HK6 : Hid (Below w.heap.size w w6 ∧ ParO (fun k => ¬ F k) w6 lv ps ∧ PasO (fun k => ¬ F k) w6 (.slice pp M.length pc) (M.map Prod.fst) ∧ Blk w6 w.heap.size 31 [.int .i64 xk, .slice (some ⟨bb, bo, none⟩) 200 c, .int .i64 a, .int .i64 m] ∧ QS w0 F G w6 qb n ps) := ⟨hb06, hl2.keep (keep_on hb26), hPM, hB2.on hb26, hq2.on hb26⟩
    obtain ⟨q4, c4, e4, _, _⟩ := hby
    subst e4
    obtain ⟨M6, em6, hM6b⟩ := hpa
    obtain ⟨q6, c6, e6, _, _⟩ := hM6.row
    subst e6
    have y1 : (w2.alloc (.cells #[] 5)).cell? ⟨w.heap.size, 1, none⟩ = some (.slice (some ⟨bb, bo, none⟩) 200 c) := (hB2.on (on_alloc _ _)).cell 1 rfl
    have HEM : Hid (M.map Prod.fst = passedF a fr) := eM
    obtain ⟨PP, hPP⟩ : ∃ PP, putF n ps X (M.map Prod.fst) = PP := ⟨_, rfl⟩
    have HPP : Hid (putF n ps X (M.map Prod.fst) = PP) := hPP
    rw [hPP] at cP
    rw [← eM, hPP] at HPo
    clear hq1 hl1 hb1 hB1 hb2 hq2 hl2 hB2 hM hb4 ho4 hb24 hM4 hr6 hM6 hb6 hb26 hb06 hM6b em6 hfew hw2s eM hPM hPP hb02 hs1
    generalize hml : M.length = ml at *
    have HMl : Hid (M.length = ml) := hml
    clear hml
    generalize hxl : X.length = xl at *
    have hxl2 : xl = 200 := HXl.out
    subst hxl2
    go_wp2_with (first | (at_builtin; refine wpList_run_append (by rfl) _ _ _ (by rfl) _ _ (by rfl) (by rfl) hrA ?_) | (at_builtin; refine wpList_run_append (by rfl) _ _ _ (by rfl) _ _ (by rfl) (by rfl) hrB ?_))
    refine cP.mono ?_
    rintro e w7 ⟨F', G', rfl, q7, g7⟩
    obtain ⟨hb6, hl6, hp6, hB6, hq6⟩ := HK6.out
    have hl7 := hl6.goes g7
    have hp7 := hp6.goes g7
    have hB7 := g7.keep.blk hB6 (fun h7 => by
      have h8 := hq6.q.wr _ h7
      have h9 := typ_blk hB6
      rcases h8 with h8 | h8 | h8 <;> exact typ_ne h8 h9 (by decide) rfl)
    have z1 := hB7.cell 1 rfl
    have hX7 := HX.out.below (hq6.goes q7 g7).below (Nat.le_refl _)
    have cR := rput_any hl7 hp7 (some ⟨bb, bo, none⟩) c n hX7 (by have := HXl.out; omega) (by have := HXl.out; omega) HOk.out
    unfold RPutPost at cR
    rw [HPP.out, hxl] at cR
    have HK7 : Hid (QAt F' G' w7 qb n PP.1 ∧ Goes F G F' G' w w7 ∧ ∀ k, F' k → k < w7.heap.size) := ⟨q7, .before hb6 g7, q7.lt⟩
    clear cP hrA hrB y1 HK6 hb6 hl6 hp6 hB6 hq6 hl7 hp7 hB7 hX7 q7 g7
    go_wp2_with fail
    refine cR.mono ?_
    rintro e w8 ⟨v, rfl, r1, r2⟩
    have r1' := up_par r1 HK7.out.2.2
    have HE := HPo.out v (.slice none 0 0) F' G' w8 r1' (HK7.out.1.on r2) (HK7.out.2.1.after r2)
    clear cR r1 r1' r2 HK7
    go_wp2
    go_ret3
    exact HE
  · have hbz : ¬ (200 : Int) < (bl : Int) := by omega
    clear hp
    have HXl : Hid (X.length = bl) := show X.length = bl by omega
    have hblz : bl ≤ 200 := by omega
    clear hXl
    go_enter Try.func8, Try.ntmps8
    go_wp2_with fail
    generalize hw1 : w.alloc (.cells #[.int .i64 xk, .slice p bl c, .int .i64 a, .int .i64 m] 31) = w1
    obtain ⟨hq1, hl1, hb1, hB1⟩ := (key p bl).out w1 hw1.symm
    have hs1 : w.heap.size < w1.heap.size := by rw [← hw1]; simp
    clear key hw1
    refine (passed_any a fr w1 hf0 hf1).mono ?_
    rintro e w2 ⟨pv, rfl, hpas, hb2⟩
    have hB2 := hB1.on hb2
    have hb02 := on_trans hb1 hb2
    have hq2 := hq1.on hb2
    have hl2 := hl1.keep (keep_on hb2)
    have hfew := passed_few a fr
    obtain ⟨M, eM, hM⟩ := hpas
    rw [← eM] at hfew
    rw [List.length_map] at hfew
    obtain ⟨pp, pc, ev, _, _⟩ := hM.row
    subst ev
    -- bytes in a row of their own
    obtain ⟨v4, w4, hr4, hb4, ho4⟩ := append_copy elemByte w2.heap.size w2.heap.size p c (bytesV X) (w2.alloc (.cells #[] 5)) (by have := HXl.out; simp; omega) (one_bytes _) (ownV_empty w2 w2.heap.size _ (Nat.le_refl _)) (by simp) ((HX.out.below hq2.below (Nat.le_refl _)).alloc _)
    rw [List.length_map, HXl.out] at hr4
    have hb24 : Below w2.heap.size w2 w4 := on_trans (on_alloc _ _) hb4
    have hM4 := hM.keep (keep_on hb24)
    -- what is passed in a row of its own
    obtain ⟨v6, w6, hr6, hM6, hb6⟩ := pas_copy hM4 (by omega) (fun _ h => h) (Nat.le_trans hb2.size hb24.size)
    have hrA := hr4
    have hrB := hr6 26
    have hb26 := on_trans hb24 hb6
    have hb06 := on_trans hb02 hb26
    have hw2s := hb2.size
    have hby : BytO (fun k => ¬ F k) w6 v4 X := ((BytO.of_own ho4).keep (keep_on hb6)).mono fun j _ h7 h8 => by have := HFl.out j h8; omega
    have hpa : PasO (fun k => ¬ F k) w6 v6 (M.map Prod.fst) := ⟨M, rfl, hM6.mono fun j _ h7 h8 => by have := HFl.out j h8; omega⟩
    have cP := put_any (hq2.on hb26).q v4 v6 X (M.map Prod.fst) hby hpa (by have := HXl.out; omega) hfew.2
    unfold PutPost at cP
    have hPM : PasO (fun k => ¬ F k) w6 (.slice pp M.length pc) (M.map Prod.fst) := ⟨M, rfl, (hM.keep (keep_on hb26)).mono fun j _ h7 h8 => by have := HFl.out j h8; omega⟩
    have HK6 : Hid (Below w.heap.size w w6 ∧ ParO (fun k => ¬ F k) w6 lv ps ∧ PasO (fun k => ¬ F k) w6 (.slice pp M.length pc) (M.map Prod.fst) ∧ Blk w6 w.heap.size 31 [.int .i64 xk, .slice p bl c, .int .i64 a, .int .i64 m] ∧ QS w0 F G w6 qb n ps) := ⟨hb06, hl2.keep (keep_on hb26), hPM, hB2.on hb26, hq2.on hb26⟩
    obtain ⟨q4, c4, e4, _, _⟩ := hby
    subst e4
    obtain ⟨M6, em6, hM6b⟩ := hpa
    obtain ⟨q6, c6, e6, _, _⟩ := hM6.row
    subst e6
    have y1 : (w2.alloc (.cells #[] 5)).cell? ⟨w.heap.size, 1, none⟩ = some (.slice p bl c) := (hB2.on (on_alloc _ _)).cell 1 rfl
    have HEM : Hid (M.map Prod.fst = passedF a fr) := eM
    obtain ⟨PP, hPP⟩ : ∃ PP, putF n ps X (M.map Prod.fst) = PP := ⟨_, rfl⟩
    have HPP : Hid (putF n ps X (M.map Prod.fst) = PP) := hPP
    rw [hPP] at cP
    rw [← eM, hPP] at HPo
    clear hq1 hl1 hb1 hB1 hb2 hq2 hl2 hB2 hM hb4 ho4 hb24 hM4 hr6 hM6 hb6 hb26 hb06 hM6b em6 hfew hw2s eM hPM hPP hb02 hs1
    generalize hml : M.length = ml at *
    have HMl : Hid (M.length = ml) := hml
    clear hml
    generalize hxl : X.length = xl at *
    have hxl2 : xl = bl := HXl.out
    subst hxl2
    go_wp2_with (first | (at_builtin; refine wpList_run_append (by rfl) _ _ _ (by rfl) _ _ (by rfl) (by rfl) hrA ?_) | (at_builtin; refine wpList_run_append (by rfl) _ _ _ (by rfl) _ _ (by rfl) (by rfl) hrB ?_))
    refine cP.mono ?_
    rintro e w7 ⟨F', G', rfl, q7, g7⟩
    obtain ⟨hb6, hl6, hp6, hB6, hq6⟩ := HK6.out
    have hl7 := hl6.goes g7
    have hp7 := hp6.goes g7
    have hB7 := g7.keep.blk hB6 (fun h7 => by
      have h8 := hq6.q.wr _ h7
      have h9 := typ_blk hB6
      rcases h8 with h8 | h8 | h8 <;> exact typ_ne h8 h9 (by decide) rfl)
    have z1 := hB7.cell 1 rfl
    have hX7 := HX.out.below (hq6.goes q7 g7).below (Nat.le_refl _)
    have cR := rput_any hl7 hp7 p c n hX7 (by have := HXl.out; omega) (by have := HXl.out; omega) HOk.out
    unfold RPutPost at cR
    rw [HPP.out, hxl] at cR
    have HK7 : Hid (QAt F' G' w7 qb n PP.1 ∧ Goes F G F' G' w w7 ∧ ∀ k, F' k → k < w7.heap.size) := ⟨q7, .before hb6 g7, q7.lt⟩
    clear cP hrA hrB y1 HK6 hb6 hl6 hp6 hB6 hq6 hl7 hp7 hB7 hX7 q7 g7
    go_wp2_with fail
    refine cR.mono ?_
    rintro e w8 ⟨v, rfl, r1, r2⟩
    have r1' := up_par r1 HK7.out.2.2
    have HE := HPo.out v (.slice none 0 0) F' G' w8 r1' (HK7.out.1.on r2) (HK7.out.2.1.after r2)
    clear cR r1 r1' r2 HK7
    go_wp2
    go_ret3
    exact HE

end Go.Proofs.Ytmhkfapafedglaa.K
