/- The law WhiteLimits answers true at every whitelist and slice of ints. -/
import Derived.Test.YthicbobddopcpaaDoorWLimit
namespace Go.Proofs.YthicbobddopcpaaDoor
open Go Go.RowKit Go.Shelf Go.Sort

set_option maxRecDepth 100000 in
set_option maxHeartbeats 4000000 in
theorem limits_walk (all : Bool) (p : Option Addr) (cap : Nat) (lo : List Int) (q : Option Addr) (cq : Nat) (l : List Int) (w : World) (ht : Tb w)
    (hcap : 200 < lo.length → 200 ≤ cap) (hlo : lo.length ≤ 9223372036854775807) (_hr : ∀ z ∈ lo, z ≤ 9223372036854775807) (h : At w p lo)
    (hcap2 : 200 < l.length → 200 ≤ cq) (hl : l.length ≤ 9223372036854775807) (_hr2 : ∀ z ∈ l, z ≤ 9223372036854775807) (h2 : At w q l) :
    Calls Tryd.prog 6 #[.agg #[.bool all, .slice p lo.length cap], .slice q l.length cq] w fun e w' => e = .returned (.bool true) ∧ Below w.heap.size w w' := by
  have HB : Hid (Below w.heap.size w (w.alloc (.cells #[.bool all, .slice p lo.length cap] 24))) := on_alloc w _
  have HX : Hid (Box (w.alloc (.cells #[.bool all, .slice p lo.length cap] 24)) w.heap.size (.bool all) (.slice p lo.length cap)) := Box.new w _ _
  have HT : Hid (Tb w) := ht
  have H2 : Hid (At w q l) := h2
  have c1 := short_any all p cap lo (w.alloc (.cells #[.bool all, .slice p lo.length cap] 24)) hcap hlo (h.alloc _)
  have cF := fun W (hb : Below w.heap.size w W) => few_any q cq l W hcap2 hl (h2.below hb (Nat.le_refl _))
  have hlo2 : (lo.take 200).length ≤ 200 := by simp; omega
  have hl2 : (l.take 200).length ≤ 200 := by simp; omega
  clear _hr _hr2 ht h h2 hcap hcap2
  generalize lo.take 200 = o at *
  generalize l.take 200 = k at *
  go_enter Tryd.func6, Tryd.ntmps6
  go_wp2_with fail
  have hs0 : w.heap.size < (w.alloc (.cells #[.bool all, .slice p lo.length cap] 24)).heap.size := by simp
  refine c1.mono ?_
  rintro e w1 ⟨hb1, p1, c1', rfl, hat1⟩
  have HB1 : Hid _ := on_trans HB.out hb1
  have HX1 : Hid _ := HX.out.on hb1
  have HA1 : Hid (AtF (w.heap.size + 1) w1 p1 o) := hat1.less (by simp)
  clear c1 hat1 hb1 HX HB hs0
  go_wp2_with fail
  refine (cF _ HB1.out).mono ?_
  rintro e w2 ⟨hb2, q1, d1, rfl, hat2⟩
  have hsz : w.heap.size < w1.heap.size := HX1.out.lt
  have hX2 := HX1.out.on hb2
  have hbut := but_set2 w2 w.heap.size 0 1 (.bool all) (.slice p1 o.length c1')
  have HX3 : Hid (Box ((w2.setCell ⟨w.heap.size, 0, none⟩ (.bool all)).setCell ⟨w.heap.size, 1, none⟩ (.slice p1 o.length c1')) w.heap.size (.bool all) (.slice p1 o.length c1')) := hX2.put _ _
  have HB3 : Hid (Below w.heap.size w ((w2.setCell ⟨w.heap.size, 0, none⟩ (.bool all)).setCell ⟨w.heap.size, 1, none⟩ (.slice p1 o.length c1'))) := below_but (on_trans HB1.out hb2) hbut (Nat.le_refl _)
  have HA3 : Hid (At ((w2.setCell ⟨w.heap.size, 0, none⟩ (.bool all)).setCell ⟨w.heap.size, 1, none⟩ (.slice p1 o.length c1')) p1 o) := AtF.at (AtF.but (AtF.on HA1.out hb2) hbut (by omega))
  have HL3 : Hid (At ((w2.setCell ⟨w.heap.size, 0, none⟩ (.bool all)).setCell ⟨w.heap.size, 1, none⟩ (.slice p1 o.length c1')) q1 k) := AtF.at (AtF.but hat2 hbut hsz)
  have f0 := hX2.free0
  have f1 := hX2.free1
  have x0 := hX2.fst
  have x1 := hX2.snd
  have y0 := HX3.out.fst
  have y1 := HX3.out.snd
  have cS := short_any all p1 c1' o _ (fun h => by omega) (by omega) HA3.out
  rw [take_short (by omega)] at cS
  clear cF hat2 hX2 hbut HA1 HX1 HB1
  go_wp2_with fail
  generalize (w2.setCell ⟨w.heap.size, 0, none⟩ (.bool all)).setCell ⟨w.heap.size, 1, none⟩ (.slice p1 o.length c1') = w3 at *
  refine cS.mono ?_
  rintro e w4 ⟨hb4, p2, c2, rfl, hat4⟩
  have cF2 := few_any q1 d1 k w4 (fun h => by omega) (by omega) (At.on HL3.out hb4)
  rw [take_short (by omega)] at cF2
  clear f0 f1 x0 x1 y0 y1 cS
  go_wp2_with fail
  refine cF2.mono ?_
  rintro e w5 ⟨hb5, q2, d2, rfl, hat5⟩
  have cL := limit_any all p2 q2 c2 d2 o k w5 (by omega) (by omega) (AtF.at (AtF.on hat4 hb5)) (AtF.at hat5)
  have hb35 := on_trans hb4 hb5
  clear cF2 hat4 hat5 hb4 hb5
  go_wp2_with fail
  refine cL.mono ?_
  rintro e w6 ⟨hb6, p3, c3, rfl, hat6⟩
  have hb36 := on_trans hb35 hb6
  have hb7 := on_alloc w6 (.cells #[.bool false, .slice p3 (limV all o k).length c3] 24)
  have HB5 : Hid (Box (w6.alloc (.cells #[.bool false, .slice p3 (limV all o k).length c3] 24)) w6.heap.size (.bool false) (.slice p3 (limV all o k).length c3)) := Box.new w6 _ _
  have hb37 := on_trans hb36 hb7
  have HX7 : Hid _ := HX3.out.on hb37
  have HA7 : Hid (At _ p1 o) := At.on HA3.out hb37
  have HL7 : Hid (At _ q1 k) := At.on HL3.out hb37
  have HV7 : Hid (At _ p3 (limV all o k)) := AtF.at (AtF.on hat6 hb7)
  have HB7 : Hid _ := on_trans HB3.out hb37
  have y0 := HX7.out.fst
  have y1 := HX7.out.snd
  have cR := refLimit_any all p1 q1 c1' d1 o k _ (by omega) (by omega) HA7.out HL7.out
  clear cL hat6 hb35 hb36 hb7 hb37 hb6 HX3 HB3 HA3 HL3
  go_wp2_with fail
  refine cR.mono ?_
  rintro e w8 ⟨hb8, p4, c4, rfl, hat8⟩
  have hb9 := on_alloc w8 (.cells #[.bool false, .slice p4 (limV all o k).length c4] 24)
  have HB6 : Hid (Box (w8.alloc (.cells #[.bool false, .slice p4 (limV all o k).length c4] 24)) w8.heap.size (.bool false) (.slice p4 (limV all o k).length c4)) := Box.new w8 _ _
  have hb79 := on_trans hb8 hb9
  have HX9 : Hid _ := HX7.out.on hb79
  have HB59 : Hid _ := HB5.out.on hb79
  have HA9 : Hid (At _ p1 o) := At.on HA7.out hb79
  have HV9 : Hid (At _ p3 (limV all o k)) := At.on HV7.out hb79
  have HW9 : Hid (At _ p4 (limV all o k)) := AtF.at (AtF.on hat8 hb9)
  have HB9 : Hid _ := on_trans HB7.out hb79
  have hvl := limV_len all o k
  have HSub : Hid (limE all o k = 0 → subB false (limV all o k) all o = true) := fun h => lim_sub h
  clear y0 y1 cR hat8 hb8 hb9 hb79 HX7 HB5 HA7 HV7 HB7 HL7
  generalize limV all o k = V at *
  generalize limE all o k = E at *
  have x0 := HX9.out.fst
  have x1 := HX9.out.snd
  have y0 := HB59.out.fst
  have y1 := HB59.out.snd
  have z0 := HB6.out.fst
  have z1 := HB6.out.snd
  have cSm := same_any false false p3 p4 c3 c4 V V _ (by omega) HV9.out HW9.out
  rw [show ((false == false) && decide (V = V)) = true by simp] at cSm
  have qE : (E == E) = true := beq_self_eq_true _
  go_wp2_with fail
  generalize w8.alloc (.cells #[.bool false, .slice p4 V.length c4] 24) = w9 at *
  refine cSm.mono ?_
  rintro e w10 ⟨rfl, hb10⟩
  have hB10 := on_trans HB9.out hb10
  have hX10 := HX9.out.on hb10
  have hY10 := HB59.out.on hb10
  have hA10 := At.on HA9.out hb10
  have hV10 := At.on HV9.out hb10
  clear x0 x1 y0 y1 z0 z1 cSm HW9
  by_cases hE : E = 0
  · have hsub := HSub.out hE
    subst hE
    have cU := refSubset_any false all p3 p1 c3 c1' V o w10 (by omega) (by omega) hV10 hA10
    rw [hsub] at cU
    have x0 := hX10.fst
    have x1 := hX10.snd
    have y0 := hY10.fst
    have y1 := hY10.snd
    go_wp2_with fail
    refine cU.mono ?_
    rintro e w11 ⟨rfl, hb11⟩
    have hB11 := on_trans hB10 hb11
    go_wp2_with fail
    refine (lives_any w11 (Tb.on HT.out hB11)).mono ?_
    rintro e w12 ⟨rfl, hb12⟩
    go_wp2
    go_ret
    exact ⟨rfl, on_trans hB11 hb12⟩
  · have q3 : (E == 0) = false := beq_eq_false_iff_ne.2 hE
    have q4 : (E != 0) = true := by simp only [bne, q3]; rfl
    clear HSub hE
    go_wp2_with fail
    refine (lives_any w10 (Tb.on HT.out hB10)).mono ?_
    rintro e w12 ⟨rfl, hb12⟩
    go_wp2
    go_ret
    exact ⟨rfl, on_trans hB10 hb12⟩

end Go.Proofs.YthicbobddopcpaaDoor
