/- What white.Limit and the reference's Limit answer. -/
import Derived.Test.YthicbobddopcpaaDoorWRefMkAny
import Derived.Test.YthicbobddopcpaaDoorWSubset2
import Derived.Test.YthicbobddopcpaaDoorWRefSub
namespace Go.Proofs.YthicbobddopcpaaDoor
open Go Go.RowKit Go.Shelf Go.Sort

def limE (all : Bool) (lo l : List Int) : Int := if canB false (srt l) && canB all lo then (if subB false (mkV l) all lo then 0 else 93) else 22
def limV (all : Bool) (lo l : List Int) : List Int := if canB false (srt l) && canB all lo && subB false (mkV l) all lo then mkV l else []

def LimPost (w : World) (all : Bool) (lo l : List Int) (e : Ending) (w' : World) : Prop :=
  Below w.heap.size w w' ∧ ∃ p' c', e = .returned (.tuple #[.agg #[.bool false, .slice p' (limV all lo l).length c'], .int .i64 (limE all lo l)]) ∧ AtF w.heap.size w' p' (limV all lo l)

theorem mkE_of {l : List Int} {r : Bool} (h : canB false (srt l) = r) : mkE l = if r then 0 else 22 := by unfold mkE; rw [h]

set_option maxRecDepth 100000 in
set_option maxHeartbeats 2000000 in
theorem limit_any (all : Bool) (p q : Option Addr) (c d : Nat) (lo l : List Int) (w : World) (hlo : lo.length ≤ 9223372036854775807) (hl : l.length ≤ 1000) (h : At w p lo) (h2 : At w q l) :
    Calls Tryd.prog 23 #[.agg #[.bool all, .slice p lo.length c], .slice q l.length d] w (LimPost w all lo l) := by
  have H2 : Hid (Two w (.bool all, .slice p lo.length c) (.bool false, .slice none 0 0) ((w.alloc (.cells #[.bool all, .slice p lo.length c] 24)).alloc (.cells #[.bool false, .slice none 0 0] 24))) := Two.new w _ _ _ _
  have cM := fun W (hb : Below w.heap.size w W) => make_any q l.length d l W rfl (by omega) (h2.below hb (Nat.le_refl _))
  have cC := fun W (hb : Below w.heap.size w W) => can_any all p lo.length c lo W rfl hlo (h.below hb (Nat.le_refl _))
  have cS := fun (p1 : Option Addr) (c1 : Nat) W (hb : Below w.heap.size w W) (ha : At W p1 (mkV l)) => subset_any false all p1 p c1 c (mkV l) lo W (by have := mkV_len l; omega) hlo ha (h.below hb (Nat.le_refl _))
  obtain ⟨ca, hca⟩ : ∃ ca, canB false (srt l) = ca := ⟨_, rfl⟩
  obtain ⟨cb, hcb⟩ : ∃ cb, canB all lo = cb := ⟨_, rfl⟩
  obtain ⟨cs, hcs⟩ : ∃ cs, subB false (mkV l) all lo = cs := ⟨_, rfl⟩
  have HE : Hid (limE all lo l = if ca && cb then (if cs then 0 else 93) else 22) := by show limE all lo l = _; unfold limE; rw [hca, hcb, hcs]
  have HV : Hid (limV all lo l = if ca && cb && cs then mkV l else []) := by show limV all lo l = _; unfold limV; rw [hca, hcb, hcs]
  have hm := mkE_of hca
  rw [hcb] at cC
  rw [hcs] at cS
  rw [hm] at cM
  have hmv : (mkV l).length ≤ 32 := mkV_len l
  clear hca hcb hcs hm h h2
  generalize mkV l = k at *
  go_enter Tryd.func23, Tryd.ntmps23
  go_wp2_with fail
  generalize (w.alloc (.cells #[.bool all, .slice p lo.length c] 24)).alloc (.cells #[.bool false, .slice none 0 0] 24) = w0 at *
  have hlt0 := H2.out.snd.lt
  refine (cM _ H2.out.on).mono ?_
  rintro e w1 ⟨hb1, p1, c1, rfl, hat⟩
  have hb2 := on_alloc w1 (.cells #[.bool false, .slice p1 k.length c1] 24)
  have HB6 : Hid (Box (w1.alloc (.cells #[.bool false, .slice p1 k.length c1] 24)) w1.heap.size (.bool false) (.slice p1 k.length c1)) := Box.new w1 _ _
  have HT : Hid _ := (H2.out.grow hb1).grow hb2
  have HA : Hid (AtF w0.heap.size _ p1 k) := hat.on hb2
  clear cM hat hb1 hb2 H2
  cases ca with
  | false =>
    have f0 := HT.out.snd.free0
    have f1 := HT.out.snd.free1
    have x0 := HT.out.snd.fst
    have x1 := HT.out.snd.snd
    go_wp2
    exact bodyPost_ret (results_box_tmp rfl _ _ rfl rfl (HT.out.snd.put _ _)) rfl ⟨below_but HT.out.on (but_set2 _ _ _ _ _ _) (by omega), none, 0, by rw [HE.out, HV.out]; rfl, by rw [HV.out]; exact .nil _ _ _⟩
  | true =>
    have y0 := HT.out.fst.fst
    have y1 := HT.out.fst.snd
    go_wp2_with fail
    refine (cC _ HT.out.on).mono ?_
    rintro e w2 ⟨rfl, hb2⟩
    have HT2 : Hid _ := HT.out.grow hb2
    have HA2 : Hid (AtF w0.heap.size _ p1 k) := AtF.on HA.out hb2
    have HB62 : Hid _ := HB6.out.on hb2
    clear y0 y1 HT HA HB6 hb2 cC
    cases cb with
    | false =>
      have f0 := HT2.out.snd.free0
      have f1 := HT2.out.snd.free1
      have x0 := HT2.out.snd.fst
      have x1 := HT2.out.snd.snd
      go_wp2
      exact bodyPost_ret (results_box_tmp rfl _ _ rfl rfl (HT2.out.snd.put _ _)) rfl ⟨below_but HT2.out.on (but_set2 _ _ _ _ _ _) (by omega), none, 0, by rw [HE.out, HV.out]; rfl, by rw [HV.out]; exact .nil _ _ _⟩
    | true =>
      have y0 := HT2.out.fst.fst
      have y1 := HT2.out.fst.snd
      have z0 := HB62.out.fst
      have z1 := HB62.out.snd
      go_wp2_with fail
      refine (cS p1 c1 _ HT2.out.on (AtF.at HA2.out)).mono ?_
      rintro e w3 ⟨rfl, hb3⟩
      have HT3 : Hid _ := HT2.out.grow hb3
      have HA3 : Hid (AtF w0.heap.size _ p1 k) := AtF.on HA2.out hb3
      have HB63 : Hid _ := HB62.out.on hb3
      clear y0 y1 z0 z1 HT2 HA2 HB62 hb3 cS
      have f0 := HT3.out.snd.free0
      have f1 := HT3.out.snd.free1
      have x0 := HT3.out.snd.fst
      have x1 := HT3.out.snd.snd
      have z0 := HB63.out.fst
      have z1 := HB63.out.snd
      cases cs with
      | false =>
        go_wp2
        exact bodyPost_ret (results_box_tmp rfl _ _ rfl rfl (HT3.out.snd.put _ _)) rfl ⟨below_but HT3.out.on (but_set2 _ _ _ _ _ _) (by omega), none, 0, by rw [HE.out, HV.out]; rfl, by rw [HV.out]; exact .nil _ _ _⟩
      | true =>
        go_wp2
        exact bodyPost_ret (results_box_tmp rfl _ _ rfl rfl (HT3.out.snd.put _ _)) rfl ⟨below_but HT3.out.on (but_set2 _ _ _ _ _ _) (by omega), p1, c1, by rw [HE.out, HV.out]; rfl, by rw [HV.out]; exact (AtF.but HA3.out (but_set2 _ _ _ _ _ _) hlt0).less (by omega)⟩

set_option maxRecDepth 100000 in
set_option maxHeartbeats 2000000 in
theorem refLimit_any (all : Bool) (p q : Option Addr) (c d : Nat) (lo l : List Int) (w : World) (hlo : lo.length ≤ 9223372036854775807) (hl : l.length ≤ 1000) (h : At w p lo) (h2 : At w q l) :
    Calls Tryd.prog 24 #[.agg #[.bool all, .slice p lo.length c], .slice q l.length d] w (LimPost w all lo l) := by
  have H2 : Hid (Two w (.bool all, .slice p lo.length c) (.bool false, .slice none 0 0) ((w.alloc (.cells #[.bool all, .slice p lo.length c] 24)).alloc (.cells #[.bool false, .slice none 0 0] 24))) := Two.new w _ _ _ _
  have cM := fun W (hb : Below w.heap.size w W) => refMake_any q d l W hl (h2.below hb (Nat.le_refl _))
  have cC := fun W (hb : Below w.heap.size w W) => refCan_any all p c lo W hlo (h.below hb (Nat.le_refl _))
  have cS := fun (p1 : Option Addr) (c1 : Nat) W (hb : Below w.heap.size w W) (ha : At W p1 (mkV l)) => refSubset_any false all p1 p c1 c (mkV l) lo W (by have := mkV_len l; omega) hlo ha (h.below hb (Nat.le_refl _))
  obtain ⟨ca, hca⟩ : ∃ ca, canB false (srt l) = ca := ⟨_, rfl⟩
  obtain ⟨cb, hcb⟩ : ∃ cb, canB all lo = cb := ⟨_, rfl⟩
  obtain ⟨cs, hcs⟩ : ∃ cs, subB false (mkV l) all lo = cs := ⟨_, rfl⟩
  have HE : Hid (limE all lo l = if ca && cb then (if cs then 0 else 93) else 22) := by show limE all lo l = _; unfold limE; rw [hca, hcb, hcs]
  have HV : Hid (limV all lo l = if ca && cb && cs then mkV l else []) := by show limV all lo l = _; unfold limV; rw [hca, hcb, hcs]
  have hm := mkE_of hca
  rw [hcb] at cC
  rw [hcs] at cS
  unfold MkPost at cM
  rw [hm] at cM
  have hmv : (mkV l).length ≤ 32 := mkV_len l
  clear hca hcb hcs hm h h2
  generalize mkV l = k at *
  go_enter Tryd.func24, Tryd.ntmps24
  go_wp2_with fail
  generalize (w.alloc (.cells #[.bool all, .slice p lo.length c] 24)).alloc (.cells #[.bool false, .slice none 0 0] 24) = w0 at *
  have hlt0 := H2.out.snd.lt
  refine (cM _ H2.out.on).mono ?_
  rintro e w1 ⟨hb1, p1, c1, rfl, hat⟩
  have hb2 := on_alloc w1 (.cells #[.bool false, .slice p1 k.length c1] 24)
  have HB6 : Hid (Box (w1.alloc (.cells #[.bool false, .slice p1 k.length c1] 24)) w1.heap.size (.bool false) (.slice p1 k.length c1)) := Box.new w1 _ _
  have HT : Hid _ := (H2.out.grow hb1).grow hb2
  have HA : Hid (AtF w0.heap.size _ p1 k) := hat.on hb2
  clear cM hat hb1 hb2 H2
  cases ca with
  | false =>
    have f0 := HT.out.snd.free0
    have f1 := HT.out.snd.free1
    have x0 := HT.out.snd.fst
    have x1 := HT.out.snd.snd
    go_wp2
    exact bodyPost_ret (results_box_tmp rfl _ _ rfl rfl (HT.out.snd.put _ _)) rfl ⟨below_but HT.out.on (but_set2 _ _ _ _ _ _) (by omega), none, 0, by rw [HE.out, HV.out]; rfl, by rw [HV.out]; exact .nil _ _ _⟩
  | true =>
    have y0 := HT.out.fst.fst
    have y1 := HT.out.fst.snd
    go_wp2_with fail
    refine (cC _ HT.out.on).mono ?_
    rintro e w2 ⟨rfl, hb2⟩
    have HT2 : Hid _ := HT.out.grow hb2
    have HA2 : Hid (AtF w0.heap.size _ p1 k) := AtF.on HA.out hb2
    have HB62 : Hid _ := HB6.out.on hb2
    clear y0 y1 HT HA HB6 hb2 cC
    cases cb with
    | false =>
      have f0 := HT2.out.snd.free0
      have f1 := HT2.out.snd.free1
      have x0 := HT2.out.snd.fst
      have x1 := HT2.out.snd.snd
      go_wp2
      exact bodyPost_ret (results_box_tmp rfl _ _ rfl rfl (HT2.out.snd.put _ _)) rfl ⟨below_but HT2.out.on (but_set2 _ _ _ _ _ _) (by omega), none, 0, by rw [HE.out, HV.out]; rfl, by rw [HV.out]; exact .nil _ _ _⟩
    | true =>
      have y0 := HT2.out.fst.fst
      have y1 := HT2.out.fst.snd
      have z0 := HB62.out.fst
      have z1 := HB62.out.snd
      go_wp2_with fail
      refine (cS p1 c1 _ HT2.out.on (AtF.at HA2.out)).mono ?_
      rintro e w3 ⟨rfl, hb3⟩
      have HT3 : Hid _ := HT2.out.grow hb3
      have HA3 : Hid (AtF w0.heap.size _ p1 k) := AtF.on HA2.out hb3
      have HB63 : Hid _ := HB62.out.on hb3
      clear y0 y1 z0 z1 HT2 HA2 HB62 hb3 cS
      have f0 := HT3.out.snd.free0
      have f1 := HT3.out.snd.free1
      have x0 := HT3.out.snd.fst
      have x1 := HT3.out.snd.snd
      have z0 := HB63.out.fst
      have z1 := HB63.out.snd
      cases cs with
      | false =>
        go_wp2
        exact bodyPost_ret (results_box_tmp rfl _ _ rfl rfl (HT3.out.snd.put _ _)) rfl ⟨below_but HT3.out.on (but_set2 _ _ _ _ _ _) (by omega), none, 0, by rw [HE.out, HV.out]; rfl, by rw [HV.out]; exact .nil _ _ _⟩
      | true =>
        go_wp2
        exact bodyPost_ret (results_box_tmp rfl _ _ rfl rfl (HT3.out.snd.put _ _)) rfl ⟨below_but HT3.out.on (but_set2 _ _ _ _ _ _) (by omega), p1, c1, by rw [HE.out, HV.out]; rfl, by rw [HV.out]; exact (AtF.but HA3.out (but_set2 _ _ _ _ _ _) hlt0).less (by omega)⟩

theorem limV_len (all : Bool) (lo l : List Int) : (limV all lo l).length ≤ 32 := by
  unfold limV
  split
  · exact mkV_len l
  · simp
theorem lim_sub {all : Bool} {lo l : List Int} (h : limE all lo l = 0) : subB false (limV all lo l) all lo = true := by
  unfold limE at h
  unfold limV
  cases hx : (canB false (srt l) && canB all lo) with
  | false => rw [hx] at h; simp at h
  | true =>
    rw [hx] at h
    cases hs : subB false (mkV l) all lo with
    | false => rw [hs] at h; simp at h
    | true => simpa using hs

end Go.Proofs.YthicbobddopcpaaDoor
