/- What white.And answers. -/
import Derived.Test.YthicbobddopcpaaDoorWDelete
import Derived.Test.YthicbobddopcpaaDoorWRefSub
namespace Go.Proofs.YthicbobddopcpaaDoor
open Go Go.RowKit Go.Shelf Go.Sort

def AndPost (w : World) (a : Bool) (la : List Int) (b : Bool) (lb : List Int) (e : Ending) (w' : World) : Prop :=
  Below w.heap.size w w' ∧ ∃ p' c', e = .returned (.agg #[.bool (andA a la b lb), .slice p' (andL a la b lb).length c']) ∧ AtF w.heap.size w' p' (andL a la b lb)

set_option maxRecDepth 100000 in
theorem delete_zero (fid : Nat) (lb : Array Value) (p : Option Addr) (cap : Nat) (w : World) :
    Calls Tryd.prog 40 #[.slice p 0 cap, .func (.func fid) #[] lb] w fun e w' => e = .returned (.slice p 0 cap) ∧ w' = w := by
  have cI := index_zero fid lb p cap w
  go_enter Tryd.func40, Tryd.ntmps40
  go_wp2_with fail
  refine cI.mono ?_
  rintro e w1 ⟨rfl, hw⟩
  subst hw
  go_wp2
  go_ret
  exact ⟨rfl, rfl⟩

/-- Three boxes, and what is older. -/
structure Three (w : World) (A B C : Value × Value) (W : World) : Prop where
  on : Below w.heap.size w W
  fst : Box W w.heap.size A.1 A.2
  snd : Box W (w.heap.size + 1) B.1 B.2
  thd : Box W (w.heap.size + 2) C.1 C.2
theorem Three.grow {w : World} {A B C : Value × Value} {W W' : World} (h : Three w A B C W) (hb : Below W.heap.size W W') : Three w A B C W' := ⟨on_trans h.on hb, h.fst.on hb, h.snd.on hb, h.thd.on hb⟩
theorem Three.new (w : World) (a0 a1 b0 b1 c0 c1 : Value) : Three w (a0, a1) (b0, b1) (c0, c1) (((w.alloc (.cells #[a0, a1] 24)).alloc (.cells #[b0, b1] 24)).alloc (.cells #[c0, c1] 24)) := by
  have h2 := Two.new w a0 a1 b0 b1
  have hZ := Box.new ((w.alloc (.cells #[a0, a1] 24)).alloc (.cells #[b0, b1] 24)) c0 c1
  rw [World.size_alloc, World.size_alloc] at hZ
  have hb := on_alloc ((w.alloc (.cells #[a0, a1] 24)).alloc (.cells #[b0, b1] 24)) (.cells #[c0, c1] 24)
  exact ⟨on_trans h2.on hb, h2.fst.on hb, h2.snd.on hb, hZ⟩

set_option maxRecDepth 100000 in
set_option maxHeartbeats 4000000 in
theorem and_any (a b : Bool) (p q : Option Addr) (c d : Nat) (la lb : List Int) (w : World) (hl : la.length ≤ 9223372036854775807) (hl2 : lb.length ≤ 9223372036854775807) (h : At w p la) (h2 : At w q lb) :
    Calls Tryd.prog 21 #[.agg #[.bool a, .slice p la.length c], .agg #[.bool b, .slice q lb.length d]] w (AndPost w a la b lb) := by
  have H3 : Hid _ := Three.new w (.bool a) (.slice p la.length c) (.bool b) (.slice q lb.length d) (.bool false) (.slice none 0 0)
  have c1 := fun W (hb : Below w.heap.size w W) => can_any a p la.length c la W rfl hl (h.below hb (Nat.le_refl _))
  have c2 := fun W (hb : Below w.heap.size w W) => can_any b q lb.length d lb W rfl hl2 (h2.below hb (Nat.le_refl _))
  have HH : Hid (At w p la) := h
  have HH2 : Hid (At w q lb) := h2
  clear h h2
  obtain ⟨ca, hca⟩ : ∃ ca, canB a la = ca := ⟨_, rfl⟩
  obtain ⟨cb, hcb⟩ : ∃ cb, canB b lb = cb := ⟨_, rfl⟩
  have HA : Hid (andA a la b lb = (ca && cb && (a && b))) := by show andA a la b lb = _; unfold andA; rw [hca, hcb]
  have HL : Hid (andL a la b lb = if ca && cb then (if a then lb else la.filter (hasB b lb)) else []) := by show andL a la b lb = _; unfold andL; rw [hca, hcb]
  have HCA : Hid (canB a la = ca) := hca
  have HCB : Hid (canB b lb = cb) := hcb
  rw [hca] at c1
  rw [hcb] at c2
  clear hca hcb
  go_enter Tryd.func21, Tryd.ntmps21
  go_wp2_with fail
  generalize ((w.alloc (.cells #[.bool a, .slice p la.length c] 24)).alloc (.cells #[.bool b, .slice q lb.length d] 24)).alloc (.cells #[.bool false, .slice none 0 0] 24) = w0 at *
  refine (c1 _ H3.out.on).mono ?_
  rintro e w1 ⟨rfl, hb1⟩
  have HT1 : Hid _ := H3.out.grow hb1
  clear hb1 H3 c1
  cases ca with
  | false =>
    have f0 := HT1.out.thd.free0
    have f1 := HT1.out.thd.free1
    have x0 := HT1.out.thd.fst
    have x1 := HT1.out.thd.snd
    clear c2
    go_wp2
    exact bodyPost_ret (results_box rfl _ _ rfl (HT1.out.thd.put _ _)) rfl ⟨below_but HT1.out.on (but_set2 _ _ _ _ _ _) (by omega), none, 0, by rw [HA.out, HL.out]; rfl, by rw [HL.out]; exact .nil _ _ _⟩
  | true =>
    have y0 := HT1.out.snd.fst
    have y1 := HT1.out.snd.snd
    go_wp2_with fail
    refine (c2 _ HT1.out.on).mono ?_
    rintro e w2 ⟨rfl, hb2⟩
    have HT2 : Hid _ := HT1.out.grow hb2
    clear y0 y1 hb2 HT1 c2
    cases cb with
    | false =>
      have f0 := HT2.out.thd.free0
      have f1 := HT2.out.thd.free1
      have x0 := HT2.out.thd.fst
      have x1 := HT2.out.thd.snd
      go_wp2
      exact bodyPost_ret (results_box rfl _ _ rfl (HT2.out.thd.put _ _)) rfl ⟨below_but HT2.out.on (but_set2 _ _ _ _ _ _) (by omega), none, 0, by rw [HA.out, HL.out]; rfl, by rw [HL.out]; exact .nil _ _ _⟩
    | true =>
      have hlb : lb.length ≤ 32 := by
        cases b with
        | false => exact (canB_rise HCB.out).1
        | true => rw [canB_all HCB.out]; simp
      have hla : la.length ≤ 32 := by
        cases a with
        | false => exact (canB_rise HCA.out).1
        | true => rw [canB_all HCA.out]; simp
      cases a with
      | true =>
        have x0 := HT2.out.fst.fst
        go_wp2
        have hT2 := HT2.out
        have hsz := hT2.thd.lt
        refine wp_region_left (S := fun W => w2.heap.size ≤ W.heap.size ∧ Below w.heap.size w W ∧ Box W (w.heap.size + 1) (.bool b) (.slice q lb.length d) ∧ ∃ u0 u1, Box W (w.heap.size + 2) u0 u1) (Keep := KeepK [(6, w.heap.size + 2)])
          (g := fun i v W => ([.is (.pointer (some ⟨w.heap.size + 1, 0, none⟩)), .is (.bool b), .is (.pointer (some ⟨w.heap.size + 1, 1, none⟩)), .is (.slice q lb.length d), .sl lb, .wl b lb, .box (w.heap.size + 2) b lb].getD i Kd.any).ok (w.heap.size + 3) v W)
          (tab := [[(3, none)], [(16, some 0)], [(3, none)], [(18, some 2)], [(19, some 3)], [(17, some 1), (20, some 4)], [(4, none), (21, some 5)]]) (tl := []) (n := 28)
          (by kernel_rfl) rfl (by kernel_rfl) (keep_kd ?k) ⟨Nat.le_refl _, on_drew hT2.on, hT2.snd.drew, ⟨_, _, hT2.thd.drew⟩⟩ ?st ?en
        case k =>
          intro i bb hb
          have : i = 6 ∧ bb = w.heap.size + 2 := by
            simp only [List.lookup] at hb
            split at hb
            · rename_i h7
              exact ⟨by simpa using h7, by simpa using hb.symm⟩
            · cases hb
          obtain ⟨rfl, rfl⟩ := this
          refine ⟨by omega, fun j hj => ?_⟩
          match j, hj with
          | 0, _ | 1, _ | 2, _ | 3, _ | 4, _ | 5, _ => exact blk_none rfl
          | 6, hj => exact absurd rfl hj
          | j + 7, _ => exact blk_none rfl
        case st =>
          refine ⟨fun ρ W hr hS hs => ?_, fun ρ W hr hS hs => ?_, fun ρ W hr hS hs => ?_, fun ρ W hr hS hs => ?_, fun ρ W hr hS hs => ?_, fun ρ W hr hS hs => ?_, fun ρ W hr hS hs => ?_, trivial⟩
          · have h1 : ρ (.tmp 3) = .pointer (some ⟨w.heap.size + 1, 0, none⟩) := hs.1
            refine step_plain rfl (leaves_value (v := .pointer (some ⟨w.heap.size + 1, 0, none⟩)) (w' := W) ?_ ⟨rfl, hS, Below.refl _ _⟩)
            simp [go_sem, h1]
          · have h1 : ρ (.tmp 16) = .pointer (some ⟨w.heap.size + 1, 0, none⟩) := hs.1
            have hc := hS.2.2.1.fst
            refine step_plain rfl (leaves_value (v := .bool b) (w' := W) ?_ ⟨rfl, hS, Below.refl _ _⟩)
            simp [go_sem, h1, hc]
          · have h1 : ρ (.tmp 3) = .pointer (some ⟨w.heap.size + 1, 0, none⟩) := hs.1
            refine step_plain rfl (leaves_value (v := .pointer (some ⟨w.heap.size + 1, 1, none⟩)) (w' := W) ?_ ⟨rfl, hS, Below.refl _ _⟩)
            simp [go_sem, h1]
          · have h1 : ρ (.tmp 18) = .pointer (some ⟨w.heap.size + 1, 1, none⟩) := hs.1
            have hc := hS.2.2.1.snd
            refine step_plain rfl (leaves_value (v := .slice q lb.length d) (w' := W) ?_ ⟨rfl, hS, Below.refl _ _⟩)
            simp [go_sem, h1, hc]
          · obtain ⟨hsz2, hon, hbx, u0, u1, hu⟩ := hS
            refine step_plain rfl (leaves_call en_clone hr #[.tmp 19] _ rfl #[.slice q lb.length d] (by simp only [List.map_toArray, List.map_cons, List.map_nil]; rw [show ρ (.tmp 19) = _ from hs.1]) ?_)
            refine (clone_any q lb.length d lb W rfl (by omega) (HH2.out.below hon (Nat.le_refl _))).mono ?_
            rintro e W' ⟨hb, ⟨rfl, rfl⟩ | ⟨g, cc, rfl, hm, _⟩⟩
            · exact ⟨_, rfl, ⟨none, 0, rfl, .nil _ _ _⟩, ⟨Nat.le_trans hsz2 hb.size, on_trans hon hb, hbx.on hb, _, _, hu.on hb⟩, hb⟩
            · exact ⟨_, rfl, ⟨_, cc, rfl, (atF_of_mine hm).less (by omega)⟩, ⟨Nat.le_trans hsz2 hb.size, on_trans hon hb, hbx.on hb, _, _, hu.on hb⟩, hb⟩
          · obtain ⟨h4, ⟨p', c', h8, hat⟩, _⟩ := hs
            have h4' : ρ (.tmp 17) = .bool b := h4
            refine step_plain rfl (leaves_value (v := .agg #[.bool b, .slice p' lb.length c']) (w' := W) ?_ ⟨⟨p', c', rfl, hat⟩, hS, Below.refl _ _⟩)
            simp [go_sem, h4', h8]
          · obtain ⟨h3, ⟨p', c', h12, hat⟩, _⟩ := hs
            obtain ⟨hsz2, hon, hbx, u0, u1, hu⟩ := hS
            have hbut := but_set2 W (w.heap.size + 2) 0 1 (.bool b) (.slice p' lb.length c')
            exact step_plain rfl (leaves_store (.tmp 4) (.tmp 21) rfl h3 h12 hu ⟨⟨p', c', hu.put _ _, hat.but hbut (by omega)⟩, ⟨by rw [hbut.size]; exact hsz2, below_but hon hbut (by omega), hbx.but hbut (by omega), _, _, hu.put _ _⟩, hbut⟩)
        case en =>
          intro W hS v0 h0 v1 h1 v2 h2 v3 h3 v4 h4 v5 h5 h6
          obtain ⟨p', c', hbx, hat⟩ := h6 rfl
          clear h0 h1 h2 h3 h4 h5 h6
          simp only [ends, Act.put, List.setIfInBounds_toArray, List.set_cons_succ, List.set_cons_zero]
          have HAT : Hid _ := hat
          go_wp2
          exact bodyPost_ret (results_box rfl _ _ rfl hbx) rfl ⟨hS.2.1, p', c', by rw [HA.out, HL.out]; rfl, by rw [HL.out]; exact AtF.less HAT.out (by omega)⟩
      | false =>
        have x0 := HT2.out.fst.fst
        have x1 := HT2.out.fst.snd
        have cK := clone_any p la.length c la w2 rfl (by omega) (HH.out.below HT2.out.on (Nat.le_refl _))
        have hsz := HT2.out.thd.lt
        go_wp2_with fail
        refine cK.mono ?_
        rintro e w3 ⟨hb3, ⟨rfl, rfl⟩ | ⟨g, cc, rfl, hm, hcc⟩⟩
        · have HT3 : Hid _ := HT2.out.grow hb3
          have cD := delete_zero 41 #[.pointer (some ⟨w.heap.size + 1, 0, none⟩)] none 0 w3
          clear cK hb3 x0 x1 HT2
          go_wp2_with fail
          refine cD.mono ?_
          rintro e w4 ⟨rfl, hw4⟩
          subst hw4
          have f0 := HT3.out.thd.free0
          have f1 := HT3.out.thd.free1
          have y0 := HT3.out.thd.fst
          have y1 := HT3.out.thd.snd
          go_wp2
          exact bodyPost_ret (results_box rfl _ _ rfl (HT3.out.thd.put _ _)) rfl ⟨below_but HT3.out.on (but_set2 _ _ _ _ _ _) (by omega), none, 0, by rw [HA.out, HL.out]; rfl, by rw [HL.out]; exact .nil _ _ _⟩
        · have HT3 : Hid (Three w (.bool false, .slice p la.length c) (.bool b, .slice q lb.length d) (.bool false, .slice none 0 0) w3) := Three.grow HT2.out hb3
          have hgb := hm.base
          have cD := delete_mine 41 #[.pointer (some ⟨w.heap.size + 1, 0, none⟩)] (fun x => !hasB b lb x) (fun W => Below w.heap.size w W ∧ Box W (w.heap.size + 1) (.bool b) (.slice q lb.length d)) g cc w2.heap.size la w3 en_clo2
            (fun W W' h hb => ⟨on_trans h.1 hb, h.2.on hb⟩) (fun W o v h => ⟨below_but h.1 (but_set W g o v) (by omega), h.2.but (but_set W g o v) (by omega)⟩)
            (fun x W h => clo2_any (w.heap.size + 1) b q d lb x W HCB.out ⟨h.2, HH2.out.below h.1 (Nat.le_refl _)⟩) ⟨HT3.out.on, HT3.out.snd⟩ hm (by omega) hcc
          rw [show (fun x => !!hasB b lb x) = hasB b lb from funext fun x => by simp] at cD
          have HFL : Hid (andL false la b lb = la.filter (hasB b lb)) := HL.out
          clear cK hb3 hm x0 x1 HT2 HL
          generalize la.filter (hasB b lb) = FL at *
          go_wp2_with fail
          refine cD.mono ?_
          rintro e w4 ⟨rfl, hb4, hat4⟩
          have hthd : Box w4 (w.heap.size + 2) (.bool false) (.slice none 0 0) := ⟨(hb4.block _ (by omega)).trans HT3.out.thd.row⟩
          have HBX : Hid _ := hthd
          have hon4 := HT3.out.on.trans (hb4.mono (by omega))
          have f0 := hthd.free0
          have f1 := hthd.free1
          have y0 := hthd.fst
          have y1 := hthd.snd
          have HAT : Hid (AtF w2.heap.size w4 (some ⟨g, 0, none⟩) FL) := hat4
          clear hthd hat4 cD
          go_wp2
          exact bodyPost_ret (results_box rfl _ _ rfl (Box.put HBX.out _ _)) rfl ⟨below_but hon4 (but_set2 _ _ _ _ _ _) (by omega), some ⟨g, 0, none⟩, cc, by rw [HA.out, HFL.out]; rfl, by rw [HFL.out]; exact (AtF.but HAT.out (but_set2 _ _ _ _ _ _) hsz).less (by omega)⟩

end Go.Proofs.YthicbobddopcpaaDoor
