/- What the reference's And answers. -/
import Derived.Test.YthicbobddopcpaaDoorWAnd
import Derived.Test.YthicbobddopcpaaDoorWRefMk
import Derived.Test.YthicbobddopcpaaDoorReg2
namespace Go.Proofs.YthicbobddopcpaaDoor
open Go Go.RowKit Go.Shelf Go.Sort

/-- What the loop of And holds of the world: 'o' is the block of what comes out. -/
structure AInv (w : World) (A B : Value × Value) (o : Nat) (v : Value) (s : List Int) (W : World) : Prop where
  three : Three w A B (.bool false, .slice none 0 0) W
  out : Box W o (.bool false) v
  row : OwnL (o + 1) W v s
theorem AInv.grow {w : World} {A B : Value × Value} {o : Nat} {v : Value} {s : List Int} {W W' : World} (h : AInv w A B o v s W) (hb : Below W.heap.size W W') : AInv w A B o v s W' := ⟨h.three.grow hb, h.out.on hb, ownL_on h.row hb⟩

theorem filter_take (f : Int → Bool) (l : List Int) (k : Nat) (h : k < l.length) : (l.take (k + 1)).filter f = (l.take k).filter f ++ (if f (l.getD k 0) then [l.getD k 0] else []) := by
  have e : l.take (k + 1) = l.take k ++ [l.getD k 0] := by rw [List.take_add_one]; simp [List.getD, h]
  rw [e, List.filter_append]
  congr 1
  cases hf : f (l.getD k 0) <;> simp only [List.filter_cons, List.filter_nil, hf, Bool.false_eq_true, if_true, if_false]

/-- Ahead of the append, and behind it. -/
def OutS (w W0 : World) (A B : Value × Value) (o : Nat) : Bool → World → Prop
  | true, W => Below W0.heap.size W0 W
  | false, W => Three w A B (.bool false, .slice none 0 0) W ∧ ∃ u, Box W o (.bool false) u
def outG (w _W0 : World) (o : Nat) (v5 psl : Value) (s : List Int) (x : Int) (k b1 o1 : Nat) (i : Nat) (v : Value) (W : World) : Prop :=
  match i with
  | 0 | 9 => v = .pointer (some ⟨o, 1, none⟩)
  | 1 => v = v5
  | 2 => v = .pointer (some ⟨w.heap.size, 1, none⟩)
  | 3 => v = psl
  | 4 => v = .int .i64 k
  | 5 => v = .pointer (some ⟨b1, o1 + k, none⟩)
  | 6 => v = .int .i64 x
  | 7 => ∃ b, v = .slice (some ⟨b, 0, none⟩) 1 1 ∧ At W (some ⟨b, 0, none⟩) [x]
  | 8 => OwnL (o + 1) W v (s ++ [x])
  | 10 => ∃ v', Box W o (.bool false) v' ∧ OwnL (o + 1) W v' (s ++ [x])
  | _ => True
def outKeep (i : Nat) (W W' : World) : Prop := if i = 8 ∨ i = 10 then True else Below W.heap.size W W'
theorem outG_on {w W0 : World} {o : Nat} {v5 psl : Value} {s : List Int} {x : Int} {k b1 o1 i : Nat} {v : Value} {W W' : World} (h : outG w W0 o v5 psl s x k b1 o1 i v W) (hb : Below W.heap.size W W') : outG w W0 o v5 psl s x k b1 o1 i v W' := by
  unfold outG at *
  split at h <;> first | exact h | skip
  · obtain ⟨b, h1, h2⟩ := h; exact ⟨b, h1, h2.on hb⟩
  · exact ownL_on h hb
  · obtain ⟨v', h1, h2⟩ := h; exact ⟨v', h1.on hb, ownL_on h2 hb⟩
theorem outG_is {w W0 : World} {o : Nat} {v5 psl : Value} {s : List Int} {x : Int} {k b1 o1 i : Nat} {v : Value} {W W' : World} (h : outG w W0 o v5 psl s x k b1 o1 i v W) (hi : i ≠ 7 ∧ i ≠ 8 ∧ i ≠ 10) : outG w W0 o v5 psl s x k b1 o1 i v W' := by
  unfold outG at *
  split at h <;> first | exact h | (exfalso; omega)

set_option maxRecDepth 100000 in
set_option maxHeartbeats 4000000 in
theorem refAnd_any (a b : Bool) (p q : Option Addr) (c d : Nat) (la lb : List Int) (w : World) (hl : la.length ≤ 9223372036854775807) (hl2 : lb.length ≤ 9223372036854775807) (h : At w p la) (h2 : At w q lb) :
    Calls Tryd.prog 22 #[.agg #[.bool a, .slice p la.length c], .agg #[.bool b, .slice q lb.length d]] w (AndPost w a la b lb) := by
  have H3 : Hid _ := Three.new w (.bool a) (.slice p la.length c) (.bool b) (.slice q lb.length d) (.bool false) (.slice none 0 0)
  have c1 := fun W (hb : Below w.heap.size w W) => refCan_any a p c la W hl (h.below hb (Nat.le_refl _))
  have c2 := fun W (hb : Below w.heap.size w W) => refCan_any b q d lb W hl2 (h2.below hb (Nat.le_refl _))
  have HH : Hid (At w p la) := h
  have HH2 : Hid (At w q lb) := h2
  clear h h2
  obtain ⟨ca, hca⟩ : ∃ ca, canB a la = ca := ⟨_, rfl⟩
  obtain ⟨cb, hcb⟩ : ∃ cb, canB b lb = cb := ⟨_, rfl⟩
  have HA : Hid (andA a la b lb = (ca && cb && (a && b))) := by show andA a la b lb = _; unfold andA; rw [hca, hcb]
  have HL : Hid (andL a la b lb = if ca && cb then (if a then lb else la.filter (hasB b lb)) else []) := by show andL a la b lb = _; unfold andL; rw [hca, hcb]
  have HCA : Hid (canB a la = ca) := hca
  have HCB : Hid (canB b lb = cb) := hcb
  rw [hca] at c1
  rw [hcb] at c2
  clear hca hcb
  go_enter Tryd.func22, Tryd.ntmps22
  go_wp2_with fail
  generalize ((w.alloc (.cells #[.bool a, .slice p la.length c] 24)).alloc (.cells #[.bool b, .slice q lb.length d] 24)).alloc (.cells #[.bool false, .slice none 0 0] 24) = w0 at *
  refine (c1 _ H3.out.on).mono ?_
  rintro e w1 ⟨rfl, hb1⟩
  have HT1 : Hid _ := H3.out.grow hb1
  clear hb1 H3 c1
  cases ca with
  | false =>
    have f0 := HT1.out.thd.free0
    have f1 := HT1.out.thd.free1
    have x0 := HT1.out.thd.fst
    have x1 := HT1.out.thd.snd
    clear c2
    go_wp2
    exact bodyPost_ret (results_box rfl _ _ rfl (HT1.out.thd.put _ _)) rfl ⟨below_but HT1.out.on (but_set2 _ _ _ _ _ _) (by omega), none, 0, by rw [HA.out, HL.out]; rfl, by rw [HL.out]; exact .nil _ _ _⟩
  | true =>
    have y0 := HT1.out.snd.fst
    have y1 := HT1.out.snd.snd
    go_wp2_with fail
    refine (c2 _ HT1.out.on).mono ?_
    rintro e w2 ⟨rfl, hb2⟩
    have HT2 : Hid _ := HT1.out.grow hb2
    clear y0 y1 hb2 HT1 c2
    cases cb with
    | false =>
      have f0 := HT2.out.thd.free0
      have f1 := HT2.out.thd.free1
      have x0 := HT2.out.thd.fst
      have x1 := HT2.out.thd.snd
      go_wp2
      exact bodyPost_ret (results_box rfl _ _ rfl (HT2.out.thd.put _ _)) rfl ⟨below_but HT2.out.on (but_set2 _ _ _ _ _ _) (by omega), none, 0, by rw [HA.out, HL.out]; rfl, by rw [HL.out]; exact .nil _ _ _⟩
    | true =>
      have hlb : lb.length ≤ 32 := by
        cases b with
        | false => exact (canB_rise HCB.out).1
        | true => rw [canB_all HCB.out]; simp
      have hla : la.length ≤ 32 := by
        cases a with
        | false => exact (canB_rise HCA.out).1
        | true => rw [canB_all HCA.out]; simp
      have hsz := HT2.out.thd.lt
      cases a with
      | true =>
        have x0 := HT2.out.fst.fst
        have y0 := HT2.out.snd.fst
        have y1 := HT2.out.snd.snd
        have cO := own_any b q d lb w2 (by omega) (HH2.out.below HT2.out.on (Nat.le_refl _))
        go_wp2_with fail
        refine cO.mono ?_
        rintro e w3 ⟨hb3, p', c', rfl, hat⟩
        have HT3 : Hid (Three w (.bool true, .slice p la.length c) (.bool b, .slice q lb.length d) (.bool false, .slice none 0 0) w3) := Three.grow HT2.out hb3
        have HAT : Hid (AtF w2.heap.size w3 p' lb) := hat
        clear cO x0 y0 y1 hb3 hat HT2
        have f0 := HT3.out.thd.free0
        have f1 := HT3.out.thd.free1
        have x0 := HT3.out.thd.fst
        have x1 := HT3.out.thd.snd
        go_wp2
        exact bodyPost_ret (results_box rfl _ _ rfl (HT3.out.thd.put _ _)) rfl ⟨below_but HT3.out.on (but_set2 _ _ _ _ _ _) (by omega), p', c', by rw [HA.out, HL.out]; rfl, by rw [HL.out]; exact (AtF.but HAT.out (but_set2 _ _ _ _ _ _) hsz).less (by omega)⟩
      | false =>
        have x0 := HT2.out.fst.fst
        have x1 := HT2.out.fst.snd
        have hb3 := on_alloc w2 (.cells #[.bool false, .slice none 0 0] 24)
        have HI : Hid (AInv w (.bool false, .slice p la.length c) (.bool b, .slice q lb.length d) w2.heap.size (.slice none 0 0) ((la.take 0).filter (hasB b lb)) (w2.alloc (.cells #[.bool false, .slice none 0 0] 24))) :=
          ⟨Three.grow HT2.out hb3, Box.new w2 _ _, World.ownsRow_nil _ _ _ _⟩
        have HFL : Hid (andL false la b lb = la.filter (hasB b lb)) := HL.out
        clear hb3 HT2 HL
        go_wp2
        generalize w2.alloc (.cells #[.bool false, .slice none 0 0] 24) = w3 at *
        go_loopw [6] (fun i wr => ∃ (k : Nat) (v : Value), k ≤ la.length ∧ i = .int .i64 k ∧ Hid (AInv w (.bool false, .slice p la.length c) (.bool b, .slice q lb.length d) w2.heap.size v ((la.take k).filter (hasB b lb)) wr)) (fun i _ => la.length - (intOf i).toNat)
        case atStart => exact ⟨0, _, Nat.zero_le _, rfl, HI⟩
        case round =>
          obtain ⟨k, v5, hk, rfl, HV⟩ := hrel
          have z1 := HV.out.three.fst.snd
          by_cases hlt : k < la.length
          · have hltz : (k : Int) < (la.length : Int) := by omega
            obtain ⟨b1, o1, rfl, hb1, hcs⟩ := HH.out.resolve_left (fun e => by rw [e] at hlt; simp at hlt)
            have hck := fun W (hb : Below w.heap.size w W) => (hb.cell (p := ⟨b1, o1 + k, none⟩) hb1).trans (hcs k hlt)
            have HN : Hid _ := filter_take (hasB b lb) la k hlt
            have hacc : ((la.take k).filter (hasB b lb)).length ≤ 32 := Nat.le_trans (List.length_filter_le _ _) (by simp; omega)
            clear hcs
            generalize la.getD k 0 = x at *
            generalize (la.take k).filter (hasB b lb) = acc at *
            go_wp2
            refine wp_region_left (S := AInv w (.bool false, .slice (some ⟨b1, o1, none⟩) la.length c) (.bool b, .slice q lb.length d) w2.heap.size v5 acc) (Keep := KeepK [])
              (g := fun i v W => ([.is (.agg #[.bool b, .slice q lb.length d]), .is (.pointer (some ⟨w.heap.size, 1, none⟩)), .is (.slice (some ⟨b1, o1, none⟩) la.length c), .is (.int .i64 k), .is (.pointer (some ⟨b1, o1 + k, none⟩)), .is (.int .i64 x), .is (.bool (hasF b lb x))].getD i Kd.any).ok 0 v W)
              (tab := [[(3, none)], [(2, none)], [(29, some 1)], [(6, none)], [(30, some 2), (31, some 3)], [(32, some 4)], [(28, some 0), (33, some 5)]]) (tl := []) (n := 46)
              (by kernel_rfl) rfl (by kernel_rfl) keep_none (HV.out.grow (on_drew (Below.refl _ _))) ?st ?en
            case st =>
              refine ⟨fun ρ W hr hS hs => ?_, fun ρ W hr hS hs => ?_, fun ρ W hr hS hs => ?_, fun ρ W hr hS hs => ?_, fun ρ W hr hS hs => ?_, fun ρ W hr hS hs => ?_, fun ρ W hr hS hs => ?_, trivial⟩
              · exact step_plain rfl (leaves_load (.tmp 3) rfl hs.1 hS.three.snd ⟨rfl, hS, Below.refl _ _⟩)
              · have h1 : ρ (.tmp 2) = .pointer (some ⟨w.heap.size, 0, none⟩) := hs.1
                refine step_plain rfl (leaves_value (v := .pointer (some ⟨w.heap.size, 1, none⟩)) (w' := W) ?_ ⟨rfl, hS, Below.refl _ _⟩)
                simp [go_sem, h1]
              · have h1 : ρ (.tmp 29) = .pointer (some ⟨w.heap.size, 1, none⟩) := hs.1
                have hc := hS.three.fst.snd
                refine step_plain rfl (leaves_value (v := .slice (some ⟨b1, o1, none⟩) la.length c) (w' := W) ?_ ⟨rfl, hS, Below.refl _ _⟩)
                simp [go_sem, h1, hc]
              · exact step_plain rfl (leaves_move (.tmp 6) rfl ⟨hs.1, hS, Below.refl _ _⟩)
              · have h1 : ρ (.tmp 30) = .slice (some ⟨b1, o1, none⟩) la.length c := hs.1
                have h2 : ρ (.tmp 31) = .int .i64 k := hs.2.1
                refine step_plain rfl (leaves_value (v := .pointer (some ⟨b1, o1 + k, none⟩)) (w' := W) ?_ ⟨rfl, hS, Below.refl _ _⟩)
                simp [go_sem, h1, h2, hlt]
              · have h1 : ρ (.tmp 32) = .pointer (some ⟨b1, o1 + k, none⟩) := hs.1
                have hc := hck W hS.three.on
                refine step_plain rfl (leaves_value (v := .int .i64 x) (w' := W) ?_ ⟨rfl, hS, Below.refl _ _⟩)
                simp [go_sem, h1, hc]
              · refine step_plain rfl (leaves_call en_rhas hr #[.tmp 28, .tmp 33] _ rfl #[.agg #[.bool b, .slice q lb.length d], .int .i64 x] (by simp only [List.map_toArray, List.map_cons, List.map_nil]; rw [show ρ (.tmp 28) = _ from hs.1, show ρ (.tmp 33) = _ from hs.2.1]) ?_)
                refine (refHas_any b q d lb x W hl2 (HH2.out.below hS.three.on (Nat.le_refl _))).mono ?_
                rintro e W' ⟨rfl, hb⟩
                exact ⟨_, rfl, rfl, hS.grow hb, hb⟩
            case en =>
              intro W0 hS v0 h0 v1 h1 v2 h2 v3 h3 v4 h4 v6 h5 v7 h6
              have e6 := h6 rfl
              clear h0 h1 h2 h3 h4 h5 h6
              simp only [ends, Act.put, List.setIfInBounds_toArray, List.set_cons_succ, List.set_cons_zero]
              obtain ⟨y, hy⟩ : ∃ y, hasF b lb x = y := ⟨_, rfl⟩
              have HY : Hid (hasB b lb x = y) := by show _ = y; rw [← hy]; unfold hasF; rw [HCB.out, Bool.true_and]
              have e6' : v7 = .bool y := by rw [← hy]; exact e6
              clear e6 hy
              subst e6'
              have HS0 : Hid _ := hS
              clear hS
              cases y with
              | false =>
                go_wp2
                go_roundw
                case rel => exact ⟨k + 1, v5, by omega, by go_num, by show AInv _ _ _ _ _ _ _; rw [HN.out, HY.out]; simp only [Bool.false_eq_true, if_false, List.append_nil]; exact HS0.out⟩
                case measure => simp [intOf]; omega
              | true =>
                go_wp2
                have hS0 := HS0.out
                have ho := hS0.out.lt
                have hthd := hS0.three.thd.lt
                refine wp_region_three (S := OutS w W0 (.bool false, .slice (some ⟨b1, o1, none⟩) la.length c) (.bool b, .slice q lb.length d) w2.heap.size) (u := 8) (Keep := outKeep)
                  (g := outG w W0 w2.heap.size v5 (.slice (some ⟨b1, o1, none⟩) la.length c) acc x k b1 o1)
                  (tab := [[(5, none)], [(35, some 0)], [(2, none)], [(37, some 2)], [(6, none)], [(38, some 3), (39, some 4)], [(40, some 5)], [(41, some 6)], [(36, some 1), (42, some 7)], [(5, none)], [(44, some 9), (43, some 8)]]) (tl := [(7, 8), (8, 10)]) (n := 46)
                  (by kernel_rfl) rfl (by kernel_rfl) ?hK (on_drew (Below.refl _ _)) ?st2 ?en2
                case hK =>
                  intro i j' v w1' w2' hk' hne hed htl hg
                  by_cases h8 : i = 8
                  · subst h8
                    by_cases e7 : j' = 7
                    · subst e7; exact absurd rfl (htl 8 rfl).1
                    by_cases e10 : j' = 10
                    · subst e10; exact absurd hed (by decide +kernel)
                    exact outG_is hg ⟨e7, hne, e10⟩
                  by_cases h10 : i = 10
                  · subst h10
                    by_cases e7 : j' = 7
                    · subst e7; exact absurd (htl 8 rfl).2 (by decide +kernel)
                    by_cases e8 : j' = 8
                    · subst e8; exact absurd rfl (htl 10 rfl).1
                    exact outG_is hg ⟨e7, e8, hne⟩
                  refine outG_on hg ?_
                  unfold outKeep at hk'
                  rw [if_neg (by omega)] at hk'
                  exact hk'
                case st2 =>
                  refine ⟨fun ρ W f hf hf2 hr hS hs => ?_, fun ρ W f hf hf2 hr hS hs => ?_, fun ρ W f hf hf2 hr hS hs => ?_, fun ρ W f hf hf2 hr hS hs => ?_, fun ρ W f hf hf2 hr hS hs => ?_, fun ρ W f hf hf2 hr hS hs => ?_, fun ρ W f hf hf2 hr hS hs => ?_, fun ρ W f hf hf2 hr hS hs => ?_, fun ρ W f hf hf2 hr hS hs => ?_, fun ρ W f hf hf2 hr hS hs => ?_, fun ρ W f hf hf2 hr hS hs => ?_, trivial⟩
                  · have h4 : ρ (.tmp 5) = .pointer (some ⟨w2.heap.size, 0, none⟩) := hs.1
                    refine step_plain rfl (leaves_value (v := .pointer (some ⟨w2.heap.size, 1, none⟩)) (w' := W) ?_ ⟨rfl, by cases f <;> exact hS, Below.refl _ _⟩)
                    simp [go_sem, h4]
                  · obtain rfl : f = true := hf (by kernel_rfl)
                    have h4 : ρ (.tmp 35) = .pointer (some ⟨w2.heap.size, 1, none⟩) := hs.1
                    have hc := (hS0.out.on hS).snd
                    refine step_plain rfl (leaves_value (v := v5) (w' := W) ?_ ⟨rfl, hS, Below.refl _ _⟩)
                    simp [go_sem, h4, hc]
                  · have h4 : ρ (.tmp 2) = .pointer (some ⟨w.heap.size, 0, none⟩) := hs.1
                    refine step_plain rfl (leaves_value (v := .pointer (some ⟨w.heap.size, 1, none⟩)) (w' := W) ?_ ⟨rfl, by cases f <;> exact hS, Below.refl _ _⟩)
                    simp [go_sem, h4]
                  · have h4 : ρ (.tmp 37) = .pointer (some ⟨w.heap.size, 1, none⟩) := hs.1
                    have hc : W.cell? ⟨w.heap.size, 1, none⟩ = some (.slice (some ⟨b1, o1, none⟩) la.length c) := by
                      cases f with
                      | true => exact (hS0.three.fst.on hS).snd
                      | false => exact hS.1.fst.snd
                    refine step_plain rfl (leaves_value (v := .slice (some ⟨b1, o1, none⟩) la.length c) (w' := W) ?_ ⟨rfl, by cases f <;> exact hS, Below.refl _ _⟩)
                    simp [go_sem, h4, hc]
                  · exact step_plain rfl (leaves_move (.tmp 6) rfl ⟨hs.1, by cases f <;> exact hS, Below.refl _ _⟩)
                  · have h1 : ρ (.tmp 38) = .slice (some ⟨b1, o1, none⟩) la.length c := hs.1
                    have h2 : ρ (.tmp 39) = .int .i64 k := hs.2.1
                    refine step_plain rfl (leaves_value (v := .pointer (some ⟨b1, o1 + k, none⟩)) (w' := W) ?_ ⟨rfl, by cases f <;> exact hS, Below.refl _ _⟩)
                    simp [go_sem, h1, h2, hlt]
                  · have h1 : ρ (.tmp 40) = .pointer (some ⟨b1, o1 + k, none⟩) := hs.1
                    have hc : W.cell? ⟨b1, o1 + k, none⟩ = some (.int .i64 x) := by
                      cases f with
                      | true => exact hck W (on_trans hS0.three.on hS)
                      | false => exact hck W hS.1.on
                    refine step_plain rfl (leaves_value (v := .int .i64 x) (w' := W) ?_ ⟨rfl, by cases f <;> exact hS, Below.refl _ _⟩)
                    simp [go_sem, h1, hc]
                  · obtain rfl : f = true := hf (by kernel_rfl)
                    have h1 : ρ (.tmp 41) = .int .i64 x := hs.1
                    have hb := on_alloc W (.cells #[.int .i64 x] 3)
                    refine step_plain rfl (leaves_value (v := .slice (some ⟨W.heap.size, 0, none⟩) 1 1) (w' := W.alloc (.cells #[.int .i64 x] 3)) ?_ ⟨⟨_, rfl, at_row (l := [x]) (World.alloc_heap_new W _)⟩, on_trans hS hb, hb⟩)
                    simp [go_sem, h1]
                  · obtain rfl : f = true := hf (by kernel_rfl)
                    have hS' : Below W0.heap.size W0 W := hS
                    obtain ⟨h1, ⟨b0, h2, hAx⟩, _⟩ := hs
                    have h1' : ρ (.tmp 36) = v5 := h1
                    obtain ⟨v', W', hrun, hown, hb⟩ := append_own (w2.heap.size + 1) v5 acc (some ⟨b0, 0, none⟩) 1 [x] W (by omega) (by simp) (ownL_on hS0.row hS') hAx (fun h => by cases h) (by have := hS'.size; omega)
                    have ht := hS0.three.grow hS'
                    have hout := hS0.out.on hS'
                    refine step_plain rfl (leaves_append (v := v') (w' := W') (.tmp 36) (.tmp 42) 22 rfl ?_ ⟨hown, ⟨⟨ht.on.trans (hb.mono (by omega)), ht.fst.below hb (by omega), ht.snd.below hb (by omega), ht.thd.below hb (by omega)⟩, _, hout.below hb (by omega)⟩, trivial⟩)
                    rw [h1', h2]; exact hrun
                  · have h4 : ρ (.tmp 5) = .pointer (some ⟨w2.heap.size, 0, none⟩) := hs.1
                    refine step_plain rfl (leaves_value (v := .pointer (some ⟨w2.heap.size, 1, none⟩)) (w' := W) ?_ ⟨rfl, by cases f <;> exact hS, Below.refl _ _⟩)
                    simp [go_sem, h4]
                  · obtain rfl : f = false := hf2 (by kernel_rfl)
                    obtain ⟨h1, h2, _⟩ := hs
                    have h1' : ρ (.tmp 44) = .pointer (some ⟨w2.heap.size, 1, none⟩) := h1
                    have h2' : OwnL (w2.heap.size + 1) W (ρ (.tmp 43)) (acc ++ [x]) := h2
                    obtain ⟨p', c', h3, _⟩ := ownL_at h2'
                    obtain ⟨ht, u, hX⟩ := hS
                    have f1 := hX.free1
                    have x1 := hX.snd
                    have hbut := but_set W w2.heap.size 1 (ρ (.tmp 43))
                    refine step_plain rfl (leaves_skip (w' := W.setCell ⟨w2.heap.size, 1, none⟩ (ρ (.tmp 43))) ?_ ⟨⟨_, hX.put1 _, ownL_but h2' hbut (by omega)⟩, ⟨⟨below_but ht.on hbut (by omega), ht.fst.but hbut (by omega), ht.snd.but hbut (by omega), ht.thd.but hbut (by omega)⟩, _, hX.put1 _⟩, trivial⟩)
                    rw [h3]
                    simp [go_sem, h1', h3, f1, x1]
                case en2 =>
                  intro f W hf hS v0 h0 v1 h1 v2 h2 v3 h3 v4 h4 v6 h5 v7 h6 v8 h7 v9 h8 v10 h9 h10
                  obtain rfl : f = false := hf (by decide)
                  obtain ⟨vn, hbx, hown⟩ := h10 rfl
                  have HS2 : Hid (AInv w (.bool false, .slice (some ⟨b1, o1, none⟩) la.length c) (.bool b, .slice q lb.length d) w2.heap.size vn (acc ++ [x]) W) := ⟨hS.1, hbx, hown⟩
                  clear h0 h1 h2 h3 h4 h5 h6 h7 h8 h9 h10 hS hbx hown hf
                  simp only [ends, Act.put, List.setIfInBounds_toArray, List.set_cons_succ, List.set_cons_zero]
                  go_wp2
                  go_roundw
                  case rel => exact ⟨k + 1, vn, by omega, by go_num, by show AInv _ _ _ _ _ _ _; rw [HN.out, HY.out]; exact HS2.out⟩
                  case measure => simp [intOf]; omega
          · obtain rfl : k = la.length := by omega
            have hltz : ¬ (la.length : Int) < (la.length : Int) := by omega
            have hV := HV.out
            rw [List.take_length] at hV
            obtain ⟨p', c', rfl, hat, _⟩ := ownL_at hV.row
            have f0 := hV.three.thd.free0
            have f1 := hV.three.thd.free1
            have r0 := hV.three.thd.fst
            have r1 := hV.three.thd.snd
            have y0 := hV.out.fst
            have y1 := hV.out.snd
            have HAT : Hid (AtF (w2.heap.size + 1) wr p' (la.filter (hasB b lb))) := hat
            have HVV : Hid _ := hV
            clear hat hV
            generalize la.filter (hasB b lb) = FL at *
            go_wp2
            exact bodyPost_ret (results_box rfl _ _ rfl (HVV.out.three.thd.put _ _)) rfl ⟨below_but HVV.out.three.on (but_set2 _ _ _ _ _ _) (by omega), p', c', by rw [HA.out, HFL.out]; rfl, by rw [HFL.out]; exact (AtF.but HAT.out (but_set2 _ _ _ _ _ _) (by omega)).less (by omega)⟩

end Go.Proofs.YthicbobddopcpaaDoor
