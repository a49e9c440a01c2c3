/- What the reference's Subset answers. -/
import Derived.Test.YthicbobddopcpaaDoorWSteps
namespace Go.Proofs.YthicbobddopcpaaDoor
open Go Go.RowKit Go.Shelf Go.Sort

/-- Two boxes, and what is older. -/
structure Two (w : World) (A B : Value × Value) (W : World) : Prop where
  on : Below w.heap.size w W
  fst : Box W w.heap.size A.1 A.2
  snd : Box W (w.heap.size + 1) B.1 B.2
theorem Two.grow {w : World} {A B : Value × Value} {W W' : World} (h : Two w A B W) (hb : Below W.heap.size W W') : Two w A B W' := ⟨on_trans h.on hb, h.fst.on hb, h.snd.on hb⟩
theorem Two.new (w : World) (a0 a1 b0 b1 : Value) : Two w (a0, a1) (b0, b1) ((w.alloc (.cells #[a0, a1] 24)).alloc (.cells #[b0, b1] 24)) := by
  have hY := Box.new (w.alloc (.cells #[a0, a1] 24)) b0 b1
  rw [World.size_alloc] at hY
  exact ⟨on_trans (on_alloc w _) (on_alloc _ _), (Box.new w a0 a1).alloc _, hY⟩

theorem all_drop (f : Int → Bool) (l : List Int) (k : Nat) (h : k < l.length) : (l.drop k).all f = (f (l.getD k 0) && (l.drop (k + 1)).all f) := by
  rw [List.drop_eq_getElem_cons h, List.all_cons, show l.getD k 0 = l[k] by simp [List.getD, h]]

theorem leaves_not {o : Oper} {ρ : Operand → Value} {w : World} {post : Value → World → Prop} (x : Operand) (ho : o.op = .unOp .not 4 x) (b : Bool) (hx : ρ x = .bool b)
    (h : post (.bool (!b)) w) : leaves Tryd.prog o ρ w post := by
  refine leaves_value (v := .bool (!b)) (w' := w) ?_ h
  obtain ⟨dst, op, ty, pos, after, guard⟩ := o
  simp only at ho
  subst ho
  simp [go_sem, hx]

set_option maxRecDepth 100000 in
set_option maxHeartbeats 4000000 in
theorem refSubset_any (a b : Bool) (p q : Option Addr) (c d : Nat) (la lb : List Int) (w : World) (hl : la.length ≤ 9223372036854775807) (hl2 : lb.length ≤ 9223372036854775807) (h : At w p la) (h2 : At w q lb) :
    Calls Tryd.prog 20 #[.agg #[.bool a, .slice p la.length c], .agg #[.bool b, .slice q lb.length d]] w fun e w' => e = .returned (.bool (subB a la b lb)) ∧ Below w.heap.size w w' := by
  have H2 : Hid (Two w (.bool a, .slice p la.length c) (.bool b, .slice q lb.length d) ((w.alloc (.cells #[.bool a, .slice p la.length c] 24)).alloc (.cells #[.bool b, .slice q lb.length d] 24))) := Two.new w _ _ _ _
  have c1 := fun W (hb : Below w.heap.size w W) => refCan_any a p c la W hl (h.below hb (Nat.le_refl _))
  have c2 := fun W (hb : Below w.heap.size w W) => refCan_any b q d lb W hl2 (h2.below hb (Nat.le_refl _))
  have HH : Hid (At w p la) := h
  have HH2 : Hid (At w q lb) := h2
  clear h h2
  obtain ⟨r, hr⟩ : ∃ r, subB a la b lb = r := ⟨_, rfl⟩
  obtain ⟨ca, hca⟩ : ∃ ca, canB a la = ca := ⟨_, rfl⟩
  obtain ⟨cb, hcb⟩ : ∃ cb, canB b lb = cb := ⟨_, rfl⟩
  have HR : Hid ((ca && cb && (if a then b else la.all (hasB b lb))) = r) := by show _ = r; rw [← hr]; unfold subB; rw [hca, hcb]
  have HCA : Hid (canB a la = ca) := hca
  have HCB : Hid (canB b lb = cb) := hcb
  rw [hca] at c1
  rw [hcb] at c2
  rw [hr]
  clear hca hcb hr
  go_enter Tryd.func20, Tryd.ntmps20
  go_wp2_with fail
  generalize (w.alloc (.cells #[.bool a, .slice p la.length c] 24)).alloc (.cells #[.bool b, .slice q lb.length d] 24) = w0 at *
  refine (c1 _ H2.out.on).mono ?_
  rintro e w1 ⟨rfl, hb1⟩
  have HT1 : Hid _ := H2.out.grow hb1
  clear hb1 H2 c1
  cases ca with
  | false =>
    obtain rfl : r = false := by rw [← HR.out]; rfl
    clear c2
    go_wp2
    go_ret
    exact ⟨rfl, HT1.out.on⟩
  | true =>
    have y0 := HT1.out.snd.fst
    have y1 := HT1.out.snd.snd
    go_wp2_with fail
    refine (c2 _ HT1.out.on).mono ?_
    rintro e w2 ⟨rfl, hb2⟩
    have HT2 : Hid _ := HT1.out.grow hb2
    clear y0 y1 hb2 HT1 c2
    cases cb with
    | false =>
      obtain rfl : r = false := by rw [← HR.out]; rfl
      go_wp2
      go_ret
      exact ⟨rfl, HT2.out.on⟩
    | true =>
      have x0 := HT2.out.fst.fst
      have x1 := HT2.out.fst.snd
      have y0 := HT2.out.snd.fst
      have HLOOP : Hid (a = true → b = false → r = false) := fun ha hb => by subst ha hb; rw [← HR.out]; rfl
      by_cases hab : a = true ∧ b = false
      · obtain ⟨rfl, rfl⟩ := hab
        obtain rfl : r = false := HLOOP.out rfl rfl
        go_wp2
        go_ret
        exact ⟨rfl, HT2.out.on⟩
      · have HQ : Hid (r = la.all (hasB b lb)) := by
          show r = _
          rw [← HR.out]
          cases a with
          | false => rfl
          | true =>
            obtain rfl : la = [] := canB_all HCA.out
            cases b with
            | true => rfl
            | false => exact absurd ⟨rfl, rfl⟩ hab
        have hla : la.length ≤ 32 := by
          cases a with
          | false => exact (canB_rise HCA.out).1
          | true => rw [canB_all HCA.out]; simp
        clear HLOOP HR
        have key : a = false ∨ (a = true ∧ b = true) := by cases a <;> cases b <;> simp_all
        rcases key with rfl | ⟨rfl, rfl⟩
        · clear hab
          go_wp2
          go_loopw [5] (fun i wr => ∃ k : Nat, k ≤ la.length ∧ i = .int .i64 k ∧ Hid (r = (la.drop k).all (hasB b lb)) ∧ Hid (Two w (.bool false, .slice p la.length c) (.bool b, .slice q lb.length d) wr)) (fun i _ => la.length - (intOf i).toNat)
          case atStart => exact ⟨0, Nat.zero_le _, rfl, HQ, HT2⟩
          case round =>
            obtain ⟨k, hk, rfl, H, HT⟩ := hrel
            have z1 := HT.out.fst.snd
            by_cases hlt : k < la.length
            · have hltz : (k : Int) < (la.length : Int) := by omega
              obtain ⟨b1, o1, rfl, hb1, hcs⟩ := HH.out.resolve_left (fun e => by rw [e] at hlt; simp at hlt)
              have HD := all_drop (hasB b lb) la k hlt
              have hck := fun W (hb : Below w.heap.size w W) => (hb.cell (p := ⟨b1, o1 + k, none⟩) hb1).trans (hcs k hlt)
              rw [← H.out] at HD
              have HD2 : Hid _ := HD
              clear HD hcs
              generalize la.getD k 0 = x at *
              go_wp2
              refine wp_region_left (S := Two w (.bool false, .slice (some ⟨b1, o1, none⟩) la.length c) (.bool b, .slice q lb.length d)) (Keep := KeepK [])
                (g := fun i v W => ([.is (.agg #[.bool b, .slice q lb.length d]), .is (.pointer (some ⟨w.heap.size, 1, none⟩)), .is (.slice (some ⟨b1, o1, none⟩) la.length c), .is (.int .i64 k), .is (.pointer (some ⟨b1, o1 + k, none⟩)), .is (.int .i64 x), .is (.bool (hasF b lb x)), .is (.bool (!hasF b lb x))].getD i Kd.any).ok 0 v W)
                (tab := [[(3, none)], [(2, none)], [(31, some 1)], [(5, none)], [(32, some 2), (33, some 3)], [(34, some 4)], [(30, some 0), (35, some 5)], [(36, some 6)]]) (tl := []) (n := 38)
                (by kernel_rfl) rfl (by kernel_rfl) keep_none (HT.out.grow (on_drew (Below.refl _ _))) ?st ?en
              case st =>
                refine ⟨fun ρ W hr hS hs => ?_, fun ρ W hr hS hs => ?_, fun ρ W hr hS hs => ?_, fun ρ W hr hS hs => ?_, fun ρ W hr hS hs => ?_, fun ρ W hr hS hs => ?_, fun ρ W hr hS hs => ?_, fun ρ W hr hS hs => ?_, trivial⟩
                · exact step_plain rfl (leaves_load (.tmp 3) rfl hs.1 hS.snd ⟨rfl, hS, Below.refl _ _⟩)
                · have h1 : ρ (.tmp 2) = .pointer (some ⟨w.heap.size, 0, none⟩) := hs.1
                  refine step_plain rfl (leaves_value (v := .pointer (some ⟨w.heap.size, 1, none⟩)) (w' := W) ?_ ⟨rfl, hS, Below.refl _ _⟩)
                  simp [go_sem, h1]
                · have h1 : ρ (.tmp 31) = .pointer (some ⟨w.heap.size, 1, none⟩) := hs.1
                  have hc := hS.fst.snd
                  refine step_plain rfl (leaves_value (v := .slice (some ⟨b1, o1, none⟩) la.length c) (w' := W) ?_ ⟨rfl, hS, Below.refl _ _⟩)
                  simp [go_sem, h1, hc]
                · exact step_plain rfl (leaves_move (.tmp 5) rfl ⟨hs.1, hS, Below.refl _ _⟩)
                · have h1 : ρ (.tmp 32) = .slice (some ⟨b1, o1, none⟩) la.length c := hs.1
                  have h2 : ρ (.tmp 33) = .int .i64 k := hs.2.1
                  refine step_plain rfl (leaves_value (v := .pointer (some ⟨b1, o1 + k, none⟩)) (w' := W) ?_ ⟨rfl, hS, Below.refl _ _⟩)
                  simp [go_sem, h1, h2, hlt]
                · have h1 : ρ (.tmp 34) = .pointer (some ⟨b1, o1 + k, none⟩) := hs.1
                  have hc := hck W hS.on
                  refine step_plain rfl (leaves_value (v := .int .i64 x) (w' := W) ?_ ⟨rfl, hS, Below.refl _ _⟩)
                  simp [go_sem, h1, hc]
                · refine step_plain rfl (leaves_call en_rhas hr #[.tmp 30, .tmp 35] _ rfl #[.agg #[.bool b, .slice q lb.length d], .int .i64 x] (by simp only [List.map_toArray, List.map_cons, List.map_nil]; rw [show ρ (.tmp 30) = _ from hs.1, show ρ (.tmp 35) = _ from hs.2.1]) ?_)
                  refine (refHas_any b q d lb x W hl2 (HH2.out.below hS.on (Nat.le_refl _))).mono ?_
                  rintro e W' ⟨rfl, hb⟩
                  exact ⟨_, rfl, rfl, hS.grow hb, hb⟩
                · exact step_plain rfl (leaves_not (.tmp 36) rfl _ hs.1 ⟨rfl, hS, Below.refl _ _⟩)
              case en =>
                intro W hS v0 h0 v1 h1 v2 h2 v3 h3 v4 h4 v5 h5 v6 h6 v7 h7
                have e7 := h7 rfl
                clear h0 h1 h2 h3 h4 h5 h6 h7
                simp only [ends, Act.put, List.setIfInBounds_toArray, List.set_cons_succ, List.set_cons_zero]
                obtain ⟨y, hy⟩ : ∃ y, hasF b lb x = y := ⟨_, rfl⟩
                have HY : Hid (hasB b lb x = y) := by show _ = y; rw [← hy]; unfold hasF; rw [HCB.out, Bool.true_and]
                have e7' : v7 = .bool (!y) := by rw [← hy]; exact e7
                clear e7 hy
                subst e7'
                cases y with
                | false =>
                  obtain rfl : r = false := by rw [HD2.out, HY.out]; rfl
                  go_wp2
                  go_ret
                  exact ⟨rfl, hS.on⟩
                | true =>
                  go_wp2
                  go_roundw
                  case rel => exact ⟨k + 1, by omega, by go_num, by show r = _; rw [HD2.out, HY.out]; rfl, hS⟩
                  case measure => simp [intOf]; omega
            · obtain rfl : k = la.length := by omega
              have hltz : ¬ (la.length : Int) < (la.length : Int) := by omega
              obtain rfl : r = true := by rw [H.out, List.drop_length]; rfl
              go_wp2
              go_ret
              exact ⟨rfl, HT.out.on⟩
        · obtain rfl : la = [] := canB_all HCA.out
          obtain rfl : r = true := HQ.out
          clear hab HQ
          rw [List.length_nil] at x1
          go_wp2
          go_loop [5] (fun i => i = .int .i64 0) (fun _ => 0)
          case atStart => rfl
          case round =>
            subst hrel
            go_wp2
            go_ret
            exact ⟨rfl, HT2.out.on⟩

end Go.Proofs.YthicbobddopcpaaDoor
