/- What white.Subset answers: the closure, slices.IndexFunc and slices.ContainsFunc with it. -/
import Derived.Test.YtmccfcllehfebaaA6
import Derived.Test.YtmccfcllehfebaaA7
namespace Go.Proofs.Ytmccfcllehfebaa.W
open Go Go.RowKit Go.Shelf Go.Sort

/-- What the closures ask of the world: their captured box, and its list. -/
structure Cap (b : Nat) (all : Bool) (p : Option Addr) (c : Nat) (l : List Int) (W : World) : Prop where
  box : Box W b (.bool all) (.slice p l.length c)
  at_ : At W p l
theorem Cap.on {b : Nat} {all : Bool} {p : Option Addr} {c : Nat} {l : List Int} {W W' : World} (h : Cap b all p c l W) (hb : Below W.heap.size W W') : Cap b all p c l W' := ⟨h.box.on hb, h.at_.on hb⟩

set_option maxRecDepth 100000 in
theorem clo_any (b : Nat) (all : Bool) (p : Option Addr) (c : Nat) (l : List Int) (x : Int) (W : World) (hc : canB all l = true) (h : Cap b all p c l W) :
    Calls Try.prog 65 #[.int .i64 x, .pointer (some ⟨b, 0, none⟩)] W fun e w' => e = .returned (.bool (!hasB all l x)) ∧ Below W.heap.size W w' := by
  have cH := holds_any all p l.length c l x W rfl hc h.at_
  have x0 := h.box.fst
  have x1 := h.box.snd
  clear h hc
  generalize hasB all l x = r at *
  go_enter Try.func65, Try.ntmps65
  go_wp2_with fail
  refine cH.mono ?_
  rintro e w1 ⟨rfl, hb⟩
  go_wp2
  go_ret
  exact ⟨rfl, hb⟩
/-- What slices.IndexFunc finds. -/
def idxF (f : Int → Bool) : List Int → Nat → Int
  | [], _ => -1
  | x :: r, k => if f x then (k : Int) else idxF f r (k + 1)
theorem idxF_drop (f : Int → Bool) (l : List Int) (k : Nat) (h : k < l.length) : idxF f (l.drop k) k = if f (l.getD k 0) then (k : Int) else idxF f (l.drop (k + 1)) (k + 1) := by
  rw [List.drop_eq_getElem_cons h]
  simp [idxF, List.getD, h]

set_option maxRecDepth 100000 in
set_option maxHeartbeats 1000000 in
/-- slices.IndexFunc, with a function value that answers 'f' wherever S holds. -/
theorem index_some (g : Nat) (lb : Array Value) (f : Int → Bool) (S : World → Prop) (eg : ∀ args w, (callFunc g args).run Try.prog w = .ok (.enter g args) w)
    (hS : ∀ W W', S W → Below W.heap.size W W' → S W') (hg : ∀ x W, S W → Calls Try.prog g (#[.int .i64 x] ++ lb) W fun e w' => e = .returned (.bool (f x)) ∧ Below W.heap.size W w')
    (b off cap : Nat) (l : List Int) (w : World) (hSw : S w) (hl : l.length ≤ 9223372036854775807) (hbl : b < w.heap.size) (hc : ∀ j, j < l.length → w.cell? ⟨b, off + j, none⟩ = some (.int .i64 (l.getD j 0))) :
    Calls Try.prog 70 #[.slice (some ⟨b, off, none⟩) l.length cap, .func (.func g) #[] lb] w fun e w' => e = .returned (.int .i64 (idxF f l 0)) ∧ Below w.heap.size w w' := by
  have HC : Hid (∀ W, Below w.heap.size w W → ∀ j, j < l.length → W.cell? ⟨b, off + j, none⟩ = some (.int .i64 (l.getD j 0))) := fun W hb j hj => (hb.cell (p := ⟨b, off + j, none⟩) hbl).trans (hc j hj)
  obtain ⟨R, hR⟩ : ∃ R, idxF f l 0 = R := ⟨_, rfl⟩
  have HR : Hid (idxF f l 0 = R) := hR
  have HSw : Hid (S w) := hSw
  have HS : Hid (∀ W W', S W → Below W.heap.size W W' → S W') := hS
  have HG : Hid (∀ x W, S W → Calls Try.prog g (#[.int .i64 x] ++ lb) W fun e w' => e = .returned (.bool (f x)) ∧ Below W.heap.size W w') := hg
  rw [hR]
  clear hc hR hSw hS hg
  go_enter Try.func70, Try.ntmps70
  go_wp2
  go_loopw [8] (fun i wr => ∃ k : Nat, k ≤ l.length ∧ i = .int .i64 k ∧ Hid (R = idxF f (l.drop k) k) ∧ Below w.heap.size w wr) (fun i _ => l.length - (intOf i).toNat)
  case atStart => exact ⟨0, Nat.zero_le _, rfl, by show R = _; rw [← HR.out]; rfl, Below.refl _ _⟩
  case round =>
    obtain ⟨k, hk, rfl, H, hBr⟩ := hrel
    by_cases hlt : k < l.length
    · have hltz : (k : Int) < (l.length : Int) := by omega
      have hck := HC.out wr hBr k hlt
      have hG := HG.out (l.getD k 0) wr (HS.out w wr HSw.out hBr)
      have HD : Hid (idxF f (l.drop k) k = if f (l.getD k 0) then (k : Int) else idxF f (l.drop (k + 1)) (k + 1)) := idxF_drop f l k hlt
      obtain ⟨r, hr⟩ : ∃ r, f (l.getD k 0) = r := ⟨_, rfl⟩
      rw [hr] at hG
      have HRR : Hid (f (l.getD k 0) = r) := hr
      clear hr
      generalize l.getD k 0 = x at *
      cases r with
      | true =>
        go_wp2_with (go_at_fn g; refine hG.mono ?_; rintro e w1 ⟨rfl, hb1⟩)
        go_ret
        refine ⟨?_, on_trans hBr hb1⟩
        rw [H.out, HD.out, HRR.out]; rfl
      | false =>
        go_wp2_with (go_at_fn g; refine hG.mono ?_; rintro e w1 ⟨rfl, hb1⟩)
        go_roundw
        case rel => exact ⟨k + 1, by omega, by go_num, by show R = _; rw [H.out, HD.out, HRR.out]; rfl, on_trans hBr hb1⟩
        case measure => simp [intOf]; omega
    · obtain rfl : k = l.length := by omega
      have hltz : ¬ (l.length : Int) < (l.length : Int) := by omega
      go_wp2
      go_ret
      refine ⟨?_, hBr⟩
      rw [H.out, List.drop_length]; rfl

end Go.Proofs.Ytmccfcllehfebaa.W

namespace Go.Proofs.Ytmccfcllehfebaa.W
open Go Go.RowKit Go.Shelf Go.Sort

set_option maxRecDepth 100000 in
theorem index_zero (g : Nat) (lb : Array Value) (p : Option Addr) (cap : Nat) (w : World) :
    Calls Try.prog 70 #[.slice p 0 cap, .func (.func g) #[] lb] w fun e w' => e = .returned (.int .i64 (-1)) ∧ w' = w := by
  go_enter Try.func70, Try.ntmps70
  go_wp2
  go_loop [8] (fun i => i = .int .i64 0) (fun _ => 0)
  case atStart => rfl
  case round =>
    subst hrel
    go_wp2
    go_ret
    exact ⟨rfl, rfl⟩

theorem index_any (g : Nat) (lb : Array Value) (f : Int → Bool) (S : World → Prop) (eg : ∀ args w, (callFunc g args).run Try.prog w = .ok (.enter g args) w)
    (hS : ∀ W W', S W → Below W.heap.size W W' → S W') (hg : ∀ x W, S W → Calls Try.prog g (#[.int .i64 x] ++ lb) W fun e w' => e = .returned (.bool (f x)) ∧ Below W.heap.size W w')
    (p : Option Addr) (cap : Nat) (l : List Int) (w : World) (hSw : S w) (hl : l.length ≤ 9223372036854775807) (h : At w p l) :
    Calls Try.prog 70 #[.slice p l.length cap, .func (.func g) #[] lb] w fun e w' => e = .returned (.int .i64 (idxF f l 0)) ∧ Below w.heap.size w w' := by
  rcases h with rfl | ⟨b, off, rfl, hlt, hc⟩
  · refine (index_zero g lb p cap w).mono ?_
    rintro e w' ⟨rfl, rfl⟩
    exact ⟨rfl, Below.refl _ _⟩
  · exact index_some g lb f S eg hS hg b off cap l w hSw hl hlt hc

theorem idxF_nonneg (f : Int → Bool) : ∀ (l : List Int) (k : Nat), decide (0 ≤ idxF f l k) = l.any f
  | [], _ => rfl
  | x :: r, k => by
    have ih := idxF_nonneg f r (k + 1)
    by_cases h : f x = true
    · simp [idxF, h]
    · have h' : f x = false := by simpa using h
      rw [List.any_cons, h', Bool.false_or, ← ih]
      simp only [idxF, h', Bool.false_eq_true, if_false]

set_option maxRecDepth 100000 in
theorem contains_any (g : Nat) (lb : Array Value) (f : Int → Bool) (S : World → Prop) (eg : ∀ args w, (callFunc g args).run Try.prog w = .ok (.enter g args) w)
    (hS : ∀ W W', S W → Below W.heap.size W W' → S W') (hg : ∀ x W, S W → Calls Try.prog g (#[.int .i64 x] ++ lb) W fun e w' => e = .returned (.bool (f x)) ∧ Below W.heap.size W w')
    (p : Option Addr) (cap : Nat) (l : List Int) (w : World) (hSw : S w) (hl : l.length ≤ 9223372036854775807) (h : At w p l) :
    Calls Try.prog 64 #[.slice p l.length cap, .func (.func g) #[] lb] w fun e w' => e = .returned (.bool (l.any f)) ∧ Below w.heap.size w w' := by
  have cI := index_any g lb f S eg hS hg p cap l w hSw hl h
  have hd := idxF_nonneg f l 0
  clear hg hS hSw h
  generalize idxF f l 0 = R at *
  generalize l.any f = r at *
  go_enter Try.func64, Try.ntmps64
  go_wp2_with fail
  refine cI.mono ?_
  rintro e w1 ⟨rfl, hb⟩
  cases r
  all_goals
    go_wp2
    go_ret
    exact ⟨rfl, hb⟩

theorem all_any_not (l : List Int) (f : Int → Bool) : l.all f = !(l.any fun x => !f x) := by
  induction l with
  | nil => rfl
  | cons x r ih => simp only [List.all_cons, List.any_cons, ih]; cases f x <;> simp

theorem en_clo : ∀ args w, (callFunc 65 args).run Try.prog w = .ok (.enter 65 args) w := enters_of Try.func65 (by kernel_rfl) rfl
set_option maxRecDepth 100000 in
set_option maxHeartbeats 2000000 in
theorem subset_any (a b : Bool) (p q : Option Addr) (c d : Nat) (la lb : List Int) (w : World) (hl : la.length ≤ 9223372036854775807) (hl2 : lb.length ≤ 9223372036854775807) (h : At w p la) (h2 : At w q lb) :
    Calls Try.prog 57 #[.agg #[.bool a, .slice p la.length c], .agg #[.bool b, .slice q lb.length d]] w fun e w' => e = .returned (.bool (subB a la b lb)) ∧ Below w.heap.size w w' := by
  have hX := (Box.new w (.bool a) (.slice p la.length c)).alloc (.cells #[.bool b, .slice q lb.length d] 32)
  have hY := Box.new (w.alloc (.cells #[.bool a, .slice p la.length c] 32)) (.bool b) (.slice q lb.length d)
  rw [World.size_alloc] at hY
  have hB := on_trans (on_alloc w (.cells #[.bool a, .slice p la.length c] 32)) (on_alloc _ (.cells #[.bool b, .slice q lb.length d] 32))
  have c1 := fun W (hb : Below w.heap.size w W) => can_any a p la.length c la W rfl hl (h.below hb (Nat.le_refl _))
  have c2 := fun W (hb : Below w.heap.size w W) => can_any b q lb.length d lb W rfl hl2 (h2.below hb (Nat.le_refl _))
  have HH : Hid (At w p la) := h
  have HH2 : Hid (At w q lb) := h2
  have HX : Hid _ := hX
  have HY : Hid _ := hY
  have HB : Hid _ := hB
  clear h h2 hX hY hB
  unfold subB
  obtain ⟨ca, hca⟩ : ∃ ca, canB a la = ca := ⟨_, rfl⟩
  obtain ⟨cb, hcb⟩ : ∃ cb, canB b lb = cb := ⟨_, rfl⟩
  rw [hca] at c1 ⊢
  have HCB : Hid (canB b lb = cb) := hcb
  rw [hcb] at c2 ⊢
  clear hca hcb
  cases ca with
  | false =>
    rw [Bool.false_and, Bool.false_and]
    clear c2
    go_enter Try.func57, Try.ntmps57
    go_wp2_with fail
    refine (c1 _ HB.out).mono ?_
    rintro e w1 ⟨rfl, hb1⟩
    go_wp2
    go_ret
    exact ⟨rfl, on_trans HB.out hb1⟩
  | true =>
    cases cb with
    | false =>
      rw [Bool.and_false, Bool.false_and]
      go_enter Try.func57, Try.ntmps57
      go_wp2_with fail
      refine (c1 _ HB.out).mono ?_
      rintro e w1 ⟨rfl, hb1⟩
      have hB1 := on_trans HB.out hb1
      have hY1 := HY.out.on hb1
      have y0 := hY1.fst
      have y1 := hY1.snd
      go_wp2_with fail
      refine (c2 _ hB1).mono ?_
      rintro e w2 ⟨rfl, hb2⟩
      go_wp2
      go_ret
      exact ⟨rfl, on_trans hB1 hb2⟩
    | true =>
      rw [Bool.true_and, Bool.true_and]
      cases a with
      | true =>
        rw [if_pos rfl]
        go_enter Try.func57, Try.ntmps57
        go_wp2_with fail
        refine (c1 _ HB.out).mono ?_
        rintro e w1 ⟨rfl, hb1⟩
        have hB1 := on_trans HB.out hb1
        have hY1 := HY.out.on hb1
        have y0 := hY1.fst
        have y1 := hY1.snd
        go_wp2_with fail
        refine (c2 _ hB1).mono ?_
        rintro e w2 ⟨rfl, hb2⟩
        have hX2 := (HX.out.on hb1).on hb2
        have hY2 := hY1.on hb2
        have x0 := hX2.fst
        have z0 := hY2.fst
        go_wp2
        go_ret
        exact ⟨rfl, on_trans hB1 hb2⟩
      | false =>
        rw [if_neg (by decide), all_any_not]
        obtain ⟨r, hr⟩ : ∃ r, la.any (fun x => !hasB b lb x) = r := ⟨_, rfl⟩
        have HR : Hid (la.any (fun x => !hasB b lb x) = r) := hr
        rw [hr]
        clear hr
        go_enter Try.func57, Try.ntmps57
        go_wp2_with fail
        refine (c1 _ HB.out).mono ?_
        rintro e w1 ⟨rfl, hb1⟩
        have hB1 := on_trans HB.out hb1
        have hY1 := HY.out.on hb1
        have y0 := hY1.fst
        have y1 := hY1.snd
        go_wp2_with fail
        refine (c2 _ hB1).mono ?_
        rintro e w2 ⟨rfl, hb2⟩
        have hX2 := (HX.out.on hb1).on hb2
        have hY2 := hY1.on hb2
        have x0 := hX2.fst
        have x1 := hX2.snd
        have hB2 := on_trans hB1 hb2
        have cC := contains_any 65 #[.pointer (some ⟨w.heap.size + 1, 0, none⟩)] (fun x => !hasB b lb x) (Cap (w.heap.size + 1) b q d lb) en_clo (fun W W' h hb => h.on hb)
          (fun x W h => clo_any (w.heap.size + 1) b q d lb x W HCB.out h) p c la w2 ⟨hY2, HH2.out.below hB2 (Nat.le_refl _)⟩ hl (HH.out.below hB2 (Nat.le_refl _))
        rw [HR.out] at cC
        clear c1 c2 hX2 hY2 hY1
        go_wp2_with fail
        refine cC.mono ?_
        rintro e w3 ⟨rfl, hb3⟩
        go_wp2
        go_ret
        exact ⟨rfl, on_trans hB2 hb3⟩

end Go.Proofs.Ytmccfcllehfebaa.W

namespace Go.Proofs.Ytmccfcllehfebaa.W
open Go Go.RowKit Go.Shelf Go.Sort

/-- Two boxes, and what is older. -/
structure Two (w : World) (A B : Value × Value) (W : World) : Prop where
  on : Below w.heap.size w W
  fst : Box W w.heap.size A.1 A.2
  snd : Box W (w.heap.size + 1) B.1 B.2
theorem Two.grow {w : World} {A B : Value × Value} {W W' : World} (h : Two w A B W) (hb : Below W.heap.size W W') : Two w A B W' := ⟨on_trans h.on hb, h.fst.on hb, h.snd.on hb⟩
theorem Two.new (w : World) (a0 a1 b0 b1 : Value) : Two w (a0, a1) (b0, b1) ((w.alloc (.cells #[a0, a1] 32)).alloc (.cells #[b0, b1] 32)) := by
  have hY := Box.new (w.alloc (.cells #[a0, a1] 32)) b0 b1
  rw [World.size_alloc] at hY
  exact ⟨on_trans (on_alloc w _) (on_alloc _ _), (Box.new w a0 a1).alloc _, hY⟩

theorem all_drop (f : Int → Bool) (l : List Int) (k : Nat) (h : k < l.length) : (l.drop k).all f = (f (l.getD k 0) && (l.drop (k + 1)).all f) := by
  rw [List.drop_eq_getElem_cons h, List.all_cons, show l.getD k 0 = l[k] by simp [List.getD, h]]

theorem leaves_not {o : Oper} {ρ : Operand → Value} {w : World} {post : Value → World → Prop} (x : Operand) (ho : o.op = .unOp .not 4 x) (b : Bool) (hx : ρ x = .bool b)
    (h : post (.bool (!b)) w) : leaves Try.prog o ρ w post := by
  refine leaves_value (v := .bool (!b)) (w' := w) ?_ h
  obtain ⟨dst, op, ty, pos, after, guard⟩ := o
  simp only at ho
  subst ho
  simp [go_sem, hx]

set_option maxRecDepth 100000 in
set_option maxHeartbeats 4000000 in
theorem refSubset_any (a b : Bool) (p q : Option Addr) (c d : Nat) (la lb : List Int) (w : World) (hl : la.length ≤ 9223372036854775807) (hl2 : lb.length ≤ 9223372036854775807) (h : At w p la) (h2 : At w q lb) :
    Calls Try.prog 50 #[.agg #[.bool a, .slice p la.length c], .agg #[.bool b, .slice q lb.length d]] w fun e w' => e = .returned (.bool (subB a la b lb)) ∧ Below w.heap.size w w' := by
  have H2 : Hid (Two w (.bool a, .slice p la.length c) (.bool b, .slice q lb.length d) ((w.alloc (.cells #[.bool a, .slice p la.length c] 32)).alloc (.cells #[.bool b, .slice q lb.length d] 32))) := Two.new w _ _ _ _
  have c1 := fun W (hb : Below w.heap.size w W) => refCan_any a p c la W hl (h.below hb (Nat.le_refl _))
  have c2 := fun W (hb : Below w.heap.size w W) => refCan_any b q d lb W hl2 (h2.below hb (Nat.le_refl _))
  have HH : Hid (At w p la) := h
  have HH2 : Hid (At w q lb) := h2
  clear h h2
  obtain ⟨r, hr⟩ : ∃ r, subB a la b lb = r := ⟨_, rfl⟩
  obtain ⟨ca, hca⟩ : ∃ ca, canB a la = ca := ⟨_, rfl⟩
  obtain ⟨cb, hcb⟩ : ∃ cb, canB b lb = cb := ⟨_, rfl⟩
  have HR : Hid ((ca && cb && (if a then b else la.all (hasB b lb))) = r) := by show _ = r; rw [← hr]; unfold subB; rw [hca, hcb]
  have HCA : Hid (canB a la = ca) := hca
  have HCB : Hid (canB b lb = cb) := hcb
  rw [hca] at c1
  rw [hcb] at c2
  rw [hr]
  clear hca hcb hr
  go_enter Try.func50, Try.ntmps50
  go_wp2_with fail
  generalize (w.alloc (.cells #[.bool a, .slice p la.length c] 32)).alloc (.cells #[.bool b, .slice q lb.length d] 32) = w0 at *
  refine (c1 _ H2.out.on).mono ?_
  rintro e w1 ⟨rfl, hb1⟩
  have HT1 : Hid _ := H2.out.grow hb1
  clear hb1 H2 c1
  cases ca with
  | false =>
    obtain rfl : r = false := by rw [← HR.out]; rfl
    clear c2
    go_wp2
    go_ret
    exact ⟨rfl, HT1.out.on⟩
  | true =>
    have y0 := HT1.out.snd.fst
    have y1 := HT1.out.snd.snd
    go_wp2_with fail
    refine (c2 _ HT1.out.on).mono ?_
    rintro e w2 ⟨rfl, hb2⟩
    have HT2 : Hid _ := HT1.out.grow hb2
    clear y0 y1 hb2 HT1 c2
    cases cb with
    | false =>
      obtain rfl : r = false := by rw [← HR.out]; rfl
      go_wp2
      go_ret
      exact ⟨rfl, HT2.out.on⟩
    | true =>
      have x0 := HT2.out.fst.fst
      have x1 := HT2.out.fst.snd
      have y0 := HT2.out.snd.fst
      have HLOOP : Hid (a = true → b = false → r = false) := fun ha hb => by subst ha hb; rw [← HR.out]; rfl
      by_cases hab : a = true ∧ b = false
      · obtain ⟨rfl, rfl⟩ := hab
        obtain rfl : r = false := HLOOP.out rfl rfl
        go_wp2
        go_ret
        exact ⟨rfl, HT2.out.on⟩
      · have HQ : Hid (r = la.all (hasB b lb)) := by
          show r = _
          rw [← HR.out]
          cases a with
          | false => rfl
          | true =>
            obtain rfl : la = [] := canB_all HCA.out
            cases b with
            | true => rfl
            | false => exact absurd ⟨rfl, rfl⟩ hab
        have hla : la.length ≤ 32 := by
          cases a with
          | false => exact (canB_rise HCA.out).1
          | true => rw [canB_all HCA.out]; simp
        clear HLOOP HR
        have key : a = false ∨ (a = true ∧ b = true) := by cases a <;> cases b <;> simp_all
        rcases key with rfl | ⟨rfl, rfl⟩
        · clear hab
          go_wp2
          go_loopw [5] (fun i wr => ∃ k : Nat, k ≤ la.length ∧ i = .int .i64 k ∧ Hid (r = (la.drop k).all (hasB b lb)) ∧ Hid (Two w (.bool false, .slice p la.length c) (.bool b, .slice q lb.length d) wr)) (fun i _ => la.length - (intOf i).toNat)
          case atStart => exact ⟨0, Nat.zero_le _, rfl, HQ, HT2⟩
          case round =>
            obtain ⟨k, hk, rfl, H, HT⟩ := hrel
            have z1 := HT.out.fst.snd
            by_cases hlt : k < la.length
            · have hltz : (k : Int) < (la.length : Int) := by omega
              obtain ⟨b1, o1, rfl, hb1, hcs⟩ := HH.out.resolve_left (fun e => by rw [e] at hlt; simp at hlt)
              have HD := all_drop (hasB b lb) la k hlt
              have hck := fun W (hb : Below w.heap.size w W) => (hb.cell (p := ⟨b1, o1 + k, none⟩) hb1).trans (hcs k hlt)
              rw [← H.out] at HD
              have HD2 : Hid _ := HD
              clear HD hcs
              generalize la.getD k 0 = x at *
              go_wp2
              refine wp_region_left (S := Two w (.bool false, .slice (some ⟨b1, o1, none⟩) la.length c) (.bool b, .slice q lb.length d)) (Keep := KeepK [])
                (g := fun i v W => ([.is (.agg #[.bool b, .slice q lb.length d]), .is (.pointer (some ⟨w.heap.size, 1, none⟩)), .is (.slice (some ⟨b1, o1, none⟩) la.length c), .is (.int .i64 k), .is (.pointer (some ⟨b1, o1 + k, none⟩)), .is (.int .i64 x), .is (.bool (hasF b lb x)), .is (.bool (!hasF b lb x))].getD i Kd.any).ok 0 v W)
                (tab := [[(3, none)], [(2, none)], [(31, some 1)], [(5, none)], [(32, some 2), (33, some 3)], [(34, some 4)], [(30, some 0), (35, some 5)], [(36, some 6)]]) (tl := []) (n := 38)
                (by kernel_rfl) rfl (by kernel_rfl) keep_none (HT.out.grow (on_drew (Below.refl _ _))) ?st ?en
              case st =>
                refine ⟨fun ρ W hr hS hs => ?_, fun ρ W hr hS hs => ?_, fun ρ W hr hS hs => ?_, fun ρ W hr hS hs => ?_, fun ρ W hr hS hs => ?_, fun ρ W hr hS hs => ?_, fun ρ W hr hS hs => ?_, fun ρ W hr hS hs => ?_, trivial⟩
                · exact step_plain rfl (leaves_load (.tmp 3) rfl hs.1 hS.snd ⟨rfl, hS, Below.refl _ _⟩)
                · have h1 : ρ (.tmp 2) = .pointer (some ⟨w.heap.size, 0, none⟩) := hs.1
                  refine step_plain rfl (leaves_value (v := .pointer (some ⟨w.heap.size, 1, none⟩)) (w' := W) ?_ ⟨rfl, hS, Below.refl _ _⟩)
                  simp [go_sem, h1]
                · have h1 : ρ (.tmp 31) = .pointer (some ⟨w.heap.size, 1, none⟩) := hs.1
                  have hc := hS.fst.snd
                  refine step_plain rfl (leaves_value (v := .slice (some ⟨b1, o1, none⟩) la.length c) (w' := W) ?_ ⟨rfl, hS, Below.refl _ _⟩)
                  simp [go_sem, h1, hc]
                · exact step_plain rfl (leaves_move (.tmp 5) rfl ⟨hs.1, hS, Below.refl _ _⟩)
                · have h1 : ρ (.tmp 32) = .slice (some ⟨b1, o1, none⟩) la.length c := hs.1
                  have h2 : ρ (.tmp 33) = .int .i64 k := hs.2.1
                  refine step_plain rfl (leaves_value (v := .pointer (some ⟨b1, o1 + k, none⟩)) (w' := W) ?_ ⟨rfl, hS, Below.refl _ _⟩)
                  simp [go_sem, h1, h2, hlt]
                · have h1 : ρ (.tmp 34) = .pointer (some ⟨b1, o1 + k, none⟩) := hs.1
                  have hc := hck W hS.on
                  refine step_plain rfl (leaves_value (v := .int .i64 x) (w' := W) ?_ ⟨rfl, hS, Below.refl _ _⟩)
                  simp [go_sem, h1, hc]
                · refine step_plain rfl (leaves_call en_rhas hr #[.tmp 30, .tmp 35] _ rfl #[.agg #[.bool b, .slice q lb.length d], .int .i64 x] (by simp only [List.map_toArray, List.map_cons, List.map_nil]; rw [show ρ (.tmp 30) = _ from hs.1, show ρ (.tmp 35) = _ from hs.2.1]) ?_)
                  refine (refHas_any b q d lb x W hl2 (HH2.out.below hS.on (Nat.le_refl _))).mono ?_
                  rintro e W' ⟨rfl, hb⟩
                  exact ⟨_, rfl, rfl, hS.grow hb, hb⟩
                · exact step_plain rfl (leaves_not (.tmp 36) rfl _ hs.1 ⟨rfl, hS, Below.refl _ _⟩)
              case en =>
                intro W hS v0 h0 v1 h1 v2 h2 v3 h3 v4 h4 v5 h5 v6 h6 v7 h7
                have e7 := h7 rfl
                clear h0 h1 h2 h3 h4 h5 h6 h7
                simp only [ends, Act.put, List.setIfInBounds_toArray, List.set_cons_succ, List.set_cons_zero]
                obtain ⟨y, hy⟩ : ∃ y, hasF b lb x = y := ⟨_, rfl⟩
                have HY : Hid (hasB b lb x = y) := by show _ = y; rw [← hy]; unfold hasF; rw [HCB.out, Bool.true_and]
                have e7' : v7 = .bool (!y) := by rw [← hy]; exact e7
                clear e7 hy
                subst e7'
                cases y with
                | false =>
                  obtain rfl : r = false := by rw [HD2.out, HY.out]; rfl
                  go_wp2
                  go_ret
                  exact ⟨rfl, hS.on⟩
                | true =>
                  go_wp2
                  go_roundw
                  case rel => exact ⟨k + 1, by omega, by go_num, by show r = _; rw [HD2.out, HY.out]; rfl, hS⟩
                  case measure => simp [intOf]; omega
            · obtain rfl : k = la.length := by omega
              have hltz : ¬ (la.length : Int) < (la.length : Int) := by omega
              obtain rfl : r = true := by rw [H.out, List.drop_length]; rfl
              go_wp2
              go_ret
              exact ⟨rfl, HT.out.on⟩
        · obtain rfl : la = [] := canB_all HCA.out
          obtain rfl : r = true := HQ.out
          clear hab HQ
          rw [List.length_nil] at x1
          go_wp2
          go_loop [5] (fun i => i = .int .i64 0) (fun _ => 0)
          case atStart => rfl
          case round =>
            subst hrel
            go_wp2
            go_ret
            exact ⟨rfl, HT2.out.on⟩

end Go.Proofs.Ytmccfcllehfebaa.W

namespace Go.Proofs.Ytmccfcllehfebaa.W
open Go Go.RowKit Go.Shelf Go.Sort

def limE (all : Bool) (lo l : List Int) : Int := if canB false (srt l) && canB all lo then (if subB false (mkV l) all lo then 0 else 93) else 22
def limV (all : Bool) (lo l : List Int) : List Int := if canB false (srt l) && canB all lo && subB false (mkV l) all lo then mkV l else []

def LimPost (w : World) (all : Bool) (lo l : List Int) (e : Ending) (w' : World) : Prop :=
  Below w.heap.size w w' ∧ ∃ p' c', e = .returned (.tuple #[.agg #[.bool false, .slice p' (limV all lo l).length c'], .int .i64 (limE all lo l)]) ∧ AtF w.heap.size w' p' (limV all lo l)

theorem mkE_of {l : List Int} {r : Bool} (h : canB false (srt l) = r) : mkE l = if r then 0 else 22 := by unfold mkE; rw [h]

set_option maxRecDepth 100000 in
set_option maxHeartbeats 2000000 in
theorem limit_any (all : Bool) (p q : Option Addr) (c d : Nat) (lo l : List Int) (w : World) (hlo : lo.length ≤ 9223372036854775807) (hl : l.length ≤ 1000) (h : At w p lo) (h2 : At w q l) :
    Calls Try.prog 48 #[.agg #[.bool all, .slice p lo.length c], .slice q l.length d] w (LimPost w all lo l) := by
  have H2 : Hid (Two w (.bool all, .slice p lo.length c) (.bool false, .slice none 0 0) ((w.alloc (.cells #[.bool all, .slice p lo.length c] 32)).alloc (.cells #[.bool false, .slice none 0 0] 32))) := Two.new w _ _ _ _
  have cM := fun W (hb : Below w.heap.size w W) => make_any q l.length d l W rfl (by omega) (h2.below hb (Nat.le_refl _))
  have cC := fun W (hb : Below w.heap.size w W) => can_any all p lo.length c lo W rfl hlo (h.below hb (Nat.le_refl _))
  have cS := fun (p1 : Option Addr) (c1 : Nat) W (hb : Below w.heap.size w W) (ha : At W p1 (mkV l)) => subset_any false all p1 p c1 c (mkV l) lo W (by have := mkV_len l; omega) hlo ha (h.below hb (Nat.le_refl _))
  obtain ⟨ca, hca⟩ : ∃ ca, canB false (srt l) = ca := ⟨_, rfl⟩
  obtain ⟨cb, hcb⟩ : ∃ cb, canB all lo = cb := ⟨_, rfl⟩
  obtain ⟨cs, hcs⟩ : ∃ cs, subB false (mkV l) all lo = cs := ⟨_, rfl⟩
  have HE : Hid (limE all lo l = if ca && cb then (if cs then 0 else 93) else 22) := by show limE all lo l = _; unfold limE; rw [hca, hcb, hcs]
  have HV : Hid (limV all lo l = if ca && cb && cs then mkV l else []) := by show limV all lo l = _; unfold limV; rw [hca, hcb, hcs]
  have hm := mkE_of hca
  rw [hcb] at cC
  rw [hcs] at cS
  rw [hm] at cM
  have hmv : (mkV l).length ≤ 32 := mkV_len l
  clear hca hcb hcs hm h h2
  generalize mkV l = k at *
  go_enter Try.func48, Try.ntmps48
  go_wp2_with fail
  generalize (w.alloc (.cells #[.bool all, .slice p lo.length c] 32)).alloc (.cells #[.bool false, .slice none 0 0] 32) = w0 at *
  have hlt0 := H2.out.snd.lt
  refine (cM _ H2.out.on).mono ?_
  rintro e w1 ⟨hb1, p1, c1, rfl, hat⟩
  have hb2 := on_alloc w1 (.cells #[.bool false, .slice p1 k.length c1] 32)
  have HB6 : Hid (Box (w1.alloc (.cells #[.bool false, .slice p1 k.length c1] 32)) w1.heap.size (.bool false) (.slice p1 k.length c1)) := Box.new w1 _ _
  have HT : Hid _ := (H2.out.grow hb1).grow hb2
  have HA : Hid (AtF w0.heap.size _ p1 k) := hat.on hb2
  clear cM hat hb1 hb2 H2
  cases ca with
  | false =>
    have f0 := HT.out.snd.free0
    have f1 := HT.out.snd.free1
    have x0 := HT.out.snd.fst
    have x1 := HT.out.snd.snd
    go_wp2
    exact bodyPost_ret (results_box_tmp rfl _ _ rfl rfl (HT.out.snd.put _ _)) rfl ⟨below_but HT.out.on (but_set2 _ _ _ _ _ _) (by omega), none, 0, by rw [HE.out, HV.out]; rfl, by rw [HV.out]; exact .nil _ _ _⟩
  | true =>
    have y0 := HT.out.fst.fst
    have y1 := HT.out.fst.snd
    go_wp2_with fail
    refine (cC _ HT.out.on).mono ?_
    rintro e w2 ⟨rfl, hb2⟩
    have HT2 : Hid _ := HT.out.grow hb2
    have HA2 : Hid (AtF w0.heap.size _ p1 k) := AtF.on HA.out hb2
    have HB62 : Hid _ := HB6.out.on hb2
    clear y0 y1 HT HA HB6 hb2 cC
    cases cb with
    | false =>
      have f0 := HT2.out.snd.free0
      have f1 := HT2.out.snd.free1
      have x0 := HT2.out.snd.fst
      have x1 := HT2.out.snd.snd
      go_wp2
      exact bodyPost_ret (results_box_tmp rfl _ _ rfl rfl (HT2.out.snd.put _ _)) rfl ⟨below_but HT2.out.on (but_set2 _ _ _ _ _ _) (by omega), none, 0, by rw [HE.out, HV.out]; rfl, by rw [HV.out]; exact .nil _ _ _⟩
    | true =>
      have y0 := HT2.out.fst.fst
      have y1 := HT2.out.fst.snd
      have z0 := HB62.out.fst
      have z1 := HB62.out.snd
      go_wp2_with fail
      refine (cS p1 c1 _ HT2.out.on (AtF.at HA2.out)).mono ?_
      rintro e w3 ⟨rfl, hb3⟩
      have HT3 : Hid _ := HT2.out.grow hb3
      have HA3 : Hid (AtF w0.heap.size _ p1 k) := AtF.on HA2.out hb3
      have HB63 : Hid _ := HB62.out.on hb3
      clear y0 y1 z0 z1 HT2 HA2 HB62 hb3 cS
      have f0 := HT3.out.snd.free0
      have f1 := HT3.out.snd.free1
      have x0 := HT3.out.snd.fst
      have x1 := HT3.out.snd.snd
      have z0 := HB63.out.fst
      have z1 := HB63.out.snd
      cases cs with
      | false =>
        go_wp2
        exact bodyPost_ret (results_box_tmp rfl _ _ rfl rfl (HT3.out.snd.put _ _)) rfl ⟨below_but HT3.out.on (but_set2 _ _ _ _ _ _) (by omega), none, 0, by rw [HE.out, HV.out]; rfl, by rw [HV.out]; exact .nil _ _ _⟩
      | true =>
        go_wp2
        exact bodyPost_ret (results_box_tmp rfl _ _ rfl rfl (HT3.out.snd.put _ _)) rfl ⟨below_but HT3.out.on (but_set2 _ _ _ _ _ _) (by omega), p1, c1, by rw [HE.out, HV.out]; rfl, by rw [HV.out]; exact (AtF.but HA3.out (but_set2 _ _ _ _ _ _) hlt0).less (by omega)⟩

set_option maxRecDepth 100000 in
set_option maxHeartbeats 2000000 in
theorem refLimit_any (all : Bool) (p q : Option Addr) (c d : Nat) (lo l : List Int) (w : World) (hlo : lo.length ≤ 9223372036854775807) (hl : l.length ≤ 1000) (h : At w p lo) (h2 : At w q l) :
    Calls Try.prog 53 #[.agg #[.bool all, .slice p lo.length c], .slice q l.length d] w (LimPost w all lo l) := by
  have H2 : Hid (Two w (.bool all, .slice p lo.length c) (.bool false, .slice none 0 0) ((w.alloc (.cells #[.bool all, .slice p lo.length c] 32)).alloc (.cells #[.bool false, .slice none 0 0] 32))) := Two.new w _ _ _ _
  have cM := fun W (hb : Below w.heap.size w W) => refMake_any q d l W hl (h2.below hb (Nat.le_refl _))
  have cC := fun W (hb : Below w.heap.size w W) => refCan_any all p c lo W hlo (h.below hb (Nat.le_refl _))
  have cS := fun (p1 : Option Addr) (c1 : Nat) W (hb : Below w.heap.size w W) (ha : At W p1 (mkV l)) => refSubset_any false all p1 p c1 c (mkV l) lo W (by have := mkV_len l; omega) hlo ha (h.below hb (Nat.le_refl _))
  obtain ⟨ca, hca⟩ : ∃ ca, canB false (srt l) = ca := ⟨_, rfl⟩
  obtain ⟨cb, hcb⟩ : ∃ cb, canB all lo = cb := ⟨_, rfl⟩
  obtain ⟨cs, hcs⟩ : ∃ cs, subB false (mkV l) all lo = cs := ⟨_, rfl⟩
  have HE : Hid (limE all lo l = if ca && cb then (if cs then 0 else 93) else 22) := by show limE all lo l = _; unfold limE; rw [hca, hcb, hcs]
  have HV : Hid (limV all lo l = if ca && cb && cs then mkV l else []) := by show limV all lo l = _; unfold limV; rw [hca, hcb, hcs]
  have hm := mkE_of hca
  rw [hcb] at cC
  rw [hcs] at cS
  unfold MkPost at cM
  rw [hm] at cM
  have hmv : (mkV l).length ≤ 32 := mkV_len l
  clear hca hcb hcs hm h h2
  generalize mkV l = k at *
  go_enter Try.func53, Try.ntmps53
  go_wp2_with fail
  generalize (w.alloc (.cells #[.bool all, .slice p lo.length c] 32)).alloc (.cells #[.bool false, .slice none 0 0] 32) = w0 at *
  have hlt0 := H2.out.snd.lt
  refine (cM _ H2.out.on).mono ?_
  rintro e w1 ⟨hb1, p1, c1, rfl, hat⟩
  have hb2 := on_alloc w1 (.cells #[.bool false, .slice p1 k.length c1] 32)
  have HB6 : Hid (Box (w1.alloc (.cells #[.bool false, .slice p1 k.length c1] 32)) w1.heap.size (.bool false) (.slice p1 k.length c1)) := Box.new w1 _ _
  have HT : Hid _ := (H2.out.grow hb1).grow hb2
  have HA : Hid (AtF w0.heap.size _ p1 k) := hat.on hb2
  clear cM hat hb1 hb2 H2
  cases ca with
  | false =>
    have f0 := HT.out.snd.free0
    have f1 := HT.out.snd.free1
    have x0 := HT.out.snd.fst
    have x1 := HT.out.snd.snd
    go_wp2
    exact bodyPost_ret (results_box_tmp rfl _ _ rfl rfl (HT.out.snd.put _ _)) rfl ⟨below_but HT.out.on (but_set2 _ _ _ _ _ _) (by omega), none, 0, by rw [HE.out, HV.out]; rfl, by rw [HV.out]; exact .nil _ _ _⟩
  | true =>
    have y0 := HT.out.fst.fst
    have y1 := HT.out.fst.snd
    go_wp2_with fail
    refine (cC _ HT.out.on).mono ?_
    rintro e w2 ⟨rfl, hb2⟩
    have HT2 : Hid _ := HT.out.grow hb2
    have HA2 : Hid (AtF w0.heap.size _ p1 k) := AtF.on HA.out hb2
    have HB62 : Hid _ := HB6.out.on hb2
    clear y0 y1 HT HA HB6 hb2 cC
    cases cb with
    | false =>
      have f0 := HT2.out.snd.free0
      have f1 := HT2.out.snd.free1
      have x0 := HT2.out.snd.fst
      have x1 := HT2.out.snd.snd
      go_wp2
      exact bodyPost_ret (results_box_tmp rfl _ _ rfl rfl (HT2.out.snd.put _ _)) rfl ⟨below_but HT2.out.on (but_set2 _ _ _ _ _ _) (by omega), none, 0, by rw [HE.out, HV.out]; rfl, by rw [HV.out]; exact .nil _ _ _⟩
    | true =>
      have y0 := HT2.out.fst.fst
      have y1 := HT2.out.fst.snd
      have z0 := HB62.out.fst
      have z1 := HB62.out.snd
      go_wp2_with fail
      refine (cS p1 c1 _ HT2.out.on (AtF.at HA2.out)).mono ?_
      rintro e w3 ⟨rfl, hb3⟩
      have HT3 : Hid _ := HT2.out.grow hb3
      have HA3 : Hid (AtF w0.heap.size _ p1 k) := AtF.on HA2.out hb3
      have HB63 : Hid _ := HB62.out.on hb3
      clear y0 y1 z0 z1 HT2 HA2 HB62 hb3 cS
      have f0 := HT3.out.snd.free0
      have f1 := HT3.out.snd.free1
      have x0 := HT3.out.snd.fst
      have x1 := HT3.out.snd.snd
      have z0 := HB63.out.fst
      have z1 := HB63.out.snd
      cases cs with
      | false =>
        go_wp2
        exact bodyPost_ret (results_box_tmp rfl _ _ rfl rfl (HT3.out.snd.put _ _)) rfl ⟨below_but HT3.out.on (but_set2 _ _ _ _ _ _) (by omega), none, 0, by rw [HE.out, HV.out]; rfl, by rw [HV.out]; exact .nil _ _ _⟩
      | true =>
        go_wp2
        exact bodyPost_ret (results_box_tmp rfl _ _ rfl rfl (HT3.out.snd.put _ _)) rfl ⟨below_but HT3.out.on (but_set2 _ _ _ _ _ _) (by omega), p1, c1, by rw [HE.out, HV.out]; rfl, by rw [HV.out]; exact (AtF.but HA3.out (but_set2 _ _ _ _ _ _) hlt0).less (by omega)⟩

theorem limV_len (all : Bool) (lo l : List Int) : (limV all lo l).length ≤ 32 := by
  unfold limV
  split
  · exact mkV_len l
  · simp
theorem lim_sub {all : Bool} {lo l : List Int} (h : limE all lo l = 0) : subB false (limV all lo l) all lo = true := by
  unfold limE at h
  unfold limV
  cases hx : (canB false (srt l) && canB all lo) with
  | false => rw [hx] at h; simp at h
  | true =>
    rw [hx] at h
    cases hs : subB false (mkV l) all lo with
    | false => rw [hs] at h; simp at h
    | true => simpa using hs

end Go.Proofs.Ytmccfcllehfebaa.W
