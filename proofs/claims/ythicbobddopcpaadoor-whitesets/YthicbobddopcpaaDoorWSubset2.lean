/- What white.Subset answers. -/
import Derived.Test.YthicbobddopcpaaDoorWSubset
namespace Go.Proofs.YthicbobddopcpaaDoor
open Go Go.RowKit Go.Shelf Go.Sort

set_option maxRecDepth 100000 in
theorem index_zero (g : Nat) (lb : Array Value) (p : Option Addr) (cap : Nat) (w : World) :
    Calls Tryd.prog 49 #[.slice p 0 cap, .func (.func g) #[] lb] w fun e w' => e = .returned (.int .i64 (-1)) ∧ w' = w := by
  go_enter Tryd.func49, Tryd.ntmps49
  go_wp2
  go_loop [8] (fun i => i = .int .i64 0) (fun _ => 0)
  case atStart => rfl
  case round =>
    subst hrel
    go_wp2
    go_ret
    exact ⟨rfl, rfl⟩

theorem index_any (g : Nat) (lb : Array Value) (f : Int → Bool) (S : World → Prop) (eg : ∀ args w, (callFunc g args).run Tryd.prog w = .ok (.enter g args) w)
    (hS : ∀ W W', S W → Below W.heap.size W W' → S W') (hg : ∀ x W, S W → Calls Tryd.prog g (#[.int .i64 x] ++ lb) W fun e w' => e = .returned (.bool (f x)) ∧ Below W.heap.size W w')
    (p : Option Addr) (cap : Nat) (l : List Int) (w : World) (hSw : S w) (hl : l.length ≤ 9223372036854775807) (h : At w p l) :
    Calls Tryd.prog 49 #[.slice p l.length cap, .func (.func g) #[] lb] w fun e w' => e = .returned (.int .i64 (idxF f l 0)) ∧ Below w.heap.size w w' := by
  rcases h with rfl | ⟨b, off, rfl, hlt, hc⟩
  · refine (index_zero g lb p cap w).mono ?_
    rintro e w' ⟨rfl, rfl⟩
    exact ⟨rfl, Below.refl _ _⟩
  · exact index_some g lb f S eg hS hg b off cap l w hSw hl hlt hc

theorem idxF_nonneg (f : Int → Bool) : ∀ (l : List Int) (k : Nat), decide (0 ≤ idxF f l k) = l.any f
  | [], _ => rfl
  | x :: r, k => by
    have ih := idxF_nonneg f r (k + 1)
    by_cases h : f x = true
    · simp [idxF, h]
    · have h' : f x = false := by simpa using h
      rw [List.any_cons, h', Bool.false_or, ← ih]
      simp only [idxF, h', Bool.false_eq_true, if_false]

set_option maxRecDepth 100000 in
theorem contains_any (g : Nat) (lb : Array Value) (f : Int → Bool) (S : World → Prop) (eg : ∀ args w, (callFunc g args).run Tryd.prog w = .ok (.enter g args) w)
    (hS : ∀ W W', S W → Below W.heap.size W W' → S W') (hg : ∀ x W, S W → Calls Tryd.prog g (#[.int .i64 x] ++ lb) W fun e w' => e = .returned (.bool (f x)) ∧ Below W.heap.size W w')
    (p : Option Addr) (cap : Nat) (l : List Int) (w : World) (hSw : S w) (hl : l.length ≤ 9223372036854775807) (h : At w p l) :
    Calls Tryd.prog 38 #[.slice p l.length cap, .func (.func g) #[] lb] w fun e w' => e = .returned (.bool (l.any f)) ∧ Below w.heap.size w w' := by
  have cI := index_any g lb f S eg hS hg p cap l w hSw hl h
  have hd := idxF_nonneg f l 0
  clear hg hS hSw h
  generalize idxF f l 0 = R at *
  generalize l.any f = r at *
  go_enter Tryd.func38, Tryd.ntmps38
  go_wp2_with fail
  refine cI.mono ?_
  rintro e w1 ⟨rfl, hb⟩
  cases r
  all_goals
    go_wp2
    go_ret
    exact ⟨rfl, hb⟩

theorem all_any_not (l : List Int) (f : Int → Bool) : l.all f = !(l.any fun x => !f x) := by
  induction l with
  | nil => rfl
  | cons x r ih => simp only [List.all_cons, List.any_cons, ih]; cases f x <;> simp

theorem en_clo : ∀ args w, (callFunc 39 args).run Tryd.prog w = .ok (.enter 39 args) w := enters_of Tryd.func39 (by kernel_rfl) rfl
theorem en_clo2 : ∀ args w, (callFunc 41 args).run Tryd.prog w = .ok (.enter 41 args) w := enters_of Tryd.func41 (by kernel_rfl) rfl

set_option maxRecDepth 100000 in
set_option maxHeartbeats 2000000 in
theorem subset_any (a b : Bool) (p q : Option Addr) (c d : Nat) (la lb : List Int) (w : World) (hl : la.length ≤ 9223372036854775807) (hl2 : lb.length ≤ 9223372036854775807) (h : At w p la) (h2 : At w q lb) :
    Calls Tryd.prog 19 #[.agg #[.bool a, .slice p la.length c], .agg #[.bool b, .slice q lb.length d]] w fun e w' => e = .returned (.bool (subB a la b lb)) ∧ Below w.heap.size w w' := by
  have hX := (Box.new w (.bool a) (.slice p la.length c)).alloc (.cells #[.bool b, .slice q lb.length d] 24)
  have hY := Box.new (w.alloc (.cells #[.bool a, .slice p la.length c] 24)) (.bool b) (.slice q lb.length d)
  rw [World.size_alloc] at hY
  have hB := on_trans (on_alloc w (.cells #[.bool a, .slice p la.length c] 24)) (on_alloc _ (.cells #[.bool b, .slice q lb.length d] 24))
  have c1 := fun W (hb : Below w.heap.size w W) => can_any a p la.length c la W rfl hl (h.below hb (Nat.le_refl _))
  have c2 := fun W (hb : Below w.heap.size w W) => can_any b q lb.length d lb W rfl hl2 (h2.below hb (Nat.le_refl _))
  have HH : Hid (At w p la) := h
  have HH2 : Hid (At w q lb) := h2
  have HX : Hid _ := hX
  have HY : Hid _ := hY
  have HB : Hid _ := hB
  clear h h2 hX hY hB
  unfold subB
  obtain ⟨ca, hca⟩ : ∃ ca, canB a la = ca := ⟨_, rfl⟩
  obtain ⟨cb, hcb⟩ : ∃ cb, canB b lb = cb := ⟨_, rfl⟩
  rw [hca] at c1 ⊢
  have HCB : Hid (canB b lb = cb) := hcb
  rw [hcb] at c2 ⊢
  clear hca hcb
  cases ca with
  | false =>
    rw [Bool.false_and, Bool.false_and]
    clear c2
    go_enter Tryd.func19, Tryd.ntmps19
    go_wp2_with fail
    refine (c1 _ HB.out).mono ?_
    rintro e w1 ⟨rfl, hb1⟩
    go_wp2
    go_ret
    exact ⟨rfl, on_trans HB.out hb1⟩
  | true =>
    cases cb with
    | false =>
      rw [Bool.and_false, Bool.false_and]
      go_enter Tryd.func19, Tryd.ntmps19
      go_wp2_with fail
      refine (c1 _ HB.out).mono ?_
      rintro e w1 ⟨rfl, hb1⟩
      have hB1 := on_trans HB.out hb1
      have hY1 := HY.out.on hb1
      have y0 := hY1.fst
      have y1 := hY1.snd
      go_wp2_with fail
      refine (c2 _ hB1).mono ?_
      rintro e w2 ⟨rfl, hb2⟩
      go_wp2
      go_ret
      exact ⟨rfl, on_trans hB1 hb2⟩
    | true =>
      rw [Bool.true_and, Bool.true_and]
      cases a with
      | true =>
        rw [if_pos rfl]
        go_enter Tryd.func19, Tryd.ntmps19
        go_wp2_with fail
        refine (c1 _ HB.out).mono ?_
        rintro e w1 ⟨rfl, hb1⟩
        have hB1 := on_trans HB.out hb1
        have hY1 := HY.out.on hb1
        have y0 := hY1.fst
        have y1 := hY1.snd
        go_wp2_with fail
        refine (c2 _ hB1).mono ?_
        rintro e w2 ⟨rfl, hb2⟩
        have hX2 := (HX.out.on hb1).on hb2
        have hY2 := hY1.on hb2
        have x0 := hX2.fst
        have z0 := hY2.fst
        go_wp2
        go_ret
        exact ⟨rfl, on_trans hB1 hb2⟩
      | false =>
        rw [if_neg (by decide), all_any_not]
        obtain ⟨r, hr⟩ : ∃ r, la.any (fun x => !hasB b lb x) = r := ⟨_, rfl⟩
        have HR : Hid (la.any (fun x => !hasB b lb x) = r) := hr
        rw [hr]
        clear hr
        go_enter Tryd.func19, Tryd.ntmps19
        go_wp2_with fail
        refine (c1 _ HB.out).mono ?_
        rintro e w1 ⟨rfl, hb1⟩
        have hB1 := on_trans HB.out hb1
        have hY1 := HY.out.on hb1
        have y0 := hY1.fst
        have y1 := hY1.snd
        go_wp2_with fail
        refine (c2 _ hB1).mono ?_
        rintro e w2 ⟨rfl, hb2⟩
        have hX2 := (HX.out.on hb1).on hb2
        have hY2 := hY1.on hb2
        have x0 := hX2.fst
        have x1 := hX2.snd
        have hB2 := on_trans hB1 hb2
        have cC := contains_any 39 #[.pointer (some ⟨w.heap.size + 1, 0, none⟩)] (fun x => !hasB b lb x) (Cap (w.heap.size + 1) b q d lb) en_clo (fun W W' h hb => h.on hb)
          (fun x W h => clo_any (w.heap.size + 1) b q d lb x W HCB.out h) p c la w2 ⟨hY2, HH2.out.below hB2 (Nat.le_refl _)⟩ hl (HH.out.below hB2 (Nat.le_refl _))
        rw [HR.out] at cC
        clear c1 c2 hX2 hY2 hY1
        go_wp2_with fail
        refine cC.mono ?_
        rintro e w3 ⟨rfl, hb3⟩
        go_wp2
        go_ret
        exact ⟨rfl, on_trans hB2 hb3⟩

end Go.Proofs.YthicbobddopcpaaDoor
