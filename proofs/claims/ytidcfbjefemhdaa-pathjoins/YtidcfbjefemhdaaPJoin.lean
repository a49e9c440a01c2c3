/- What path.Join answers. -/
import Derived.Test.YtidcfbjefemhdaaPPlainW
import Derived.Test.YtidcfbjefemhdaaPConcat
namespace Go.Proofs.Ytidcfbjefemhdaa
open Go Go.RowKit

/-- Whether the second path stands alone. -/
def alone (a : Bool) (l : List ByteArray) (a2 : Bool) : Bool := a2 || (!a && decide (l.length = 0))
def joinA (a : Bool) (l : List ByteArray) (a2 : Bool) : Bool := if alone a l a2 then a2 else a
def joinD (a d : Bool) (l : List ByteArray) (a2 d2 : Bool) (m : List ByteArray) : Bool := if alone a l a2 then d2 else if m.length = 0 then d else d2
def joinP (a : Bool) (l : List ByteArray) (a2 : Bool) (m : List ByteArray) : List ByteArray := if alone a l a2 then m else l ++ m

/-- Both arguments' boxes, and the result's. -/
structure JMem (w : World) (a d : Bool) (p : Option Addr) (c : Nat) (l : List ByteArray) (a2 d2 : Bool) (q : Option Addr) (c2 : Nat) (m : List ByteArray) (W : World) : Prop where
  fst : Box W w.heap.size (.bool a) (.bool d) (.slice p l.length c)
  snd : Box W (w.heap.size + 1) (.bool a2) (.bool d2) (.slice q m.length c2)
  res : Box W (w.heap.size + 2) (.bool false) (.bool false) (.slice none 0 0)
  on : Below w.heap.size w W
  size : W.heap.size = w.heap.size + 3
theorem jmem_new (w : World) (a d : Bool) (p : Option Addr) (c : Nat) (l : List ByteArray) (a2 d2 : Bool) (q : Option Addr) (c2 : Nat) (m : List ByteArray) :
    JMem w a d p c l a2 d2 q c2 m (((w.alloc (.cells #[.bool a, .bool d, .slice p l.length c] 24)).alloc (.cells #[.bool a2, .bool d2, .slice q m.length c2] 24)).alloc (.cells #[.bool false, .bool false, .slice none 0 0] 24)) := by
  refine ⟨((Box.new w _ _ _).alloc _).alloc _, ?_, ?_, on_trans (on_trans (on_alloc _ _) (on_alloc _ _)) (on_alloc _ _), by simp⟩
  · have := (Box.new (w.alloc (.cells #[.bool a, .bool d, .slice p l.length c] 24)) (.bool a2) (.bool d2) (.slice q m.length c2)).alloc (.cells #[.bool false, .bool false, .slice none 0 0] 24)
    rwa [World.size_alloc] at this
  · have := Box.new ((w.alloc (.cells #[.bool a, .bool d, .slice p l.length c] 24)).alloc (.cells #[.bool a2, .bool d2, .slice q m.length c2] 24)) (.bool false) (.bool false) (.slice none 0 0)
    rwa [World.size_alloc, World.size_alloc] at this

/-- What holds of the world within Join's regions. -/
structure JS (w : World) (a d : Bool) (p : Option Addr) (c : Nat) (l : List ByteArray) (a2 d2 : Bool) (q : Option Addr) (c2 : Nat) (m : List ByteArray) (W : World) : Prop where
  fst : Box W w.heap.size (.bool a) (.bool d) (.slice p l.length c)
  snd : Box W (w.heap.size + 1) (.bool a2) (.bool d2) (.slice q m.length c2)
  res : ∃ u0 u1 u2, Box W (w.heap.size + 2) u0 u1 u2
  on : Below w.heap.size w W
  size : w.heap.size + 3 ≤ W.heap.size
section
variable {w : World} {a d : Bool} {p : Option Addr} {c : Nat} {l : List ByteArray} {a2 d2 : Bool} {q : Option Addr} {c2 : Nat} {m : List ByteArray} {W W' : World}
theorem JMem.js (h : JMem w a d p c l a2 d2 q c2 m W) : JS w a d p c l a2 d2 q c2 m W.drew := ⟨h.fst.drew, h.snd.drew, ⟨_, _, _, h.res.drew⟩, on_drew h.on, Nat.le_of_eq h.size.symm⟩
theorem JS.grow (h : JS w a d p c l a2 d2 q c2 m W) (hb : Below W.heap.size W W') : JS w a d p c l a2 d2 q c2 m W' := by
  obtain ⟨u0, u1, u2, hu⟩ := h.res
  exact ⟨h.fst.on hb, h.snd.on hb, ⟨u0, u1, u2, hu.on hb⟩, on_trans h.on hb, Nat.le_trans h.size hb.size⟩
theorem JS.put (h : JS w a d p c l a2 d2 q c2 m W) (v0 v1 v2 : Value) : JS w a d p c l a2 d2 q c2 m (put3 W (w.heap.size + 2) v0 v1 v2) := by
  obtain ⟨u0, u1, u2, hu⟩ := h.res
  have hb := but_put3 W (w.heap.size + 2) v0 v1 v2
  exact ⟨h.fst.but hb (by omega), h.snd.but hb (by omega), ⟨_, _, _, hu.put _ _ _⟩, below_but h.on hb (by omega), by rw [hb.size]; exact h.size⟩
end

set_option maxRecDepth 100000 in
set_option maxHeartbeats 4000000 in
theorem join_any (a d : Bool) (p : Option Addr) (c : Nat) (l : List ByteArray) (a2 d2 : Bool) (q : Option Addr) (c2 : Nat) (m : List ByteArray) (w : World) (hl : l.length ≤ 1000) (hm : m.length ≤ 1000) (h : At w p l) (h2 : At w q m) :
    Calls Try.prog 22 #[.agg #[.bool a, .bool d, .slice p l.length c], .agg #[.bool a2, .bool d2, .slice q m.length c2]] w (RetPa w (joinA a l a2) (joinD a d l a2 d2 m) (joinP a l a2 m)) := by
  have hM := jmem_new w a d p c l a2 d2 q c2 m
  have HA : Hid (At w p l) := h
  have HA2 : Hid (At w q m) := h2
  clear h h2
  cases hal : alone a l a2 with
  | true =>
    have e1 : joinA a l a2 = a2 := by unfold joinA; rw [hal]; rfl
    have e2 : joinD a d l a2 d2 m = d2 := by unfold joinD; rw [hal]; rfl
    have e3 : joinP a l a2 m = m := by unfold joinP; rw [hal]; rfl
    rw [e1, e2, e3]
    clear e1 e2 e3
    have hcase : a2 = true ∨ (a2 = false ∧ a = false ∧ l.length = 0) := by
      unfold alone at hal
      cases a2
      · cases a
        · exact .inr ⟨rfl, rfl, by simpa using hal⟩
        · simp at hal
      · exact .inl rfl
    clear hal
    rcases hcase with rfl | ⟨rfl, rfl, hl0⟩
    · skip
      go_enter Try.func22, Try.ntmps22
      go_wp2
      generalize ((w.alloc (.cells #[.bool a, .bool d, .slice p l.length c] 24)).alloc (.cells #[.bool true, .bool d2, .slice q m.length c2] 24)).alloc (.cells #[.bool false, .bool false, .slice none 0 0] 24) = w0 at *
      refine wp_region_left (S := JS w a d p c l true d2 q c2 m) (Keep := KeepK [(8, w.heap.size + 2)])
        (g := fun i v W => ([.is (.pointer (some ⟨w.heap.size + 1, 0, none⟩)), .is (.bool true), .is (.pointer (some ⟨w.heap.size + 1, 1, none⟩)), .is (.bool d2), .is (.pointer (some ⟨w.heap.size + 1, 2, none⟩)), .is (.slice q m.length c2), .sl m, .pa true d2 m, .box (w.heap.size + 2) true d2 m].getD i Kd.any).ok (w.heap.size + 3) v W)
        (tab := [[(3, none)], [(19, some 0)], [(3, none)], [(21, some 2)], [(3, none)], [(23, some 4)], [(24, some 5)], [(20, some 1), (22, some 3), (25, some 6)], [(4, none), (26, some 7)]]) (tl := []) (n := 45)
        (by kernel_rfl) rfl (by kernel_rfl) (keep_one (by omega) ?kk) hM.js ?st ?en
      case kk =>
        intro j hj
        match j, hj with
        | 0, _ | 1, _ | 2, _ | 3, _ | 4, _ | 5, _ | 6, _ | 7, _ => rfl
        | 8, hj => exact absurd rfl hj
        | j + 9, _ => rfl
      case st =>
        refine ⟨fun ρ W hr hS hs => ?_, fun ρ W hr hS hs => ?_, fun ρ W hr hS hs => ?_, fun ρ W hr hS hs => ?_, fun ρ W hr hS hs => ?_, fun ρ W hr hS hs => ?_, fun ρ W hr hS hs => ?_, fun ρ W hr hS hs => ?_, fun ρ W hr hS hs => ?_, trivial⟩
        · exact step_plain rfl (leaves_field (.tmp 3) rfl (by decide) hs.1 ⟨rfl, hS, Below.refl _ _⟩)
        · exact step_plain rfl (leaves_loadB (.tmp 19) rfl hs.1 hS.snd.fst ⟨rfl, hS, Below.refl _ _⟩)
        · exact step_plain rfl (leaves_field (.tmp 3) rfl (by decide) hs.1 ⟨rfl, hS, Below.refl _ _⟩)
        · exact step_plain rfl (leaves_loadB (.tmp 21) rfl hs.1 hS.snd.snd ⟨rfl, hS, Below.refl _ _⟩)
        · exact step_plain rfl (leaves_field (.tmp 3) rfl (by decide) hs.1 ⟨rfl, hS, Below.refl _ _⟩)
        · exact step_plain rfl (leaves_loadS (.tmp 23) rfl hs.1 hS.snd.thd ⟨rfl, hS, Below.refl _ _⟩)
        · refine step_plain rfl (leaves_call1 en_clone hr (.tmp 24) _ rfl hs.1 ?_)
          refine (clone_any q c2 m W (by omega) (HA2.out.on hS.on)).mono ?_
          rintro e W' ⟨v, rfl, hown, hb⟩
          obtain ⟨p', c', rfl, hat, hcc⟩ := ownL_at hown
          exact ⟨_, rfl, ⟨p', c', rfl, hat.less hS.size, hcc⟩, hS.grow hb, hb⟩
        · obtain ⟨h4, h6, ⟨p', c', h8, hat, hcc⟩, _⟩ := hs
          have h4' : ρ (.tmp 20) = .bool true := h4
          have h6' : ρ (.tmp 22) = .bool d2 := h6
          refine step_plain rfl (leaves_value (v := .agg #[.bool true, .bool d2, .slice p' m.length c']) (w' := W) ?_ ⟨⟨p', c', rfl, hat, hcc⟩, hS, Below.refl _ _⟩)
          simp [go_sem, h4', h6', h8]
        · obtain ⟨h2, ⟨p', c', h9, hat, hcc⟩, _⟩ := hs
          obtain ⟨u0, u1, u2, hu⟩ := hS.res
          have hbut := but_put3 W (w.heap.size + 2) (.bool true) (.bool d2) (.slice p' m.length c')
          exact step_plain rfl (leaves_store (.tmp 4) (.tmp 26) rfl h2 h9 hu ⟨⟨p', c', hu.put _ _ _, hat.but hbut (by omega), hcc⟩, hS.put _ _ _, hbut⟩)
      case en =>
        intro W hS v0 h0 v1 h1 v2 h2 v3 h3 v4 h4 v5 h5 v6 h6 v7 h7 h8
        obtain ⟨p', c', hbx, hat, hcc⟩ := h8 rfl
        clear h0 h1 h2 h3 h4 h5 h6 h7 h8
        simp only [ends, Act.put, List.setIfInBounds_toArray, List.set_cons_succ, List.set_cons_zero]
        go_wp2
        exact bodyPost_ret (results_box rfl _ _ rfl hbx) rfl (retPa hS.on (hat.less (by omega)) hcc)
    · have hlz : ((l.length : Int) == 0) = true := by rw [beq_iff_eq]; omega
      clear hl0
      go_enter Try.func22, Try.ntmps22
      go_wp2
      generalize ((w.alloc (.cells #[.bool false, .bool d, .slice p l.length c] 24)).alloc (.cells #[.bool false, .bool d2, .slice q m.length c2] 24)).alloc (.cells #[.bool false, .bool false, .slice none 0 0] 24) = w0 at *
      refine wp_region_left (S := JS w false d p c l false d2 q c2 m) (Keep := KeepK [(8, w.heap.size + 2)])
        (g := fun i v W => ([.is (.pointer (some ⟨w.heap.size + 1, 0, none⟩)), .is (.bool false), .is (.pointer (some ⟨w.heap.size + 1, 1, none⟩)), .is (.bool d2), .is (.pointer (some ⟨w.heap.size + 1, 2, none⟩)), .is (.slice q m.length c2), .sl m, .pa false d2 m, .box (w.heap.size + 2) false d2 m].getD i Kd.any).ok (w.heap.size + 3) v W)
        (tab := [[(3, none)], [(19, some 0)], [(3, none)], [(21, some 2)], [(3, none)], [(23, some 4)], [(24, some 5)], [(20, some 1), (22, some 3), (25, some 6)], [(4, none), (26, some 7)]]) (tl := []) (n := 45)
        (by kernel_rfl) rfl (by kernel_rfl) (keep_one (by omega) ?kk) hM.js ?st ?en
      case kk =>
        intro j hj
        match j, hj with
        | 0, _ | 1, _ | 2, _ | 3, _ | 4, _ | 5, _ | 6, _ | 7, _ => rfl
        | 8, hj => exact absurd rfl hj
        | j + 9, _ => rfl
      case st =>
        refine ⟨fun ρ W hr hS hs => ?_, fun ρ W hr hS hs => ?_, fun ρ W hr hS hs => ?_, fun ρ W hr hS hs => ?_, fun ρ W hr hS hs => ?_, fun ρ W hr hS hs => ?_, fun ρ W hr hS hs => ?_, fun ρ W hr hS hs => ?_, fun ρ W hr hS hs => ?_, trivial⟩
        · exact step_plain rfl (leaves_field (.tmp 3) rfl (by decide) hs.1 ⟨rfl, hS, Below.refl _ _⟩)
        · exact step_plain rfl (leaves_loadB (.tmp 19) rfl hs.1 hS.snd.fst ⟨rfl, hS, Below.refl _ _⟩)
        · exact step_plain rfl (leaves_field (.tmp 3) rfl (by decide) hs.1 ⟨rfl, hS, Below.refl _ _⟩)
        · exact step_plain rfl (leaves_loadB (.tmp 21) rfl hs.1 hS.snd.snd ⟨rfl, hS, Below.refl _ _⟩)
        · exact step_plain rfl (leaves_field (.tmp 3) rfl (by decide) hs.1 ⟨rfl, hS, Below.refl _ _⟩)
        · exact step_plain rfl (leaves_loadS (.tmp 23) rfl hs.1 hS.snd.thd ⟨rfl, hS, Below.refl _ _⟩)
        · refine step_plain rfl (leaves_call1 en_clone hr (.tmp 24) _ rfl hs.1 ?_)
          refine (clone_any q c2 m W (by omega) (HA2.out.on hS.on)).mono ?_
          rintro e W' ⟨v, rfl, hown, hb⟩
          obtain ⟨p', c', rfl, hat, hcc⟩ := ownL_at hown
          exact ⟨_, rfl, ⟨p', c', rfl, hat.less hS.size, hcc⟩, hS.grow hb, hb⟩
        · obtain ⟨h4, h6, ⟨p', c', h8, hat, hcc⟩, _⟩ := hs
          have h4' : ρ (.tmp 20) = .bool false := h4
          have h6' : ρ (.tmp 22) = .bool d2 := h6
          refine step_plain rfl (leaves_value (v := .agg #[.bool false, .bool d2, .slice p' m.length c']) (w' := W) ?_ ⟨⟨p', c', rfl, hat, hcc⟩, hS, Below.refl _ _⟩)
          simp [go_sem, h4', h6', h8]
        · obtain ⟨h2, ⟨p', c', h9, hat, hcc⟩, _⟩ := hs
          obtain ⟨u0, u1, u2, hu⟩ := hS.res
          have hbut := but_put3 W (w.heap.size + 2) (.bool false) (.bool d2) (.slice p' m.length c')
          exact step_plain rfl (leaves_store (.tmp 4) (.tmp 26) rfl h2 h9 hu ⟨⟨p', c', hu.put _ _ _, hat.but hbut (by omega), hcc⟩, hS.put _ _ _, hbut⟩)
      case en =>
        intro W hS v0 h0 v1 h1 v2 h2 v3 h3 v4 h4 v5 h5 v6 h6 v7 h7 h8
        obtain ⟨p', c', hbx, hat, hcc⟩ := h8 rfl
        clear h0 h1 h2 h3 h4 h5 h6 h7 h8
        simp only [ends, Act.put, List.setIfInBounds_toArray, List.set_cons_succ, List.set_cons_zero]
        go_wp2
        exact bodyPost_ret (results_box rfl _ _ rfl hbx) rfl (retPa hS.on (hat.less (by omega)) hcc)
  | false =>
    have e1 : joinA a l a2 = a := by unfold joinA; rw [hal]; rfl
    have e2 : joinD a d l a2 d2 m = if m.length = 0 then d else d2 := by unfold joinD; rw [hal]; rfl
    have e3 : joinP a l a2 m = l ++ m := by unfold joinP; rw [hal]; rfl
    rw [e1, e2, e3]
    clear e1 e2 e3
    have hcase : a2 = false ∧ (a = true ∨ (a = false ∧ l.length ≠ 0)) := by
      unfold alone at hal
      cases a2
      · cases a
        · exact ⟨rfl, .inr ⟨rfl, by simpa using hal⟩⟩
        · exact ⟨rfl, .inl rfl⟩
      · simp at hal
    clear hal
    obtain ⟨rfl, hcase⟩ := hcase
    by_cases hm0 : m.length = 0
    · rw [if_pos hm0]
      have hmz : ((m.length : Int) == 0) = true := by rw [beq_iff_eq]; omega
      have HM0 : Hid (m.length = 0) := hm0
      clear hm0
      rcases hcase with rfl | ⟨rfl, hl0⟩
      · skip
        go_enter Try.func22, Try.ntmps22
        go_wp2
        generalize ((w.alloc (.cells #[.bool true, .bool d, .slice p l.length c] 24)).alloc (.cells #[.bool false, .bool d2, .slice q m.length c2] 24)).alloc (.cells #[.bool false, .bool false, .slice none 0 0] 24) = w0 at *
        refine wp_region_left (S := JS w true d p c l false d2 q c2 m) (Keep := KeepK [(10, w.heap.size + 2)])
          (g := fun i v W => if i = 7 then ∃ g, v = .slice (some ⟨g, 0, none⟩) 2 2 ∧ Pair W g p q c c2 l m else ([.is (.pointer (some ⟨w.heap.size, 0, none⟩)), .is (.bool true), .is (.bool d), .is (.pointer (some ⟨w.heap.size, 2, none⟩)), .is (.slice p l.length c), .is (.pointer (some ⟨w.heap.size + 1, 2, none⟩)), .is (.slice q m.length c2), .any, .sl (l ++ m), .pa true d (l ++ m), .box (w.heap.size + 2) true d (l ++ m)].getD i Kd.any).ok (w.heap.size + 3) v W)
          (tab := [[(2, none)], [(35, some 0)], [(5, none)], [(2, none)], [(38, some 3)], [(3, none)], [(40, some 5)], [(39, some 4), (41, some 6)], [(42, some 7)], [(36, some 1), (37, some 2), (43, some 8)], [(4, none), (44, some 9)]]) (tl := [(7, 8)]) (n := 45)
          (by kernel_rfl) rfl (by kernel_rfl) ?hK hM.js ?st ?en
        case hK =>
          intro i j v w1 w2 hk hne hed ht hg
          by_cases e7 : j = 7
          · subst e7
            rw [if_pos rfl] at hg ⊢
            obtain ⟨h1, h2⟩ := ht 8 rfl
            by_cases e10 : i = 10
            · subst e10; exact absurd h2 (by decide +kernel)
            have hb : Below w1.heap.size w1 w2 := by
              unfold KeepK at hk
              have : ([(10, w.heap.size + 2)] : List (Nat × Nat)).lookup i = none := by simp [List.lookup, show (i == 10) = false by simpa using e10]
              rw [this] at hk
              exact hk
            obtain ⟨g, h3, h4⟩ := hg
            exact ⟨g, h3, h4.on hb⟩
          · rw [if_neg e7] at hg ⊢
            refine keep_one (ops := #[]) (tl := []) (n := 10) (b := w.heap.size + 2) (by omega) (fun j' hj' => ?_) i j v w1 w2 hk hne (by rfl) (fun u hu => by cases hu) hg
            match j', hj' with
            | 0, _ | 1, _ | 2, _ | 3, _ | 4, _ | 5, _ | 6, _ | 7, _ | 8, _ | 9, _ => rfl
            | 10, hj => exact absurd rfl hj
            | j + 11, _ => rfl
        case st =>
          refine ⟨fun ρ W hr hS hs => ?_, fun ρ W hr hS hs => ?_, fun ρ W hr hS hs => ?_, fun ρ W hr hS hs => ?_, fun ρ W hr hS hs => ?_, fun ρ W hr hS hs => ?_, fun ρ W hr hS hs => ?_, fun ρ W hr hS hs => ?_, fun ρ W hr hS hs => ?_, fun ρ W hr hS hs => ?_, fun ρ W hr hS hs => ?_, trivial⟩
          · exact step_plain rfl (leaves_field (.tmp 2) rfl (by decide) hs.1 ⟨rfl, hS, Below.refl _ _⟩)
          · exact step_plain rfl (leaves_loadB (.tmp 35) rfl hs.1 hS.fst.fst ⟨rfl, hS, Below.refl _ _⟩)
          · exact step_plain rfl (leaves_move (.tmp 5) rfl ⟨hs.1, hS, Below.refl _ _⟩)
          · exact step_plain rfl (leaves_field (.tmp 2) rfl (by decide) hs.1 ⟨rfl, hS, Below.refl _ _⟩)
          · exact step_plain rfl (leaves_loadS (.tmp 38) rfl hs.1 hS.fst.thd ⟨rfl, hS, Below.refl _ _⟩)
          · exact step_plain rfl (leaves_field (.tmp 3) rfl (by decide) hs.1 ⟨rfl, hS, Below.refl _ _⟩)
          · exact step_plain rfl (leaves_loadS (.tmp 40) rfl hs.1 hS.snd.thd ⟨rfl, hS, Below.refl _ _⟩)
          · obtain ⟨h39, h41, _⟩ := hs
            have h39' : ρ (.tmp 39) = .slice p l.length c := h39
            have h41' : ρ (.tmp 41) = .slice q m.length c2 := h41
            have hb := on_alloc W (.cells #[.slice p l.length c, .slice q m.length c2] 22)
            refine step_plain rfl (leaves_value (v := .slice (some ⟨W.heap.size, 0, none⟩) 2 2) (w' := W.alloc (.cells #[.slice p l.length c, .slice q m.length c2] 22)) ?_ ⟨⟨W.heap.size, rfl, World.alloc_heap_new W _, (HA.out.on hS.on).on hb, (HA2.out.on hS.on).on hb⟩, hS.grow hb, hb⟩)
            simp [go_sem, h39', h41']
          · obtain ⟨⟨g, h42, hpair⟩, _⟩ := hs
            refine step_plain rfl (leaves_call1 en_concat hr (.tmp 42) _ rfl h42 ?_)
            refine (concat_any g p q c c2 l m W hl hm hpair).mono ?_
            rintro e W' ⟨hb, p', c', rfl, hat, hcc⟩
            exact ⟨_, rfl, ⟨p', c', rfl, hat.less hS.size, hcc⟩, hS.grow hb, hb⟩
          · obtain ⟨h4, h6, ⟨p', c', h8, hat, hcc⟩, _⟩ := hs
            have h4' : ρ (.tmp 36) = .bool true := h4
            have h6' : ρ (.tmp 37) = .bool d := h6
            refine step_plain rfl (leaves_value (v := .agg #[.bool true, .bool d, .slice p' (l ++ m).length c']) (w' := W) ?_ ⟨⟨p', c', rfl, hat, hcc⟩, hS, Below.refl _ _⟩)
            generalize (l ++ m).length = n at *
            simp [go_sem, h4', h6', h8]
          · obtain ⟨h2, ⟨p', c', h9, hat, hcc⟩, _⟩ := hs
            obtain ⟨u0, u1, u2, hu⟩ := hS.res
            have hbut := but_put3 W (w.heap.size + 2) (.bool true) (.bool d) (.slice p' (l ++ m).length c')
            exact step_plain rfl (leaves_store (.tmp 4) (.tmp 44) rfl h2 h9 hu ⟨⟨p', c', hu.put _ _ _, hat.but hbut (by omega), hcc⟩, hS.put _ _ _, hbut⟩)
        case en =>
          intro W hS v0 h0 v1 h1 v2 h2 v3 h3 v4 h4 v5 h5 v6 h6 v7 h7 v8 h8 v9 h9 h10
          obtain ⟨p', c', hbx, hat, hcc⟩ := h10 rfl
          clear h0 h1 h2 h3 h4 h5 h6 h7 h8 h9 h10
          simp only [ends, Act.put, List.setIfInBounds_toArray, List.set_cons_succ, List.set_cons_zero]
          go_wp2
          exact bodyPost_ret (results_box rfl _ _ rfl hbx) rfl (retPa hS.on (hat.less (by omega)) hcc)
      · have hlz : ((l.length : Int) == 0) = false := by rw [beq_eq_false_iff_ne]; omega
        clear hl0
        go_enter Try.func22, Try.ntmps22
        go_wp2
        generalize ((w.alloc (.cells #[.bool false, .bool d, .slice p l.length c] 24)).alloc (.cells #[.bool false, .bool d2, .slice q m.length c2] 24)).alloc (.cells #[.bool false, .bool false, .slice none 0 0] 24) = w0 at *
        refine wp_region_left (S := JS w false d p c l false d2 q c2 m) (Keep := KeepK [(10, w.heap.size + 2)])
          (g := fun i v W => if i = 7 then ∃ g, v = .slice (some ⟨g, 0, none⟩) 2 2 ∧ Pair W g p q c c2 l m else ([.is (.pointer (some ⟨w.heap.size, 0, none⟩)), .is (.bool false), .is (.bool d), .is (.pointer (some ⟨w.heap.size, 2, none⟩)), .is (.slice p l.length c), .is (.pointer (some ⟨w.heap.size + 1, 2, none⟩)), .is (.slice q m.length c2), .any, .sl (l ++ m), .pa false d (l ++ m), .box (w.heap.size + 2) false d (l ++ m)].getD i Kd.any).ok (w.heap.size + 3) v W)
          (tab := [[(2, none)], [(35, some 0)], [(5, none)], [(2, none)], [(38, some 3)], [(3, none)], [(40, some 5)], [(39, some 4), (41, some 6)], [(42, some 7)], [(36, some 1), (37, some 2), (43, some 8)], [(4, none), (44, some 9)]]) (tl := [(7, 8)]) (n := 45)
          (by kernel_rfl) rfl (by kernel_rfl) ?hK hM.js ?st ?en
        case hK =>
          intro i j v w1 w2 hk hne hed ht hg
          by_cases e7 : j = 7
          · subst e7
            rw [if_pos rfl] at hg ⊢
            obtain ⟨h1, h2⟩ := ht 8 rfl
            by_cases e10 : i = 10
            · subst e10; exact absurd h2 (by decide +kernel)
            have hb : Below w1.heap.size w1 w2 := by
              unfold KeepK at hk
              have : ([(10, w.heap.size + 2)] : List (Nat × Nat)).lookup i = none := by simp [List.lookup, show (i == 10) = false by simpa using e10]
              rw [this] at hk
              exact hk
            obtain ⟨g, h3, h4⟩ := hg
            exact ⟨g, h3, h4.on hb⟩
          · rw [if_neg e7] at hg ⊢
            refine keep_one (ops := #[]) (tl := []) (n := 10) (b := w.heap.size + 2) (by omega) (fun j' hj' => ?_) i j v w1 w2 hk hne (by rfl) (fun u hu => by cases hu) hg
            match j', hj' with
            | 0, _ | 1, _ | 2, _ | 3, _ | 4, _ | 5, _ | 6, _ | 7, _ | 8, _ | 9, _ => rfl
            | 10, hj => exact absurd rfl hj
            | j + 11, _ => rfl
        case st =>
          refine ⟨fun ρ W hr hS hs => ?_, fun ρ W hr hS hs => ?_, fun ρ W hr hS hs => ?_, fun ρ W hr hS hs => ?_, fun ρ W hr hS hs => ?_, fun ρ W hr hS hs => ?_, fun ρ W hr hS hs => ?_, fun ρ W hr hS hs => ?_, fun ρ W hr hS hs => ?_, fun ρ W hr hS hs => ?_, fun ρ W hr hS hs => ?_, trivial⟩
          · exact step_plain rfl (leaves_field (.tmp 2) rfl (by decide) hs.1 ⟨rfl, hS, Below.refl _ _⟩)
          · exact step_plain rfl (leaves_loadB (.tmp 35) rfl hs.1 hS.fst.fst ⟨rfl, hS, Below.refl _ _⟩)
          · exact step_plain rfl (leaves_move (.tmp 5) rfl ⟨hs.1, hS, Below.refl _ _⟩)
          · exact step_plain rfl (leaves_field (.tmp 2) rfl (by decide) hs.1 ⟨rfl, hS, Below.refl _ _⟩)
          · exact step_plain rfl (leaves_loadS (.tmp 38) rfl hs.1 hS.fst.thd ⟨rfl, hS, Below.refl _ _⟩)
          · exact step_plain rfl (leaves_field (.tmp 3) rfl (by decide) hs.1 ⟨rfl, hS, Below.refl _ _⟩)
          · exact step_plain rfl (leaves_loadS (.tmp 40) rfl hs.1 hS.snd.thd ⟨rfl, hS, Below.refl _ _⟩)
          · obtain ⟨h39, h41, _⟩ := hs
            have h39' : ρ (.tmp 39) = .slice p l.length c := h39
            have h41' : ρ (.tmp 41) = .slice q m.length c2 := h41
            have hb := on_alloc W (.cells #[.slice p l.length c, .slice q m.length c2] 22)
            refine step_plain rfl (leaves_value (v := .slice (some ⟨W.heap.size, 0, none⟩) 2 2) (w' := W.alloc (.cells #[.slice p l.length c, .slice q m.length c2] 22)) ?_ ⟨⟨W.heap.size, rfl, World.alloc_heap_new W _, (HA.out.on hS.on).on hb, (HA2.out.on hS.on).on hb⟩, hS.grow hb, hb⟩)
            simp [go_sem, h39', h41']
          · obtain ⟨⟨g, h42, hpair⟩, _⟩ := hs
            refine step_plain rfl (leaves_call1 en_concat hr (.tmp 42) _ rfl h42 ?_)
            refine (concat_any g p q c c2 l m W hl hm hpair).mono ?_
            rintro e W' ⟨hb, p', c', rfl, hat, hcc⟩
            exact ⟨_, rfl, ⟨p', c', rfl, hat.less hS.size, hcc⟩, hS.grow hb, hb⟩
          · obtain ⟨h4, h6, ⟨p', c', h8, hat, hcc⟩, _⟩ := hs
            have h4' : ρ (.tmp 36) = .bool false := h4
            have h6' : ρ (.tmp 37) = .bool d := h6
            refine step_plain rfl (leaves_value (v := .agg #[.bool false, .bool d, .slice p' (l ++ m).length c']) (w' := W) ?_ ⟨⟨p', c', rfl, hat, hcc⟩, hS, Below.refl _ _⟩)
            generalize (l ++ m).length = n at *
            simp [go_sem, h4', h6', h8]
          · obtain ⟨h2, ⟨p', c', h9, hat, hcc⟩, _⟩ := hs
            obtain ⟨u0, u1, u2, hu⟩ := hS.res
            have hbut := but_put3 W (w.heap.size + 2) (.bool false) (.bool d) (.slice p' (l ++ m).length c')
            exact step_plain rfl (leaves_store (.tmp 4) (.tmp 44) rfl h2 h9 hu ⟨⟨p', c', hu.put _ _ _, hat.but hbut (by omega), hcc⟩, hS.put _ _ _, hbut⟩)
        case en =>
          intro W hS v0 h0 v1 h1 v2 h2 v3 h3 v4 h4 v5 h5 v6 h6 v7 h7 v8 h8 v9 h9 h10
          obtain ⟨p', c', hbx, hat, hcc⟩ := h10 rfl
          clear h0 h1 h2 h3 h4 h5 h6 h7 h8 h9 h10
          simp only [ends, Act.put, List.setIfInBounds_toArray, List.set_cons_succ, List.set_cons_zero]
          go_wp2
          exact bodyPost_ret (results_box rfl _ _ rfl hbx) rfl (retPa hS.on (hat.less (by omega)) hcc)
    · rw [if_neg hm0]
      have hmz : ((m.length : Int) == 0) = false := by rw [beq_eq_false_iff_ne]; omega
      have HM0 : Hid (m.length ≠ 0) := hm0
      clear hm0
      rcases hcase with rfl | ⟨rfl, hl0⟩
      · skip
        go_enter Try.func22, Try.ntmps22
        go_wp2
        generalize ((w.alloc (.cells #[.bool true, .bool d, .slice p l.length c] 24)).alloc (.cells #[.bool false, .bool d2, .slice q m.length c2] 24)).alloc (.cells #[.bool false, .bool false, .slice none 0 0] 24) = w0 at *
        refine wp_region_left (S := JS w true d p c l false d2 q c2 m) (Keep := KeepK [(10, w.heap.size + 2)])
          (g := fun i v W => if i = 7 then ∃ g, v = .slice (some ⟨g, 0, none⟩) 2 2 ∧ Pair W g p q c c2 l m else ([.is (.pointer (some ⟨w.heap.size, 0, none⟩)), .is (.bool true), .is (.bool d2), .is (.pointer (some ⟨w.heap.size, 2, none⟩)), .is (.slice p l.length c), .is (.pointer (some ⟨w.heap.size + 1, 2, none⟩)), .is (.slice q m.length c2), .any, .sl (l ++ m), .pa true d2 (l ++ m), .box (w.heap.size + 2) true d2 (l ++ m)].getD i Kd.any).ok (w.heap.size + 3) v W)
          (tab := [[(2, none)], [(35, some 0)], [(5, none)], [(2, none)], [(38, some 3)], [(3, none)], [(40, some 5)], [(39, some 4), (41, some 6)], [(42, some 7)], [(36, some 1), (37, some 2), (43, some 8)], [(4, none), (44, some 9)]]) (tl := [(7, 8)]) (n := 45)
          (by kernel_rfl) rfl (by kernel_rfl) ?hK hM.js ?st ?en
        case hK =>
          intro i j v w1 w2 hk hne hed ht hg
          by_cases e7 : j = 7
          · subst e7
            rw [if_pos rfl] at hg ⊢
            obtain ⟨h1, h2⟩ := ht 8 rfl
            by_cases e10 : i = 10
            · subst e10; exact absurd h2 (by decide +kernel)
            have hb : Below w1.heap.size w1 w2 := by
              unfold KeepK at hk
              have : ([(10, w.heap.size + 2)] : List (Nat × Nat)).lookup i = none := by simp [List.lookup, show (i == 10) = false by simpa using e10]
              rw [this] at hk
              exact hk
            obtain ⟨g, h3, h4⟩ := hg
            exact ⟨g, h3, h4.on hb⟩
          · rw [if_neg e7] at hg ⊢
            refine keep_one (ops := #[]) (tl := []) (n := 10) (b := w.heap.size + 2) (by omega) (fun j' hj' => ?_) i j v w1 w2 hk hne (by rfl) (fun u hu => by cases hu) hg
            match j', hj' with
            | 0, _ | 1, _ | 2, _ | 3, _ | 4, _ | 5, _ | 6, _ | 7, _ | 8, _ | 9, _ => rfl
            | 10, hj => exact absurd rfl hj
            | j + 11, _ => rfl
        case st =>
          refine ⟨fun ρ W hr hS hs => ?_, fun ρ W hr hS hs => ?_, fun ρ W hr hS hs => ?_, fun ρ W hr hS hs => ?_, fun ρ W hr hS hs => ?_, fun ρ W hr hS hs => ?_, fun ρ W hr hS hs => ?_, fun ρ W hr hS hs => ?_, fun ρ W hr hS hs => ?_, fun ρ W hr hS hs => ?_, fun ρ W hr hS hs => ?_, trivial⟩
          · exact step_plain rfl (leaves_field (.tmp 2) rfl (by decide) hs.1 ⟨rfl, hS, Below.refl _ _⟩)
          · exact step_plain rfl (leaves_loadB (.tmp 35) rfl hs.1 hS.fst.fst ⟨rfl, hS, Below.refl _ _⟩)
          · exact step_plain rfl (leaves_move (.tmp 5) rfl ⟨hs.1, hS, Below.refl _ _⟩)
          · exact step_plain rfl (leaves_field (.tmp 2) rfl (by decide) hs.1 ⟨rfl, hS, Below.refl _ _⟩)
          · exact step_plain rfl (leaves_loadS (.tmp 38) rfl hs.1 hS.fst.thd ⟨rfl, hS, Below.refl _ _⟩)
          · exact step_plain rfl (leaves_field (.tmp 3) rfl (by decide) hs.1 ⟨rfl, hS, Below.refl _ _⟩)
          · exact step_plain rfl (leaves_loadS (.tmp 40) rfl hs.1 hS.snd.thd ⟨rfl, hS, Below.refl _ _⟩)
          · obtain ⟨h39, h41, _⟩ := hs
            have h39' : ρ (.tmp 39) = .slice p l.length c := h39
            have h41' : ρ (.tmp 41) = .slice q m.length c2 := h41
            have hb := on_alloc W (.cells #[.slice p l.length c, .slice q m.length c2] 22)
            refine step_plain rfl (leaves_value (v := .slice (some ⟨W.heap.size, 0, none⟩) 2 2) (w' := W.alloc (.cells #[.slice p l.length c, .slice q m.length c2] 22)) ?_ ⟨⟨W.heap.size, rfl, World.alloc_heap_new W _, (HA.out.on hS.on).on hb, (HA2.out.on hS.on).on hb⟩, hS.grow hb, hb⟩)
            simp [go_sem, h39', h41']
          · obtain ⟨⟨g, h42, hpair⟩, _⟩ := hs
            refine step_plain rfl (leaves_call1 en_concat hr (.tmp 42) _ rfl h42 ?_)
            refine (concat_any g p q c c2 l m W hl hm hpair).mono ?_
            rintro e W' ⟨hb, p', c', rfl, hat, hcc⟩
            exact ⟨_, rfl, ⟨p', c', rfl, hat.less hS.size, hcc⟩, hS.grow hb, hb⟩
          · obtain ⟨h4, h6, ⟨p', c', h8, hat, hcc⟩, _⟩ := hs
            have h4' : ρ (.tmp 36) = .bool true := h4
            have h6' : ρ (.tmp 37) = .bool d2 := h6
            refine step_plain rfl (leaves_value (v := .agg #[.bool true, .bool d2, .slice p' (l ++ m).length c']) (w' := W) ?_ ⟨⟨p', c', rfl, hat, hcc⟩, hS, Below.refl _ _⟩)
            generalize (l ++ m).length = n at *
            simp [go_sem, h4', h6', h8]
          · obtain ⟨h2, ⟨p', c', h9, hat, hcc⟩, _⟩ := hs
            obtain ⟨u0, u1, u2, hu⟩ := hS.res
            have hbut := but_put3 W (w.heap.size + 2) (.bool true) (.bool d2) (.slice p' (l ++ m).length c')
            exact step_plain rfl (leaves_store (.tmp 4) (.tmp 44) rfl h2 h9 hu ⟨⟨p', c', hu.put _ _ _, hat.but hbut (by omega), hcc⟩, hS.put _ _ _, hbut⟩)
        case en =>
          intro W hS v0 h0 v1 h1 v2 h2 v3 h3 v4 h4 v5 h5 v6 h6 v7 h7 v8 h8 v9 h9 h10
          obtain ⟨p', c', hbx, hat, hcc⟩ := h10 rfl
          clear h0 h1 h2 h3 h4 h5 h6 h7 h8 h9 h10
          simp only [ends, Act.put, List.setIfInBounds_toArray, List.set_cons_succ, List.set_cons_zero]
          go_wp2
          exact bodyPost_ret (results_box rfl _ _ rfl hbx) rfl (retPa hS.on (hat.less (by omega)) hcc)
      · have hlz : ((l.length : Int) == 0) = false := by rw [beq_eq_false_iff_ne]; omega
        clear hl0
        go_enter Try.func22, Try.ntmps22
        go_wp2
        generalize ((w.alloc (.cells #[.bool false, .bool d, .slice p l.length c] 24)).alloc (.cells #[.bool false, .bool d2, .slice q m.length c2] 24)).alloc (.cells #[.bool false, .bool false, .slice none 0 0] 24) = w0 at *
        refine wp_region_left (S := JS w false d p c l false d2 q c2 m) (Keep := KeepK [(10, w.heap.size + 2)])
          (g := fun i v W => if i = 7 then ∃ g, v = .slice (some ⟨g, 0, none⟩) 2 2 ∧ Pair W g p q c c2 l m else ([.is (.pointer (some ⟨w.heap.size, 0, none⟩)), .is (.bool false), .is (.bool d2), .is (.pointer (some ⟨w.heap.size, 2, none⟩)), .is (.slice p l.length c), .is (.pointer (some ⟨w.heap.size + 1, 2, none⟩)), .is (.slice q m.length c2), .any, .sl (l ++ m), .pa false d2 (l ++ m), .box (w.heap.size + 2) false d2 (l ++ m)].getD i Kd.any).ok (w.heap.size + 3) v W)
          (tab := [[(2, none)], [(35, some 0)], [(5, none)], [(2, none)], [(38, some 3)], [(3, none)], [(40, some 5)], [(39, some 4), (41, some 6)], [(42, some 7)], [(36, some 1), (37, some 2), (43, some 8)], [(4, none), (44, some 9)]]) (tl := [(7, 8)]) (n := 45)
          (by kernel_rfl) rfl (by kernel_rfl) ?hK hM.js ?st ?en
        case hK =>
          intro i j v w1 w2 hk hne hed ht hg
          by_cases e7 : j = 7
          · subst e7
            rw [if_pos rfl] at hg ⊢
            obtain ⟨h1, h2⟩ := ht 8 rfl
            by_cases e10 : i = 10
            · subst e10; exact absurd h2 (by decide +kernel)
            have hb : Below w1.heap.size w1 w2 := by
              unfold KeepK at hk
              have : ([(10, w.heap.size + 2)] : List (Nat × Nat)).lookup i = none := by simp [List.lookup, show (i == 10) = false by simpa using e10]
              rw [this] at hk
              exact hk
            obtain ⟨g, h3, h4⟩ := hg
            exact ⟨g, h3, h4.on hb⟩
          · rw [if_neg e7] at hg ⊢
            refine keep_one (ops := #[]) (tl := []) (n := 10) (b := w.heap.size + 2) (by omega) (fun j' hj' => ?_) i j v w1 w2 hk hne (by rfl) (fun u hu => by cases hu) hg
            match j', hj' with
            | 0, _ | 1, _ | 2, _ | 3, _ | 4, _ | 5, _ | 6, _ | 7, _ | 8, _ | 9, _ => rfl
            | 10, hj => exact absurd rfl hj
            | j + 11, _ => rfl
        case st =>
          refine ⟨fun ρ W hr hS hs => ?_, fun ρ W hr hS hs => ?_, fun ρ W hr hS hs => ?_, fun ρ W hr hS hs => ?_, fun ρ W hr hS hs => ?_, fun ρ W hr hS hs => ?_, fun ρ W hr hS hs => ?_, fun ρ W hr hS hs => ?_, fun ρ W hr hS hs => ?_, fun ρ W hr hS hs => ?_, fun ρ W hr hS hs => ?_, trivial⟩
          · exact step_plain rfl (leaves_field (.tmp 2) rfl (by decide) hs.1 ⟨rfl, hS, Below.refl _ _⟩)
          · exact step_plain rfl (leaves_loadB (.tmp 35) rfl hs.1 hS.fst.fst ⟨rfl, hS, Below.refl _ _⟩)
          · exact step_plain rfl (leaves_move (.tmp 5) rfl ⟨hs.1, hS, Below.refl _ _⟩)
          · exact step_plain rfl (leaves_field (.tmp 2) rfl (by decide) hs.1 ⟨rfl, hS, Below.refl _ _⟩)
          · exact step_plain rfl (leaves_loadS (.tmp 38) rfl hs.1 hS.fst.thd ⟨rfl, hS, Below.refl _ _⟩)
          · exact step_plain rfl (leaves_field (.tmp 3) rfl (by decide) hs.1 ⟨rfl, hS, Below.refl _ _⟩)
          · exact step_plain rfl (leaves_loadS (.tmp 40) rfl hs.1 hS.snd.thd ⟨rfl, hS, Below.refl _ _⟩)
          · obtain ⟨h39, h41, _⟩ := hs
            have h39' : ρ (.tmp 39) = .slice p l.length c := h39
            have h41' : ρ (.tmp 41) = .slice q m.length c2 := h41
            have hb := on_alloc W (.cells #[.slice p l.length c, .slice q m.length c2] 22)
            refine step_plain rfl (leaves_value (v := .slice (some ⟨W.heap.size, 0, none⟩) 2 2) (w' := W.alloc (.cells #[.slice p l.length c, .slice q m.length c2] 22)) ?_ ⟨⟨W.heap.size, rfl, World.alloc_heap_new W _, (HA.out.on hS.on).on hb, (HA2.out.on hS.on).on hb⟩, hS.grow hb, hb⟩)
            simp [go_sem, h39', h41']
          · obtain ⟨⟨g, h42, hpair⟩, _⟩ := hs
            refine step_plain rfl (leaves_call1 en_concat hr (.tmp 42) _ rfl h42 ?_)
            refine (concat_any g p q c c2 l m W hl hm hpair).mono ?_
            rintro e W' ⟨hb, p', c', rfl, hat, hcc⟩
            exact ⟨_, rfl, ⟨p', c', rfl, hat.less hS.size, hcc⟩, hS.grow hb, hb⟩
          · obtain ⟨h4, h6, ⟨p', c', h8, hat, hcc⟩, _⟩ := hs
            have h4' : ρ (.tmp 36) = .bool false := h4
            have h6' : ρ (.tmp 37) = .bool d2 := h6
            refine step_plain rfl (leaves_value (v := .agg #[.bool false, .bool d2, .slice p' (l ++ m).length c']) (w' := W) ?_ ⟨⟨p', c', rfl, hat, hcc⟩, hS, Below.refl _ _⟩)
            generalize (l ++ m).length = n at *
            simp [go_sem, h4', h6', h8]
          · obtain ⟨h2, ⟨p', c', h9, hat, hcc⟩, _⟩ := hs
            obtain ⟨u0, u1, u2, hu⟩ := hS.res
            have hbut := but_put3 W (w.heap.size + 2) (.bool false) (.bool d2) (.slice p' (l ++ m).length c')
            exact step_plain rfl (leaves_store (.tmp 4) (.tmp 44) rfl h2 h9 hu ⟨⟨p', c', hu.put _ _ _, hat.but hbut (by omega), hcc⟩, hS.put _ _ _, hbut⟩)
        case en =>
          intro W hS v0 h0 v1 h1 v2 h2 v3 h3 v4 h4 v5 h5 v6 h6 v7 h7 v8 h8 v9 h9 h10
          obtain ⟨p', c', hbx, hat, hcc⟩ := h10 rfl
          clear h0 h1 h2 h3 h4 h5 h6 h7 h8 h9 h10
          simp only [ends, Act.put, List.setIfInBounds_toArray, List.set_cons_succ, List.set_cons_zero]
          go_wp2
          exact bodyPost_ret (results_box rfl _ _ rfl hbx) rfl (retPa hS.on (hat.less (by omega)) hcc)

end Go.Proofs.Ytidcfbjefemhdaa
