/- Copies: append([]int{}, l...), and the reference's Own. -/
import Derived.Test.YthicbobddopcpaaDoorWShow
import Derived.Test.YthicbobddopcpaaDoorWKd
import Derived.ArgAppend
namespace Go.Proofs.YthicbobddopcpaaDoor
open Go Go.RowKit Go.Shelf Go.Sort

theorem infoInt : (Tryd.prog.info? 3).map (fun i => (i.zero, i.size, i.bytes)) = some (some (.int .i64 0), 1, 8) := by kernel_rfl

theorem append_none (b c : Nat) (w : World) : (Builtin.append_ #[22, 22] 22 #[.slice (some ⟨b, 0, none⟩) 0 0, .slice none 0 c]).run Tryd.prog w = .ok (.slice (some ⟨b, 0, none⟩) 0 0) w := by
  kernel_rfl

theorem append_copy (b : Nat) (p : Option Addr) (cap : Nat) (l : List Int) (w : World) (hl : l.length * 8 ≤ 140737488355328) (h : At w p l) :
    ∃ p' c' w', (Builtin.append_ #[22, 22] 22 #[.slice (some ⟨b, 0, none⟩) 0 0, .slice p l.length cap]).run Tryd.prog w = .ok (.slice p' l.length c') w' ∧ Below w.heap.size w w' ∧ AtF w.heap.size w' p' l ∧ l.length ≤ c' := by
  obtain ⟨i0, hi, hz0, hz1, hz2⟩ := info_parts infoInt
  by_cases hnil : l = []
  · subst hnil
    cases p with
    | none => exact ⟨_, _, _, append_none b cap w, Below.refl _ _, .nil _ _ _, Nat.le_refl _⟩
    | some a =>
      have := run_append_room_cells (P := Tryd.prog) w 22 22 3 i0 Tryd.underlying22 hi b 0 0 0 a 0 cap [] (by simp) (fun j u hu => by simp at hu) (fun u hu => by simp at hu) (Nat.le_refl _) (fun j hj => by simp at hj) (fun j hj => by simp at hj)
      exact ⟨_, _, _, this, Below.refl _ _, .nil _ _ _, Nat.le_refl _⟩
  · obtain ⟨bb, off, rfl, hlt, hc⟩ := h.resolve_left hnil
    have hpos : 0 < l.length := List.length_pos_iff.2 hnil
    obtain ⟨v', w', hrun, hown, hg⟩ := run_append_arg_grows (P := Tryd.prog) w 22 22 3 i0 (.int .i64 0) 1 8 Tryd.underlying22 hi hz0 hz1 hz2 rfl (by decide) ⟨b, 0, none⟩ 0 0 [] rfl (fun j u hu => by simp at hu)
      ⟨bb, off, none⟩ l.length cap (l.map (Value.int .i64)) (by simp) (fun j u hu => by
        rw [List.getElem?_map] at hu
        cases hj : l[j]? with
        | none => simp [hj] at hu
        | some x =>
          simp [hj] at hu
          subst hu
          have hjl := (List.getElem?_eq_some_iff.1 hj).1
          have := hc j hjl
          rw [show l.getD j 0 = x by simp [List.getD, hj]] at this
          rw [← this]
          congr 1
          unfold Addr.add
          split <;> simp_all) (by omega) (by unfold maxLen; omega) (by omega)
    rw [Nat.zero_add, List.nil_append] at hown
    obtain ⟨p', c', rfl, hat, _⟩ := at_of_row hown
    have hB : Below w.heap.size w w' := ⟨hg.os, hg.tape, hg.output, hg.size, fun k hk => hg.block k hk (by simp)⟩
    rcases hown.2 with ⟨h0, h1⟩ | ⟨g, cc, cur, he, hb, _, hcc, _⟩
    · omega
    · cases he
      refine ⟨_, _, w', hrun, hB, ?_, hcc⟩
      rcases hat with e | ⟨b1, o1, e1, h2, h3⟩
      · exact .inl e
      · cases e1; exact .inr ⟨g, 0, rfl, hb, h2, h3⟩

set_option maxRecDepth 100000 in
set_option maxHeartbeats 1000000 in
theorem own_any (all : Bool) (p : Option Addr) (cap : Nat) (l : List Int) (w : World) (hl : l.length * 8 ≤ 140737488355328) (h : At w p l) :
    Calls Tryd.prog 29 #[.agg #[.bool all, .slice p l.length cap]] w fun e w' => Below w.heap.size w w' ∧
      ∃ p' c', e = .returned (.agg #[.bool all, .slice p' l.length c']) ∧ AtF w.heap.size w' p' l := by
  have hX := (Box.new w (.bool all) (.slice p l.length cap)).alloc (.cells #[.bool false, .slice none 0 0] 24)
  have hY := Box.new (w.alloc (.cells #[.bool all, .slice p l.length cap] 24)) (.bool false) (.slice none 0 0)
  have hB := on_trans (on_alloc w (.cells #[.bool all, .slice p l.length cap] 24)) (on_alloc _ (.cells #[.bool false, .slice none 0 0] 24))
  rw [World.size_alloc] at hY
  go_enter Tryd.func29, Tryd.ntmps29
  go_wp2
  generalize (w.alloc (.cells #[.bool all, .slice p l.length cap] 24)).alloc (.cells #[.bool false, .slice none 0 0] 24) = w0 at *
  have hlt := hY.lt
  refine wp_region_left (S := fun W => w0.heap.size ≤ W.heap.size ∧ Box W w.heap.size (.bool all) (.slice p l.length cap) ∧ (∃ u0 u1, Box W (w.heap.size + 1) u0 u1) ∧ Below w.heap.size w W)
    (Keep := KeepK [(7, w.heap.size + 1)])
    (g := fun i v W => ([.is (.pointer (some ⟨w.heap.size, 0, none⟩)), .is (.bool all), .empty, .is (.pointer (some ⟨w.heap.size, 1, none⟩)), .is (.slice p l.length cap), .sl l, .wl all l, .box (w.heap.size + 1) all l].getD i Kd.any).ok (w.heap.size + 2) v W)
    (tab := [[(1, none)], [(3, some 0)], [], [(1, none)], [(6, some 3)], [(5, some 2), (7, some 4)], [(4, some 1), (8, some 5)], [(2, none), (9, some 6)]]) (tl := []) (n := 10)
    (by kernel_rfl) rfl (by kernel_rfl) (keep_kd ?k) ⟨Nat.le_refl _, hX.drew, ⟨_, _, hY.drew⟩, on_drew hB⟩ ?_ ?_
  case k =>
    intro i b hb
    have : i = 7 ∧ b = w.heap.size + 1 := by
      simp only [List.lookup] at hb
      split at hb
      · rename_i h7
        exact ⟨by simpa using h7, by simpa using hb.symm⟩
      · cases hb
    obtain ⟨rfl, rfl⟩ := this
    refine ⟨by omega, fun j hj => ?_⟩
    match j, hj with
    | 0, _ | 1, _ | 2, _ | 3, _ | 4, _ | 5, _ | 6, _ => exact blk_none rfl
    | 7, hj => exact absurd rfl hj
    | j + 8, _ => exact blk_none rfl
  · refine ⟨fun ρ W hr hS hs => ?_, fun ρ W hr hS hs => ?_, fun ρ W hr hS hs => ?_, fun ρ W hr hS hs => ?_, fun ρ W hr hS hs => ?_, fun ρ W hr hS hs => ?_, fun ρ W hr hS hs => ?_, fun ρ W hr hS hs => ?_, trivial⟩
    · have h1 : ρ (.tmp 1) = .pointer (some ⟨w.heap.size, 0, none⟩) := hs.1
      refine step_plain rfl (leaves_value (v := .pointer (some ⟨w.heap.size, 0, none⟩)) (w' := W) ?_ ⟨rfl, hS, Below.refl _ _⟩)
      simp [go_sem, h1]
    · have h1 : ρ (.tmp 3) = .pointer (some ⟨w.heap.size, 0, none⟩) := hs.1
      have h2 := hS.2.1.fst
      refine step_plain rfl (leaves_value (v := .bool all) (w' := W) ?_ ⟨rfl, hS, Below.refl _ _⟩)
      simp [go_sem, h1, h2]
    · have hb := on_alloc W (.cells #[] 3)
      refine step_plain rfl (leaves_value (v := .slice (some ⟨W.heap.size, 0, none⟩) 0 0) (w' := W.alloc (.cells #[] 3)) ?_ ⟨⟨_, rfl⟩, ⟨Nat.le_trans hS.1 hb.size, hS.2.1.on hb, ?_, on_trans hS.2.2.2 hb⟩, hb⟩)
      · simp [go_sem]
      · obtain ⟨u0, u1, hu⟩ := hS.2.2.1
        exact ⟨u0, u1, hu.on hb⟩
    · have h1 : ρ (.tmp 1) = .pointer (some ⟨w.heap.size, 0, none⟩) := hs.1
      refine step_plain rfl (leaves_value (v := .pointer (some ⟨w.heap.size, 1, none⟩)) (w' := W) ?_ ⟨rfl, hS, Below.refl _ _⟩)
      simp [go_sem, h1]
    · have h1 : ρ (.tmp 6) = .pointer (some ⟨w.heap.size, 1, none⟩) := hs.1
      have h2 := hS.2.1.snd
      refine step_plain rfl (leaves_value (v := .slice p l.length cap) (w' := W) ?_ ⟨rfl, hS, Below.refl _ _⟩)
      simp [go_sem, h1, h2]
    · obtain ⟨⟨b, h5⟩, h7, _⟩ := hs
      have h7' : ρ (.tmp 7) = .slice p l.length cap := h7
      obtain ⟨p', c', W', hrun, hb, hat, _⟩ := append_copy b p cap l W hl (h.below hS.2.2.2 (Nat.le_refl _))
      refine step_plain rfl (leaves_append (v := .slice p' l.length c') (w' := W') (.tmp 5) (.tmp 7) 22 rfl ?_ ⟨⟨p', c', rfl, hat.less ?_⟩, ⟨Nat.le_trans hS.1 hb.size, hS.2.1.on hb, ?_, on_trans hS.2.2.2 hb⟩, hb⟩)
      · rw [h5, h7']; exact hrun
      · have := hS.1; omega
      · obtain ⟨u0, u1, hu⟩ := hS.2.2.1
        exact ⟨u0, u1, hu.on hb⟩
    · obtain ⟨h4, ⟨p', c', h8, hat⟩, _⟩ := hs
      have h4' : ρ (.tmp 4) = .bool all := h4
      refine step_plain rfl (leaves_value (v := .agg #[.bool all, .slice p' l.length c']) (w' := W) ?_ ⟨⟨p', c', rfl, hat⟩, hS, Below.refl _ _⟩)
      simp [go_sem, h4', h8]
    · obtain ⟨h2, ⟨p', c', h9, hat⟩, _⟩ := hs
      have h2' : ρ (.tmp 2) = .pointer (some ⟨w.heap.size + 1, 0, none⟩) := h2
      obtain ⟨u0, u1, hu⟩ := hS.2.2.1
      have f0 := hu.free0
      have f1 := hu.free1
      have x0 := hu.fst
      have x1 := hu.snd
      have hbut := but_set2 W (w.heap.size + 1) 0 1 (.bool all) (.slice p' l.length c')
      refine step_plain rfl (leaves_skip (w' := (W.setCell ⟨w.heap.size + 1, 0, none⟩ (.bool all)).setCell ⟨w.heap.size + 1, 1, none⟩ (.slice p' l.length c')) ?_ ⟨⟨p', c', hu.put _ _, hat.but hbut (by omega)⟩, ⟨by rw [hbut.size]; exact hS.1, hS.2.1.but hbut (by omega), ⟨_, _, hu.put _ _⟩, below_but hS.2.2.2 hbut (by omega)⟩, hbut⟩)
      simp [go_sem, h2', h9, f0, f1, x0, x1]
  · intro W hS v0 h0 v1 h1 v2 h2 v3 h3 v4 h4 v5 h5 v6 h6 h7
    obtain ⟨p', c', hbx, hat⟩ := h7 rfl
    clear h0 h1 h2 h3 h4 h5 h6 h7
    simp only [ends, Act.put, List.setIfInBounds_toArray, List.set_cons_succ, List.set_cons_zero]
    go_wp2
    exact bodyPost_ret (results_box rfl _ _ rfl hbx) rfl ⟨hS.2.2.2, p', c', rfl, hat.less (by omega)⟩

end Go.Proofs.YthicbobddopcpaaDoor
