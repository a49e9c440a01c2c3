/- Copies and rows of one's own: append, and the reference's Own. -/
import Derived.Test.YtidcfbjefemhdaaPSame
import Derived.ArgAppend
import Derived.Laws.OwnMore
namespace Go.Proofs.Ytidcfbjefemhdaa
open Go Go.RowKit

theorem infoStr : (Try.prog.info? 9).map (fun i => (i.zero, i.size, i.bytes)) = some (some (.string ⟨#[]⟩), 1, 16) := by kernel_rfl

theorem append_none (b c : Nat) (w : World) : (Builtin.append_ #[22, 22] 22 #[.slice (some ⟨b, 0, none⟩) 0 0, .slice none 0 c]).run Try.prog w = .ok (.slice (some ⟨b, 0, none⟩) 0 0) w := by
  kernel_rfl

theorem at_news {w : World} {a : Addr} {l : List ByteArray} (h : At w (some a) l) : ∀ (j : Nat) u, (l.map Value.string)[j]? = some u → w.cell? (a.add j) = some u := fun j u hu => by
  rw [List.getElem?_map] at hu
  cases hj : l[j]? with
  | none => simp [hj] at hu
  | some x =>
    simp [hj] at hu
    subst hu
    have hjl := (List.getElem?_eq_some_iff.1 hj).1
    obtain ⟨bb, off, e, _, hc⟩ := h.resolve_left (fun e => by rw [e] at hjl; simp at hjl)
    cases e
    have := hc j hjl
    rw [show l.getD j ByteArray.empty = x by simp [List.getD, hj]] at this
    rw [← this]
    congr 1
    unfold Addr.add
    split <;> simp_all

theorem append_copy (b : Nat) (p : Option Addr) (cap : Nat) (l : List ByteArray) (w : World) (hl : l.length * 16 ≤ 140737488355328) (h : At w p l) :
    ∃ p' c' w', (Builtin.append_ #[22, 22] 22 #[.slice (some ⟨b, 0, none⟩) 0 0, .slice p l.length cap]).run Try.prog w = .ok (.slice p' l.length c') w' ∧ Below w.heap.size w w' ∧ AtF w.heap.size w' p' l ∧ l.length ≤ c' := by
  obtain ⟨i0, hi, hz0, hz1, hz2⟩ := info_parts infoStr
  by_cases hnil : l = []
  · subst hnil
    cases p with
    | none => exact ⟨_, _, _, append_none b cap w, Below.refl _ _, .nil _ _ _, Nat.le_refl _⟩
    | some a =>
      have := run_append_room_cells (P := Try.prog) w 22 22 9 i0 Try.underlying22 hi b 0 0 0 a 0 cap [] (by simp) (fun j u hu => by simp at hu) (fun u hu => by simp at hu) (Nat.le_refl _) (fun j hj => by simp at hj) (fun j hj => by simp at hj)
      exact ⟨_, _, _, this, Below.refl _ _, .nil _ _ _, Nat.le_refl _⟩
  · obtain ⟨bb, off, rfl, hlt, hc⟩ := h.resolve_left hnil
    have hpos : 0 < l.length := List.length_pos_iff.2 hnil
    obtain ⟨v', w', hrun, hown, hg⟩ := run_append_arg_grows (P := Try.prog) w 22 22 9 i0 (.string ⟨#[]⟩) 1 16 Try.underlying22 hi hz0 hz1 hz2 rfl (by decide) ⟨b, 0, none⟩ 0 0 [] rfl (fun j u hu => by simp at hu)
      ⟨bb, off, none⟩ l.length cap (l.map Value.string) (by simp) (at_news h) (by omega) (by unfold maxLen; omega) (by omega)
    rw [Nat.zero_add, List.nil_append] at hown
    obtain ⟨p', c', rfl, hat, hcc⟩ := at_of_row hown
    exact ⟨_, _, w', hrun, ⟨hg.os, hg.tape, hg.output, hg.size, fun k hk => hg.block k hk (by simp)⟩, hat, hcc⟩

/-- A row of one's own. -/
abbrev OwnL (hi : Nat) (W : World) (v : Value) (s : List ByteArray) : Prop := W.ownsRow hi 9 1 v s.length (s.map Value.string)
theorem row_base {w : World} {base : Nat} {e : TypeId} {size : Nat} {v : Value} {n : Nat} {xs : List Value} (h : w.ownsRow base e size v n xs) (j : Nat) (ej : v.ownBlock = some j) : base ≤ j := by
  rcases h.2 with ⟨rfl, _⟩ | ⟨g, cap, cur, rfl, hb, _⟩
  · simp [Value.ownBlock] at ej
  · simp [Value.ownBlock] at ej; omega
theorem ownL_on {hi : Nat} {w w' : World} {v : Value} {s : List ByteArray} (h : OwnL hi w v s) (hb : Below w.heap.size w w') : OwnL hi w' v s := by
  refine ⟨h.1, ?_⟩
  rcases h.2 with h0 | ⟨g, cap, cur, rfl, hbs, hg, h3, h4, h5, h6⟩
  · exact .inl h0
  · exact .inr ⟨g, cap, cur, rfl, hbs, (hb.block g (Array.getElem?_eq_some_iff.1 hg).1).trans hg, h3, h4, h5, h6⟩
theorem ownL_but {hi b : Nat} {w w' : World} {v : Value} {s : List ByteArray} (h : OwnL hi w v s) (hb : But b w w') (hlt : b < hi) : OwnL hi w' v s := by
  refine ⟨h.1, ?_⟩
  rcases h.2 with h0 | ⟨g, cap, cur, rfl, hbs, hg, h3, h4, h5, h6⟩
  · exact .inl h0
  · exact .inr ⟨g, cap, cur, rfl, hbs, (hb.block g (by omega)).trans hg, h3, h4, h5, h6⟩
theorem ownL_at {hi : Nat} {W : World} {v : Value} {s : List ByteArray} (h : OwnL hi W v s) : ∃ p c, v = .slice p s.length c ∧ AtF hi W p s ∧ s.length ≤ c := at_of_row h
theorem ownL_nil (hi : Nat) (W : World) : OwnL hi W (.slice none 0 0) [] := World.ownsRow_nil _ _ _ _

/-- append onto a row of one's own. -/
theorem append_own (hi : Nat) (v : Value) (s : List ByteArray) (a : Addr) (cap : Nat) (l : List ByteArray) (W : World) (hs : s.length ≤ 10000) (hl : l.length ≤ 10000) (hown : OwnL hi W v s) (h : At W (some a) l) (hhi : hi ≤ W.heap.size) :
    ∃ v' W', (Builtin.append_ #[22, 22] 22 #[v, .slice (some a) l.length cap]).run Try.prog W = .ok v' W' ∧ OwnL hi W' v' (s ++ l) ∧ Below hi W W' := by
  obtain ⟨i0, hi0, hz0, hz1, hz2⟩ := info_parts infoStr
  obtain ⟨v', W', hrun, h1, hg, _⟩ := run_append_own (P := Try.prog) W hi 22 22 9 i0 (.string ⟨#[]⟩) 1 16 Try.underlying22 hi0 hz0 hz1 hz2 rfl (by decide) v s.length _ hown
    a l.length cap (l.map Value.string) (by simp) (at_news h) (fun u hu => by
      obtain ⟨x, _, rfl⟩ := List.mem_map.1 hu
      rfl) (by unfold maxLen; omega) (by omega) hhi
  refine ⟨v', W', hrun, ?_, hg.os, hg.tape, hg.output, hg.size, fun k hk => hg.block k (by omega) fun e => ?_⟩
  · show W'.ownsRow hi 9 1 v' (s ++ l).length ((s ++ l).map Value.string)
    rw [List.length_append, List.map_append]; exact h1
  · have := row_base hown k e.symm; omega

theorem at_row1 (w : World) (x : ByteArray) : At (w.alloc (.cells #[.string x] 9)) (some ⟨w.heap.size, 0, none⟩) [x] :=
  .inr ⟨w.heap.size, 0, rfl, by simp, fun j hj => by
    obtain rfl : j = 0 := by simp at hj; omega
    rw [cell_of_row _ _ _ _ _ _ (World.alloc_heap_new w _)]
    rfl⟩

/-- One text more. -/
theorem append_one (hi : Nat) (v : Value) (s : List ByteArray) (x : ByteArray) (W : World) (hs : s.length ≤ 10000) (hown : OwnL hi W v s) (hhi : hi ≤ W.heap.size) :
    ∃ v' W', (Builtin.append_ #[22, 22] 22 #[v, .slice (some ⟨W.heap.size, 0, none⟩) 1 1]).run Try.prog (W.alloc (.cells #[.string x] 9)) = .ok v' W' ∧ OwnL hi W' v' (s ++ [x]) ∧ Below hi W W' := by
  obtain ⟨v', W', h1, h2, h3⟩ := append_own hi v s ⟨W.heap.size, 0, none⟩ 1 [x] (W.alloc (.cells #[.string x] 9)) hs (by simp) (ownL_on hown (on_alloc _ _)) (at_row1 W x) (by simp; omega)
  exact ⟨v', W', h1, h2, ((on_alloc W _).mono hhi).trans h3⟩

set_option maxRecDepth 100000 in
set_option maxHeartbeats 1000000 in
theorem own_any (a d : Bool) (p : Option Addr) (cap : Nat) (l : List ByteArray) (w : World) (hl : l.length * 16 ≤ 140737488355328) (h : At w p l) :
    Calls Try.prog 14 #[.agg #[.bool a, .bool d, .slice p l.length cap]] w fun e w' => Below w.heap.size w w' ∧
      ∃ p' c', e = .returned (.agg #[.bool a, .bool d, .slice p' l.length c']) ∧ AtF w.heap.size w' p' l ∧ l.length ≤ c' := by
  have hX := (Box.new w (.bool a) (.bool d) (.slice p l.length cap)).alloc (.cells #[.bool false, .bool false, .slice none 0 0] 24)
  have hY := Box.new (w.alloc (.cells #[.bool a, .bool d, .slice p l.length cap] 24)) (.bool false) (.bool false) (.slice none 0 0)
  have hB := on_trans (on_alloc w (.cells #[.bool a, .bool d, .slice p l.length cap] 24)) (on_alloc _ (.cells #[.bool false, .bool false, .slice none 0 0] 24))
  rw [World.size_alloc] at hY
  go_enter Try.func14, Try.ntmps14
  go_wp2
  generalize (w.alloc (.cells #[.bool a, .bool d, .slice p l.length cap] 24)).alloc (.cells #[.bool false, .bool false, .slice none 0 0] 24) = w0 at *
  have hlt := hY.lt
  refine wp_region_left (S := fun W => w0.heap.size ≤ W.heap.size ∧ Box W w.heap.size (.bool a) (.bool d) (.slice p l.length cap) ∧ (∃ u0 u1 u2, Box W (w.heap.size + 1) u0 u1 u2) ∧ Below w.heap.size w W)
    (Keep := KeepK [(9, w.heap.size + 1)])
    (g := fun i v W => ([.is (.pointer (some ⟨w.heap.size, 0, none⟩)), .is (.bool a), .is (.pointer (some ⟨w.heap.size, 1, none⟩)), .is (.bool d), .empty, .is (.pointer (some ⟨w.heap.size, 2, none⟩)), .is (.slice p l.length cap), .sl l, .pa a d l, .box (w.heap.size + 1) a d l].getD i Kd.any).ok (w.heap.size + 2) v W)
    (tab := [[(1, none)], [(3, some 0)], [(1, none)], [(5, some 2)], [], [(1, none)], [(8, some 5)], [(7, some 4), (9, some 6)], [(4, some 1), (6, some 3), (10, some 7)], [(2, none), (11, some 8)]]) (tl := []) (n := 12)
    (by kernel_rfl) rfl (by kernel_rfl) (keep_one (by omega) ?k) ⟨Nat.le_refl _, hX.drew, ⟨_, _, _, hY.drew⟩, on_drew hB⟩ ?_ ?_
  case k =>
    intro j hj
    match j, hj with
    | 0, _ | 1, _ | 2, _ | 3, _ | 4, _ | 5, _ | 6, _ | 7, _ | 8, _ => rfl
    | 9, hj => exact absurd rfl hj
    | j + 10, _ => rfl
  · refine ⟨fun ρ W hr hS hs => ?_, fun ρ W hr hS hs => ?_, fun ρ W hr hS hs => ?_, fun ρ W hr hS hs => ?_, fun ρ W hr hS hs => ?_, fun ρ W hr hS hs => ?_, fun ρ W hr hS hs => ?_, fun ρ W hr hS hs => ?_, fun ρ W hr hS hs => ?_, fun ρ W hr hS hs => ?_, trivial⟩
    · exact step_plain rfl (leaves_field (.tmp 1) rfl (by decide) hs.1 ⟨rfl, hS, Below.refl _ _⟩)
    · exact step_plain rfl (leaves_loadB (.tmp 3) rfl hs.1 hS.2.1.fst ⟨rfl, hS, Below.refl _ _⟩)
    · exact step_plain rfl (leaves_field (.tmp 1) rfl (by decide) hs.1 ⟨rfl, hS, Below.refl _ _⟩)
    · exact step_plain rfl (leaves_loadB (.tmp 5) rfl hs.1 hS.2.1.snd ⟨rfl, hS, Below.refl _ _⟩)
    · have hb := on_alloc W (.cells #[] 9)
      refine step_plain rfl (leaves_value (v := .slice (some ⟨W.heap.size, 0, none⟩) 0 0) (w' := W.alloc (.cells #[] 9)) ?_ ⟨⟨_, rfl⟩, ⟨Nat.le_trans hS.1 hb.size, hS.2.1.on hb, ?_, on_trans hS.2.2.2 hb⟩, hb⟩)
      · simp [go_sem]
      · obtain ⟨u0, u1, u2, hu⟩ := hS.2.2.1
        exact ⟨u0, u1, u2, hu.on hb⟩
    · exact step_plain rfl (leaves_field (.tmp 1) rfl (by decide) hs.1 ⟨rfl, hS, Below.refl _ _⟩)
    · exact step_plain rfl (leaves_loadS (.tmp 8) rfl hs.1 hS.2.1.thd ⟨rfl, hS, Below.refl _ _⟩)
    · obtain ⟨⟨b, h5⟩, h7, _⟩ := hs
      have h7' : ρ (.tmp 9) = .slice p l.length cap := h7
      obtain ⟨p', c', W', hrun, hb, hat, hcc⟩ := append_copy b p cap l W hl (h.below hS.2.2.2 (Nat.le_refl _))
      refine step_plain rfl (leaves_append (v := .slice p' l.length c') (w' := W') (.tmp 7) (.tmp 9) 22 rfl ?_ ⟨⟨p', c', rfl, hat.less ?_, hcc⟩, ⟨Nat.le_trans hS.1 hb.size, hS.2.1.on hb, ?_, on_trans hS.2.2.2 hb⟩, hb⟩)
      · rw [h5, h7']; exact hrun
      · have := hS.1; omega
      · obtain ⟨u0, u1, u2, hu⟩ := hS.2.2.1
        exact ⟨u0, u1, u2, hu.on hb⟩
    · obtain ⟨h4, h6, ⟨p', c', h8, hat, hcc⟩, _⟩ := hs
      have h4' : ρ (.tmp 4) = .bool a := h4
      have h6' : ρ (.tmp 6) = .bool d := h6
      refine step_plain rfl (leaves_value (v := .agg #[.bool a, .bool d, .slice p' l.length c']) (w' := W) ?_ ⟨⟨p', c', rfl, hat, hcc⟩, hS, Below.refl _ _⟩)
      simp [go_sem, h4', h6', h8]
    · obtain ⟨h2, ⟨p', c', h9, hat, hcc⟩, _⟩ := hs
      obtain ⟨u0, u1, u2, hu⟩ := hS.2.2.1
      have hbut := but_put3 W (w.heap.size + 1) (.bool a) (.bool d) (.slice p' l.length c')
      exact step_plain rfl (leaves_store (.tmp 2) (.tmp 11) rfl h2 h9 hu ⟨⟨p', c', hu.put _ _ _, hat.but hbut (by omega), hcc⟩, ⟨by rw [hbut.size]; exact hS.1, hS.2.1.but hbut (by omega), ⟨_, _, _, hu.put _ _ _⟩, below_but hS.2.2.2 hbut (by omega)⟩, hbut⟩)
  · intro W hS v0 h0 v1 h1 v2 h2 v3 h3 v4 h4 v5 h5 v6 h6 v7 h7 v8 h8 h9
    obtain ⟨p', c', hbx, hat, hcc⟩ := h9 rfl
    clear h0 h1 h2 h3 h4 h5 h6 h7 h8 h9
    simp only [ends, Act.put, List.setIfInBounds_toArray, List.set_cons_succ, List.set_cons_zero]
    go_wp2
    exact bodyPost_ret (results_box rfl _ _ rfl hbx) rfl ⟨hS.2.2.2, p', c', rfl, hat.less (by omega), hcc⟩

end Go.Proofs.Ytidcfbjefemhdaa
