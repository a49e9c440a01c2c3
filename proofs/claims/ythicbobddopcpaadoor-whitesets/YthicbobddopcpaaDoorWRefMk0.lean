/- Rows that the reference's Make builds: cutting and joining. -/
import Derived.Test.YthicbobddopcpaaDoorWSteps
import Derived.Laws.OwnMore
namespace Go.Proofs.YthicbobddopcpaaDoor
open Go Go.RowKit Go.Shelf Go.Sort

abbrev OwnL (hi : Nat) (W : World) (v : Value) (s : List Int) : Prop := W.ownsRow hi 3 1 v s.length (s.map (Value.int .i64))

theorem ownL_on {hi : Nat} {W W' : World} {v : Value} {s : List Int} (h : OwnL hi W v s) (hb : Below W.heap.size W W') : OwnL hi W' v s := ownsRow_on h hb
theorem ownL_less {hi hi' : Nat} {W : World} {v : Value} {s : List Int} (h : OwnL hi W v s) (hl : hi' ≤ hi) : OwnL hi' W v s := by
  refine ⟨h.1, ?_⟩
  rcases h.2 with h0 | ⟨g, cap, cur, h1, h2, h3⟩
  · exact .inl h0
  · exact .inr ⟨g, cap, cur, h1, Nat.le_trans hl h2, h3⟩
theorem ownL_at {hi : Nat} {W : World} {v : Value} {s : List Int} (h : OwnL hi W v s) : ∃ p c, v = .slice p s.length c ∧ AtF hi W p s ∧ (p = none → s = []) := by
  rcases h.2 with ⟨h0, h1⟩ | ⟨g, cap, cur, rfl, hb, hg, hc, _, hs, ht⟩
  · have : s = [] := List.eq_nil_of_length_eq_zero h1
    subst this
    exact ⟨none, 0, by rw [h0]; rfl, .nil _ _ _, fun _ => rfl⟩
  · refine ⟨some ⟨g, 0, none⟩, cap, rfl, .inr ⟨g, 0, rfl, hb, (Array.getElem?_eq_some_iff.1 hg).1, fun j hj => ?_⟩, fun h => by cases h⟩
    have hu : (s.map (Value.int .i64))[j]? = some (.int .i64 (s.getD j 0)) := by simp [List.getD, hj]
    rw [← ht, List.getElem?_take_of_lt (by omega)] at hu
    simp only [World.cell?, hg]
    simpa using hu

/-- append onto a row of one's own. -/
theorem append_own (hi : Nat) (v : Value) (s : List Int) (p : Option Addr) (cap : Nat) (l : List Int) (W : World) (hs : s.length ≤ 1000) (hl : l.length ≤ 1000) (hown : OwnL hi W v s) (h : At W p l) (hp : p = none → cap = 0) (hhi : hi ≤ W.heap.size) :
    ∃ v' W', (Builtin.append_ #[22, 22] 22 #[v, .slice p l.length cap]).run Tryd.prog W = .ok v' W' ∧ OwnL hi W' v' (s ++ l) ∧ Below hi W W' := by
  obtain ⟨i0, hi0, hz0, hz1, hz2⟩ := info_parts infoInt
  have key : ∀ (v' : Value) (W' : World), W'.ownsRow hi 3 1 v' (s.length + l.length) (s.map (Value.int .i64) ++ l.map (Value.int .i64)) → W.grownBy W' v.ownBlock → OwnL hi W' v' (s ++ l) ∧ Below hi W W' := fun v' W' h1 hg => by
    refine ⟨?_, hg.os, hg.tape, hg.output, hg.size, fun k hk => hg.block k (by omega) fun e => ?_⟩
    · show W'.ownsRow hi 3 1 v' (s ++ l).length ((s ++ l).map (Value.int .i64))
      rw [List.length_append, List.map_append]; exact h1
    · have := row_base hown k e.symm; omega
  cases p with
  | none =>
    obtain rfl : l = [] := by
      rcases h with e | ⟨b, off, e, _⟩
      · exact e
      · cases e
    obtain rfl := hp rfl
    have hrun := run_append_owned_none (P := Tryd.prog) (w := W) hi 22 22 3 i0 1 Tryd.underlying22 hi0 v s.length _ hown
    refine ⟨v, W, hrun, by rw [List.append_nil]; exact hown, Below.refl _ _⟩
  | some a =>
    obtain ⟨v', W', hrun, h1, hg, _⟩ := run_append_own (P := Tryd.prog) W hi 22 22 3 i0 (.int .i64 0) 1 8 Tryd.underlying22 hi0 hz0 hz1 hz2 rfl (by decide) v s.length _ hown
      a l.length cap (l.map (Value.int .i64)) (by simp) (fun j u hu => by
        rw [List.getElem?_map] at hu
        cases hj : l[j]? with
        | none => simp [hj] at hu
        | some x =>
          simp [hj] at hu
          subst hu
          have hjl := (List.getElem?_eq_some_iff.1 hj).1
          obtain ⟨bb, off, e, _, hc⟩ := h.resolve_left (fun e => by rw [e] at hjl; simp at hjl)
          cases e
          have := hc j hjl
          rw [show l.getD j 0 = x by simp [List.getD, hj]] at this
          rw [← this]
          congr 1
          unfold Addr.add
          split <;> simp_all) (fun u hu => by
        obtain ⟨x, _, rfl⟩ := List.mem_map.1 hu
        rfl) (by unfold maxLen; omega) (by omega) hhi
    exact ⟨v', W', hrun, (key v' W' h1 hg).1, (key v' W' h1 hg).2⟩

/-- append onto an empty row without room: nothing that lay is turned. -/
theorem append_fresh (hi b : Nat) (p : Option Addr) (cap : Nat) (l : List Int) (W : World) (hl : l.length ≤ 1000) (hown : OwnL hi W (.slice (some ⟨b, 0, none⟩) 0 0) []) (h : At W p l) (hhi : hi ≤ W.heap.size) :
    ∃ v' W', (Builtin.append_ #[22, 22] 22 #[.slice (some ⟨b, 0, none⟩) 0 0, .slice p l.length cap]).run Tryd.prog W = .ok v' W' ∧ OwnL hi W' v' l ∧ Below W.heap.size W W' := by
  obtain ⟨i0, hi0, hz0, hz1, hz2⟩ := info_parts infoInt
  by_cases hnil : l = []
  · subst hnil
    cases p with
    | none => exact ⟨_, _, append_none b cap W, hown, Below.refl _ _⟩
    | some a =>
      have := run_append_room_cells (P := Tryd.prog) W 22 22 3 i0 Tryd.underlying22 hi0 b 0 0 0 a 0 cap [] (by simp) (fun j u hu => by simp at hu) (fun u hu => by simp at hu) (Nat.le_refl _) (fun j hj => by simp at hj) (fun j hj => by simp at hj)
      exact ⟨_, _, this, hown, Below.refl _ _⟩
  · obtain ⟨bb, off, rfl, hlt, hc⟩ := h.resolve_left hnil
    have hpos : 0 < l.length := List.length_pos_iff.2 hnil
    obtain ⟨v', w', hrun, hown', hg⟩ := run_append_arg_grows (P := Tryd.prog) W 22 22 3 i0 (.int .i64 0) 1 8 Tryd.underlying22 hi0 hz0 hz1 hz2 rfl (by decide) ⟨b, 0, none⟩ 0 0 [] rfl (fun j u hu => by simp at hu)
      ⟨bb, off, none⟩ l.length cap (l.map (Value.int .i64)) (by simp) (fun j u hu => by
        rw [List.getElem?_map] at hu
        cases hj : l[j]? with
        | none => simp [hj] at hu
        | some x =>
          simp [hj] at hu
          subst hu
          have hjl := (List.getElem?_eq_some_iff.1 hj).1
          have := hc j hjl
          rw [show l.getD j 0 = x by simp [List.getD, hj]] at this
          rw [← this]
          congr 1
          unfold Addr.add
          split <;> simp_all) (by omega) (by unfold maxLen; omega) (by omega)
    rw [Nat.zero_add, List.nil_append] at hown'
    exact ⟨v', w', hrun, ownL_less hown' hhi, hg.os, hg.tape, hg.output, hg.size, fun k hk => hg.block k hk (by simp)⟩

/-- The front and the back of a row. -/
theorem cut_front {hi : Nat} {W : World} {v : Value} {s : List Int} (h : OwnL hi W v s) (j : Nat) (hj : j ≤ s.length) (hs : s.length ≤ 1000) :
    ∃ p c, (∀ W', (Instr.sliceAt 22 v none (some (.int .i64 (j : Int))) none).run Tryd.prog W' = .ok (.slice p j c) W') ∧ AtF hi W p (s.take j) := by
  rcases h.2 with ⟨h0, h1⟩ | ⟨g, cap, cur, h0, hb, hg, hc, hm, _⟩
  · obtain rfl : s = [] := List.eq_nil_of_length_eq_zero h1
    obtain rfl : j = 0 := by simpa using hj
    subst h0
    exact ⟨none, 0, fun W' => by kernel_rfl, by simp [AtF]⟩
  · obtain ⟨p, c, hv, hat, _⟩ := ownL_at h
    subst h0
    cases hv
    refine ⟨some ⟨g, 0, none⟩, cap, fun W' => ?_, ?_⟩
    · have h1 : (j : Int) ≤ (cap : Int) := by omega
      unfold maxLen at hm
      simp [go_sem, h1]
    · rcases hat with e | ⟨b, o, e, h2, h3, h4⟩
      · exact .inl (by rw [e]; simp)
      · refine .inr ⟨b, o, e, h2, h3, fun i hi' => ?_⟩
        have : i < j ∧ i < s.length := by simp at hi'; omega
        rw [h4 i this.2]
        simp [List.getD, this.1, this.2]

theorem cut_back {hi : Nat} {W : World} {v : Value} {s : List Int} (h : OwnL hi W v s) (j : Nat) (hj : j ≤ s.length) (hs : s.length ≤ 1000) :
    ∃ p c, (∀ W', (Instr.sliceAt 22 v (some (.int .i64 (j : Int))) none none).run Tryd.prog W' = .ok (.slice p (s.drop j).length c) W') ∧ AtF hi W p (s.drop j) ∧ (p = none → c = 0) := by
  rcases h.2 with ⟨h0, h1⟩ | ⟨g, cap, cur, h0, hb, hg, hc, hm, _⟩
  · obtain rfl : s = [] := List.eq_nil_of_length_eq_zero h1
    obtain rfl : j = 0 := by simpa using hj
    subst h0
    exact ⟨none, 0, fun W' => by kernel_rfl, by simp [AtF], fun _ => rfl⟩
  · obtain ⟨p, c, hv, hat, _⟩ := ownL_at h
    subst h0
    cases hv
    unfold maxLen at hm
    by_cases hcj : cap = j
    · have hlen : s.length = j := by omega
      refine ⟨some ⟨g, 0, none⟩, 0, fun W' => ?_, .inl (by rw [← hlen]; simp), fun h => by cases h⟩
      subst hcj
      rw [show (s.drop cap).length = 0 by simp; omega]
      rw [hlen]
      simp [go_sem]
    · refine ⟨some ⟨g, j, none⟩, cap - j, fun W' => ?_, ?_, fun h => by cases h⟩
      · have h1 : (j : Int) ≤ (s.length : Int) := by omega
        have h2 : (s.length : Int) ≤ (cap : Int) := by omega
        simp [go_sem, h1]
        intro e
        exact absurd e hcj
      · rcases hat with e | ⟨b, o, e, h2, h3, h4⟩
        · exact .inl (by rw [e]; simp)
        · cases e
          refine .inr ⟨g, j, rfl, h2, h3, fun i hi' => ?_⟩
          have hi2 : j + i < s.length := by simp at hi'; omega
          have := h4 (j + i) hi2
          rw [Nat.zero_add] at this
          rw [this]
          simp [List.getD]

end Go.Proofs.YthicbobddopcpaaDoor
