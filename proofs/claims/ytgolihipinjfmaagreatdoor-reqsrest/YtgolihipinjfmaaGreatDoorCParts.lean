/- What calls.parts answers: the parts of a call's line, or none of no call. -/
import Derived.Test.YtgolihipinjfmaaGreatDoorCTable
import Derived.Lib.LaidTab
namespace Go.Proofs.YtgolihipinjfmaaGreatDoor.C
open Go Go.RowKit Go.Shelf
attribute [local go_sem] Oper.semAt_some

/-- The world holds the library's table of blanks. -/
def Sp (w : World) : Prop := Lib.TabIs Tryz.prog w "strings.asciiSpace" .u8 Lib.asciiSpaceTab
theorem gSp : Tryz.prog.globalNamed "strings.asciiSpace" = some 0 := by kernel_rfl
theorem Sp.lt {w : World} (h : Sp w) : 0 < w.heap.size :=
  World.block_lt_of_cell? _ _ (Lib.TabIs.cell h gSp 0 (by decide +kernel))
theorem Sp.below {w W : World} (h : Sp w) (hb : Below w.heap.size w W) : Sp W := by
  have e := hb.block _ h.lt
  unfold Sp Lib.TabIs World.var? at h ⊢
  rw [gSp] at h ⊢
  simp only [Option.bind_some] at h ⊢
  rw [e]; exact h

def parV (k : Fin 64) : Array Value := ((parL k).map fun l => Value.string (byt l)).toArray
def PartsPost (no : Int) (w : World) (e : Ending) (W : World) : Prop :=
  Below w.heap.size w W ∧
    ((∃ k : Fin 64, (k.val : Int) + 1 = no ∧ ∃ g, w.heap.size ≤ g ∧ e = .returned (.slice (some ⟨g, 0, none⟩) (parL k).length (parL k).length) ∧ W.heap[g]? = some (.cells (parV k) 9 (0, 0))) ∨
      ((∀ k : Fin 64, (k.val : Int) + 1 ≠ no) ∧ e = .returned (.slice none 0 0)))

theorem fields_of (k : Fin 64) (w : World) (hs : Sp w) : Calls Tryz.prog 45 #[.string (byt (tailL k))] w fun e w' =>
    e = .returned (.slice (some ⟨w.heap.size, 0, none⟩) (parL k).length (parL k).length) ∧ w' = w.alloc (.cells (parV k) 9) := by
  obtain ⟨h1, h2, h3⟩ := row_pars k
  refine (Tryz.strings_Fields (byt (tailL k)) w (by rw [byt_size]; omega) (fun j b hj => ?_) hs).mono ?_
  · rw [byt_list] at hj
    have := List.all_eq_true.1 h3 b (List.mem_of_getElem? hj)
    simpa using this
  · rintro e w' ⟨rfl, rfl⟩
    rw [byt_list, h1]
    exact ⟨rfl, rfl⟩

set_option maxRecDepth 100000 in
set_option maxHeartbeats 1000000 in
theorem parts_any (no : Int) (w : World) (hs : Sp w) : Calls Tryz.prog 32 #[.int .i64 no] w (PartsPost no w) := by
  refine (callsIn_wide (n := 9)).1 ?_
  refine callsIn_of_wp_marks Tryz.func32 rfl trivial ?_ rfl
  simp only [Tryz.ntmps32, List.size_toArray, List.length_cons, List.length_nil, Nat.reduceAdd, Nat.reduceSub, Array.replicate_succ, Array.replicate_zero, List.push_toArray, List.append_toArray, List.nil_append, List.cons_append]
  gi_wp2
  have b1 := (Boxed.new w 3 (.int .i64 no)).alloc (.cells #[.slice none 0 0] 51)
  have b2 := Boxed.new (w.alloc (.cells #[.int .i64 no] 3)) 51 (.slice none 0 0)
  rw [World.size_alloc] at b2
  have hB := ((Below.refl _ w).alloc (Nat.le_refl _) (.cells #[.int .i64 no] 3)).alloc (by simp) (.cells #[.slice none 0 0] 51)
  have hz : ((w.alloc (.cells #[.int .i64 no] 3)).alloc (.cells #[.slice none 0 0] 51)).heap.size = w.heap.size + 2 := by simp
  generalize (w.alloc (.cells #[.int .i64 no] 3)).alloc (.cells #[.slice none 0 0] 51) = W0 at b1 b2 hB hz ⊢
  obtain ⟨D, hD⟩ : ∃ D, w.heap.size = D := ⟨_, rfl⟩
  rw [hD] at b1 b2 hB hz ⊢
  have hIx : ∀ (q : List (Fin 64)) (A C : World) (row : Option Nat), (∃ k : Fin 64, (k.val : Int) + 1 = no ∧ ∃ g, D + 2 ≤ g ∧ Boxed A (D + 1) 51 (.slice (some ⟨g, 0, none⟩) (parL k).length (parL k).length) ∧ A.heap[g]? = some (.cells (parV k) 9 (0, 0)) ∧ Below D w A) →
      A.grownBy C row → (∀ r, row = some r → D + 2 ≤ r ∧ ∃ o : Obj, A.heap[r]? = some o ∧ o.isCells = false) →
      (∃ k : Fin 64, (k.val : Int) + 1 = no ∧ ∃ g, D + 2 ≤ g ∧ Boxed C (D + 1) 51 (.slice (some ⟨g, 0, none⟩) (parL k).length (parL k).length) ∧ C.heap[g]? = some (.cells (parV k) 9 (0, 0)) ∧ Below D w C) := by
    rintro q A C row ⟨k, hk, g, h1, h2, h3, h4⟩ hg hr
    refine ⟨k, hk, g, h1, h2.kept hg (fun e => by have := (hr _ e.symm).1; omega), ?_, h4.grown hg (by have := h4.size; omega) (fun r e => by have := (hr r e).1; omega)⟩
    refine (hg.block g (Array.getElem?_eq_some_iff.1 h3).1 (fun e => ?_)).trans h3
    obtain ⟨_, o, ho, hc⟩ := hr g e.symm
    rw [h3] at ho; cases ho; cases hc
  refine wpIn_rangeFunc_G rfl (by omega) (gf := 44) (lb := #[]) rfl trivial (enters_of Tryz.func44 (by kernel_rfl) rfl)
    (lines_any 8 (by omega)) (fun _ _ => trivial) (fun _ => rfl)
    (fun r A C hb hs => ⟨(Below.block hs _ (by omega)).trans hb.1, (Below.block hs _ (by omega)).trans hb.2⟩)
    (fun r A C hb hs => by
      obtain ⟨row, hg, hr⟩ := hs
      exact ⟨(hg.block _ (Array.getElem?_eq_some_iff.1 hb.1).1 (fun e => by have := (hr _ e.symm).1; omega)).trans hb.1, (hg.block _ (Array.getElem?_eq_some_iff.1 hb.2).1 (fun e => by have := (hr _ e.symm).1; omega)).trans hb.2⟩)
    (fun A o => kpT.put (by omega) A o) (fun A B C h k => kpT.trans h k)
    (fun q A => (∀ i ∈ q, (i.val : Int) + 1 ≠ no) ∧ Boxed A D 3 (.int .i64 no) ∧ Boxed A (D + 1) 51 (.slice none 0 0) ∧ Below D w A)
    (fun q A => ∃ k : Fin 64, (k.val : Int) + 1 = no ∧ ∃ g, D + 2 ≤ g ∧ Boxed A (D + 1) 51 (.slice (some ⟨g, 0, none⟩) (parL k).length (parL k).length) ∧ A.heap[g]? = some (.cells (parV k) 9 (0, 0)) ∧ Below D w A)
    (fun q A C row h hg hr => ⟨h.1, h.2.1.kept hg (fun e => by have := (hr _ e.symm).1; omega), h.2.2.1.kept hg (fun e => by have := (hr _ e.symm).1; omega), h.2.2.2.grown hg (by have := h.2.2.2.size; omega) (fun r e => by have := (hr r e).1; omega)⟩)
    (fun q A C row h hg hr => hIx q A C row h hg (fun r e => ⟨by have := (hr r e).1; omega, (hr r e).2⟩))
    (fun q A C h hs => ⟨h.1, (Below.block hs D (by omega)).trans h.2.1, (Below.block hs (D + 1) (by omega)).trans h.2.2.1, h.2.2.2.trans (Below.mono hs (by omega))⟩)
    (fun q A C h hs => by
      obtain ⟨row, hg, hr⟩ := hs
      exact hIx q A C row h hg (fun r e => ⟨by have := (hr r e).1; omega, (hr r e).2⟩))
    ⟨fun i hi => by simp at hi, b1, b2, hB⟩
    (fun k => { tmps := #[.int .i64 no, .pointer (some ⟨D, 0, none⟩), .pointer (some ⟨D + 1, 0, none⟩), .int .i64 ((k.val : Int) + 1), .string (byt (tailL k)), .int .i64 ((k.val : Int) + 1), .string (byt (tailL k)), undef, undef, undef, undef, undef], defers := [] }) ?assign ?body ?done ?stop
  case assign =>
    intro l2 x A K hK
    gi_wp2
    exact hK
  case body =>
    rintro l2 pre k A ⟨hno, c1, c2, hBA⟩
    have hcall := fields_of k A (hs.below (by rw [hD]; exact hBA))
    have HN : Hid (∀ i ∈ pre, (i.val : Int) + 1 ≠ no) := hno
    have f1 := c1.cell
    have f2 := c2.cell
    have f3 := c2.frozen
    have hd : 1 ≤ 9 - 1 - 1 := by omega
    have hf : Fence.wide.fn 45 := trivial
    clear hno b1 b2 hB hIx
    by_cases hk : (k.val : Int) + 1 = no
    · have HK : Hid ((k.val : Int) + 1 = no) := hk
      have ht : (((k.val : Int) + 1) == no) = true := by simpa using hk
      clear hk
      have f4 := (c2.alloc (.cells (parV k) 9)).cell
      have f5 := (c2.alloc (.cells (parV k) 9)).frozen
      gi_wp2_with (gi_at_call 45; refine (CallsIn.inRound l2 (callsIn_wide.2 hcall)).mono ?_; rintro e w' ⟨rfl, rfl⟩)
      have hA := hBA.size
      have hl := c2.lt
      refine ⟨((KeepsOthers.alloc _ _).trans (KeepsOthers.setCell _ _ _)).from _, kpT.trans (kpT.below ((Below.refl _ A).alloc (Nat.le_refl _) _)) (kpT.set (by omega) _ _), k, HK.out, A.heap.size, by omega, ?_, ?_, ?_⟩
      · exact (c2.alloc _).set _
      · exact (Below.heap_setCell _ _ _ _ (by show A.heap.size ≠ D + 1; omega)).trans (World.alloc_heap_new A _)
      · exact (hBA.alloc (by omega) _).setCell (p := ⟨D + 1, 0, none⟩) (by show D ≤ D + 1; omega) _
    · have HK : Hid ((k.val : Int) + 1 ≠ no) := hk
      have ht : (((k.val : Int) + 1) == no) = false := by simpa using hk
      clear hk
      gi_wp2
      refine ⟨KeepsFrom.refl _ _, kpT.refl _ _, fun i hi => ?_, c1, c2, hBA⟩
      rcases List.mem_append.1 hi with h | h
      · exact HN.out i h
      · obtain rfl : i = k := by simpa using h
        exact HK.out
  case done =>
    rintro E ys A hE hall ⟨hno, c1, c2, hBA⟩ hK
    have HN : Hid (∀ i ∈ ys, (i.val : Int) + 1 ≠ no) := hno
    clear hno hIx b1 b2 hB
    have f2 := c2.cell
    have f3 := c2.frozen
    gi_wp2
    have hK' := (KeepsOthers.setCell A ⟨D + 1, 0, none⟩ (.slice none 0 0)).same E _ hK rfl
    refine ⟨by simp, .inl ⟨_, _, rfl, run_takeDeferred hK', ?_⟩⟩
    have hne : D + 1 ≠ E := by omega
    have g1 := ((c2.set (.slice none 0 0)).kept (grownBy_putObj' _ E (.deferred none)) (fun e => hne (by cases e; rfl))).cell
    refine ⟨.slice none 0 0, by simp [results, Tryz.f32, go_sem, g1], ?_, .inr ⟨fun k => HN.out k (hall k), rfl⟩⟩
    rw [hD]
    exact (hBA.setCell (p := ⟨D + 1, 0, none⟩) (by show D ≤ D + 1; omega) _).grown (grownBy_putObj' _ E (.deferred none)) (by have := hBA.size; have := c2.lt; simp [World.setCell]; omega) (fun r e => by cases e; omega)
  case stop =>
    rintro E pre A hE ⟨k, hk, g, hg2, c2, hrow, hBA⟩ hK
    clear hIx b1 b2 hB
    have HK : Hid ((k.val : Int) + 1 = no) := hk
    clear hk
    gi_wp2
    refine ⟨by simp, .inl ⟨_, _, rfl, run_takeDeferred hK, ?_⟩⟩
    have hne : D + 1 ≠ E := by omega
    have g1 := (c2.kept (grownBy_putObj' _ E (.deferred none)) (fun e => hne (by cases e; rfl))).cell
    have hge : g ≠ E := by rintro rfl; rw [hK] at hrow; cases hrow
    refine ⟨.slice (some ⟨g, 0, none⟩) (parL k).length (parL k).length, by simp [results, Tryz.f32, go_sem, g1], ?_, .inl ⟨k, HK.out, g, by omega, rfl, (World.putObj_heap_other hge).trans hrow⟩⟩
    rw [hD]
    exact hBA.grown (grownBy_putObj' _ E (.deferred none)) (by have := hBA.size; omega) (fun r e => by cases e; omega)

end Go.Proofs.YtgolihipinjfmaaGreatDoor.C
