/- What calls.Find answers, for every text. -/
import Derived.Test.YtelbmnjcejajiaaDoorCTable
namespace Go.Proofs.YtelbmnjcejajiaaDoor.C
open Go Go.RowKit Go.Shelf
attribute [local go_sem] Oper.semAt_some

def FindPost (s : ByteArray) (w : World) (e : Ending) (W : World) : Prop :=
  Below w.heap.size w W ∧
    ((∃ k : Fin 64, byt (cname k) = s ∧ e = .returned (.tuple #[.int .i64 ((k.val : Int) + 1), .bool true])) ∨
      ((∀ k : Fin 64, byt (cname k) ≠ s) ∧ e = .returned (.tuple #[.int .i64 0, .bool false])))

set_option maxRecDepth 100000 in
set_option maxHeartbeats 1000000 in
theorem find_any (s : ByteArray) (w : World) : Calls Tryd.prog 13 #[.string s] w (FindPost s w) := by
  refine (callsIn_wide (n := 9)).1 ?_
  refine callsIn_of_wp_marks Tryd.func13 rfl trivial ?_ rfl
  simp only [Tryd.ntmps13, List.size_toArray, List.length_cons, List.length_nil, Nat.reduceAdd, Nat.reduceSub, Array.replicate_succ, Array.replicate_zero, List.push_toArray, List.append_toArray, List.nil_append, List.cons_append]
  gi_wp2
  have b1 := ((Boxed.new w 9 (.string s)).alloc (.cells #[.int .i64 0] 3)).alloc (.cells #[.bool false] 4)
  have b2 := (Boxed.new (w.alloc (.cells #[.string s] 9)) 3 (.int .i64 0)).alloc (.cells #[.bool false] 4)
  have b3 := Boxed.new ((w.alloc (.cells #[.string s] 9)).alloc (.cells #[.int .i64 0] 3)) 4 (.bool false)
  simp only [World.size_alloc] at b2 b3
  have hB := (((Below.refl _ w).alloc (Nat.le_refl _) (.cells #[.string s] 9)).alloc (by simp) (.cells #[.int .i64 0] 3)).alloc (by simp; omega) (.cells #[.bool false] 4)
  have hz : (((w.alloc (.cells #[.string s] 9)).alloc (.cells #[.int .i64 0] 3)).alloc (.cells #[.bool false] 4)).heap.size = w.heap.size + 3 := by simp
  generalize ((w.alloc (.cells #[.string s] 9)).alloc (.cells #[.int .i64 0] 3)).alloc (.cells #[.bool false] 4) = W0 at b1 b2 b3 hB hz ⊢
  obtain ⟨D, hD⟩ : ∃ D, w.heap.size = D := ⟨_, rfl⟩
  rw [hD] at b1 b2 b3 hB hz ⊢
  have hIx : ∀ (q : List (Fin 64)) (A C : World) (row : Option Nat), (∃ k : Fin 64, byt (cname k) = s ∧ Boxed A (D + 1) 3 (.int .i64 ((k.val : Int) + 1)) ∧ Boxed A (D + 1 + 1) 4 (.bool true) ∧ Below D w A) →
      A.grownBy C row → (∀ r, row = some r → D + 3 ≤ r ∧ ∃ o : Obj, A.heap[r]? = some o ∧ o.isCells = false) →
      (∃ k : Fin 64, byt (cname k) = s ∧ Boxed C (D + 1) 3 (.int .i64 ((k.val : Int) + 1)) ∧ Boxed C (D + 1 + 1) 4 (.bool true) ∧ Below D w C) := by
    rintro q A C row ⟨k, hk, h1, h2, h4⟩ hg hr
    exact ⟨k, hk, h1.kept hg (fun e => by have := (hr _ e.symm).1; omega), h2.kept hg (fun e => by have := (hr _ e.symm).1; omega), h4.grown hg (by have := h4.size; omega) (fun r e => by have := (hr r e).1; omega)⟩
  refine wpIn_rangeFunc_G rfl (by omega) (gf := 22) (lb := #[]) rfl trivial (enters_of Tryd.func22 (by kernel_rfl) rfl)
    (lines_any 8 (by omega)) (fun _ _ => trivial) (fun _ => rfl)
    (fun r A C hb hs => ⟨(Below.block hs _ (by omega)).trans hb.1, (Below.block hs _ (by omega)).trans hb.2⟩)
    (fun r A C hb hs => by
      obtain ⟨row, hg, hr⟩ := hs
      exact ⟨(hg.block _ (Array.getElem?_eq_some_iff.1 hb.1).1 (fun e => by have := (hr _ e.symm).1; omega)).trans hb.1, (hg.block _ (Array.getElem?_eq_some_iff.1 hb.2).1 (fun e => by have := (hr _ e.symm).1; omega)).trans hb.2⟩)
    (fun A o => kpT.put (by omega) A o) (fun A B C h k => kpT.trans h k)
    (fun q A => (∀ i ∈ q, byt (cname i) ≠ s) ∧ Boxed A D 9 (.string s) ∧ Boxed A (D + 1) 3 (.int .i64 0) ∧ Boxed A (D + 1 + 1) 4 (.bool false) ∧ Below D w A)
    (fun q A => ∃ k : Fin 64, byt (cname k) = s ∧ Boxed A (D + 1) 3 (.int .i64 ((k.val : Int) + 1)) ∧ Boxed A (D + 1 + 1) 4 (.bool true) ∧ Below D w A)
    (fun q A C row h hg hr => ⟨h.1, h.2.1.kept hg (fun e => by have := (hr _ e.symm).1; omega), h.2.2.1.kept hg (fun e => by have := (hr _ e.symm).1; omega), h.2.2.2.1.kept hg (fun e => by have := (hr _ e.symm).1; omega), h.2.2.2.2.grown hg (by have := h.2.2.2.2.size; omega) (fun r e => by have := (hr r e).1; omega)⟩)
    (fun q A C row h hg hr => hIx q A C row h hg (fun r e => ⟨by have := (hr r e).1; omega, (hr r e).2⟩))
    (fun q A C h hs => ⟨h.1, (Below.block hs D (by omega)).trans h.2.1, (Below.block hs (D + 1) (by omega)).trans h.2.2.1, (Below.block hs (D + 1 + 1) (by omega)).trans h.2.2.2.1, h.2.2.2.2.trans (Below.mono hs (by omega))⟩)
    (fun q A C h hs => by
      obtain ⟨row, hg, hr⟩ := hs
      exact hIx q A C row h hg (fun r e => ⟨by have := (hr r e).1; omega, (hr r e).2⟩))
    ⟨fun i hi => by simp at hi, b1, b2, b3, hB⟩
    (fun k => { tmps := #[.string s, .pointer (some ⟨D, 0, none⟩), .pointer (some ⟨D + 1, 0, none⟩), .pointer (some ⟨D + 1 + 1, 0, none⟩), .int .i64 ((k.val : Int) + 1), .string (byt (tailL k)), undef, undef, undef, .int .i64 ((k.val : Int) + 1), .string (byt (tailL k)), undef, undef, undef, undef, undef, undef, undef, undef, undef, undef], defers := [] }) ?assign ?body ?done ?stop
  case assign =>
    intro l2 x A K hK
    gi_wp2
    exact hK
  case body =>
    rintro l2 pre k A ⟨hno, c1, c2, c3, hBA⟩
    have hcut := cut_one (byt (tailL k)) (cname k).length (by rw [byt_size]; exact (tail_blank k).2.1) (by rw [byt_size]; have := (row_pars k).2.1; unfold maxLen; omega) (by rw [byt_list]; exact (tail_blank k).1)
    rw [tail_left] at hcut
    have HN : Hid (∀ i ∈ pre, byt (cname i) ≠ s) := hno
    have f1 := c1.cell
    have f2 := c2.cell
    have f3 := c2.frozen
    have f4 := c3.cell
    have f5 := c3.frozen
    have hd : 1 ≤ 9 - 1 - 1 := by omega
    have hf : Fence.wide.fn 23 := trivial
    clear hno b1 b2 b3 hB hIx
    by_cases hk : byt (cname k) = s
    · have HK : Hid (byt (cname k) = s) := hk
      have ht : ((byt (cname k)).toList == s.toList) = true := by rw [hk]; exact beq_self_eq_true _
      clear hk
      gi_wp2_with (gi_at_call 23; refine (CallsIn.inRound l2 (callsIn_wide.2 (hcut _))).mono ?_; rintro e w' ⟨rfl, nd, rfl⟩)
      have e2 : Boxed (A.drewN nd) (D + 1) 3 (.int .i64 0) := c2
      have e3 : Boxed (A.drewN nd) (D + 1 + 1) 4 (.bool false) := c3
      have eB := below_drewN hBA nd
      have ek : kpT (W0.heap.size + 2) A (A.drewN nd) := kpT.refl _ A
      have eK : KeepsOthers A (A.drewN nd) := ⟨Nat.le_refl _, fun _ _ h _ => h⟩
      refine ⟨(eK.trans ((KeepsOthers.setCell _ _ _).trans (KeepsOthers.setCell _ _ _))).from _, ek.trans ((kpT.set (by omega) _ _).trans (kpT.set (by omega) _ _)), k, HK.out, (e2.set _).other (by omega) _, (e3.other (by omega) _).set _, ?_⟩
      exact (eB.setCell (p := ⟨D + 1, 0, none⟩) (by show D ≤ D + 1; omega) _).setCell (p := ⟨D + 1 + 1, 0, none⟩) (by show D ≤ D + 1 + 1; omega) _
    · have HK : Hid (byt (cname k) ≠ s) := hk
      have ht : ((byt (cname k)).toList == s.toList) = false := by
        rw [beq_eq_false_iff_ne, ByteArray.toList_eq, ByteArray.toList_eq]; exact fun e => hk (bytes_eq e)
      clear hk
      gi_wp2_with (gi_at_call 23; refine (CallsIn.inRound l2 (callsIn_wide.2 (hcut _))).mono ?_; rintro e w' ⟨rfl, nd, rfl⟩)
      refine ⟨⟨Nat.le_refl _, fun _ _ _ h _ => h⟩, kpT.refl _ A, fun i hi => ?_, c1, c2, c3, below_drewN hBA nd⟩
      rcases List.mem_append.1 hi with h | h
      · exact HN.out i h
      · obtain rfl : i = k := by simpa using h
        exact HK.out
  case done =>
    rintro E ys A hE hall ⟨hno, c1, c2, c3, hBA⟩ hK
    have HN : Hid (∀ i ∈ ys, byt (cname i) ≠ s) := hno
    clear hno hIx b1 b2 b3 hB
    have f2 := c2.cell
    have f3 := c2.frozen
    have f4 := c3.cell
    have f5 := c3.frozen
    gi_wp2
    have hK' := ((KeepsOthers.setCell A ⟨D + 1, 0, none⟩ (.int .i64 0)).trans (KeepsOthers.setCell _ ⟨D + 1 + 1, 0, none⟩ (.bool false))).same E _ hK rfl
    refine ⟨by simp, .inl ⟨_, _, rfl, run_takeDeferred hK', ?_⟩⟩
    have hne : D + 1 ≠ E := by omega
    have hne2 : D + 1 + 1 ≠ E := by omega
    have g1 := (((c2.set (.int .i64 0)).other (B' := D + 1 + 1) (by omega) (.bool false)).kept (grownBy_putObj' _ E (.deferred none)) (fun e => hne (by cases e; rfl))).cell
    have g2 := (((c3.other (B' := D + 1) (by omega) (.int .i64 0)).set (.bool false)).kept (grownBy_putObj' _ E (.deferred none)) (fun e => hne2 (by cases e; rfl))).cell
    refine ⟨.tuple #[.int .i64 0, .bool false], by simp [results, Tryd.f13, go_sem, g1, g2], ?_, .inr ⟨fun k => HN.out k (hall k), rfl⟩⟩
    rw [hD]
    exact ((hBA.setCell (p := ⟨D + 1, 0, none⟩) (by show D ≤ D + 1; omega) _).setCell (p := ⟨D + 1 + 1, 0, none⟩) (by show D ≤ D + 1 + 1; omega) _).grown (grownBy_putObj' _ E (.deferred none)) (by have := hBA.size; have := c2.lt; simp [World.setCell]; omega) (fun r e => by cases e; omega)
  case stop =>
    rintro E pre A hE ⟨k, hk, c2, c3, hBA⟩ hK
    clear hIx b1 b2 b3 hB
    have HK : Hid (byt (cname k) = s) := hk
    clear hk
    gi_wp2
    refine ⟨by simp, .inl ⟨_, _, rfl, run_takeDeferred hK, ?_⟩⟩
    have hne : D + 1 ≠ E := by omega
    have hne2 : D + 1 + 1 ≠ E := by omega
    have g1 := (c2.kept (grownBy_putObj' _ E (.deferred none)) (fun e => hne (by cases e; rfl))).cell
    have g2 := (c3.kept (grownBy_putObj' _ E (.deferred none)) (fun e => hne2 (by cases e; rfl))).cell
    refine ⟨.tuple #[.int .i64 ((k.val : Int) + 1), .bool true], by simp [results, Tryd.f13, go_sem, g1, g2], ?_, .inl ⟨k, HK.out, rfl⟩⟩
    rw [hD]
    exact hBA.grown (grownBy_putObj' _ E (.deferred none)) (by have := hBA.size; omega) (fun r e => by cases e; omega)

end Go.Proofs.YtelbmnjcejajiaaDoor.C
