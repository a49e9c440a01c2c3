/- lives, and what is told of tables that there are none of. -/
import Derived.Test.YtmccfcllehfebaaZClone
import Derived.Test.YtmccfcllehfebaaZOwn
namespace Go.Proofs.Ytmccfcllehfebaa.Z
open Go Go.RowKit

/-- A table since 'w0', its own blocks above. -/
structure St (D F : Nat → Prop) (w0 w : World) (tb : Nat) (S : List Sl) : Prop where
  tab : TabAt D F w tb S
  lt : Lt D w
  low : ∀ k, F k → w0.heap.size ≤ k
  below : Below w0.heap.size w0 w
section
variable {D F F' : Nat → Prop} {w0 w w' : World} {tb : Nat} {S S' : List Sl}
theorem Lt.on (h : Lt D w) (hb : Below w.heap.size w w') : Lt D w' := fun k hk => Nat.lt_of_lt_of_le (h k hk) hb.size
theorem Lt.goes (h : Lt D w) (ht : TabAt (Or D F') F' w' tb S) (hg : Goes F F' w w') : Lt (Or D F') w' := fun k hk => by
  rcases hk with h1 | h1
  · exact Nat.lt_of_lt_of_le (h k h1) hg.keep.size
  · exact (ht.sub k h1).2
theorem St.on (h : St D F w0 w tb S) (hb : Below w.heap.size w w') : St D F w0 w' tb S := ⟨h.tab.on hb, h.lt.on hb, h.low, on_trans h.below hb⟩
theorem St.goes (h : St D F w0 w tb S) (ht : TabAt (Or D F') F' w' tb S') (hg : Goes F F' w w') : St (Or D F') F' w0 w' tb S' :=
  ⟨ht, h.lt.goes ht hg, fun k hk => by
    rcases hg.sub k hk with h1 | h1
    · exact h.low k h1
    · exact Nat.le_trans h.below.size h1, hg.below h.below h.low h.below.size⟩
theorem St.made {F : Nat → Prop} {D : Nat → Prop} (hD : Lt D w) (ht : TabAt (Or D F) F w' tb S) (hb : Below w.heap.size w w') (hl : ∀ k, F k → w.heap.size ≤ k) : St (Or D F) F w w' tb S :=
  ⟨ht, fun k hk => by
    rcases hk with h1 | h1
    · exact Nat.lt_of_lt_of_le (hD k h1) hb.size
    · exact (ht.sub k h1).2, hl, hb⟩
end
def noD : Nat → Prop := fun _ => False
theorem lt_no (w : World) : Lt noD w := fun _ h => h.elim
theorem can_full (n : Int) (h : 0 < n) : canS (fullS n) = true := by
  unfold canS fullS
  simp only [decide_eq_true h, Bool.true_and, fc_all]
  rfl
theorem fits2 (n : Nat) : Fits (List.replicate n zS) := Fits.rep n
def oneS : Sl := ⟨7, 1, false, [], 0⟩
set_option maxRecDepth 100000 in
set_option maxHeartbeats 1000000 in
theorem lives_any (w : World) : Calls Try.prog 11 #[] w fun e w' => e = .returned (.bool true) ∧ Below w.heap.size w w' := by
  have cN := new_in noD 2 w (lt_no w) (by decide) (by decide)
  have HPut : Hid (∀ D F w1 tb, St D F w w1 tb [zS, zS] → Calls Try.prog 18 #[ptr tb, .int .i64 0, fullV 7] w1 fun e w' => e = .returned (.tuple #[.int .i64 0, .int .i64 0]) ∧ ∃ D' F', St D' F' w w' tb [fullS 7, zS]) := fun D F w1 tb h => by
    have c := put_any (x := fullS 7) h.tab (Fits.rep 2) h.lt (by decide) 0 none 0 (.inl rfl) (by decide)
    have e1 : putS [zS, zS] 0 (fullS 7) = [fullS 7, zS] := by unfold putS; rw [can_full 7 (by decide)]; rfl
    have e2 : putN [zS, zS] 0 (fullS 7) = 0 := by unfold putN; rw [can_full 7 (by decide)]; rfl
    have e3 : putE [zS, zS] 0 (fullS 7) = 0 := by unfold putE; rw [can_full 7 (by decide)]; rfl
    rw [e1, e2, e3] at c
    exact c.mono fun e w' ⟨h1, F', h2, h3⟩ => ⟨h1, _, F', h.goes h2 h3⟩
  have hfit : Fits [fullS 7, zS] := fun y hy => by
    simp only [List.mem_cons, List.not_mem_nil, or_false] at hy
    rcases hy with rfl | rfl
    · exact ⟨by decide, .inr (can_full 7 (by decide))⟩
    · exact fit_z
  have HLim : Hid (∀ D F w1 tb, St D F w w1 tb [fullS 7, zS] → Calls Try.prog 20 #[ptr tb, .int .i64 0, .int .u32 1] w1 fun e w' => e = .returned (.int .i64 0) ∧ ∃ D' F', St D' F' w w' tb [oneS, zS]) := fun D F w1 tb h => by
    have c := lim_any h.tab hfit 0 1 (by decide)
    have e1 : limS [fullS 7, zS] 0 1 = [oneS, zS] := by rfl
    have e2 : getE [fullS 7, zS] 0 1 = 0 := by rfl
    rw [e1, e2] at c
    exact c.mono fun e w' ⟨h1, F', h2, h3⟩ => ⟨h1, _, F', h.goes h2 h3⟩
  have hfit2 : Fits [oneS, zS] := fun y hy => by
    simp only [List.mem_cons, List.not_mem_nil, or_false] at hy
    rcases hy with rfl | rfl
    · refine ⟨by decide, .inr ?_⟩
      unfold canS oneS
      simp only [fc_zero, Bool.and_true]
      rfl
    · exact fit_z
  have HGet : Hid (∀ D F w1 tb, St D F w w1 tb [oneS, zS] → Calls Try.prog 12 #[ptr tb, .int .i64 0, .int .u32 1] w1 fun e w' => ∃ p c, e = .returned (.tuple #[.agg #[.int .i64 7, .int .u32 1, .bool false, .slice p 0 c, .int .i64 0], .int .i64 0]) ∧ Below w.heap.size w w') := fun D F w1 tb h => by
    have c := get_any h.tab hfit2 h.lt 0 1 (by decide)
    have e1 : getX [oneS, zS] 0 1 = oneS := by rfl
    have e2 : getE [oneS, zS] 0 1 = 0 := by rfl
    rw [e1, e2] at c
    exact c.mono fun e w' ⟨u, h1, h2, v, h3, p, cc, h4, _⟩ => by
      subst h3
      subst h4
      exact ⟨p, cc, h1, on_trans h.below h2⟩
  have HOne : Hid (∀ p c w1, Below w.heap.size w w1 → Calls Try.prog 16 #[.agg #[.int .i64 7, .int .u32 1, .bool false, .slice p 0 c, .int .i64 0], .agg #[.int .i64 7, .int .u32 1, .bool false, .slice none 0 0, .int .i64 0]] w1 fun e w' => e = .returned (.bool true) ∧ Below w.heap.size w w') := fun p c w1 hb =>
    (one_any oneS oneS p none c 0 w1 (.inl rfl) (.inl rfl) (by decide)).mono fun e w' ⟨h1, h2⟩ => ⟨by rw [h1, one_self], on_trans hb h2⟩
  have HFull : Hid (∀ w1, Calls Try.prog 25 #[.int .i64 7] w1 fun e w' => e = .returned (fullV 7) ∧ Below w1.heap.size w1 w') := fun w1 => full_any 7 w1
  clear hfit hfit2
  have HB0 : Hid (∀ w1 o, Below w.heap.size w w1 → Below w.heap.size w (w1.alloc o)) := fun w1 o h => on_trans h (on_alloc _ _)
  go_enter Try.func11, Try.ntmps11
  go_wp2_with fail
  refine cN.mono ?_
  rintro e w1 ⟨tb, F, rfl, ht, hb, hlo⟩
  have HS1 : Hid (St (Or noD F) F w w1 tb [zS, zS]) := St.made (lt_no w) ht hb hlo
  clear ht hb hlo cN
  go_wp2_with fail
  refine (HFull.out _).mono ?_
  rintro e w2 ⟨rfl, hb2⟩
  have HS2 : Hid (St (Or noD F) F w w2 tb [zS, zS]) := HS1.out.on hb2
  clear hb2 HFull HS1
  go_wp2_with fail
  refine (HPut.out _ _ _ _ HS2.out).mono ?_
  rintro e w3 ⟨rfl, D3, F3, h3⟩
  have HS3 : Hid _ := h3
  clear h3 HPut HS2
  go_wp2_with fail
  refine (HLim.out _ _ _ _ HS3.out).mono ?_
  rintro e w4 ⟨rfl, D4, F4, h4⟩
  have HS4 : Hid _ := h4
  clear h4 HLim HS3
  go_wp2_with fail
  refine (HGet.out _ _ _ _ HS4.out).mono ?_
  rintro e w5 ⟨p, c, rfl, hb5⟩
  have HB5 : Hid _ := HB0.out w5 (.cells #[.int .i64 7, .int .u32 1, .bool false, .slice p 0 c, .int .i64 0] 34) hb5
  clear hb5 HGet HS4 HB0
  go_wp2_with fail
  refine (HOne.out p c _ HB5.out).mono ?_
  rintro e w6 ⟨rfl, hb6⟩
  have HB6 : Hid _ := hb6
  clear HB5 HOne hb6
  go_wp2
  go_ret
  exact ⟨rfl, HB6.out⟩

section
variable (fd : Int) (w : World)
set_option maxRecDepth 100000 in
set_option maxHeartbeats 1000000 in
theorem get_nil (need : Int) : Calls Try.prog 12 #[.pointer none, .int .i64 fd, .int .u32 need] w fun e w' => e = .returned (.tuple #[.agg #[.int .i64 0, .int .u32 0, .bool false, .slice none 0 0, .int .i64 0], .int .i64 22]) ∧ Below w.heap.size w w' := by
  have HB : Hid (Below w.heap.size w (w.alloc (.cells #[.int .i64 0, .int .u32 0, .bool false, .slice none 0 0, .int .i64 0] 34))) := on_alloc w _
  have HX : Hid (Blk (w.alloc (.cells #[.int .i64 0, .int .u32 0, .bool false, .slice none 0 0, .int .i64 0] 34)) w.heap.size 34 (slC zS (.slice none 0 0))) := zBlk w
  have cH := held_nil fd (w.alloc (.cells #[.int .i64 0, .int .u32 0, .bool false, .slice none 0 0, .int .i64 0] 34))
  have f := HX.out
  have f0 := f.free 0
  have f1 := f.free 1
  have f2 := f.free 2
  have f3 := f.free 3
  have f4 := f.free 4
  have x0 := f.cell 0 rfl
  have x1 := f.cell 1 rfl
  have x2 := f.cell 2 rfl
  have x3 := f.cell 3 rfl
  have x4 := f.cell 4 rfl
  simp only [zS, Int.natCast_zero] at x0 x1 x2 x3 x4
  clear f
  go_enter Try.func12, Try.ntmps12
  go_wp2_with fail
  generalize w.alloc (.cells #[.int .i64 0, .int .u32 0, .bool false, .slice none 0 0, .int .i64 0] 34) = w0 at *
  refine cH.mono ?_
  rintro e w1 ⟨rfl, rfl⟩
  go_wp2
  exact bodyPost_ret (results_blkT (cs := slC zS (.slice none 0 0)) (v1 := .int .i64 22) Try.isAgg34 infoS rfl _ _ rfl rfl (HX.out.put (slC zS (.slice none 0 0)) rfl)) rfl ⟨rfl, below_but HB.out (but_putL w.heap.size (slC zS (.slice none 0 0)) w1 0) (Nat.le_refl _)⟩
set_option maxRecDepth 100000 in
set_option maxHeartbeats 1000000 in
theorem take_nil : Calls Try.prog 30 #[.pointer none, .int .i64 fd] w fun e w' => e = .returned (.tuple #[.agg #[.int .i64 0, .int .u32 0, .bool false, .slice none 0 0, .int .i64 0], .int .i64 22]) ∧ Below w.heap.size w w' := by
  have HB : Hid (Below w.heap.size w (w.alloc (.cells #[.int .i64 0, .int .u32 0, .bool false, .slice none 0 0, .int .i64 0] 34))) := on_alloc w _
  have HX : Hid (Blk (w.alloc (.cells #[.int .i64 0, .int .u32 0, .bool false, .slice none 0 0, .int .i64 0] 34)) w.heap.size 34 (slC zS (.slice none 0 0))) := zBlk w
  have cH := held_nil fd (w.alloc (.cells #[.int .i64 0, .int .u32 0, .bool false, .slice none 0 0, .int .i64 0] 34))
  have f := HX.out
  have f0 := f.free 0
  have f1 := f.free 1
  have f2 := f.free 2
  have f3 := f.free 3
  have f4 := f.free 4
  have x0 := f.cell 0 rfl
  have x1 := f.cell 1 rfl
  have x2 := f.cell 2 rfl
  have x3 := f.cell 3 rfl
  have x4 := f.cell 4 rfl
  simp only [zS, Int.natCast_zero] at x0 x1 x2 x3 x4
  clear f
  go_enter Try.func30, Try.ntmps30
  go_wp2_with fail
  generalize w.alloc (.cells #[.int .i64 0, .int .u32 0, .bool false, .slice none 0 0, .int .i64 0] 34) = w0 at *
  refine cH.mono ?_
  rintro e w1 ⟨rfl, rfl⟩
  go_wp2
  exact bodyPost_ret (results_blkT (cs := slC zS (.slice none 0 0)) (v1 := .int .i64 22) Try.isAgg34 infoS rfl _ _ rfl rfl (HX.out.put (slC zS (.slice none 0 0)) rfl)) rfl ⟨rfl, below_but HB.out (but_putL w.heap.size (slC zS (.slice none 0 0)) w1 0) (Nat.le_refl _)⟩
set_option maxRecDepth 100000 in
set_option maxHeartbeats 1000000 in
theorem put_nil : Calls Try.prog 18 #[.pointer none, .int .i64 fd, fullV 1] w fun e w' => e = .returned (.tuple #[.int .i64 0, .int .i64 22]) ∧ Below w.heap.size w w' := by
  have HB : Hid (Below w.heap.size w (w.alloc (.cells #[.int .i64 1, .int .u32 4294967295, .bool true, .slice none 0 0, .int .i64 120] 34))) := on_alloc w _
  have hX : Blk (w.alloc (.cells #[.int .i64 1, .int .u32 4294967295, .bool true, .slice none 0 0, .int .i64 120] 34)) w.heap.size 34 [.int .i64 1, .int .u32 4294967295, .bool true, .slice none 0 0, .int .i64 120] := Blk.new w _ [.int .i64 1, .int .u32 4294967295, .bool true, .slice none 0 0, .int .i64 120]
  have cC : Calls Try.prog 46 #[fullV 1] (w.alloc (.cells #[.int .i64 1, .int .u32 4294967295, .bool true, .slice none 0 0, .int .i64 120] 34)) _ := can_any (fullS 1) none 0 _ (.inl rfl) (by decide)
  rw [can_full 1 (by decide)] at cC
  have cF := fun w => free_nil fd w
  have x0 := hX.cell 0 rfl
  have x1 := hX.cell 1 rfl
  have x2 := hX.cell 2 rfl
  have x3 := hX.cell 3 rfl
  have x4 := hX.cell 4 rfl
  clear hX
  go_enter Try.func18, Try.ntmps18
  go_wp2_with fail
  generalize w.alloc (.cells #[.int .i64 1, .int .u32 4294967295, .bool true, .slice none 0 0, .int .i64 120] 34) = w0 at *
  refine cC.mono ?_
  rintro e w1 ⟨rfl, hb1⟩
  have HB1 : Hid (Below w.heap.size w w1) := on_trans HB.out hb1
  clear HB hb1 cC x0 x1 x2 x3 x4
  go_wp2_with fail
  refine (cF _).mono ?_
  rintro e w2 ⟨rfl, rfl⟩
  go_wp2
  go_ret2
  exact ⟨rfl, HB1.out⟩
set_option maxRecDepth 100000 in
set_option maxHeartbeats 1000000 in
theorem set_nil : Calls Try.prog 29 #[.pointer none, .int .i64 fd, fullV 1] w fun e w' => e = .returned (.tuple #[.agg #[.int .i64 0, .int .u32 0, .bool false, .slice none 0 0, .int .i64 0], .bool false, .int .i64 22]) ∧ Below w.heap.size w w' := by
  have HB : Hid (Below w.heap.size w ((w.alloc (.cells #[.int .i64 1, .int .u32 4294967295, .bool true, .slice none 0 0, .int .i64 120] 34)).alloc (.cells #[.int .i64 0, .int .u32 0, .bool false, .slice none 0 0, .int .i64 0] 34))) := on_trans (on_alloc w _) (on_alloc _ _)
  have HZ : Hid (Blk ((w.alloc (.cells #[.int .i64 1, .int .u32 4294967295, .bool true, .slice none 0 0, .int .i64 120] 34)).alloc (.cells #[.int .i64 0, .int .u32 0, .bool false, .slice none 0 0, .int .i64 0] 34)) (w.heap.size + 1) 34 (slC zS (.slice none 0 0))) := by
    have := zBlk (w.alloc (.cells #[.int .i64 1, .int .u32 4294967295, .bool true, .slice none 0 0, .int .i64 120] 34))
    rwa [World.size_alloc] at this
  go_enter Try.func29, Try.ntmps29
  go_wp2
  exact bodyPost_ret (results_blk3 (cs := slC zS (.slice none 0 0)) (v1 := .bool false) (v2 := .int .i64 22) Try.isAgg34 infoS rfl _ _ rfl rfl rfl HZ.out) rfl ⟨rfl, HB.out⟩
end
theorem allK_rep (n k : Nat) : allK (List.replicate n zS) k = [] := by
  unfold allK
  rw [List.map_eq_nil_iff, List.filter_eq_nil_iff]
  intro i _
  unfold liveAt
  rw [List.getD_eq_getElem?_getD, List.getElem?_replicate]
  split <;> simp [zS]

end Go.Proofs.Ytmccfcllehfebaa.Z
