/- The table's iterator: each line's number, and what stands behind it, handed to a loop's body. -/
import Derived.Test.YtgolihipinjfmaaGreatDoorCLines
namespace Go.Proofs.YtgolihipinjfmaaGreatDoor.C
open Go Go.RowKit Go.Shelf
attribute [local go_sem] Oper.semAt_some

theorem lines_tab (n : Nat) (s : ByteArray) (hs : s = byt (restL 0)) (w : World) : CallsIn Fence.wide n Tryz.prog 53 #[.string s] w fun e w' =>
    e = .returned (.func (.func 74) #[] #[.pointer (some ⟨w.heap.size, 0, none⟩)]) ∧ w' = w.alloc (.cells #[.string (byt (restL 0))] 9) := by
  rw [hs]; exact lines_in n _ w

def stT (m : Nat) (A B : World) : Prop := Below m A B
def sxT (m : Nat) (A B : World) : Prop := ∃ row, A.grownBy B row ∧ ∀ r, row = some r → m ≤ r ∧ ∃ o : Obj, A.heap[r]? = some o ∧ o.isCells = false
def kpT (m : Nat) (A B : World) : Prop := A.heap.size ≤ B.heap.size ∧ ∀ b, m ≤ b → b < A.heap.size → B.heap[b]? = A.heap[b]?
theorem kpT.refl (m : Nat) (A : World) : kpT m A A := ⟨Nat.le_refl _, fun _ _ _ => rfl⟩
theorem kpT.trans {m : Nat} {A B C : World} (h : kpT m A B) (k : kpT m B C) : kpT m A C :=
  ⟨Nat.le_trans h.1 k.1, fun b hm hb => (k.2 b hm (Nat.lt_of_lt_of_le hb h.1)).trans (h.2 b hm hb)⟩
theorem kpT.below {m : Nat} {A B : World} (h : Below A.heap.size A B) : kpT m A B := ⟨h.size, fun b _ hb => h.block b hb⟩
theorem kpT.set {m b : Nat} (hb : b < m) (W : World) (v : Value) : kpT m W (W.setCell ⟨b, 0, none⟩ v) :=
  ⟨(KeepsOthers.setCell W ⟨b, 0, none⟩ v).size, fun k hk _ => Below.heap_setCell _ _ _ _ (by show k ≠ b; omega)⟩
theorem kpT.put {m l : Nat} (hl : l < m) (W : World) (o : Obj) : kpT m W (W.putObj l o) :=
  ⟨by simp, fun k hk _ => World.putObj_heap_other (by omega)⟩
theorem kpT.keeps {m : Nat} {A B : World} (h : kpT m A B) : KeepsFrom m A B :=
  ⟨h.1, fun k _o hk ho _ => (h.2 k hk (Array.getElem?_eq_some_iff.1 ho).1).trans ho⟩
theorem sxT.own {α : Type} {m B : Nat} (hm : m ≤ B) {I : List α → World → Prop} (h : ∀ q A C, I q A → sxT m A C → I q C) : OwnFrom B I :=
  fun q A C row hI hg hr => h q A C hI ⟨row, hg, fun r e => ⟨by have := (hr r e).1; omega, (hr r e).2⟩⟩

theorem yield_bool {F : Fence} {m : Nat} {P : Program} {l : Nat} {args : Array Value} {W : World} {X Y : World → Prop}
    (h : YieldAt F m P l args W fun e B => (e = .returned (.bool true) ∧ X B) ∨ (e = .returned (.bool false) ∧ Y B)) :
    YieldAt F m P l args W fun e B => ∃ b, e = .returned (.bool b) ∧ ((b = true ∧ X B) ∨ (b = false ∧ Y B)) :=
  h.mono fun e B hp => by
    rcases hp with ⟨rfl, h⟩ | ⟨rfl, h⟩
    · exact ⟨true, rfl, .inl ⟨rfl, h⟩⟩
    · exact ⟨false, rfl, .inr ⟨rfl, h⟩⟩

set_option maxRecDepth 100000 in
set_option maxHeartbeats 1000000 in
theorem lines_any (n : Nat) (hn : 6 ≤ n) :
    SeqG Fence.wide n Tryz.prog 44 #[] (fun k : Fin 64 => #[.int .i64 ((k.val : Int) + 1), .string (byt (tailL k))])
      (fun _ => True) stT sxT kpT allF := by
  intro l J Jx W _ hJs hJx hY h0
  have hn1 : 1 ≤ n := by omega
  have hd : 1 ≤ n - 1 - 1 := by omega
  have hf : Fence.wide.fn 53 := trivial
  have hfc : Fence.wide.fn 54 := trivial
  have hfn : Fence.wide.fn 33 := trivial
  refine callsIn_of_wp_marks Tryz.func44 rfl trivial ?_ rfl
  simp only [Tryz.ntmps44, List.size_toArray, List.length_cons, List.length_nil, Nat.reduceAdd, Nat.reduceSub, Array.replicate_succ, Array.replicate_zero, List.push_toArray, List.append_toArray, List.nil_append, List.cons_append]
  gi_wp2_with (gi_at_call 53; refine (lines_tab _ _ (by kernel_rfl) _).mono ?_; rintro e w' ⟨rfl, rfl⟩)
  have b1 := (Boxed.new W 76 (.func (.yield l) #[] #[])).alloc (.cells #[.string (byt (restL 0))] 9)
  have b2 := Boxed.new (W.alloc (.cells #[.func (.yield l) #[] #[]] 76)) 9 (.string (byt (restL 0)))
  rw [World.size_alloc] at b2
  have hJ0 := hJs [] W _ h0 (((Below.refl _ W).alloc (Nat.le_refl _) (.cells #[.func (.yield l) #[] #[]] 76)).alloc (by simp) (.cells #[.string (byt (restL 0))] 9))
  have hz : ((W.alloc (.cells #[.func (.yield l) #[] #[]] 76)).alloc (.cells #[.string (byt (restL 0))] 9)).heap.size = W.heap.size + 2 := by simp
  generalize (W.alloc (.cells #[.func (.yield l) #[] #[]] 76)).alloc (.cells #[.string (byt (restL 0))] 9) = W0 at b1 b2 hJ0 hz ⊢
  generalize hm : W.heap.size = m at *
  have hI : OwnFrom W0.heap.size (fun (q : List (Fin 64)) A => J q A ∧ Boxed A m 76 (.func (.yield l) #[] #[]) ∧ m + 2 ≤ A.heap.size) := by
    rintro q A C row ⟨h1, h2, h4⟩ hg hr
    exact ⟨hJs q A C h1 ((Below.refl m A).grown hg (by omega) (fun r e => by have := (hr r e).1; omega)), h2.kept hg (fun e => by have := (hr m e.symm).1; omega), Nat.le_trans h4 hg.size⟩
  refine wpIn_rangeFunc_G rfl hn1 (gf := 74) (lb := #[.pointer (some ⟨m + 1, 0, none⟩)]) rfl trivial (enters_of Tryz.func74 (by kernel_rfl) rfl)
    (lines1 (n - 1) (by omega) (m + 1)) (fun o1 o2 => (b2.alloc o1).alloc o2) (fun _ => rfl)
    (fun r A C hb hs => by obtain ⟨v, rfl⟩ := hs; exact hb.others (((KeepsOthers.setCell _ _ _).trans (KeepsOthers.drew _)).from _)) (fun r A C _ hs => hs.elim)
    (fun A o => World.putObj_heap_other (by omega)) (fun A B C h k => Eq.trans k h)
    (fun q A => J q A ∧ Boxed A m 76 (.func (.yield l) #[] #[]) ∧ m + 2 ≤ A.heap.size) Jx hI
    (fun q A C row h hg hr => hJx q A C h ⟨row, hg, fun r e => ⟨by have := (hr r e).1; omega, (hr r e).2⟩⟩)
    (fun q A C h hs => by obtain ⟨v, rfl⟩ := hs; exact ⟨hJs q A _ h.1 (((Below.refl m A).setCell (p := ⟨m + 1, 0, none⟩) (by simp) v).drew), h.2.1.other (by omega) v, Nat.le_trans h.2.2 ((KeepsOthers.setCell A ⟨m + 1, 0, none⟩ v).trans (KeepsOthers.drew _)).size⟩)
    (fun q A C _ hs => hs.elim) ⟨hJ0, b1, by omega⟩
    (fun k => { tmps := #[.func (.yield l) #[] #[], .pointer (some ⟨m, 0, none⟩), .string (byt (rowL k)), undef, undef, undef, .func (.func 74) #[] #[.pointer (some ⟨m + 1, 0, none⟩)], .string (byt (rowL k)),
      undef, undef, undef, undef, undef, undef, undef, undef, undef, undef, undef, undef], defers := [] }) ?assign ?body ?done ?stop
  case assign =>
    intro l2 x A K hK
    gi_wp2
    exact hK
  case body =>
    rintro l2 pre k A ⟨hJ, hb, hsz⟩
    have hcut := cut_one (byt (rowL k)) (numL k).length (by rw [byt_size]; exact (row_blank k).2) (by rw [byt_size]; have := (row_some k).2; unfold maxLen; omega) (by rw [byt_list]; exact (row_blank k).1)
    rw [row_left, row_right] at hcut
    have hnum := number_any (byt (numL k)) ((k.val : Int) + 1) (by rw [byt_size]; exact (row_num k).2) (by rw [byt_list]; exact (row_num k).1)
    gi_wp2_with (gi_at_call 54; refine (CallsIn.inRound l2 (callsIn_wide.2 (hcut _))).mono ?_; rintro e w' ⟨rfl, nd, rfl⟩)
    have hJ1 : J pre (A.drewN nd) := hJs pre A _ hJ (below_drewN (Below.refl m A) nd)
    have hb1 : Boxed (A.drewN nd) m 76 (.func (.yield l) #[] #[]) := hb
    have hk1 : kpT m A (A.drewN nd) := kpT.refl m A
    have hk2 : kpL (m + 1) m A (A.drewN nd) := rfl
    generalize A.drewN nd = A1 at hJ1 hb1 hk1 hk2 ⊢
    have hc1 := hb1.cell
    have hd2 : 1 ≤ n - 1 - 1 - 1 := by omega
    have mixed : Tryz.prog.follows .mixedOrders = true := by kernel_rfl
    gi_region_with_o (first | (gi_at_call 33; refine (CallsIn.inRound l2 (callsIn_wide.2 (hnum _))).mono ?_; rintro e A2 ⟨rfl, hB2⟩; have hb2 : Boxed A2 m 76 (.func (.yield l) #[] #[]) := (hB2.block m hb1.lt).trans hb1; have hc2 := hb2.cell; have hJ2 : J pre A2 := hJs pre A1 A2 hJ1 ((Below.refl m A1).drew.trans (hB2.mono (Nat.le_of_lt hb1.lt))); obtain ⟨fn1, tm1, as1, bd1, hy, hRd⟩ := yield_any rfl (n - 1 - 1 - 1) (yield_bool (hY pre k A2 hJ2))) | (go_simp; refine RoundIn.mono (show RoundIn (Fence.wide.inRound l2) _ _ _ _ _ _ _ _ _ from hRd) ?_; rintro e A3 ⟨b, rfl, hpost⟩))
    all_goals
      have hk3 : kpT m A A2 := hk1.trans (show kpT m A1 A2 from kpT.below (A := A1.drew) hB2)
      clear hJ1 hb1 hk1 hk2 hc1 hc2 hB2 hJ2 hJ hb hy hRd hcut hnum
      rcases hpost with ⟨rfl, hJ3, hk4⟩ | ⟨rfl, hJx3, hk4⟩
      · have hk5 := hk3.trans hk4
        gi_wp2
        exact ⟨⟨hk5.1, fun r o hr => hk5.keeps.same r o (by omega)⟩, hk5.2 _ (by omega) (by omega), hJ3, (hk4.2 m (Nat.le_refl _) hb2.lt).trans hb2, Nat.le_trans hsz hk5.1⟩
      · have hk5 := hk3.trans hk4
        gi_wp2
        exact ⟨⟨hk5.1, fun r o hr => hk5.keeps.same r o (by omega)⟩, hk5.2 _ (by omega) (by omega), hJx3⟩
  case done =>
    rintro D ys A hD hall ⟨hJ, hb, _⟩ hK
    gi_wp2
    refine ⟨by simp, .inl ⟨_, _, rfl, run_takeDeferred hK, ?_⟩⟩
    refine ⟨_, results_none rfl _ _ _, ⟨_, rfl⟩, .inl ⟨ys, hall, hJs ys A _ hJ ((Below.refl m A).grown (grownBy_putObj' A D (.deferred none)) (Nat.le_of_lt hb.lt) (fun r e => by cases e; omega))⟩⟩
  case stop =>
    rintro D pre A hD hJx1 hK
    gi_wp2
    refine ⟨by simp, .inl ⟨_, _, rfl, run_takeDeferred hK, ?_⟩⟩
    refine ⟨_, results_none rfl _ _ _, ⟨_, rfl⟩, .inr ⟨pre, hJx pre A _ hJx1 ⟨some D, grownBy_putObj' A D (.deferred none), fun r e => by cases e; exact ⟨by omega, _, hK, rfl⟩⟩⟩⟩

end Go.Proofs.YtgolihipinjfmaaGreatDoor.C
