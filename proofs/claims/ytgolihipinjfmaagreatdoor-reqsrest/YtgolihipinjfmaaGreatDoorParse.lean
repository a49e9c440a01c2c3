/- What rights.Parse answers, for every text. -/
import Derived.Test.YtgolihipinjfmaaGreatDoorSplit
import Derived.Test.YtgolihipinjfmaaGreatDoorBit
import Derived.Laws.BitsAllLaws
namespace Go.Proofs.YtgolihipinjfmaaGreatDoor
open Go Go.RowKit Go.Shelf
attribute [local go_sem] Oper.semAt_some

theorem Nm.below {w W : World} (h : Nm w) (hb : Below w.heap.size w W) : Nm W := by
  obtain ⟨t, fr, hg⟩ := h
  exact ⟨t, fr, (hb.block _ (Array.getElem?_eq_some_iff.1 hg).1).trans hg⟩

theorem splitSeq_in (n : Nat) (s : ByteArray) (w : World) : CallsIn Fence.wide n Tryz.prog 47 #[.string s, .string ⟨#[44]⟩] w fun e w' =>
    e = .returned (.func (.func 83) #[] #[.pointer (some ⟨w.heap.size + 1, 0, none⟩), .pointer (some ⟨w.heap.size, 0, none⟩), .pointer (some ⟨w.heap.size + 1 + 1, 0, none⟩)]) ∧
    w' = ((w.alloc (.cells #[.string s] 9)).alloc (.cells #[.string ⟨#[44]⟩] 9)).alloc (.cells #[.int .i64 0] 3) := by
  refine callsIn_wide.2 ?_
  go_enter Tryz.func47, Tryz.ntmps47
  go_wp2
  go_ret
  exact ⟨rfl, rfl⟩

set_option maxRecDepth 100000 in
set_option maxHeartbeats 1000000 in
theorem parse_none (w : World) : Calls Tryz.prog 34 #[.string noneB] w fun e w' => e = .returned (.tuple #[.int .u32 0, .int .i64 0]) ∧ Below w.heap.size w w' := by
  unfold noneB
  go_enter Tryz.func34, Tryz.ntmps34
  go_wp2
  exact bodyPost_ret (v := .tuple #[.int .u32 0, .int .i64 0]) (by simp [results, Tryz.results34, go_sem]) rfl ⟨rfl, ((Below.refl _ _).alloc (Nat.le_refl _) _).alloc (by simp) _⟩
set_option maxRecDepth 100000 in
set_option maxHeartbeats 1000000 in
theorem parse_all (w : World) : Calls Tryz.prog 34 #[.string allB] w fun e w' => e = .returned (.tuple #[.int .u32 4294967295, .int .i64 0]) ∧ Below w.heap.size w w' := by
  unfold allB
  go_enter Tryz.func34, Tryz.ntmps34
  go_wp2
  exact bodyPost_ret (v := .tuple #[.int .u32 4294967295, .int .i64 0]) (by simp [results, Tryz.results34, go_sem]) rfl ⟨rfl, ((Below.refl _ _).alloc (Nat.le_refl _) _).alloc (by simp) _⟩

def pI (w : World) (pre : List ByteArray) (W : World) : Prop :=
  ∃ a : Nat, accP pre = some a ∧ a < 4294967296 ∧ Boxed W w.heap.size 34 (.int .u32 0) ∧ Boxed W (w.heap.size + 1) 27 (.int .i64 0) ∧ Boxed W (w.heap.size + 1 + 1) 34 (.int .u32 (a : Int)) ∧ Below w.heap.size w W
def pX (w : World) (c : Code) (pre : List ByteArray) (W : World) : Prop :=
  c = .ret ∧ accP pre = none ∧ Boxed W w.heap.size 34 (.int .u32 0) ∧ Boxed W (w.heap.size + 1) 27 (.int .i64 22) ∧ Below w.heap.size w W

theorem boxed_from {A B : World} {row : Option Nat} {b D : Nat} {t : TypeId} {v : Value} (h : Boxed A b t v) (hg : A.grownBy B row) (hr : ∀ r, row = some r → D ≤ r ∧ ∃ o : Obj, A.heap[r]? = some o ∧ o.isCells = false) (hb : b < D) : Boxed B b t v :=
  h.kept hg (fun e => by have := (hr b e.symm).1; omega)
theorem pI_own (w : World) (D : Nat) (hD : w.heap.size + 1 + 1 < D) : OwnFrom D (pI w) := by
  rintro s A B row ⟨a, h1, h2, h3, h4, h5, h6⟩ hg hr
  exact ⟨a, h1, h2, boxed_from h3 hg hr (by omega), boxed_from h4 hg hr (by omega), boxed_from h5 hg hr (by omega), h6.grown hg h6.size (fun k e => by have := (hr k e).1; omega)⟩
theorem pX_own (w : World) (D : Nat) (hD : w.heap.size + 1 + 1 < D) (c : Code) : OwnFrom D (pX w c) := by
  rintro s A B row ⟨h1, h2, h3, h4, h6⟩ hg hr
  exact ⟨h1, h2, boxed_from h3 hg hr (by omega), boxed_from h4 hg hr (by omega), h6.grown hg h6.size (fun k e => by have := (hr k e).1; omega)⟩
theorem pI_st (w : World) (q : List ByteArray) (A : World) (v : Value) (h : pI w q A) : pI w q (A.setCell ⟨w.heap.size + 1 + 1 + 1, 0, none⟩ v) := by
  obtain ⟨a, h1, h2, h3, h4, h5, h6⟩ := h
  exact ⟨a, h1, h2, h3.other (by omega) _, h4.other (by omega) _, h5.other (by omega) _, h6.setCell (p := ⟨w.heap.size + 1 + 1 + 1, 0, none⟩) (by simp; omega) _⟩

theorem kp_set {B b : Nat} (W : World) (v : Value) (h : b < B) : Same (spAt B) W (W.setCell ⟨b, 0, none⟩ v) := fun k hk => by
  refine Below.heap_setCell _ _ _ _ ?_
  rcases hk with rfl | rfl | rfl <;> simp <;> omega

theorem or_fresh {a i : Nat} (ha : a < 2 ^ i) (hi : i < 32) : bits .or .u32 (a : Int) ((2 ^ i : Nat) : Int) = ((a + 2 ^ i : Nat) : Int) := by
  have h2 : 2 ^ i ≤ 2 ^ 31 := Nat.pow_le_pow_right (by omega) (by omega)
  rw [u32_or_nat _ _ (by omega) (by omega), Nat.or_comm, nat_join i _ _ (Nat.mod_self _) ha, Nat.add_comm]

set_option maxRecDepth 100000 in
set_option maxHeartbeats 2000000 in
theorem parse_other (n : Nat) (hn : 4 ≤ n) (s : ByteArray) (w : World) (hnm : Nm w) (hs : s.size ≤ maxLen) (h1 : s ≠ noneB) (h2 : s ≠ allB) :
    CallsIn Fence.wide n Tryz.prog 34 #[.string s] w fun e w' =>
      e = .returned (.tuple #[.int .u32 (parsePairs s).1, .int .i64 (parsePairs s).2]) ∧ Below w.heap.size w w' := by
  have hn1 : 1 ≤ n := by omega
  have hd : 1 ≤ n - 1 - 1 := by omega
  have hf : Fence.wide.fn 47 := trivial
  have hfb : Fence.wide.fn 48 := trivial
  have hb1 : (s.toList == [110, 111, 110, 101]) = false := by rw [beq_eq_false_iff_ne, ByteArray.toList_eq]; exact fun e => h1 (bytes_eq e)
  have hb2 : (s.toList == [97, 108, 108]) = false := by rw [beq_eq_false_iff_ne, ByteArray.toList_eq]; exact fun e => h2 (bytes_eq e)
  have HV : Hid (parsePairs s = finP (accP (pieces s))) := by
    show parsePairs s = _
    unfold parsePairs; rw [if_neg h1, if_neg h2]
  clear h1 h2
  refine callsIn_of_wp_marks Tryz.func34 rfl trivial ?_ rfl
  simp only [Tryz.ntmps34, List.size_toArray, List.length_cons, List.length_nil, Nat.reduceAdd, Nat.reduceSub, Array.replicate_succ, Array.replicate_zero, List.push_toArray, List.append_toArray, List.nil_append, List.cons_append]
  gi_wp2_with (gi_at_call 47; refine (splitSeq_in _ _ _).mono ?_; rintro e w' ⟨rfl, rfl⟩)
  clear hb1 hb2 hf
  have b0 := Boxed.new w 34 (.int .u32 0)
  have b1 := Boxed.new (w.alloc (.cells #[.int .u32 0] 34)) 27 (.int .i64 0)
  have b2 := Boxed.new ((w.alloc (.cells #[.int .u32 0] 34)).alloc (.cells #[.int .i64 0] 27)) 34 (.int .u32 0)
  have b3 := Boxed.new (((w.alloc (.cells #[.int .u32 0] 34)).alloc (.cells #[.int .i64 0] 27)).alloc (.cells #[.int .u32 0] 34)) 9 (.string s)
  have b4 := Boxed.new ((((w.alloc (.cells #[.int .u32 0] 34)).alloc (.cells #[.int .i64 0] 27)).alloc (.cells #[.int .u32 0] 34)).alloc (.cells #[.string s] 9)) 9 (.string ⟨#[44]⟩)
  have b5 := Boxed.new (((((w.alloc (.cells #[.int .u32 0] 34)).alloc (.cells #[.int .i64 0] 27)).alloc (.cells #[.int .u32 0] 34)).alloc (.cells #[.string s] 9)).alloc (.cells #[.string ⟨#[44]⟩] 9)) 3 (.int .i64 0)
  simp only [World.size_alloc] at b1 b2 b3 b4 b5
  replace b0 := ((((b0.alloc (.cells #[.int .i64 0] 27)).alloc (.cells #[.int .u32 0] 34)).alloc (.cells #[.string s] 9)).alloc (.cells #[.string ⟨#[44]⟩] 9)).alloc (.cells #[.int .i64 0] 3)
  replace b1 := (((b1.alloc (.cells #[.int .u32 0] 34)).alloc (.cells #[.string s] 9)).alloc (.cells #[.string ⟨#[44]⟩] 9)).alloc (.cells #[.int .i64 0] 3)
  replace b2 := ((b2.alloc (.cells #[.string s] 9)).alloc (.cells #[.string ⟨#[44]⟩] 9)).alloc (.cells #[.int .i64 0] 3)
  replace b3 := (b3.alloc (.cells #[.string ⟨#[44]⟩] 9)).alloc (.cells #[.int .i64 0] 3)
  replace b4 := b4.alloc (.cells #[.int .i64 0] 3)
  have hB0 : Below w.heap.size w ((((((w.alloc (.cells #[.int .u32 0] 34)).alloc (.cells #[.int .i64 0] 27)).alloc (.cells #[.int .u32 0] 34)).alloc (.cells #[.string s] 9)).alloc (.cells #[.string ⟨#[44]⟩] 9)).alloc (.cells #[.int .i64 0] 3)) :=
    ((((((Below.refl _ w).alloc (Nat.le_refl _) _).alloc (by simp) _).alloc (by simp; omega) _).alloc (by simp; omega) _).alloc (by simp; omega) _).alloc (by simp; omega) _
  have hsz : ((((((w.alloc (.cells #[.int .u32 0] 34)).alloc (.cells #[.int .i64 0] 27)).alloc (.cells #[.int .u32 0] 34)).alloc (.cells #[.string s] 9)).alloc (.cells #[.string ⟨#[44]⟩] 9)).alloc (.cells #[.int .i64 0] 3)).heap.size = w.heap.size + 6 := by simp
  refine wpIn_rangeFunc_cell rfl hn1 (gf := 83) (lb := #[.pointer (some ⟨w.heap.size + 1 + 1 + 1 + 1, 0, none⟩), .pointer (some ⟨w.heap.size + 1 + 1 + 1, 0, none⟩), .pointer (some ⟨w.heap.size + 1 + 1 + 1 + 1 + 1, 0, none⟩)]) rfl trivial (enters_of Tryz.func83 (by kernel_rfl) rfl)
    (split1 (n - 1) (by omega) (w.heap.size + 1 + 1 + 1) s hs) (fun o1 o2 => ⟨((b3.alloc o1).alloc o2).cell, ((b3.alloc o1).alloc o2).frozen, ((b4.alloc o1).alloc o2).cell, ((b5.alloc o1).alloc o2).cell⟩)
    (fun b hb => by rcases hb with rfl | rfl | rfl <;> simp) (fun _ => rfl)
    (pI w) (pX w) (pI_own w _ (by omega)) (fun c => pX_own w _ (by omega) c) (pI_st w) ⟨0, rfl, by omega, b0, b1, b2, hB0⟩
    (fun x => { tmps := #[.string s, undef, .pointer (some ⟨w.heap.size, 0, none⟩), .pointer (some ⟨w.heap.size + 1, 0, none⟩), .pointer (some ⟨w.heap.size + 1 + 1, 0, none⟩), .string x, undef, undef, .string s, .bool false, .bool false, .bool false, .bool false, .string s,
      .func (.func 83) #[] #[.pointer (some ⟨w.heap.size + 1 + 1 + 1 + 1, 0, none⟩), .pointer (some ⟨w.heap.size + 1 + 1 + 1, 0, none⟩), .pointer (some ⟨w.heap.size + 1 + 1 + 1 + 1 + 1, 0, none⟩)], .string x,
      undef, undef, undef, undef, undef, undef, undef, undef, undef, undef, undef, undef, undef, undef, undef, undef, undef, undef], defers := [] }) ?assign ?body ?done ?stop
  case assign =>
    intro l x W K hK
    gi_wp2
    exact hK
  case body =>
    rintro l pre x W ⟨a, ha, hlt, c0, c1, c2, hB⟩
    have hN := hnm.below hB
    clear hB0 hsz b0 b1 b2 b3 b4 b5
    have f0 := c0.cell
    have f1 := c0.frozen
    have f2 := c1.cell
    have f3 := c1.frozen
    have f4 := c2.cell
    have f5 := c2.frozen
    cases hok : bitOk x with
    | false =>
      have HA : Hid (accP (pre ++ [x]) = none) := show _ = _ by rw [accP_snoc, ha]; simp [stepP, hok]
      have hcall := bit_any x W hN
      rw [hok] at hcall
      clear ha hok
      gi_wp2_with (gi_at_call 48; refine (CallsIn.inRound l (callsIn_wide.2 hcall)).mono ?_; rintro e w' ⟨rfl, rfl⟩)
      exact ⟨(KeepsOthers.setCell _ _ _).trans (KeepsOthers.setCell _ _ _), rfl, HA.out, (c0.set _).other (by omega) _, (c1.other (by omega) _).set _, (hB.setCell (p := ⟨w.heap.size, 0, none⟩) (Nat.le_refl _) _).setCell (p := ⟨w.heap.size + 1, 0, none⟩) (by simp) _⟩
    | true =>
      have hi : bitAt x < 32 := by simpa [bitOk] using hok
      have hcall := bit_any x W hN
      rw [hok, bitVal_nat] at hcall
      obtain ⟨p, hp⟩ : ∃ p, bitNat x = p := ⟨_, rfl⟩
      rw [hp] at hcall
      by_cases hap : a < p
      · have hpe : p = 2 ^ bitAt x := by rw [← hp]; unfold bitNat; rw [if_pos hi]
        have HA : Hid (accP (pre ++ [x]) = some (a + p)) := show _ = _ by rw [accP_snoc, ha]; simp [stepP, hok, hp, hap]
        have HL : a + p < 4294967296 := stepP_lt (a := a) (x := x) (by rw [← ha, ← accP_snoc]; exact HA.out)
        have hor : bits .or .u32 (a : Int) (p : Int) = (a : Int) + (p : Int) := by
          rw [hpe, or_fresh (by rw [← hpe]; exact hap) hi]; simp
        clear ha hok hp hpe hi
        gi_wp2_with (gi_at_call 48; refine (CallsIn.inRound l (callsIn_wide.2 hcall)).mono ?_; rintro e w' ⟨rfl, rfl⟩)
        exact ⟨KeepsOthers.setCell _ _ _, kp_set _ _ (by omega), a + p, HA.out, HL, c0.other (by omega) _, c1.other (by omega) _, by have := c2.set (.int .u32 ((a : Int) + (p : Int))); simpa using this, hB.setCell (p := ⟨w.heap.size + 1 + 1, 0, none⟩) (by simp; omega) _⟩
      · have HA : Hid (accP (pre ++ [x]) = none) := show _ = _ by rw [accP_snoc, ha]; simp [stepP, hok, hp, hap]
        clear ha hok hp hi
        gi_wp2_with (gi_at_call 48; refine (CallsIn.inRound l (callsIn_wide.2 hcall)).mono ?_; rintro e w' ⟨rfl, rfl⟩)
        exact ⟨(KeepsOthers.setCell _ _ _).trans (KeepsOthers.setCell _ _ _), rfl, HA.out, (c0.set _).other (by omega) _, (c1.other (by omega) _).set _, (hB.setCell (p := ⟨w.heap.size, 0, none⟩) (Nat.le_refl _) _).setCell (p := ⟨w.heap.size + 1, 0, none⟩) (by simp) _⟩
  case done =>
    rintro D ys W hD rfl ⟨a, ha, hlt, c0, c1, c2, hB⟩ hK
    clear hB0 b0 b1 b2 b3 b4 b5
    have hD0 : w.heap.size ≠ D := by omega
    have hD1 : w.heap.size + 1 ≠ D := by omega
    have f0 := c0.cell
    have f1 := c0.frozen
    have f2 := c1.cell
    have f3 := c1.frozen
    have f4 := c2.cell
    have f5 := c2.frozen
    by_cases he : a = 4294967295
    · have HV2 : Hid (parsePairs s = (0, 22)) := show _ = _ by rw [HV.out, ha, he]; rfl
      subst he
      clear HV ha
      gi_wp2
      have hK' := ((KeepsOthers.setCell W ⟨w.heap.size, 0, none⟩ (.int .u32 0)).trans (KeepsOthers.setCell _ ⟨w.heap.size + 1, 0, none⟩ (.int .i64 22))).same D _ hK rfl
      have d0 : Boxed _ _ _ _ := (c0.set (.int .u32 0)).other (B' := w.heap.size + 1) (by omega) (.int .i64 22)
      have d1 : Boxed _ _ _ _ := (c1.other (B' := w.heap.size) (by omega) (.int .u32 0)).set (.int .i64 22)
      have hB' := (hB.setCell (p := ⟨w.heap.size, 0, none⟩) (Nat.le_refl _) (.int .u32 0)).setCell (p := ⟨w.heap.size + 1, 0, none⟩) (by simp) (.int .i64 22)
      refine ⟨by simp, .inl ⟨_, _, rfl, run_takeDeferred hK', ?_⟩⟩
      have g0 := (d0.kept (grownBy_putObj' _ D (.deferred none)) (fun e => hD0 (by cases e; rfl))).cell
      have g1 := (d1.kept (grownBy_putObj' _ D (.deferred none)) (fun e => hD1 (by cases e; rfl))).cell
      refine ⟨.tuple #[.int .u32 0, .int .i64 22], ?_, by rw [HV2.out]; rfl, hB'.trans (belowK_b (w := w) (Nat.le_refl _) _ D _ _ (by omega) hK' rfl rfl)⟩
      simp [results, Tryz.f34, go_sem, g0, g1]
    · have HV2 : Hid (parsePairs s = (a, 0)) := show _ = _ by rw [HV.out, ha]; simp [finP, he]
      have hbe : (((a : Nat) : Int) == 4294967295) = false := by rw [beq_eq_false_iff_ne]; omega
      clear HV ha he
      gi_wp2
      have hK' := ((KeepsOthers.setCell W ⟨w.heap.size, 0, none⟩ (.int .u32 (a : Int))).trans (KeepsOthers.setCell _ ⟨w.heap.size + 1, 0, none⟩ (.int .i64 0))).same D _ hK rfl
      have d0 : Boxed _ _ _ _ := (c0.set (.int .u32 (a : Int))).other (B' := w.heap.size + 1) (by omega) (.int .i64 0)
      have d1 : Boxed _ _ _ _ := (c1.other (B' := w.heap.size) (by omega) (.int .u32 (a : Int))).set (.int .i64 0)
      have hB' := (hB.setCell (p := ⟨w.heap.size, 0, none⟩) (Nat.le_refl _) (.int .u32 (a : Int))).setCell (p := ⟨w.heap.size + 1, 0, none⟩) (by simp) (.int .i64 0)
      refine ⟨by simp, .inl ⟨_, _, rfl, run_takeDeferred hK', ?_⟩⟩
      have g0 := (d0.kept (grownBy_putObj' _ D (.deferred none)) (fun e => hD0 (by cases e; rfl))).cell
      have g1 := (d1.kept (grownBy_putObj' _ D (.deferred none)) (fun e => hD1 (by cases e; rfl))).cell
      refine ⟨.tuple #[.int .u32 (a : Int), .int .i64 0], ?_, by rw [HV2.out], hB'.trans (belowK_b (w := w) (Nat.le_refl _) _ D _ _ (by omega) hK' rfl rfl)⟩
      simp [results, Tryz.f34, go_sem, g0, g1]
  case stop =>
    rintro D c pre W hD hpre ⟨rfl, ha, c0, c1, hB⟩ hK
    have HV2 : Hid (parsePairs s = (0, 22)) := show _ = _ by rw [HV.out, accP_stop hpre ha]; rfl
    clear HV ha hB0 b0 b1 b2 b3 b4 b5
    have hD0 : w.heap.size ≠ D := by omega
    have hD1 : w.heap.size + 1 ≠ D := by omega
    gi_wp2
    have hK' := hK
    have d0 := c0
    have d1 := c1
    have hB' := hB
    refine ⟨by simp, .inl ⟨_, _, rfl, run_takeDeferred hK', ?_⟩⟩
    have g0 := (d0.kept (grownBy_putObj' _ D (.deferred none)) (fun e => hD0 (by cases e; rfl))).cell
    have g1 := (d1.kept (grownBy_putObj' _ D (.deferred none)) (fun e => hD1 (by cases e; rfl))).cell
    refine ⟨.tuple #[.int .u32 0, .int .i64 22], ?_, by rw [HV2.out]; rfl, hB'.trans (belowK_b (w := w) (Nat.le_refl _) _ D _ _ (by omega) hK' rfl rfl)⟩
    simp [results, Tryz.f34, go_sem, g0, g1]

theorem parse_any (s : ByteArray) (w : World) (hnm : Nm w) (hs : s.size ≤ maxLen) :
    Calls Tryz.prog 34 #[.string s] w fun e w' => e = .returned (.tuple #[.int .u32 (parsePairs s).1, .int .i64 (parsePairs s).2]) ∧ Below w.heap.size w w' := by
  by_cases h1 : s = noneB
  · subst h1; exact parse_none w
  · by_cases h2 : s = allB
    · subst h2; exact parse_all w
    · exact callsIn_wide.1 (parse_other 4 (Nat.le_refl _) s w hnm hs h1 h2)

end Go.Proofs.YtgolihipinjfmaaGreatDoor
