/- The law's does: an act to both. -/
import Derived.Test.YtigikmojhllmdaaVRef2
import Derived.Test.YtigikmojhllmdaaReg5
namespace Go.Proofs.Ytigikmojhllmdaa.V
open Go Go.RowKit

theorem en_hold : ∀ args w, (callFunc 17 args).run Try.prog w = .ok (.enter 17 args) w := fun _ _ => by simp [callFunc, Try.func17]; rfl
theorem en_rhold : ∀ args w, (callFunc 22 args).run Try.prog w = .ok (.enter 22 args) w := fun _ _ => by simp [callFunc, Try.func22]; rfl
theorem en_seek : ∀ args w, (callFunc 20 args).run Try.prog w = .ok (.enter 20 args) w := fun _ _ => by simp [callFunc, Try.func20]; rfl
theorem en_rseek : ∀ args w, (callFunc 24 args).run Try.prog w = .ok (.enter 24 args) w := fun _ _ => by simp [callFunc, Try.func24]; rfl
theorem en_flags : ∀ args w, (callFunc 21 args).run Try.prog w = .ok (.enter 21 args) w := fun _ _ => by simp [callFunc, Try.func21]; rfl
theorem en_rflags : ∀ args w, (callFunc 25 args).run Try.prog w = .ok (.enter 25 args) w := fun _ _ => by simp [callFunc, Try.func25]; rfl
/-- Both tables, each ahead of an act or behind it, and the act. -/
structure Both (hi : Nat) (w : World) (b1 b2 ab most : Nat) (nx : Int) (S S1 : List Fl) (cs : List Value) (f f2 : Bool) (W : World) : Prop where
  is : ∃ v1 v2, TabAt hi 55 W b1 v1 (most : Int) nx (cond f S S1) ∧ TabAt hi 34 W b2 v2 nx (most : Int) (cond f2 S S1) ∧ Apt v1 v2
  act : Blk W ab 29 cs
  below : Below hi w W
  size : hi ≤ W.heap.size
  grew : w.heap.size < W.heap.size
section
variable {hi b1 b2 ab most c : Nat} {w W W' : World} {nx : Int} {S S1 : List Fl} {cs : List Value} {f f2 : Bool} {v1 v2 v1' v2' : Value}
theorem Both.prog (h : Both hi w b1 b2 ab most nx S S1 cs true f2 W) (h1 : TabAt hi 55 W b1 v1 (most : Int) nx (cond true S S1)) (h2 : TabAt hi 34 W b2 v2 nx (most : Int) (cond f2 S S1)) (h3 : Apt v1 v2) (h1' : TabAt hi 55 W' b1 v1' (most : Int) nx S1) (hg : Goes b1 v1 v1' W W') : Both hi w b1 b2 ab most nx S S1 cs (true && false) (f2 && true) W' :=
  ⟨⟨v1', v2, h1', by rw [Bool.and_true]; exact hg.tab h1 h2 (by decide) (by decide) (by decide) h3, hg.apt h2.row h3⟩, hg.blk h1 h.act (by decide) (by decide), hg.below h1 h.below (Nat.le_refl _) h.size, Nat.le_trans h.size hg.size, Nat.lt_of_lt_of_le h.grew hg.size⟩
theorem Both.ref (h : Both hi w b1 b2 ab most nx S S1 cs f true W) (h1 : TabAt hi 55 W b1 v1 (most : Int) nx (cond f S S1)) (h2 : TabAt hi 34 W b2 v2 nx (most : Int) (cond true S S1)) (h3 : Apt v1 v2) (h2' : TabAt hi 34 W' b2 v2' nx (most : Int) S1) (hg : Goes b2 v2 v2' W W') : Both hi w b1 b2 ab most nx S S1 cs (f && true) (true && false) W' :=
  ⟨⟨v1, v2', by rw [Bool.and_true]; exact hg.tab h2 h1 (by decide) (by decide) (by decide) h3.symm, h2', (hg.apt h1.row h3.symm).symm⟩, hg.blk h2 h.act (by decide) (by decide), hg.below h2 h.below (Nat.le_refl _) h.size, Nat.le_trans h.size hg.size, Nat.lt_of_lt_of_le h.grew hg.size⟩
end
/-- Both tables hold the same files. -/
structure Same (hi b1 b2 c most : Nat) (nx : Int) (S : List Fl) (W : World) : Prop where
  is : ∃ v1 v2, TabAt hi 55 W b1 v1 (most : Int) nx S ∧ TabAt hi 34 W b2 v2 nx (most : Int) S ∧ Apt v1 v2
  ok : Ok c most nx S
theorem Same.on {hi b1 b2 c most : Nat} {nx : Int} {S : List Fl} {W W' : World} (h : Same hi b1 b2 c most nx S W) (hb : Below W.heap.size W W') : Same hi b1 b2 c most nx S W' := by
  obtain ⟨v1, v2, h1, h2, h3⟩ := h.is
  exact ⟨⟨v1, v2, h1.on hb, h2.on hb, h3⟩, h.ok⟩
/-- What an act leaves. -/
def doS (most : Nat) (nx : Int) (S : List Fl) (xk xi xa xb : Int) : List Fl := if xk == 1 then holdS xi S else if xk == 2 then dropS xi S else if xk == 3 then seekS xi xa S else if xk == 4 then flagS xi xa S else openS most nx S xi xa xb
def doX (most : Nat) (nx : Int) (S : List Fl) (xk xi xa xb : Int) : Int := if xk == 1 then nx else if xk == 2 then nx else if xk == 3 then nx else if xk == 4 then nx else openX most nx S xi xa xb
def DoesPost (hi b1 b2 c most : Nat) (nx : Int) (S : List Fl) (w : World) (e : Ending) (w' : World) : Prop := e = .returned (.bool true) ∧ Same hi b1 b2 (c + 1) most nx S w' ∧ Below hi w w' ∧ w.heap.size < w'.heap.size

set_option maxRecDepth 100000 in
set_option maxHeartbeats 8000000 in
theorem does_any {hi b1 b2 c most : Nat} {nx : Int} {S : List Fl} {w : World} (h : Same hi b1 b2 c most nx S w) (hc : c ≤ 900) (hhi : hi ≤ w.heap.size) (xk xi xa xb : Int) (hfb : -9223372036854775808 ≤ xb ∧ xb ≤ 9223372036854775807) :
    Calls Try.prog 9 #[ptr b1, ptr b2, .agg #[.int .i64 xk, .int .i64 xi, .int .i64 xa, .int .i64 xb]] w (DoesPost hi b1 b2 c most (doX most nx S xk xi xa xb) (doS most nx S xk xi xa xb) w) := by
  obtain ⟨v1, v2, h1, h2, h3⟩ := h.is
  have HK : Hid (Ok c most nx S) := h.ok
  have HC : Hid (c ≤ 900) := hc
  have hal := on_alloc w (.cells #[.int .i64 xk, .int .i64 xi, .int .i64 xa, .int .i64 xb] 29)
  have hX := Blk.new w 29 [.int .i64 xk, .int .i64 xi, .int .i64 xa, .int .i64 xb]
  have HP : Hid (∀ nx' S' w1, doX most nx S xk xi xa xb = nx' → doS most nx S xk xi xa xb = S' → Same hi b1 b2 (c + 1) most nx' S' w1 → Below hi w w1 → w.heap.size < w1.heap.size → DoesPost hi b1 b2 c most (doX most nx S xk xi xa xb) (doS most nx S xk xi xa xb) w (.returned (.bool true)) w1) := fun nx' S' w1 e1 e2 h1 h2 h3 => ⟨rfl, by rw [e1, e2]; exact h1, h2, h3⟩
  generalize DoesPost hi b1 b2 c most (doX most nx S xk xi xa xb) (doS most nx S xk xi xa xb) w = Post at *
  have HX9 : Hid (doX most nx S xk xi xa xb = if xk == 1 then nx else if xk == 2 then nx else if xk == 3 then nx else if xk == 4 then nx else openX most nx S xi xa xb) := rfl
  have HS9 : Hid (doS most nx S xk xi xa xb = if xk == 1 then holdS xi S else if xk == 2 then dropS xi S else if xk == 3 then seekS xi xa S else if xk == 4 then flagS xi xa S else openS most nx S xi xa xb) := rfl
  generalize doX most nx S xk xi xa xb = NX at *
  generalize doS most nx S xk xi xa xb = NS at *
  have HB0 : Hid (∀ S1, Both hi w b1 b2 w.heap.size most nx S S1 [.int .i64 xk, .int .i64 xi, .int .i64 xa, .int .i64 xb] true true (w.alloc (.cells #[.int .i64 xk, .int .i64 xi, .int .i64 xa, .int .i64 xb] 29))) := fun S1 => ⟨⟨v1, v2, h1.on hal, h2.on hal, h3⟩, hX, hal.mono hhi, Nat.le_trans hhi hal.size, by rw [World.size_alloc]; omega⟩
  have y0 := hX.cell 0 rfl
  have y1 := hX.cell 1 rfl
  have y2 := hX.cell 2 rfl
  have y3 := hX.cell 3 rfl
  obtain ⟨ab, hab⟩ : ∃ ab, w.heap.size = ab := ⟨_, rfl⟩
  have HAb : Hid (w.heap.size = ab) := hab
  rw [hab] at HB0
  have HT0 : Hid (TabAt hi 55 (w.alloc (.cells #[.int .i64 xk, .int .i64 xi, .int .i64 xa, .int .i64 xb] 29)) b1 v1 (most : Int) nx S ∧ TabAt hi 34 (w.alloc (.cells #[.int .i64 xk, .int .i64 xi, .int .i64 xa, .int .i64 xb] 29)) b2 v2 nx (most : Int) S ∧ Apt v1 v2) := ⟨h1.on hal, h2.on hal, h3⟩
  have HX0 : Hid (Blk (w.alloc (.cells #[.int .i64 xk, .int .i64 xi, .int .i64 xa, .int .i64 xb] 29)) w.heap.size 29 [.int .i64 xk, .int .i64 xi, .int .i64 xa, .int .i64 xb]) := hX
  have HBe : Hid (Below hi w (w.alloc (.cells #[.int .i64 xk, .int .i64 xi, .int .i64 xa, .int .i64 xb] 29)) ∧ hi ≤ (w.alloc (.cells #[.int .i64 xk, .int .i64 xi, .int .i64 xa, .int .i64 xb] 29)).heap.size ∧ w.heap.size < (w.alloc (.cells #[.int .i64 xk, .int .i64 xi, .int .i64 xa, .int .i64 xb] 29)).heap.size) := ⟨hal.mono hhi, Nat.le_trans hhi hal.size, by rw [World.size_alloc]; omega⟩
  clear h h1 h2 h3 hX hal hab
  by_cases hk1 : xk = 1
  · have hk1b : (xk == 1) = true := by simpa using hk1
    clear hk1
    obtain ⟨E, hE⟩ : ∃ E, errE xi S = E := ⟨_, rfl⟩
    have HE : Hid (errE xi S = E) := hE
    obtain ⟨S1, hS1⟩ : ∃ S1, holdS xi S = S1 := ⟨_, rfl⟩
    have HK1 : Hid (Ok (c + 1) most nx S1) := by show Ok _ _ _ _; rw [← hS1]; exact HK.out.hold xi
    have HS1 : Hid (holdS xi S = S1) := hS1
    clear hE
    have HB1 := HB0.out S1
    have HXK : Hid (NX = nx) := by show NX = nx; rw [HX9.out, hk1b]; rfl
    have HSK : Hid (NS = S1) := by show NS = S1; rw [HS9.out, hk1b, ← hS1]; rfl
    have HS0 : Hid (Both hi w b1 b2 ab most nx S S1 [.int .i64 xk, .int .i64 xi, .int .i64 xa, .int .i64 xb] true true (w.alloc (.cells #[.int .i64 xk, .int .i64 xi, .int .i64 xa, .int .i64 xb] 29)).drew) := by
      obtain ⟨v1, v2, h1, h2, h3⟩ := HB1.is
      have hd := on_drew (Below.refl (w.alloc (.cells #[.int .i64 xk, .int .i64 xi, .int .i64 xa, .int .i64 xb] 29)).heap.size (w.alloc (.cells #[.int .i64 xk, .int .i64 xi, .int .i64 xa, .int .i64 xb] 29)))
      exact ⟨⟨v1, v2, h1.on hd, h2.on hd, h3⟩, HB1.act.on hd, HB1.below.trans (hd.mono HB1.size), HB1.size, HB1.grew⟩
    clear HB0 HB1 HT0 HX0 HBe hS1
    go_enter Try.func9, Try.ntmps9
    go_wp2
    rw [show w.heap.size = ab from HAb.out]
    generalize (w.alloc (.cells #[.int .i64 xk, .int .i64 xi, .int .i64 xa, .int .i64 xb] 29)) = wa at *
    clear y0 y1 y2 y3
    refine wp_region_five (S := fun f f2 _ W => Both hi w b1 b2 ab most nx S S1 [.int .i64 xk, .int .i64 xi, .int .i64 xa, .int .i64 xb] f f2 W) (u := 3) (tu := 22) (u2 := 7) (Keep := fun _ _ _ => True)
      (g := fun _ jj vv WW => (([.is (ptr b1), .is (.pointer (some ⟨ab, 1, none⟩)), .is (.int .i64 xi), .is (.int .i64 E), .is (ptr b2), .is (.pointer (some ⟨ab, 1, none⟩)), .is (.int .i64 xi), .is (.int .i64 E), .is (.bool true), .is (.bool true)] : List (Kd 0)).getD jj Kd.any).ok vv WW)
      (tab := [[(0, none)], [(5, none)], [(20, some 1)], [(19, some 0), (21, some 2)], [(1, none)], [(5, none)], [(24, some 5)], [(23, some 4), (25, some 6)], [(22, some 3), (26, some 7)], [(27, some 8)]]) (tl := []) (n := 112)
      (by kernel_rfl) rfl (by kernel_rfl) (by kernel_rfl) (fun _ _ _ _ _ _ _ h => h) ?kR1 HS0.out ?stR1 ?enR1
    case kR1 =>
      intro _ i2 j v W W' hk hne hed hed2 htl hg2
      match j, hg2 with
      | 0, hg2 | 1, hg2 | 2, hg2 | 3, hg2 | 4, hg2 | 5, hg2 | 6, hg2 | 7, hg2 | 8, hg2 | 9, hg2 => exact hg2
      | j + 10, hg2 => exact hg2
    case stR1 =>
      refine ⟨fun ρ W f f2 hf hf2 hf3 hf4 hr hS hs => ?_, fun ρ W f f2 hf hf2 hf3 hf4 hr hS hs => ?_, fun ρ W f f2 hf hf2 hf3 hf4 hr hS hs => ?_, fun ρ W f f2 hf hf2 hf3 hf4 hr hS hs => ?_, fun ρ W f f2 hf hf2 hf3 hf4 hr hS hs => ?_, fun ρ W f f2 hf hf2 hf3 hf4 hr hS hs => ?_, fun ρ W f f2 hf hf2 hf3 hf4 hr hS hs => ?_, fun ρ W f f2 hf hf2 hf3 hf4 hr hS hs => ?_, fun ρ W f f2 hf hf2 hf3 hf4 hr hS hs => ?_, fun ρ W f f2 hf hf2 hf3 hf4 hr hS hs => ?_, trivial⟩
      · have h0 : ρ (.tmp 0) = ptr b1 := hs.1
        exact step4_plain rfl (by decide) (leaves_move (.tmp 0) rfl ⟨h0, by simpa using hS, trivial⟩)
      · have h5 : ρ (.tmp 5) = .pointer (some ⟨ab, 0, none⟩) := hs.1
        refine step4_plain rfl (by decide) (leaves_value (v := .pointer (some ⟨ab, 1, none⟩)) (w' := W) ?_ ⟨rfl, by simpa using hS, trivial⟩)
        simp [go_sem, h5]
      · have h20 : ρ (.tmp 20) = .pointer (some ⟨ab, 1, none⟩) := hs.1
        refine step4_plain rfl (by decide) (leaves_value (v := .int .i64 xi) (w' := W) ?_ ⟨rfl, by simpa using hS, trivial⟩)
        have zc := hS.act.cell 1 rfl
        simp [go_sem, h20, zc]
      · have h19 : ρ (.tmp 19) = ptr b1 := hs.1
        have h21 : ρ (.tmp 21) = .int .i64 xi := hs.2.1
        obtain rfl : f = true := hf (by kernel_rfl)
        obtain ⟨v1, v2, h1, h2, h3⟩ := hS.is
        have h1 : TabAt hi 55 W b1 v1 (most : Int) nx S := h1
        refine step4_made rfl (leaves_call en_hold hr #[.tmp 19, .tmp 21] _ rfl #[ptr b1, .int .i64 xi] (by simp [h19, h21]) ((hold_any h1 HK.out HC.out xi).mono ?_))
        rintro e W' ⟨rfl, v1', h1', hg⟩
        rw [HS1.out] at h1'
        rw [HE.out]
        exact ⟨_, rfl, rfl, hS.prog h1 h2 h3 h1' hg, trivial⟩
      · have h1 : ρ (.tmp 1) = ptr b2 := hs.1
        exact step4_plain rfl (by decide) (leaves_move (.tmp 1) rfl ⟨h1, by simpa using hS, trivial⟩)
      · have h5 : ρ (.tmp 5) = .pointer (some ⟨ab, 0, none⟩) := hs.1
        refine step4_plain rfl (by decide) (leaves_value (v := .pointer (some ⟨ab, 1, none⟩)) (w' := W) ?_ ⟨rfl, by simpa using hS, trivial⟩)
        simp [go_sem, h5]
      · have h24 : ρ (.tmp 24) = .pointer (some ⟨ab, 1, none⟩) := hs.1
        refine step4_plain rfl (by decide) (leaves_value (v := .int .i64 xi) (w' := W) ?_ ⟨rfl, by simpa using hS, trivial⟩)
        have zc := hS.act.cell 1 rfl
        simp [go_sem, h24, zc]
      · have h23 : ρ (.tmp 23) = ptr b2 := hs.1
        have h25 : ρ (.tmp 25) = .int .i64 xi := hs.2.1
        obtain rfl : f2 = true := hf3 (by kernel_rfl)
        obtain ⟨v1, v2, h1, h2, h3⟩ := hS.is
        have h2 : TabAt hi 34 W b2 v2 nx (most : Int) S := h2
        refine step4_plain rfl (by decide) (leaves_call en_rhold hr #[.tmp 23, .tmp 25] _ rfl #[ptr b2, .int .i64 xi] (by simp [h23, h25]) ((rhold_any h2 HK.out HC.out xi).mono ?_))
        rintro e W' ⟨rfl, v2', h2', hg⟩
        rw [HS1.out] at h2'
        rw [HE.out]
        exact ⟨_, rfl, rfl, hS.ref h1 h2 h3 h2' hg, trivial⟩
      · have h22 : ρ (.tmp 22) = .int .i64 E := hs.1
        have h26 : ρ (.tmp 26) = .int .i64 E := hs.2.1
        refine step4_plain rfl (by decide) (leaves_value (v := .bool true) (w' := W) ?_ ⟨rfl, by simpa using hS, trivial⟩)
        simp [go_sem, h22, h26]
      · have h27 : ρ (.tmp 27) = .bool true := hs.1
        exact step4_plain rfl (by decide) (leaves_assign (.tmp 27) rfl ⟨h27, by simpa using hS, trivial⟩)
    case enR1 =>
      intro x5 f f2 W hf hf2 hS v0 h0 v1 h1 v2 h2 v3 h3 v4 h4 v5 h5 v6 h6 v7 h7 v8 h8 v9 h9 hx5
      obtain rfl : f = false := hf (by decide)
      obtain rfl : f2 = false := hf2 (by decide)
      clear hf hf2 hx5
      have e0 : v0 = ptr b1 := h0 rfl
      subst v0
      have e1 : v1 = .pointer (some ⟨ab, 1, none⟩) := h1 rfl
      subst v1
      have e2 : v2 = .int .i64 xi := h2 rfl
      subst v2
      have e3 : v3 = .int .i64 E := h3 rfl
      subst v3
      have e4 : v4 = ptr b2 := h4 rfl
      subst v4
      have e5 : v5 = .pointer (some ⟨ab, 1, none⟩) := h5 rfl
      subst v5
      have e6 : v6 = .int .i64 xi := h6 rfl
      subst v6
      have e7 : v7 = .int .i64 E := h7 rfl
      subst v7
      have e8 : v8 = .bool true := h8 rfl
      subst v8
      have e9 : v9 = .bool true := h9 rfl
      subst v9
      clear h0 h1 h2 h3 h4 h5 h6 h7 h8 h9
      simp only [Act.put, List.setIfInBounds_toArray, List.set_cons_succ, List.set_cons_zero]
      obtain ⟨v1, v2, h1, h2, h3⟩ := hS.is
      have HZ : Hid (Post (.returned (.bool true)) W) := HP.out nx S1 W HXK.out HSK.out ⟨⟨v1, v2, h1, h2, h3⟩, HK1.out⟩ hS.below hS.grew
      clear hS h1 h2 h3 HP
      go_wp2
      exact HZ.out
  have hk1b : (xk == 1) = false := by simpa using hk1
  by_cases hk2 : xk = 2
  · have hk2b : (xk == 2) = true := by simpa using hk2
    clear hk1 hk2 HB0
    have cD := drop_any HT0.out.1 HK.out HC.out xi
    have HK1 : Hid (Ok (c + 1) most nx (dropS xi S)) := HK.out.drop xi
    generalize hE : errE xi S = E at *
    generalize hL : lastB xi S = lb at *
    have HE : Hid (errE xi S = E ∧ lastB xi S = lb) := ⟨hE, hL⟩
    clear hE hL
    go_enter Try.func9, Try.ntmps9
    go_wp2_with fail
    generalize (w.alloc (.cells #[.int .i64 xk, .int .i64 xi, .int .i64 xa, .int .i64 xb] 29)) = wa at *
    refine cD.mono ?_
    rintro e w3 ⟨rfl, v3, hT3, hG3⟩
    have hR3 := hG3.tab HT0.out.1 HT0.out.2.1 (by decide) (by decide) (by decide) HT0.out.2.2
    have hA3 := hG3.apt HT0.out.2.1.row HT0.out.2.2
    have hX3 := hG3.blk HT0.out.1 HX0.out (by decide) (by decide)
    have hB3 := hG3.below HT0.out.1 HBe.out.1 (Nat.le_refl _) HBe.out.2.1
    have hS3 : hi ≤ w3.heap.size := Nat.le_trans HBe.out.2.1 hG3.size
    have u1 := hX3.cell 1 rfl
    have cR := rdrop_any hR3 HK.out HC.out xi
    rw [HE.out.1, HE.out.2] at cR
    have HT3 : Hid (TabAt hi 55 w3 b1 v3 (most : Int) nx (dropS xi S) ∧ TabAt hi 34 w3 b2 v2 nx (most : Int) S ∧ Apt v3 v2) := ⟨hT3, hR3, hA3⟩
    have HB3 : Hid (Below hi w w3 ∧ hi ≤ w3.heap.size ∧ w.heap.size < w3.heap.size) := ⟨hB3, hS3, Nat.lt_of_lt_of_le HBe.out.2.2 hG3.size⟩
    clear cD hT3 hG3 hR3 hA3 hX3 hB3 hS3 HT0 HX0 HBe y0 y1 y2 y3
    go_wp2_with fail
    refine cR.mono ?_
    rintro e w4 ⟨rfl, v4, hT4, hG4⟩
    have HZ : Hid (Post (.returned (.bool true)) w4) := HP.out nx (dropS xi S) w4 (by rw [HX9.out, hk1b, hk2b]; rfl) (by rw [HS9.out, hk1b, hk2b]; rfl) ⟨⟨v3, v4, hG4.tab HT3.out.2.1 HT3.out.1 (by decide) (by decide) (by decide) HT3.out.2.2.symm, hT4, (hG4.apt HT3.out.1.row HT3.out.2.2.symm).symm⟩, HK1.out⟩ (hG4.below HT3.out.2.1 HB3.out.1 (Nat.le_refl _) HB3.out.2.1) (Nat.lt_of_lt_of_le HB3.out.2.2 hG4.size)
    clear cR hT4 hG4 HT3 HB3 HP u1
    go_wp2
    exact HZ.out
  have hk2b : (xk == 2) = false := by simpa using hk2
  by_cases hk3 : xk = 3
  · have hk3b : (xk == 3) = true := by simpa using hk3
    clear hk1 hk2 hk3
    obtain ⟨E, hE⟩ : ∃ E, seekE xi xa S = E := ⟨_, rfl⟩
    have HE : Hid (seekE xi xa S = E) := hE
    obtain ⟨S1, hS1⟩ : ∃ S1, seekS xi xa S = S1 := ⟨_, rfl⟩
    have HK1 : Hid (Ok (c + 1) most nx S1) := by show Ok _ _ _ _; rw [← hS1]; exact HK.out.seek xi xa
    have HS1 : Hid (seekS xi xa S = S1) := hS1
    clear hE
    have HB1 := HB0.out S1
    have HXK : Hid (NX = nx) := by show NX = nx; rw [HX9.out, hk1b, hk2b, hk3b]; rfl
    have HSK : Hid (NS = S1) := by show NS = S1; rw [HS9.out, hk1b, hk2b, hk3b, ← hS1]; rfl
    have HS0 : Hid (Both hi w b1 b2 ab most nx S S1 [.int .i64 xk, .int .i64 xi, .int .i64 xa, .int .i64 xb] true true (w.alloc (.cells #[.int .i64 xk, .int .i64 xi, .int .i64 xa, .int .i64 xb] 29)).drew) := by
      obtain ⟨v1, v2, h1, h2, h3⟩ := HB1.is
      have hd := on_drew (Below.refl (w.alloc (.cells #[.int .i64 xk, .int .i64 xi, .int .i64 xa, .int .i64 xb] 29)).heap.size (w.alloc (.cells #[.int .i64 xk, .int .i64 xi, .int .i64 xa, .int .i64 xb] 29)))
      exact ⟨⟨v1, v2, h1.on hd, h2.on hd, h3⟩, HB1.act.on hd, HB1.below.trans (hd.mono HB1.size), HB1.size, HB1.grew⟩
    clear HB0 HB1 HT0 HX0 HBe hS1
    go_enter Try.func9, Try.ntmps9
    go_wp2
    rw [show w.heap.size = ab from HAb.out]
    generalize (w.alloc (.cells #[.int .i64 xk, .int .i64 xi, .int .i64 xa, .int .i64 xb] 29)) = wa at *
    clear y0 y1 y2 y3
    refine wp_region_five (S := fun f f2 _ W => Both hi w b1 b2 ab most nx S S1 [.int .i64 xk, .int .i64 xi, .int .i64 xa, .int .i64 xb] f f2 W) (u := 5) (tu := 59) (u2 := 11) (Keep := fun _ _ _ => True)
      (g := fun _ jj vv WW => (([.is (ptr b1), .is (.pointer (some ⟨ab, 1, none⟩)), .is (.int .i64 xi), .is (.pointer (some ⟨ab, 2, none⟩)), .is (.int .i64 xa), .is (.int .i64 E), .is (ptr b2), .is (.pointer (some ⟨ab, 1, none⟩)), .is (.int .i64 xi), .is (.pointer (some ⟨ab, 2, none⟩)), .is (.int .i64 xa), .is (.int .i64 E), .is (.bool true), .is (.bool true)] : List (Kd 0)).getD jj Kd.any).ok vv WW)
      (tab := [[(0, none)], [(5, none)], [(55, some 1)], [(5, none)], [(57, some 3)], [(54, some 0), (56, some 2), (58, some 4)], [(1, none)], [(5, none)], [(61, some 7)], [(5, none)], [(63, some 9)], [(60, some 6), (62, some 8), (64, some 10)], [(59, some 5), (65, some 11)], [(66, some 12)]]) (tl := []) (n := 112)
      (by kernel_rfl) rfl (by kernel_rfl) (by kernel_rfl) (fun _ _ _ _ _ _ _ h => h) ?kR2 HS0.out ?stR2 ?enR2
    case kR2 =>
      intro _ i2 j v W W' hk hne hed hed2 htl hg2
      match j, hg2 with
      | 0, hg2 | 1, hg2 | 2, hg2 | 3, hg2 | 4, hg2 | 5, hg2 | 6, hg2 | 7, hg2 | 8, hg2 | 9, hg2 | 10, hg2 | 11, hg2 | 12, hg2 | 13, hg2 => exact hg2
      | j + 14, hg2 => exact hg2
    case stR2 =>
      refine ⟨fun ρ W f f2 hf hf2 hf3 hf4 hr hS hs => ?_, fun ρ W f f2 hf hf2 hf3 hf4 hr hS hs => ?_, fun ρ W f f2 hf hf2 hf3 hf4 hr hS hs => ?_, fun ρ W f f2 hf hf2 hf3 hf4 hr hS hs => ?_, fun ρ W f f2 hf hf2 hf3 hf4 hr hS hs => ?_, fun ρ W f f2 hf hf2 hf3 hf4 hr hS hs => ?_, fun ρ W f f2 hf hf2 hf3 hf4 hr hS hs => ?_, fun ρ W f f2 hf hf2 hf3 hf4 hr hS hs => ?_, fun ρ W f f2 hf hf2 hf3 hf4 hr hS hs => ?_, fun ρ W f f2 hf hf2 hf3 hf4 hr hS hs => ?_, fun ρ W f f2 hf hf2 hf3 hf4 hr hS hs => ?_, fun ρ W f f2 hf hf2 hf3 hf4 hr hS hs => ?_, fun ρ W f f2 hf hf2 hf3 hf4 hr hS hs => ?_, fun ρ W f f2 hf hf2 hf3 hf4 hr hS hs => ?_, trivial⟩
      · have h0 : ρ (.tmp 0) = ptr b1 := hs.1
        exact step4_plain rfl (by decide) (leaves_move (.tmp 0) rfl ⟨h0, by simpa using hS, trivial⟩)
      · have h5 : ρ (.tmp 5) = .pointer (some ⟨ab, 0, none⟩) := hs.1
        refine step4_plain rfl (by decide) (leaves_value (v := .pointer (some ⟨ab, 1, none⟩)) (w' := W) ?_ ⟨rfl, by simpa using hS, trivial⟩)
        simp [go_sem, h5]
      · have h55 : ρ (.tmp 55) = .pointer (some ⟨ab, 1, none⟩) := hs.1
        refine step4_plain rfl (by decide) (leaves_value (v := .int .i64 xi) (w' := W) ?_ ⟨rfl, by simpa using hS, trivial⟩)
        have zc := hS.act.cell 1 rfl
        simp [go_sem, h55, zc]
      · have h5 : ρ (.tmp 5) = .pointer (some ⟨ab, 0, none⟩) := hs.1
        refine step4_plain rfl (by decide) (leaves_value (v := .pointer (some ⟨ab, 2, none⟩)) (w' := W) ?_ ⟨rfl, by simpa using hS, trivial⟩)
        simp [go_sem, h5]
      · have h57 : ρ (.tmp 57) = .pointer (some ⟨ab, 2, none⟩) := hs.1
        refine step4_plain rfl (by decide) (leaves_value (v := .int .i64 xa) (w' := W) ?_ ⟨rfl, by simpa using hS, trivial⟩)
        have zc := hS.act.cell 2 rfl
        simp [go_sem, h57, zc]
      · have h54 : ρ (.tmp 54) = ptr b1 := hs.1
        have h56 : ρ (.tmp 56) = .int .i64 xi := hs.2.1
        have h58 : ρ (.tmp 58) = .int .i64 xa := hs.2.2.1
        obtain rfl : f = true := hf (by kernel_rfl)
        obtain ⟨v1, v2, h1, h2, h3⟩ := hS.is
        have h1 : TabAt hi 55 W b1 v1 (most : Int) nx S := h1
        refine step4_made rfl (leaves_call en_seek hr #[.tmp 54, .tmp 56, .tmp 58] _ rfl #[ptr b1, .int .i64 xi, .int .i64 xa] (by simp [h54, h56, h58]) ((seek_any h1 HK.out xi xa).mono ?_))
        rintro e W' ⟨rfl, v1', h1', hg⟩
        rw [HS1.out] at h1'
        rw [HE.out]
        exact ⟨_, rfl, rfl, hS.prog h1 h2 h3 h1' hg, trivial⟩
      · have h1 : ρ (.tmp 1) = ptr b2 := hs.1
        exact step4_plain rfl (by decide) (leaves_move (.tmp 1) rfl ⟨h1, by simpa using hS, trivial⟩)
      · have h5 : ρ (.tmp 5) = .pointer (some ⟨ab, 0, none⟩) := hs.1
        refine step4_plain rfl (by decide) (leaves_value (v := .pointer (some ⟨ab, 1, none⟩)) (w' := W) ?_ ⟨rfl, by simpa using hS, trivial⟩)
        simp [go_sem, h5]
      · have h61 : ρ (.tmp 61) = .pointer (some ⟨ab, 1, none⟩) := hs.1
        refine step4_plain rfl (by decide) (leaves_value (v := .int .i64 xi) (w' := W) ?_ ⟨rfl, by simpa using hS, trivial⟩)
        have zc := hS.act.cell 1 rfl
        simp [go_sem, h61, zc]
      · have h5 : ρ (.tmp 5) = .pointer (some ⟨ab, 0, none⟩) := hs.1
        refine step4_plain rfl (by decide) (leaves_value (v := .pointer (some ⟨ab, 2, none⟩)) (w' := W) ?_ ⟨rfl, by simpa using hS, trivial⟩)
        simp [go_sem, h5]
      · have h63 : ρ (.tmp 63) = .pointer (some ⟨ab, 2, none⟩) := hs.1
        refine step4_plain rfl (by decide) (leaves_value (v := .int .i64 xa) (w' := W) ?_ ⟨rfl, by simpa using hS, trivial⟩)
        have zc := hS.act.cell 2 rfl
        simp [go_sem, h63, zc]
      · have h60 : ρ (.tmp 60) = ptr b2 := hs.1
        have h62 : ρ (.tmp 62) = .int .i64 xi := hs.2.1
        have h64 : ρ (.tmp 64) = .int .i64 xa := hs.2.2.1
        obtain rfl : f2 = true := hf3 (by kernel_rfl)
        obtain ⟨v1, v2, h1, h2, h3⟩ := hS.is
        have h2 : TabAt hi 34 W b2 v2 nx (most : Int) S := h2
        refine step4_plain rfl (by decide) (leaves_call en_rseek hr #[.tmp 60, .tmp 62, .tmp 64] _ rfl #[ptr b2, .int .i64 xi, .int .i64 xa] (by simp [h60, h62, h64]) ((rseek_any h2 HK.out xi xa).mono ?_))
        rintro e W' ⟨rfl, v2', h2', hg⟩
        rw [HS1.out] at h2'
        rw [HE.out]
        exact ⟨_, rfl, rfl, hS.ref h1 h2 h3 h2' hg, trivial⟩
      · have h59 : ρ (.tmp 59) = .int .i64 E := hs.1
        have h65 : ρ (.tmp 65) = .int .i64 E := hs.2.1
        refine step4_plain rfl (by decide) (leaves_value (v := .bool true) (w' := W) ?_ ⟨rfl, by simpa using hS, trivial⟩)
        simp [go_sem, h59, h65]
      · have h66 : ρ (.tmp 66) = .bool true := hs.1
        exact step4_plain rfl (by decide) (leaves_assign (.tmp 66) rfl ⟨h66, by simpa using hS, trivial⟩)
    case enR2 =>
      intro x5 f f2 W hf hf2 hS v0 h0 v1 h1 v2 h2 v3 h3 v4 h4 v5 h5 v6 h6 v7 h7 v8 h8 v9 h9 v10 h10 v11 h11 v12 h12 v13 h13 hx5
      obtain rfl : f = false := hf (by decide)
      obtain rfl : f2 = false := hf2 (by decide)
      clear hf hf2 hx5
      have e0 : v0 = ptr b1 := h0 rfl
      subst v0
      have e1 : v1 = .pointer (some ⟨ab, 1, none⟩) := h1 rfl
      subst v1
      have e2 : v2 = .int .i64 xi := h2 rfl
      subst v2
      have e3 : v3 = .pointer (some ⟨ab, 2, none⟩) := h3 rfl
      subst v3
      have e4 : v4 = .int .i64 xa := h4 rfl
      subst v4
      have e5 : v5 = .int .i64 E := h5 rfl
      subst v5
      have e6 : v6 = ptr b2 := h6 rfl
      subst v6
      have e7 : v7 = .pointer (some ⟨ab, 1, none⟩) := h7 rfl
      subst v7
      have e8 : v8 = .int .i64 xi := h8 rfl
      subst v8
      have e9 : v9 = .pointer (some ⟨ab, 2, none⟩) := h9 rfl
      subst v9
      have e10 : v10 = .int .i64 xa := h10 rfl
      subst v10
      have e11 : v11 = .int .i64 E := h11 rfl
      subst v11
      have e12 : v12 = .bool true := h12 rfl
      subst v12
      have e13 : v13 = .bool true := h13 rfl
      subst v13
      clear h0 h1 h2 h3 h4 h5 h6 h7 h8 h9 h10 h11 h12 h13
      simp only [Act.put, List.setIfInBounds_toArray, List.set_cons_succ, List.set_cons_zero]
      obtain ⟨v1, v2, h1, h2, h3⟩ := hS.is
      have HZ : Hid (Post (.returned (.bool true)) W) := HP.out nx S1 W HXK.out HSK.out ⟨⟨v1, v2, h1, h2, h3⟩, HK1.out⟩ hS.below hS.grew
      clear hS h1 h2 h3 HP
      go_wp2
      exact HZ.out
  have hk3b : (xk == 3) = false := by simpa using hk3
  by_cases hk4 : xk = 4
  · have hk4b : (xk == 4) = true := by simpa using hk4
    clear hk1 hk2 hk3 hk4
    obtain ⟨E, hE⟩ : ∃ E, errE xi S = E := ⟨_, rfl⟩
    have HE : Hid (errE xi S = E) := hE
    obtain ⟨S1, hS1⟩ : ∃ S1, flagS xi xa S = S1 := ⟨_, rfl⟩
    have HK1 : Hid (Ok (c + 1) most nx S1) := by show Ok _ _ _ _; rw [← hS1]; exact HK.out.flag xi xa
    have HS1 : Hid (flagS xi xa S = S1) := hS1
    clear hE
    have HB1 := HB0.out S1
    have HXK : Hid (NX = nx) := by show NX = nx; rw [HX9.out, hk1b, hk2b, hk3b, hk4b]; rfl
    have HSK : Hid (NS = S1) := by show NS = S1; rw [HS9.out, hk1b, hk2b, hk3b, hk4b, ← hS1]; rfl
    have HS0 : Hid (Both hi w b1 b2 ab most nx S S1 [.int .i64 xk, .int .i64 xi, .int .i64 xa, .int .i64 xb] true true (w.alloc (.cells #[.int .i64 xk, .int .i64 xi, .int .i64 xa, .int .i64 xb] 29)).drew) := by
      obtain ⟨v1, v2, h1, h2, h3⟩ := HB1.is
      have hd := on_drew (Below.refl (w.alloc (.cells #[.int .i64 xk, .int .i64 xi, .int .i64 xa, .int .i64 xb] 29)).heap.size (w.alloc (.cells #[.int .i64 xk, .int .i64 xi, .int .i64 xa, .int .i64 xb] 29)))
      exact ⟨⟨v1, v2, h1.on hd, h2.on hd, h3⟩, HB1.act.on hd, HB1.below.trans (hd.mono HB1.size), HB1.size, HB1.grew⟩
    clear HB0 HB1 HT0 HX0 HBe hS1
    go_enter Try.func9, Try.ntmps9
    go_wp2
    rw [show w.heap.size = ab from HAb.out]
    generalize (w.alloc (.cells #[.int .i64 xk, .int .i64 xi, .int .i64 xa, .int .i64 xb] 29)) = wa at *
    clear y0 y1 y2 y3
    refine wp_region_five (S := fun f f2 _ W => Both hi w b1 b2 ab most nx S S1 [.int .i64 xk, .int .i64 xi, .int .i64 xa, .int .i64 xb] f f2 W) (u := 5) (tu := 74) (u2 := 11) (Keep := fun _ _ _ => True)
      (g := fun _ jj vv WW => (([.is (ptr b1), .is (.pointer (some ⟨ab, 1, none⟩)), .is (.int .i64 xi), .is (.pointer (some ⟨ab, 2, none⟩)), .is (.int .i64 xa), .is (.int .i64 E), .is (ptr b2), .is (.pointer (some ⟨ab, 1, none⟩)), .is (.int .i64 xi), .is (.pointer (some ⟨ab, 2, none⟩)), .is (.int .i64 xa), .is (.int .i64 E), .is (.bool true), .is (.bool true)] : List (Kd 0)).getD jj Kd.any).ok vv WW)
      (tab := [[(0, none)], [(5, none)], [(70, some 1)], [(5, none)], [(72, some 3)], [(69, some 0), (71, some 2), (73, some 4)], [(1, none)], [(5, none)], [(76, some 7)], [(5, none)], [(78, some 9)], [(75, some 6), (77, some 8), (79, some 10)], [(74, some 5), (80, some 11)], [(81, some 12)]]) (tl := []) (n := 112)
      (by kernel_rfl) rfl (by kernel_rfl) (by kernel_rfl) (fun _ _ _ _ _ _ _ h => h) ?kR3 HS0.out ?stR3 ?enR3
    case kR3 =>
      intro _ i2 j v W W' hk hne hed hed2 htl hg2
      match j, hg2 with
      | 0, hg2 | 1, hg2 | 2, hg2 | 3, hg2 | 4, hg2 | 5, hg2 | 6, hg2 | 7, hg2 | 8, hg2 | 9, hg2 | 10, hg2 | 11, hg2 | 12, hg2 | 13, hg2 => exact hg2
      | j + 14, hg2 => exact hg2
    case stR3 =>
      refine ⟨fun ρ W f f2 hf hf2 hf3 hf4 hr hS hs => ?_, fun ρ W f f2 hf hf2 hf3 hf4 hr hS hs => ?_, fun ρ W f f2 hf hf2 hf3 hf4 hr hS hs => ?_, fun ρ W f f2 hf hf2 hf3 hf4 hr hS hs => ?_, fun ρ W f f2 hf hf2 hf3 hf4 hr hS hs => ?_, fun ρ W f f2 hf hf2 hf3 hf4 hr hS hs => ?_, fun ρ W f f2 hf hf2 hf3 hf4 hr hS hs => ?_, fun ρ W f f2 hf hf2 hf3 hf4 hr hS hs => ?_, fun ρ W f f2 hf hf2 hf3 hf4 hr hS hs => ?_, fun ρ W f f2 hf hf2 hf3 hf4 hr hS hs => ?_, fun ρ W f f2 hf hf2 hf3 hf4 hr hS hs => ?_, fun ρ W f f2 hf hf2 hf3 hf4 hr hS hs => ?_, fun ρ W f f2 hf hf2 hf3 hf4 hr hS hs => ?_, fun ρ W f f2 hf hf2 hf3 hf4 hr hS hs => ?_, trivial⟩
      · have h0 : ρ (.tmp 0) = ptr b1 := hs.1
        exact step4_plain rfl (by decide) (leaves_move (.tmp 0) rfl ⟨h0, by simpa using hS, trivial⟩)
      · have h5 : ρ (.tmp 5) = .pointer (some ⟨ab, 0, none⟩) := hs.1
        refine step4_plain rfl (by decide) (leaves_value (v := .pointer (some ⟨ab, 1, none⟩)) (w' := W) ?_ ⟨rfl, by simpa using hS, trivial⟩)
        simp [go_sem, h5]
      · have h70 : ρ (.tmp 70) = .pointer (some ⟨ab, 1, none⟩) := hs.1
        refine step4_plain rfl (by decide) (leaves_value (v := .int .i64 xi) (w' := W) ?_ ⟨rfl, by simpa using hS, trivial⟩)
        have zc := hS.act.cell 1 rfl
        simp [go_sem, h70, zc]
      · have h5 : ρ (.tmp 5) = .pointer (some ⟨ab, 0, none⟩) := hs.1
        refine step4_plain rfl (by decide) (leaves_value (v := .pointer (some ⟨ab, 2, none⟩)) (w' := W) ?_ ⟨rfl, by simpa using hS, trivial⟩)
        simp [go_sem, h5]
      · have h72 : ρ (.tmp 72) = .pointer (some ⟨ab, 2, none⟩) := hs.1
        refine step4_plain rfl (by decide) (leaves_value (v := .int .i64 xa) (w' := W) ?_ ⟨rfl, by simpa using hS, trivial⟩)
        have zc := hS.act.cell 2 rfl
        simp [go_sem, h72, zc]
      · have h69 : ρ (.tmp 69) = ptr b1 := hs.1
        have h71 : ρ (.tmp 71) = .int .i64 xi := hs.2.1
        have h73 : ρ (.tmp 73) = .int .i64 xa := hs.2.2.1
        obtain rfl : f = true := hf (by kernel_rfl)
        obtain ⟨v1, v2, h1, h2, h3⟩ := hS.is
        have h1 : TabAt hi 55 W b1 v1 (most : Int) nx S := h1
        refine step4_made rfl (leaves_call en_flags hr #[.tmp 69, .tmp 71, .tmp 73] _ rfl #[ptr b1, .int .i64 xi, .int .i64 xa] (by simp [h69, h71, h73]) ((flags_any h1 HK.out xi xa).mono ?_))
        rintro e W' ⟨rfl, v1', h1', hg⟩
        rw [HS1.out] at h1'
        rw [HE.out]
        exact ⟨_, rfl, rfl, hS.prog h1 h2 h3 h1' hg, trivial⟩
      · have h1 : ρ (.tmp 1) = ptr b2 := hs.1
        exact step4_plain rfl (by decide) (leaves_move (.tmp 1) rfl ⟨h1, by simpa using hS, trivial⟩)
      · have h5 : ρ (.tmp 5) = .pointer (some ⟨ab, 0, none⟩) := hs.1
        refine step4_plain rfl (by decide) (leaves_value (v := .pointer (some ⟨ab, 1, none⟩)) (w' := W) ?_ ⟨rfl, by simpa using hS, trivial⟩)
        simp [go_sem, h5]
      · have h76 : ρ (.tmp 76) = .pointer (some ⟨ab, 1, none⟩) := hs.1
        refine step4_plain rfl (by decide) (leaves_value (v := .int .i64 xi) (w' := W) ?_ ⟨rfl, by simpa using hS, trivial⟩)
        have zc := hS.act.cell 1 rfl
        simp [go_sem, h76, zc]
      · have h5 : ρ (.tmp 5) = .pointer (some ⟨ab, 0, none⟩) := hs.1
        refine step4_plain rfl (by decide) (leaves_value (v := .pointer (some ⟨ab, 2, none⟩)) (w' := W) ?_ ⟨rfl, by simpa using hS, trivial⟩)
        simp [go_sem, h5]
      · have h78 : ρ (.tmp 78) = .pointer (some ⟨ab, 2, none⟩) := hs.1
        refine step4_plain rfl (by decide) (leaves_value (v := .int .i64 xa) (w' := W) ?_ ⟨rfl, by simpa using hS, trivial⟩)
        have zc := hS.act.cell 2 rfl
        simp [go_sem, h78, zc]
      · have h75 : ρ (.tmp 75) = ptr b2 := hs.1
        have h77 : ρ (.tmp 77) = .int .i64 xi := hs.2.1
        have h79 : ρ (.tmp 79) = .int .i64 xa := hs.2.2.1
        obtain rfl : f2 = true := hf3 (by kernel_rfl)
        obtain ⟨v1, v2, h1, h2, h3⟩ := hS.is
        have h2 : TabAt hi 34 W b2 v2 nx (most : Int) S := h2
        refine step4_plain rfl (by decide) (leaves_call en_rflags hr #[.tmp 75, .tmp 77, .tmp 79] _ rfl #[ptr b2, .int .i64 xi, .int .i64 xa] (by simp [h75, h77, h79]) ((rflags_any h2 HK.out xi xa).mono ?_))
        rintro e W' ⟨rfl, v2', h2', hg⟩
        rw [HS1.out] at h2'
        rw [HE.out]
        exact ⟨_, rfl, rfl, hS.ref h1 h2 h3 h2' hg, trivial⟩
      · have h74 : ρ (.tmp 74) = .int .i64 E := hs.1
        have h80 : ρ (.tmp 80) = .int .i64 E := hs.2.1
        refine step4_plain rfl (by decide) (leaves_value (v := .bool true) (w' := W) ?_ ⟨rfl, by simpa using hS, trivial⟩)
        simp [go_sem, h74, h80]
      · have h81 : ρ (.tmp 81) = .bool true := hs.1
        exact step4_plain rfl (by decide) (leaves_assign (.tmp 81) rfl ⟨h81, by simpa using hS, trivial⟩)
    case enR3 =>
      intro x5 f f2 W hf hf2 hS v0 h0 v1 h1 v2 h2 v3 h3 v4 h4 v5 h5 v6 h6 v7 h7 v8 h8 v9 h9 v10 h10 v11 h11 v12 h12 v13 h13 hx5
      obtain rfl : f = false := hf (by decide)
      obtain rfl : f2 = false := hf2 (by decide)
      clear hf hf2 hx5
      have e0 : v0 = ptr b1 := h0 rfl
      subst v0
      have e1 : v1 = .pointer (some ⟨ab, 1, none⟩) := h1 rfl
      subst v1
      have e2 : v2 = .int .i64 xi := h2 rfl
      subst v2
      have e3 : v3 = .pointer (some ⟨ab, 2, none⟩) := h3 rfl
      subst v3
      have e4 : v4 = .int .i64 xa := h4 rfl
      subst v4
      have e5 : v5 = .int .i64 E := h5 rfl
      subst v5
      have e6 : v6 = ptr b2 := h6 rfl
      subst v6
      have e7 : v7 = .pointer (some ⟨ab, 1, none⟩) := h7 rfl
      subst v7
      have e8 : v8 = .int .i64 xi := h8 rfl
      subst v8
      have e9 : v9 = .pointer (some ⟨ab, 2, none⟩) := h9 rfl
      subst v9
      have e10 : v10 = .int .i64 xa := h10 rfl
      subst v10
      have e11 : v11 = .int .i64 E := h11 rfl
      subst v11
      have e12 : v12 = .bool true := h12 rfl
      subst v12
      have e13 : v13 = .bool true := h13 rfl
      subst v13
      clear h0 h1 h2 h3 h4 h5 h6 h7 h8 h9 h10 h11 h12 h13
      simp only [Act.put, List.setIfInBounds_toArray, List.set_cons_succ, List.set_cons_zero]
      obtain ⟨v1, v2, h1, h2, h3⟩ := hS.is
      have HZ : Hid (Post (.returned (.bool true)) W) := HP.out nx S1 W HXK.out HSK.out ⟨⟨v1, v2, h1, h2, h3⟩, HK1.out⟩ hS.below hS.grew
      clear hS h1 h2 h3 HP
      go_wp2
      exact HZ.out
  have hk4b : (xk == 4) = false := by simpa using hk4
  clear hk1 hk2 hk3 hk4 HB0
  have cD := open_any HT0.out.1 HK.out HC.out xi xa xb hfb
  have HK1 : Hid (Ok (c + 1) most (openX most nx S xi xa xb) (openS most nx S xi xa xb)) := HK.out.opened xi xa xb
  generalize hE : openE most S xi xa xb = E at *
  generalize hL : openN most nx S xi xa xb = N at *
  have HE : Hid (openE most S xi xa xb = E ∧ openN most nx S xi xa xb = N) := ⟨hE, hL⟩
  clear hE hL
  go_enter Try.func9, Try.ntmps9
  go_wp2_with fail
  generalize (w.alloc (.cells #[.int .i64 xk, .int .i64 xi, .int .i64 xa, .int .i64 xb] 29)) = wa at *
  refine cD.mono ?_
  rintro e w3 ⟨rfl, v3, hT3, hG3⟩
  have hR3 := hG3.tab HT0.out.1 HT0.out.2.1 (by decide) (by decide) (by decide) HT0.out.2.2
  have hA3 := hG3.apt HT0.out.2.1.row HT0.out.2.2
  have hX3 := hG3.blk HT0.out.1 HX0.out (by decide) (by decide)
  have hB3 := hG3.below HT0.out.1 HBe.out.1 (Nat.le_refl _) HBe.out.2.1
  have hS3 : hi ≤ w3.heap.size := Nat.le_trans HBe.out.2.1 hG3.size
  have u1 := hX3.cell 1 rfl
  have u2 := hX3.cell 2 rfl
  have u3 := hX3.cell 3 rfl
  have cR := ropen_any hR3 HK.out HC.out xi xa xb
  rw [HE.out.1, HE.out.2] at cR
  have HT3 : Hid (TabAt hi 55 w3 b1 v3 (most : Int) (openX most nx S xi xa xb) (openS most nx S xi xa xb) ∧ TabAt hi 34 w3 b2 v2 nx (most : Int) S ∧ Apt v3 v2) := ⟨hT3, hR3, hA3⟩
  have HB3 : Hid (Below hi w w3 ∧ hi ≤ w3.heap.size ∧ w.heap.size < w3.heap.size) := ⟨hB3, hS3, Nat.lt_of_lt_of_le HBe.out.2.2 hG3.size⟩
  clear cD hT3 hG3 hR3 hA3 hX3 hB3 hS3 HT0 HX0 HBe y0 y1 y2 y3
  go_wp2_with fail
  refine cR.mono ?_
  rintro e w4 ⟨rfl, v4, hT4, hG4⟩
  have HZ : Hid (Post (.returned (.bool true)) w4) := HP.out (openX most nx S xi xa xb) (openS most nx S xi xa xb) w4 (by rw [HX9.out, hk1b, hk2b, hk3b, hk4b]; rfl) (by rw [HS9.out, hk1b, hk2b, hk3b, hk4b]; rfl) ⟨⟨v3, v4, hG4.tab HT3.out.2.1 HT3.out.1 (by decide) (by decide) (by decide) HT3.out.2.2.symm, hT4, (hG4.apt HT3.out.1.row HT3.out.2.2.symm).symm⟩, HK1.out⟩ (hG4.below HT3.out.2.1 HB3.out.1 (Nat.le_refl _) HB3.out.2.1) (Nat.lt_of_lt_of_le HB3.out.2.2 hG4.size)
  clear cR hT4 hG4 HT3 HB3 HP u1 u2 u3
  go_wp2
  exact HZ.out

end Go.Proofs.Ytigikmojhllmdaa.V
