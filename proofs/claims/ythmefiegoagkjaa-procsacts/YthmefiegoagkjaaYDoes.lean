/- The law's does: an act to both. -/
import Derived.Test.YthmefiegoagkjaaYRef5
import Derived.Test.YthmefiegoagkjaaA1
namespace Go.Proofs.Ythmefiegoagkjaa.Y
open Go Go.RowKit

theorem en_exit : ∀ args w, (callFunc 23 args).run Try.prog w = .ok (.enter 23 args) w := fun _ _ => by simp [callFunc, Try.func23]; rfl
theorem en_rexit : ∀ args w, (callFunc 25 args).run Try.prog w = .ok (.enter 25 args) w := fun _ _ => by simp [callFunc, Try.func25]; rfl
theorem en_enter : ∀ args w, (callFunc 24 args).run Try.prog w = .ok (.enter 24 args) w := fun _ _ => by simp [callFunc, Try.func24]; rfl
theorem en_renter : ∀ args w, (callFunc 28 args).run Try.prog w = .ok (.enter 28 args) w := fun _ _ => by simp [callFunc, Try.func28]; rfl
/-- Rows that are none of two tables' stay. -/
def KeepR (w : World) (a1 a2 v1 v2 : Value) (W : World) : Prop := ∀ lo u R, Row lo w u R → T.Apt a1 u → T.Apt a2 u → Row lo W u R ∧ T.Apt v1 u ∧ T.Apt v2 u
section
variable {hi b : Nat} {w W W' : World} {x y : Int} {S : List Pr} {a1 a2 v1 v2 v' : Value}
theorem KeepR.refl (w : World) (v1 v2 : Value) : KeepR w v1 v2 v1 v2 w := fun _ _ _ h h1 h2 => ⟨h, h1, h2⟩
theorem KeepR.on (h : KeepR w a1 a2 v1 v2 W) (hb : Below W.heap.size W W') : KeepR w a1 a2 v1 v2 W' := fun lo u R hr h1 h2 => by
  obtain ⟨g1, g2, g3⟩ := h lo u R hr h1 h2
  exact ⟨rowS_on g1 hb, g2, g3⟩
theorem KeepR.prog (h : KeepR w a1 a2 v1 v2 W) (h1 : TabAt hi 57 W b v1 x y S) (hg : T.Goes b v1 v' W W') : KeepR w a1 a2 v' v2 W' := fun lo u R hr h2 h3 => by
  obtain ⟨g1, g2, g3⟩ := h lo u R hr h2 h3
  exact ⟨hg.row h1 g1 (by decide) g2, hg.apt g1 g2, g3⟩
theorem KeepR.ref (h : KeepR w a1 a2 v1 v2 W) (h1 : TabAt hi 34 W b v2 x y S) (hg : T.Goes b v2 v' W W') : KeepR w a1 a2 v1 v' W' := fun lo u R hr h2 h3 => by
  obtain ⟨g1, g2, g3⟩ := h lo u R hr h2 h3
  exact ⟨hg.row h1 g1 (by decide) g3, g2, hg.apt g1 g3⟩
end
/-- Both tables, each ahead of an act or behind it, and the act. -/
structure Both (hi : Nat) (w : World) (b1 b2 ab most : Nat) (nx : Int) (S S1 : List Pr) (most2 : Nat) (nx2 : Int) (U U1 : List Pr) (a1 a2 : Value) (cs : List Value) (f f2 : Bool) (W : World) : Prop where
  is : ∃ v1 v2, TabAt hi 57 W b1 v1 (most : Int) nx (cond f S S1) ∧ TabAt hi 34 W b2 v2 nx2 (most2 : Int) (cond f2 U U1) ∧ T.Apt v1 v2 ∧ KeepR w a1 a2 v1 v2 W
  act : Blk W ab 29 cs
  below : Below hi w W
  size : hi ≤ W.heap.size
  grew : w.heap.size < W.heap.size
section
variable {hi b1 b2 ab most most2 : Nat} {w W W' : World} {nx nx2 : Int} {S S1 U U1 : List Pr} {cs : List Value} {f f2 : Bool} {a1 a2 v1 v2 v1' v2' : Value}
theorem Both.prog (h : Both hi w b1 b2 ab most nx S S1 most2 nx2 U U1 a1 a2 cs true f2 W) (h1 : TabAt hi 57 W b1 v1 (most : Int) nx (cond true S S1)) (h2 : TabAt hi 34 W b2 v2 nx2 (most2 : Int) (cond f2 U U1)) (h3 : T.Apt v1 v2 ∧ KeepR w a1 a2 v1 v2 W) (h1' : TabAt hi 57 W' b1 v1' (most : Int) nx S1) (hg : T.Goes b1 v1 v1' W W') : Both hi w b1 b2 ab most nx S S1 most2 nx2 U U1 a1 a2 cs (true && false) (f2 && true) W' :=
  ⟨⟨v1', v2, h1', by rw [Bool.and_true]; exact hg.tab h1 h2 (by decide) (by decide) (by decide) h3.1, hg.apt h2.row h3.1, h3.2.prog h1 hg⟩, hg.blk h1 h.act (by decide) (by decide), hg.below h1 h.below (Nat.le_refl _) h.size, Nat.le_trans h.size hg.size, Nat.lt_of_lt_of_le h.grew hg.size⟩
theorem Both.ref (h : Both hi w b1 b2 ab most nx S S1 most2 nx2 U U1 a1 a2 cs f true W) (h1 : TabAt hi 57 W b1 v1 (most : Int) nx (cond f S S1)) (h2 : TabAt hi 34 W b2 v2 nx2 (most2 : Int) (cond true U U1)) (h3 : T.Apt v1 v2 ∧ KeepR w a1 a2 v1 v2 W) (h2' : TabAt hi 34 W' b2 v2' nx2 (most2 : Int) U1) (hg : T.Goes b2 v2 v2' W W') : Both hi w b1 b2 ab most nx S S1 most2 nx2 U U1 a1 a2 cs (f && true) (true && false) W' :=
  ⟨⟨v1, v2', by rw [Bool.and_true]; exact hg.tab h2 h1 (by decide) (by decide) (by decide) h3.1.symm, h2', (hg.apt h1.row h3.1.symm).symm, h3.2.ref h2 hg⟩, hg.blk h2 h.act (by decide) (by decide), hg.below h2 h.below (Nat.le_refl _) h.size, Nat.le_trans h.size hg.size, Nat.lt_of_lt_of_le h.grew hg.size⟩
end
/-- Both tables. -/
structure Pair (hi b1 b2 c most : Nat) (nx : Int) (S : List Pr) (c2 most2 : Nat) (nx2 : Int) (U : List Pr) (W : World) : Prop where
  is : ∃ v1 v2, TabAt hi 57 W b1 v1 (most : Int) nx S ∧ TabAt hi 34 W b2 v2 nx2 (most2 : Int) U ∧ T.Apt v1 v2
  ok : Ok c most nx S
  ok2 : Ok c2 most2 nx2 U
theorem Pair.on {hi b1 b2 c most c2 most2 : Nat} {nx nx2 : Int} {S U : List Pr} {W W' : World} (h : Pair hi b1 b2 c most nx S c2 most2 nx2 U W) (hb : Below W.heap.size W W') : Pair hi b1 b2 c most nx S c2 most2 nx2 U W' := by
  obtain ⟨v1, v2, h1, h2, h3⟩ := h.is
  exact ⟨⟨v1, v2, h1.on hb, h2.on hb, h3⟩, h.ok, h.ok2⟩
/-- What an act leaves. -/
def pdB (xn : Int) : Bool := xn.tmod 2 != 0
def doS (most : Nat) (nx : Int) (S : List Pr) (xk xp xn : Int) : List Pr := if xk == 1 then exitS S xp xn else if xk == 2 then waitS S xp xn else if xk == 3 then reapS S xp else if xk == 4 then enterS S xp else if xk == 5 then moveS S xp xn else forkS most nx S xp (pdB xn)
def doX (most : Nat) (nx : Int) (S : List Pr) (xk xp : Int) : Int := if xk == 1 then nx else if xk == 2 then nx else if xk == 3 then nx else if xk == 4 then nx else if xk == 5 then nx else forkX most nx S xp
def DoesPost (hi b1 b2 : Nat) (v1 v2 : Value) (c most : Nat) (nx : Int) (S : List Pr) (c2 most2 : Nat) (nx2 : Int) (U : List Pr) (xk xp xn : Int) (w : World) (e : Ending) (w' : World) : Prop := ∃ B, e = .returned (.bool B) ∧ ((S = U ∧ most = most2 ∧ nx = nx2) → B = true) ∧ Pair hi b1 b2 (c + 1) most (doX most nx S xk xp) (doS most nx S xk xp xn) (c2 + 1) most2 (doX most2 nx2 U xk xp) (doS most2 nx2 U xk xp xn) w' ∧ Below hi w w' ∧ w.heap.size < w'.heap.size ∧ ∃ v1' v2', TabAt hi 57 w' b1 v1' (most : Int) (doX most nx S xk xp) (doS most nx S xk xp xn) ∧ KeepR w v1 v2 v1' v2' w'
theorem Ok.does {c most : Nat} {nx : Int} {S : List Pr} (h : Ok c most nx S) (xk xp xn : Int) : Ok (c + 1) most (doX most nx S xk xp) (doS most nx S xk xp xn) := by
  unfold doX doS
  repeat' split
  all_goals first | exact h.exit _ _ | exact h.wait _ _ | exact h.reap _ | exact h.enter _ | exact h.move _ _ | exact h.fork _ _

set_option maxRecDepth 100000 in
set_option maxHeartbeats 8000000 in
theorem does_any {hi b1 b2 c most c2 most2 : Nat} {nx nx2 : Int} {S U : List Pr} {w : World} {v1 v2 : Value} (h1 : TabAt hi 57 w b1 v1 (most : Int) nx S) (h2 : TabAt hi 34 w b2 v2 nx2 (most2 : Int) U) (h3 : T.Apt v1 v2) (ok : Ok c most nx S) (ok2 : Ok c2 most2 nx2 U) (hc : c ≤ 900) (hc2 : c2 ≤ 900) (hm : most ≤ 64) (hm2 : most2 ≤ 64) (hhi : hi ≤ w.heap.size) (xk xp xn : Int) (_hxn : -9223372036854775808 ≤ xn ∧ xn ≤ 9223372036854775807) :
    Calls Try.prog 9 #[ptr b1, ptr b2, .agg #[.int .i64 xk, .int .i64 xp, .int .i64 xn]] w (DoesPost hi b1 b2 v1 v2 c most nx S c2 most2 nx2 U xk xp xn w) := by
  have HK : Hid (Ok c most nx S) := ok
  have HK2 : Hid (Ok c2 most2 nx2 U) := ok2
  have HL : Hid (S.length ≤ 1000) := by have := ok.len; show _ ≤ _; omega
  have HL2 : Hid (U.length ≤ 1000) := by have := ok2.len; show _ ≤ _; omega
  have hal := on_alloc w (.cells #[.int .i64 xk, .int .i64 xp, .int .i64 xn] 29)
  have hX := Blk.new w 29 [.int .i64 xk, .int .i64 xp, .int .i64 xn]
  have HD : Hid (∀ X1 S1 X2 U1, X1 = doX most nx S xk xp → S1 = doS most nx S xk xp xn → X2 = doX most2 nx2 U xk xp → U1 = doS most2 nx2 U xk xp xn → ∀ B w1 v1' v2', ((S = U ∧ most = most2 ∧ nx = nx2) → B = true) → TabAt hi 57 w1 b1 v1' (most : Int) X1 S1 → TabAt hi 34 w1 b2 v2' X2 (most2 : Int) U1 → T.Apt v1' v2' → Below hi w w1 → w.heap.size < w1.heap.size → KeepR w v1 v2 v1' v2' w1 → DoesPost hi b1 b2 v1 v2 c most nx S c2 most2 nx2 U xk xp xn w (.returned (.bool B)) w1) := by
    rintro X1 S1 X2 U1 rfl rfl rfl rfl B w1 v1' v2' hB g1 g2 g3 g4 g5 g6
    exact ⟨B, rfl, hB, ⟨⟨v1', v2', g1, g2, g3⟩, ok.does xk xp xn, ok2.does xk xp xn⟩, g4, g5, v1', v2', g1, g6⟩
  generalize DoesPost hi b1 b2 v1 v2 c most nx S c2 most2 nx2 U xk xp xn w = Post at *
  have HB0 : Hid (∀ S1 U1, Both hi w b1 b2 w.heap.size most nx S S1 most2 nx2 U U1 v1 v2 [.int .i64 xk, .int .i64 xp, .int .i64 xn] true true (w.alloc (.cells #[.int .i64 xk, .int .i64 xp, .int .i64 xn] 29))) := fun S1 U1 => ⟨⟨v1, v2, h1.on hal, h2.on hal, h3, (KeepR.refl w v1 v2).on hal⟩, hX, hal.mono hhi, Nat.le_trans hhi hal.size, by rw [World.size_alloc]; omega⟩
  have y0 := hX.cell 0 rfl
  have y1 := hX.cell 1 rfl
  have y2 := hX.cell 2 rfl
  obtain ⟨ab, hab⟩ : ∃ ab, w.heap.size = ab := ⟨_, rfl⟩
  have HAb : Hid (w.heap.size = ab) := hab
  rw [hab] at HB0
  have HT0 : Hid (TabAt hi 57 (w.alloc (.cells #[.int .i64 xk, .int .i64 xp, .int .i64 xn] 29)) b1 v1 (most : Int) nx S ∧ TabAt hi 34 (w.alloc (.cells #[.int .i64 xk, .int .i64 xp, .int .i64 xn] 29)) b2 v2 nx2 (most2 : Int) U ∧ T.Apt v1 v2 ∧ KeepR w v1 v2 v1 v2 (w.alloc (.cells #[.int .i64 xk, .int .i64 xp, .int .i64 xn] 29))) := ⟨h1.on hal, h2.on hal, h3, (KeepR.refl w v1 v2).on hal⟩
  have HX0 : Hid (Blk (w.alloc (.cells #[.int .i64 xk, .int .i64 xp, .int .i64 xn] 29)) w.heap.size 29 [.int .i64 xk, .int .i64 xp, .int .i64 xn]) := hX
  have HBe : Hid (Below hi w (w.alloc (.cells #[.int .i64 xk, .int .i64 xp, .int .i64 xn] 29)) ∧ hi ≤ (w.alloc (.cells #[.int .i64 xk, .int .i64 xp, .int .i64 xn] 29)).heap.size ∧ w.heap.size < (w.alloc (.cells #[.int .i64 xk, .int .i64 xp, .int .i64 xn] 29)).heap.size) := ⟨hal.mono hhi, Nat.le_trans hhi hal.size, by rw [World.size_alloc]; omega⟩
  clear h1 h2 h3 hX hal hab ok ok2
  by_cases hk1 : xk = 1
  · have hk1b : (xk == 1) = true := by simpa using hk1
    clear hk1
    obtain ⟨E1, hE1⟩ : ∃ E1, exitE S xp = E1 := ⟨_, rfl⟩
    have HE1 : Hid (exitE S xp = E1) := hE1
    obtain ⟨E2, hE2⟩ : ∃ E2, exitE U xp = E2 := ⟨_, rfl⟩
    have HE2 : Hid (exitE U xp = E2) := hE2
    have HEE : Hid ((S = U ∧ most = most2 ∧ nx = nx2) → (E1 == E2) = true) := fun h => by rw [← hE1, ← hE2, h.1]; exact beq_self_eq_true _
    obtain ⟨S1, hS1⟩ : ∃ S1, exitS S xp xn = S1 := ⟨_, rfl⟩
    obtain ⟨U1, hU1⟩ : ∃ U1, exitS U xp xn = U1 := ⟨_, rfl⟩
    have HS1 : Hid (exitS S xp xn = S1) := hS1
    have HU1 : Hid (exitS U xp xn = U1) := hU1
    have HB1 := HB0.out S1 U1
    have HD1 : Hid _ := HD.out nx S1 nx2 U1 (by unfold doX; rw [hk1b]; rfl) (by unfold doS; rw [hk1b, ← hS1]; rfl) (by unfold doX; rw [hk1b]; rfl) (by unfold doS; rw [hk1b, ← hU1]; rfl)
    have HS0 : Hid (Both hi w b1 b2 ab most nx S S1 most2 nx2 U U1 v1 v2 [.int .i64 xk, .int .i64 xp, .int .i64 xn] true true (w.alloc (.cells #[.int .i64 xk, .int .i64 xp, .int .i64 xn] 29)).drew) := by
      obtain ⟨v1, v2, h1, h2, h3, h4⟩ := HB1.is
      have hd := on_drew (Below.refl (w.alloc (.cells #[.int .i64 xk, .int .i64 xp, .int .i64 xn] 29)).heap.size (w.alloc (.cells #[.int .i64 xk, .int .i64 xp, .int .i64 xn] 29)))
      exact ⟨⟨v1, v2, h1.on hd, h2.on hd, h3, h4.on hd⟩, HB1.act.on hd, HB1.below.trans (hd.mono HB1.size), HB1.size, HB1.grew⟩
    clear HB0 HB1 HT0 HX0 HBe hS1 hU1 hE1 hE2 HD
    go_enter Try.func9, Try.ntmps9
    go_wp2
    rw [show w.heap.size = ab from HAb.out]
    generalize (w.alloc (.cells #[.int .i64 xk, .int .i64 xp, .int .i64 xn] 29)) = wa at *
    clear y0 y1 y2
    refine wp_region_five (S := fun f f2 _ W => Both hi w b1 b2 ab most nx S S1 most2 nx2 U U1 v1 v2 [.int .i64 xk, .int .i64 xp, .int .i64 xn] f f2 W) (u := 5) (tu := 34) (u2 := 11) (Keep := fun _ _ _ => True)
      (g := fun _ jj vv WW => (([.is (ptr b1), .is (.pointer (some ⟨ab, 1, none⟩)), .is (.int .i64 xp), .is (.pointer (some ⟨ab, 2, none⟩)), .is (.int .i64 xn), .is (.int .i64 E1), .is (ptr b2), .is (.pointer (some ⟨ab, 1, none⟩)), .is (.int .i64 xp), .is (.pointer (some ⟨ab, 2, none⟩)), .is (.int .i64 xn), .is (.int .i64 E2), .is (.bool (E1 == E2)), .is (.bool (E1 == E2))] : List (Kd 0)).getD jj Kd.any).ok vv WW)
      (tab := [[(0, none)], [(5, none)], [(30, some 1)], [(5, none)], [(32, some 3)], [(29, some 0), (31, some 2), (33, some 4)], [(1, none)], [(5, none)], [(36, some 7)], [(5, none)], [(38, some 9)], [(35, some 6), (37, some 8), (39, some 10)], [(34, some 5), (40, some 11)], [(41, some 12)]]) (tl := []) (n := 170)
      (by kernel_rfl) rfl (by kernel_rfl) (by kernel_rfl) (fun _ _ _ _ _ _ _ h => h) ?kR1 HS0.out ?stR1 ?enR1
    case kR1 =>
      intro _ i2 j v W W' hk hne hed hed2 htl hg2
      match j, hg2 with
      | 0, hg2 | 1, hg2 | 2, hg2 | 3, hg2 | 4, hg2 | 5, hg2 | 6, hg2 | 7, hg2 | 8, hg2 | 9, hg2 | 10, hg2 | 11, hg2 | 12, hg2 | 13, hg2 => exact hg2
      | j + 14, hg2 => exact hg2
    case stR1 =>
      refine ⟨fun ρ W f f2 hf hf2 hf3 hf4 hr hS hs => ?_, fun ρ W f f2 hf hf2 hf3 hf4 hr hS hs => ?_, fun ρ W f f2 hf hf2 hf3 hf4 hr hS hs => ?_, fun ρ W f f2 hf hf2 hf3 hf4 hr hS hs => ?_, fun ρ W f f2 hf hf2 hf3 hf4 hr hS hs => ?_, fun ρ W f f2 hf hf2 hf3 hf4 hr hS hs => ?_, fun ρ W f f2 hf hf2 hf3 hf4 hr hS hs => ?_, fun ρ W f f2 hf hf2 hf3 hf4 hr hS hs => ?_, fun ρ W f f2 hf hf2 hf3 hf4 hr hS hs => ?_, fun ρ W f f2 hf hf2 hf3 hf4 hr hS hs => ?_, fun ρ W f f2 hf hf2 hf3 hf4 hr hS hs => ?_, fun ρ W f f2 hf hf2 hf3 hf4 hr hS hs => ?_, fun ρ W f f2 hf hf2 hf3 hf4 hr hS hs => ?_, fun ρ W f f2 hf hf2 hf3 hf4 hr hS hs => ?_, trivial⟩
      · have h0 : ρ (.tmp 0) = ptr b1 := hs.1
        exact step4_plain rfl (by decide) (leaves_move (.tmp 0) rfl ⟨h0, by simpa using hS, trivial⟩)
      · have h5 : ρ (.tmp 5) = .pointer (some ⟨ab, 0, none⟩) := hs.1
        refine step4_plain rfl (by decide) (leaves_value (v := .pointer (some ⟨ab, 1, none⟩)) (w' := W) ?_ ⟨rfl, by simpa using hS, trivial⟩)
        simp [go_sem, h5]
      · have h30 : ρ (.tmp 30) = .pointer (some ⟨ab, 1, none⟩) := hs.1
        refine step4_plain rfl (by decide) (leaves_value (v := .int .i64 xp) (w' := W) ?_ ⟨rfl, by simpa using hS, trivial⟩)
        have zc := hS.act.cell 1 rfl
        simp [go_sem, h30, zc]
      · have h5 : ρ (.tmp 5) = .pointer (some ⟨ab, 0, none⟩) := hs.1
        refine step4_plain rfl (by decide) (leaves_value (v := .pointer (some ⟨ab, 2, none⟩)) (w' := W) ?_ ⟨rfl, by simpa using hS, trivial⟩)
        simp [go_sem, h5]
      · have h32 : ρ (.tmp 32) = .pointer (some ⟨ab, 2, none⟩) := hs.1
        refine step4_plain rfl (by decide) (leaves_value (v := .int .i64 xn) (w' := W) ?_ ⟨rfl, by simpa using hS, trivial⟩)
        have zc := hS.act.cell 2 rfl
        simp [go_sem, h32, zc]
      · have h29 : ρ (.tmp 29) = ptr b1 := hs.1
        have h31 : ρ (.tmp 31) = .int .i64 xp := hs.2.1
        have h33 : ρ (.tmp 33) = .int .i64 xn := hs.2.2.1
        obtain rfl : f = true := hf (by kernel_rfl)
        obtain ⟨v1, v2, h1, h2, h3⟩ := hS.is
        have h1 : TabAt hi 57 W b1 v1 (most : Int) nx S := h1
        refine step4_made rfl (leaves_call en_exit hr #[.tmp 29, .tmp 31, .tmp 33] _ rfl #[ptr b1, .int .i64 xp, .int .i64 xn] (by simp [h29, h31, h33]) ((exit_any h1 HK.out.sorted HL.out xp xn).mono ?_))
        rintro e W' ⟨rfl, v1', h1', hg⟩
        rw [HS1.out] at h1'
        rw [HE1.out]
        exact ⟨_, rfl, rfl, hS.prog h1 h2 h3 h1' hg, trivial⟩
      · have h1 : ρ (.tmp 1) = ptr b2 := hs.1
        exact step4_plain rfl (by decide) (leaves_move (.tmp 1) rfl ⟨h1, by simpa using hS, trivial⟩)
      · have h5 : ρ (.tmp 5) = .pointer (some ⟨ab, 0, none⟩) := hs.1
        refine step4_plain rfl (by decide) (leaves_value (v := .pointer (some ⟨ab, 1, none⟩)) (w' := W) ?_ ⟨rfl, by simpa using hS, trivial⟩)
        simp [go_sem, h5]
      · have h36 : ρ (.tmp 36) = .pointer (some ⟨ab, 1, none⟩) := hs.1
        refine step4_plain rfl (by decide) (leaves_value (v := .int .i64 xp) (w' := W) ?_ ⟨rfl, by simpa using hS, trivial⟩)
        have zc := hS.act.cell 1 rfl
        simp [go_sem, h36, zc]
      · have h5 : ρ (.tmp 5) = .pointer (some ⟨ab, 0, none⟩) := hs.1
        refine step4_plain rfl (by decide) (leaves_value (v := .pointer (some ⟨ab, 2, none⟩)) (w' := W) ?_ ⟨rfl, by simpa using hS, trivial⟩)
        simp [go_sem, h5]
      · have h38 : ρ (.tmp 38) = .pointer (some ⟨ab, 2, none⟩) := hs.1
        refine step4_plain rfl (by decide) (leaves_value (v := .int .i64 xn) (w' := W) ?_ ⟨rfl, by simpa using hS, trivial⟩)
        have zc := hS.act.cell 2 rfl
        simp [go_sem, h38, zc]
      · have h35 : ρ (.tmp 35) = ptr b2 := hs.1
        have h37 : ρ (.tmp 37) = .int .i64 xp := hs.2.1
        have h39 : ρ (.tmp 39) = .int .i64 xn := hs.2.2.1
        obtain rfl : f2 = true := hf3 (by kernel_rfl)
        obtain ⟨v1, v2, h1, h2, h3⟩ := hS.is
        have h2 : TabAt hi 34 W b2 v2 nx2 (most2 : Int) U := h2
        refine step4_plain rfl (by decide) (leaves_call en_rexit hr #[.tmp 35, .tmp 37, .tmp 39] _ rfl #[ptr b2, .int .i64 xp, .int .i64 xn] (by simp [h35, h37, h39]) ((rexit_any h2 HK2.out.sorted HL2.out xp xn).mono ?_))
        rintro e W' ⟨rfl, v2', h2', hg⟩
        rw [HU1.out] at h2'
        rw [HE2.out]
        exact ⟨_, rfl, rfl, hS.ref h1 h2 h3 h2' hg, trivial⟩
      · have h34 : ρ (.tmp 34) = .int .i64 E1 := hs.1
        have h40 : ρ (.tmp 40) = .int .i64 E2 := hs.2.1
        refine step4_plain rfl (by decide) (leaves_value (v := .bool (E1 == E2)) (w' := W) ?_ ⟨rfl, by simpa using hS, trivial⟩)
        simp [go_sem, h34, h40]
      · have h41 : ρ (.tmp 41) = .bool (E1 == E2) := hs.1
        exact step4_plain rfl (by decide) (leaves_assign (.tmp 41) rfl ⟨h41, by simpa using hS, trivial⟩)
    case enR1 =>
      intro x5 f f2 W hf hf2 hS v0 h0 v1 h1 v2 h2 v3 h3 v4 h4 v5 h5 v6 h6 v7 h7 v8 h8 v9 h9 v10 h10 v11 h11 v12 h12 v13 h13 hx5
      obtain rfl : f = false := hf (by decide)
      obtain rfl : f2 = false := hf2 (by decide)
      clear hf hf2 hx5
      have e0 : v0 = ptr b1 := h0 rfl
      subst v0
      have e1 : v1 = .pointer (some ⟨ab, 1, none⟩) := h1 rfl
      subst v1
      have e2 : v2 = .int .i64 xp := h2 rfl
      subst v2
      have e3 : v3 = .pointer (some ⟨ab, 2, none⟩) := h3 rfl
      subst v3
      have e4 : v4 = .int .i64 xn := h4 rfl
      subst v4
      have e5 : v5 = .int .i64 E1 := h5 rfl
      subst v5
      have e6 : v6 = ptr b2 := h6 rfl
      subst v6
      have e7 : v7 = .pointer (some ⟨ab, 1, none⟩) := h7 rfl
      subst v7
      have e8 : v8 = .int .i64 xp := h8 rfl
      subst v8
      have e9 : v9 = .pointer (some ⟨ab, 2, none⟩) := h9 rfl
      subst v9
      have e10 : v10 = .int .i64 xn := h10 rfl
      subst v10
      have e11 : v11 = .int .i64 E2 := h11 rfl
      subst v11
      have e12 : v12 = .bool (E1 == E2) := h12 rfl
      subst v12
      have e13 : v13 = .bool (E1 == E2) := h13 rfl
      subst v13
      clear h0 h1 h2 h3 h4 h5 h6 h7 h8 h9 h10 h11 h12 h13
      simp only [Act.put, List.setIfInBounds_toArray, List.set_cons_succ, List.set_cons_zero]
      obtain ⟨v1, v2, h1, h2, h3, h4⟩ := hS.is
      have HZ : Hid (Post (.returned (.bool (E1 == E2))) W) := HD1.out (E1 == E2) W v1 v2 HEE.out h1 h2 h3 hS.below hS.grew h4
      clear hS h1 h2 h3 h4 HD1
      go_wp2
      exact HZ.out
  have hk1b : (xk == 1) = false := by simpa using hk1
  by_cases hk2 : xk = 2
  · have hk2b : (xk == 2) = true := by simpa using hk2
    clear hk1 hk2 HB0
    have cD := wait_any HT0.out.1 HL.out xp xn
    obtain ⟨N1, hN1⟩ : ∃ z, waitN S xp xn = z := ⟨_, rfl⟩
    obtain ⟨N2, hN2⟩ : ∃ z, waitN U xp xn = z := ⟨_, rfl⟩
    obtain ⟨C1, hC1⟩ : ∃ z, waitC S xp xn = z := ⟨_, rfl⟩
    obtain ⟨C2, hC2⟩ : ∃ z, waitC U xp xn = z := ⟨_, rfl⟩
    obtain ⟨E1, hE1⟩ : ∃ z, waitE S xp xn = z := ⟨_, rfl⟩
    obtain ⟨E2, hE2⟩ : ∃ z, waitE U xp xn = z := ⟨_, rfl⟩
    have HEE : Hid ((S = U ∧ most = most2 ∧ nx = nx2) → (N1 == N2) = true ∧ (C1 == C2) = true ∧ (E1 == E2) = true) := by
      rintro ⟨rfl, rfl, rfl⟩
      exact ⟨by rw [← hN1, ← hN2]; exact beq_self_eq_true _, by rw [← hC1, ← hC2]; exact beq_self_eq_true _, by rw [← hE1, ← hE2]; exact beq_self_eq_true _⟩
    rw [hN1, hC1, hE1] at cD
    have HR2 : Hid (waitN U xp xn = N2 ∧ waitC U xp xn = C2 ∧ waitE U xp xn = E2) := ⟨hN2, hC2, hE2⟩
    clear hN1 hN2 hC1 hC2 hE1 hE2
    go_enter Try.func9, Try.ntmps9
    go_wp2_with fail
    generalize (w.alloc (.cells #[.int .i64 xk, .int .i64 xp, .int .i64 xn] 29)) = wa at *
    refine cD.mono ?_
    rintro e w3 ⟨rfl, v3, hT3, hG3⟩
    have hR3 := hG3.tab HT0.out.1 HT0.out.2.1 (by decide) (by decide) (by decide) HT0.out.2.2.1
    have hA3 := hG3.apt HT0.out.2.1.row HT0.out.2.2.1
    have hK3 := HT0.out.2.2.2.prog HT0.out.1 hG3
    have hX3 := hG3.blk HT0.out.1 HX0.out (by decide) (by decide)
    have hB3 := hG3.below HT0.out.1 HBe.out.1 (Nat.le_refl _) HBe.out.2.1
    have hS3 : hi ≤ w3.heap.size := Nat.le_trans HBe.out.2.1 hG3.size
    have u1 := hX3.cell 1 rfl
    have u2 := hX3.cell 2 rfl
    have cR := rwait_any hR3 HK2.out.sorted HL2.out xp xn
    rw [HR2.out.1, HR2.out.2.1, HR2.out.2.2] at cR
    have HT3 : Hid _ := And.intro hT3 (And.intro hR3 (And.intro hA3 hK3))
    have HB3 : Hid (Below hi w w3 ∧ hi ≤ w3.heap.size ∧ w.heap.size < w3.heap.size) := ⟨hB3, hS3, Nat.lt_of_lt_of_le HBe.out.2.2 hG3.size⟩
    clear cD hT3 hG3 hR3 hA3 hK3 hX3 hB3 hS3 HT0 HX0 HBe y0 y1 y2
    go_wp2_with fail
    refine cR.mono ?_
    rintro e w4 ⟨rfl, v4, hT4, hG4⟩
    have HZ : Hid (∀ B, ((S = U ∧ most = most2 ∧ nx = nx2) → B = true) → Post (.returned (.bool B)) w4) := fun B hB => HD.out (nx) (waitS S xp xn) (nx2) (waitS U xp xn) (by unfold doX; rw [hk1b, hk2b]; rfl) (by unfold doS; rw [hk1b, hk2b]; rfl) (by unfold doX; rw [hk1b, hk2b]; rfl) (by unfold doS; rw [hk1b, hk2b]; rfl) B w4 v3 v4 hB (hG4.tab HT3.out.2.1 HT3.out.1 (by decide) (by decide) (by decide) HT3.out.2.2.1.symm) hT4 (hG4.apt HT3.out.1.row HT3.out.2.2.1.symm).symm (hG4.below HT3.out.2.1 HB3.out.1 (Nat.le_refl _) HB3.out.2.1) (Nat.lt_of_lt_of_le HB3.out.2.2 hG4.size) (HT3.out.2.2.2.ref HT3.out.2.1 hG4)
    clear cR hT4 hG4 HT3 HB3 HD u1 u2
    cases hN : (N1 == N2) with
    | false =>
      go_wp2
      exact HZ.out false (fun h => by have := (HEE.out h).1; rw [hN] at this; cases this)
    | true =>
      cases hC : (C1 == C2) with
      | false =>
        go_wp2
        exact HZ.out false (fun h => by have := (HEE.out h).2.1; rw [hC] at this; cases this)
      | true =>
        cases hE : (E1 == E2) with
        | false =>
          go_wp2
          exact HZ.out false (fun h => by have := (HEE.out h).2.2; rw [hE] at this; cases this)
        | true =>
          go_wp2
          exact HZ.out true fun _ => rfl
  have hk2b : (xk == 2) = false := by simpa using hk2
  by_cases hk3 : xk = 3
  · have hk3b : (xk == 3) = true := by simpa using hk3
    clear hk1 hk2 hk3 HB0
    have cD := reap_any HT0.out.1 HL.out xp
    obtain ⟨N1, hN1⟩ : ∃ z, reapN S xp = z := ⟨_, rfl⟩
    obtain ⟨N2, hN2⟩ : ∃ z, reapN U xp = z := ⟨_, rfl⟩
    obtain ⟨E1, hE1⟩ : ∃ z, reapE S xp = z := ⟨_, rfl⟩
    obtain ⟨E2, hE2⟩ : ∃ z, reapE U xp = z := ⟨_, rfl⟩
    have HEE : Hid ((S = U ∧ most = most2 ∧ nx = nx2) → (N1 == N2) = true ∧ (E1 == E2) = true) := by
      rintro ⟨rfl, rfl, rfl⟩
      exact ⟨by rw [← hN1, ← hN2]; exact beq_self_eq_true _, by rw [← hE1, ← hE2]; exact beq_self_eq_true _⟩
    rw [hN1, hE1] at cD
    have HR2 : Hid (reapN U xp = N2 ∧ reapE U xp = E2) := ⟨hN2, hE2⟩
    clear hN1 hN2 hE1 hE2
    go_enter Try.func9, Try.ntmps9
    go_wp2_with fail
    generalize (w.alloc (.cells #[.int .i64 xk, .int .i64 xp, .int .i64 xn] 29)) = wa at *
    refine cD.mono ?_
    rintro e w3 ⟨rfl, v3, hT3, hG3⟩
    have hR3 := hG3.tab HT0.out.1 HT0.out.2.1 (by decide) (by decide) (by decide) HT0.out.2.2.1
    have hA3 := hG3.apt HT0.out.2.1.row HT0.out.2.2.1
    have hK3 := HT0.out.2.2.2.prog HT0.out.1 hG3
    have hX3 := hG3.blk HT0.out.1 HX0.out (by decide) (by decide)
    have hB3 := hG3.below HT0.out.1 HBe.out.1 (Nat.le_refl _) HBe.out.2.1
    have hS3 : hi ≤ w3.heap.size := Nat.le_trans HBe.out.2.1 hG3.size
    have u1 := hX3.cell 1 rfl
    have u2 := hX3.cell 2 rfl
    have cR := rreap_any hR3 HK2.out.sorted HL2.out xp
    rw [HR2.out.1, HR2.out.2] at cR
    have HT3 : Hid _ := And.intro hT3 (And.intro hR3 (And.intro hA3 hK3))
    have HB3 : Hid (Below hi w w3 ∧ hi ≤ w3.heap.size ∧ w.heap.size < w3.heap.size) := ⟨hB3, hS3, Nat.lt_of_lt_of_le HBe.out.2.2 hG3.size⟩
    clear cD hT3 hG3 hR3 hA3 hK3 hX3 hB3 hS3 HT0 HX0 HBe y0 y1 y2
    go_wp2_with fail
    refine cR.mono ?_
    rintro e w4 ⟨rfl, v4, hT4, hG4⟩
    have HZ : Hid (∀ B, ((S = U ∧ most = most2 ∧ nx = nx2) → B = true) → Post (.returned (.bool B)) w4) := fun B hB => HD.out (nx) (reapS S xp) (nx2) (reapS U xp) (by unfold doX; rw [hk1b, hk2b, hk3b]; rfl) (by unfold doS; rw [hk1b, hk2b, hk3b]; rfl) (by unfold doX; rw [hk1b, hk2b, hk3b]; rfl) (by unfold doS; rw [hk1b, hk2b, hk3b]; rfl) B w4 v3 v4 hB (hG4.tab HT3.out.2.1 HT3.out.1 (by decide) (by decide) (by decide) HT3.out.2.2.1.symm) hT4 (hG4.apt HT3.out.1.row HT3.out.2.2.1.symm).symm (hG4.below HT3.out.2.1 HB3.out.1 (Nat.le_refl _) HB3.out.2.1) (Nat.lt_of_lt_of_le HB3.out.2.2 hG4.size) (HT3.out.2.2.2.ref HT3.out.2.1 hG4)
    clear cR hT4 hG4 HT3 HB3 HD u1 u2
    cases hN : (N1 == N2) with
    | false =>
      go_wp2
      exact HZ.out false (fun h => by have := (HEE.out h).1; rw [hN] at this; cases this)
    | true =>
      cases hE : (E1 == E2) with
      | false =>
        go_wp2
        exact HZ.out false (fun h => by have := (HEE.out h).2; rw [hE] at this; cases this)
      | true =>
        go_wp2
        exact HZ.out true fun _ => rfl
  have hk3b : (xk == 3) = false := by simpa using hk3
  by_cases hk4 : xk = 4
  · have hk4b : (xk == 4) = true := by simpa using hk4
    clear hk1 hk2 hk3 hk4
    obtain ⟨E1, hE1⟩ : ∃ E1, enterE S xp = E1 := ⟨_, rfl⟩
    have HE1 : Hid (enterE S xp = E1) := hE1
    obtain ⟨E2, hE2⟩ : ∃ E2, enterE U xp = E2 := ⟨_, rfl⟩
    have HE2 : Hid (enterE U xp = E2) := hE2
    have HEE : Hid ((S = U ∧ most = most2 ∧ nx = nx2) → (E1 == E2) = true) := fun h => by rw [← hE1, ← hE2, h.1]; exact beq_self_eq_true _
    obtain ⟨S1, hS1⟩ : ∃ S1, enterS S xp = S1 := ⟨_, rfl⟩
    obtain ⟨U1, hU1⟩ : ∃ U1, enterS U xp = U1 := ⟨_, rfl⟩
    have HS1 : Hid (enterS S xp = S1) := hS1
    have HU1 : Hid (enterS U xp = U1) := hU1
    have HB1 := HB0.out S1 U1
    have HD1 : Hid _ := HD.out nx S1 nx2 U1 (by unfold doX; rw [hk1b, hk2b, hk3b, hk4b]; rfl) (by unfold doS; rw [hk1b, hk2b, hk3b, hk4b, ← hS1]; rfl) (by unfold doX; rw [hk1b, hk2b, hk3b, hk4b]; rfl) (by unfold doS; rw [hk1b, hk2b, hk3b, hk4b, ← hU1]; rfl)
    have HS0 : Hid (Both hi w b1 b2 ab most nx S S1 most2 nx2 U U1 v1 v2 [.int .i64 xk, .int .i64 xp, .int .i64 xn] true true (w.alloc (.cells #[.int .i64 xk, .int .i64 xp, .int .i64 xn] 29)).drew) := by
      obtain ⟨v1, v2, h1, h2, h3, h4⟩ := HB1.is
      have hd := on_drew (Below.refl (w.alloc (.cells #[.int .i64 xk, .int .i64 xp, .int .i64 xn] 29)).heap.size (w.alloc (.cells #[.int .i64 xk, .int .i64 xp, .int .i64 xn] 29)))
      exact ⟨⟨v1, v2, h1.on hd, h2.on hd, h3, h4.on hd⟩, HB1.act.on hd, HB1.below.trans (hd.mono HB1.size), HB1.size, HB1.grew⟩
    clear HB0 HB1 HT0 HX0 HBe hS1 hU1 hE1 hE2 HD
    go_enter Try.func9, Try.ntmps9
    go_wp2
    rw [show w.heap.size = ab from HAb.out]
    generalize (w.alloc (.cells #[.int .i64 xk, .int .i64 xp, .int .i64 xn] 29)) = wa at *
    clear y0 y1 y2
    refine wp_region_five (S := fun f f2 _ W => Both hi w b1 b2 ab most nx S S1 most2 nx2 U U1 v1 v2 [.int .i64 xk, .int .i64 xp, .int .i64 xn] f f2 W) (u := 3) (tu := 106) (u2 := 7) (Keep := fun _ _ _ => True)
      (g := fun _ jj vv WW => (([.is (ptr b1), .is (.pointer (some ⟨ab, 1, none⟩)), .is (.int .i64 xp), .is (.int .i64 E1), .is (ptr b2), .is (.pointer (some ⟨ab, 1, none⟩)), .is (.int .i64 xp), .is (.int .i64 E2), .is (.bool (E1 == E2)), .is (.bool (E1 == E2))] : List (Kd 0)).getD jj Kd.any).ok vv WW)
      (tab := [[(0, none)], [(5, none)], [(104, some 1)], [(103, some 0), (105, some 2)], [(1, none)], [(5, none)], [(108, some 5)], [(107, some 4), (109, some 6)], [(106, some 3), (110, some 7)], [(111, some 8)]]) (tl := []) (n := 170)
      (by kernel_rfl) rfl (by kernel_rfl) (by kernel_rfl) (fun _ _ _ _ _ _ _ h => h) ?kR2 HS0.out ?stR2 ?enR2
    case kR2 =>
      intro _ i2 j v W W' hk hne hed hed2 htl hg2
      match j, hg2 with
      | 0, hg2 | 1, hg2 | 2, hg2 | 3, hg2 | 4, hg2 | 5, hg2 | 6, hg2 | 7, hg2 | 8, hg2 | 9, hg2 => exact hg2
      | j + 10, hg2 => exact hg2
    case stR2 =>
      refine ⟨fun ρ W f f2 hf hf2 hf3 hf4 hr hS hs => ?_, fun ρ W f f2 hf hf2 hf3 hf4 hr hS hs => ?_, fun ρ W f f2 hf hf2 hf3 hf4 hr hS hs => ?_, fun ρ W f f2 hf hf2 hf3 hf4 hr hS hs => ?_, fun ρ W f f2 hf hf2 hf3 hf4 hr hS hs => ?_, fun ρ W f f2 hf hf2 hf3 hf4 hr hS hs => ?_, fun ρ W f f2 hf hf2 hf3 hf4 hr hS hs => ?_, fun ρ W f f2 hf hf2 hf3 hf4 hr hS hs => ?_, fun ρ W f f2 hf hf2 hf3 hf4 hr hS hs => ?_, fun ρ W f f2 hf hf2 hf3 hf4 hr hS hs => ?_, trivial⟩
      · have h0 : ρ (.tmp 0) = ptr b1 := hs.1
        exact step4_plain rfl (by decide) (leaves_move (.tmp 0) rfl ⟨h0, by simpa using hS, trivial⟩)
      · have h5 : ρ (.tmp 5) = .pointer (some ⟨ab, 0, none⟩) := hs.1
        refine step4_plain rfl (by decide) (leaves_value (v := .pointer (some ⟨ab, 1, none⟩)) (w' := W) ?_ ⟨rfl, by simpa using hS, trivial⟩)
        simp [go_sem, h5]
      · have h104 : ρ (.tmp 104) = .pointer (some ⟨ab, 1, none⟩) := hs.1
        refine step4_plain rfl (by decide) (leaves_value (v := .int .i64 xp) (w' := W) ?_ ⟨rfl, by simpa using hS, trivial⟩)
        have zc := hS.act.cell 1 rfl
        simp [go_sem, h104, zc]
      · have h103 : ρ (.tmp 103) = ptr b1 := hs.1
        have h105 : ρ (.tmp 105) = .int .i64 xp := hs.2.1
        obtain rfl : f = true := hf (by kernel_rfl)
        obtain ⟨v1, v2, h1, h2, h3⟩ := hS.is
        have h1 : TabAt hi 57 W b1 v1 (most : Int) nx S := h1
        refine step4_made rfl (leaves_call en_enter hr #[.tmp 103, .tmp 105] _ rfl #[ptr b1, .int .i64 xp] (by simp [h103, h105]) ((enter_any h1 HK.out.sorted HL.out xp).mono ?_))
        rintro e W' ⟨rfl, v1', h1', hg⟩
        rw [HS1.out] at h1'
        rw [HE1.out]
        exact ⟨_, rfl, rfl, hS.prog h1 h2 h3 h1' hg, trivial⟩
      · have h1 : ρ (.tmp 1) = ptr b2 := hs.1
        exact step4_plain rfl (by decide) (leaves_move (.tmp 1) rfl ⟨h1, by simpa using hS, trivial⟩)
      · have h5 : ρ (.tmp 5) = .pointer (some ⟨ab, 0, none⟩) := hs.1
        refine step4_plain rfl (by decide) (leaves_value (v := .pointer (some ⟨ab, 1, none⟩)) (w' := W) ?_ ⟨rfl, by simpa using hS, trivial⟩)
        simp [go_sem, h5]
      · have h108 : ρ (.tmp 108) = .pointer (some ⟨ab, 1, none⟩) := hs.1
        refine step4_plain rfl (by decide) (leaves_value (v := .int .i64 xp) (w' := W) ?_ ⟨rfl, by simpa using hS, trivial⟩)
        have zc := hS.act.cell 1 rfl
        simp [go_sem, h108, zc]
      · have h107 : ρ (.tmp 107) = ptr b2 := hs.1
        have h109 : ρ (.tmp 109) = .int .i64 xp := hs.2.1
        obtain rfl : f2 = true := hf3 (by kernel_rfl)
        obtain ⟨v1, v2, h1, h2, h3⟩ := hS.is
        have h2 : TabAt hi 34 W b2 v2 nx2 (most2 : Int) U := h2
        refine step4_plain rfl (by decide) (leaves_call en_renter hr #[.tmp 107, .tmp 109] _ rfl #[ptr b2, .int .i64 xp] (by simp [h107, h109]) ((renter_any h2 HK2.out.sorted HL2.out xp).mono ?_))
        rintro e W' ⟨rfl, v2', h2', hg⟩
        rw [HU1.out] at h2'
        rw [HE2.out]
        exact ⟨_, rfl, rfl, hS.ref h1 h2 h3 h2' hg, trivial⟩
      · have h106 : ρ (.tmp 106) = .int .i64 E1 := hs.1
        have h110 : ρ (.tmp 110) = .int .i64 E2 := hs.2.1
        refine step4_plain rfl (by decide) (leaves_value (v := .bool (E1 == E2)) (w' := W) ?_ ⟨rfl, by simpa using hS, trivial⟩)
        simp [go_sem, h106, h110]
      · have h111 : ρ (.tmp 111) = .bool (E1 == E2) := hs.1
        exact step4_plain rfl (by decide) (leaves_assign (.tmp 111) rfl ⟨h111, by simpa using hS, trivial⟩)
    case enR2 =>
      intro x5 f f2 W hf hf2 hS v0 h0 v1 h1 v2 h2 v3 h3 v4 h4 v5 h5 v6 h6 v7 h7 v8 h8 v9 h9 hx5
      obtain rfl : f = false := hf (by decide)
      obtain rfl : f2 = false := hf2 (by decide)
      clear hf hf2 hx5
      have e0 : v0 = ptr b1 := h0 rfl
      subst v0
      have e1 : v1 = .pointer (some ⟨ab, 1, none⟩) := h1 rfl
      subst v1
      have e2 : v2 = .int .i64 xp := h2 rfl
      subst v2
      have e3 : v3 = .int .i64 E1 := h3 rfl
      subst v3
      have e4 : v4 = ptr b2 := h4 rfl
      subst v4
      have e5 : v5 = .pointer (some ⟨ab, 1, none⟩) := h5 rfl
      subst v5
      have e6 : v6 = .int .i64 xp := h6 rfl
      subst v6
      have e7 : v7 = .int .i64 E2 := h7 rfl
      subst v7
      have e8 : v8 = .bool (E1 == E2) := h8 rfl
      subst v8
      have e9 : v9 = .bool (E1 == E2) := h9 rfl
      subst v9
      clear h0 h1 h2 h3 h4 h5 h6 h7 h8 h9
      simp only [Act.put, List.setIfInBounds_toArray, List.set_cons_succ, List.set_cons_zero]
      obtain ⟨v1, v2, h1, h2, h3, h4⟩ := hS.is
      have HZ : Hid (Post (.returned (.bool (E1 == E2))) W) := HD1.out (E1 == E2) W v1 v2 HEE.out h1 h2 h3 hS.below hS.grew h4
      clear hS h1 h2 h3 h4 HD1
      go_wp2
      exact HZ.out
  have hk4b : (xk == 4) = false := by simpa using hk4
  by_cases hk5 : xk = 5
  · have hk5b : (xk == 5) = true := by simpa using hk5
    clear hk1 hk2 hk3 hk4 hk5 HB0
    have cD := move_any HT0.out.1 HK.out.sorted HL.out xp xn
    obtain ⟨N1, hN1⟩ : ∃ z, moveN S xp xn = z := ⟨_, rfl⟩
    obtain ⟨N2, hN2⟩ : ∃ z, moveN U xp xn = z := ⟨_, rfl⟩
    obtain ⟨E1, hE1⟩ : ∃ z, moveE S xp xn = z := ⟨_, rfl⟩
    obtain ⟨E2, hE2⟩ : ∃ z, moveE U xp xn = z := ⟨_, rfl⟩
    have HEE : Hid ((S = U ∧ most = most2 ∧ nx = nx2) → (N1 == N2) = true ∧ (E1 == E2) = true) := by
      rintro ⟨rfl, rfl, rfl⟩
      exact ⟨by rw [← hN1, ← hN2]; exact beq_self_eq_true _, by rw [← hE1, ← hE2]; exact beq_self_eq_true _⟩
    rw [hN1, hE1] at cD
    have HR2 : Hid (moveN U xp xn = N2 ∧ moveE U xp xn = E2) := ⟨hN2, hE2⟩
    clear hN1 hN2 hE1 hE2
    go_enter Try.func9, Try.ntmps9
    go_wp2_with fail
    generalize (w.alloc (.cells #[.int .i64 xk, .int .i64 xp, .int .i64 xn] 29)) = wa at *
    refine cD.mono ?_
    rintro e w3 ⟨rfl, v3, hT3, hG3⟩
    have hR3 := hG3.tab HT0.out.1 HT0.out.2.1 (by decide) (by decide) (by decide) HT0.out.2.2.1
    have hA3 := hG3.apt HT0.out.2.1.row HT0.out.2.2.1
    have hK3 := HT0.out.2.2.2.prog HT0.out.1 hG3
    have hX3 := hG3.blk HT0.out.1 HX0.out (by decide) (by decide)
    have hB3 := hG3.below HT0.out.1 HBe.out.1 (Nat.le_refl _) HBe.out.2.1
    have hS3 : hi ≤ w3.heap.size := Nat.le_trans HBe.out.2.1 hG3.size
    have u1 := hX3.cell 1 rfl
    have u2 := hX3.cell 2 rfl
    have cR := rmove_any hR3 HK2.out.sorted HL2.out xp xn
    rw [HR2.out.1, HR2.out.2] at cR
    have HT3 : Hid _ := And.intro hT3 (And.intro hR3 (And.intro hA3 hK3))
    have HB3 : Hid (Below hi w w3 ∧ hi ≤ w3.heap.size ∧ w.heap.size < w3.heap.size) := ⟨hB3, hS3, Nat.lt_of_lt_of_le HBe.out.2.2 hG3.size⟩
    clear cD hT3 hG3 hR3 hA3 hK3 hX3 hB3 hS3 HT0 HX0 HBe y0 y1 y2
    go_wp2_with fail
    refine cR.mono ?_
    rintro e w4 ⟨rfl, v4, hT4, hG4⟩
    have HZ : Hid (∀ B, ((S = U ∧ most = most2 ∧ nx = nx2) → B = true) → Post (.returned (.bool B)) w4) := fun B hB => HD.out (nx) (moveS S xp xn) (nx2) (moveS U xp xn) (by unfold doX; rw [hk1b, hk2b, hk3b, hk4b, hk5b]; rfl) (by unfold doS; rw [hk1b, hk2b, hk3b, hk4b, hk5b]; rfl) (by unfold doX; rw [hk1b, hk2b, hk3b, hk4b, hk5b]; rfl) (by unfold doS; rw [hk1b, hk2b, hk3b, hk4b, hk5b]; rfl) B w4 v3 v4 hB (hG4.tab HT3.out.2.1 HT3.out.1 (by decide) (by decide) (by decide) HT3.out.2.2.1.symm) hT4 (hG4.apt HT3.out.1.row HT3.out.2.2.1.symm).symm (hG4.below HT3.out.2.1 HB3.out.1 (Nat.le_refl _) HB3.out.2.1) (Nat.lt_of_lt_of_le HB3.out.2.2 hG4.size) (HT3.out.2.2.2.ref HT3.out.2.1 hG4)
    clear cR hT4 hG4 HT3 HB3 HD u1 u2
    cases hN : (N1 == N2) with
    | false =>
      go_wp2
      exact HZ.out false (fun h => by have := (HEE.out h).1; rw [hN] at this; cases this)
    | true =>
      cases hE : (E1 == E2) with
      | false =>
        go_wp2
        exact HZ.out false (fun h => by have := (HEE.out h).2; rw [hE] at this; cases this)
      | true =>
        go_wp2
        exact HZ.out true fun _ => rfl
  have hk5b : (xk == 5) = false := by simpa using hk5
  clear hk1 hk2 hk3 hk4 hk5 HB0
  have cD := fork_any HT0.out.1 HK.out hm hc xp (pdB xn)
  obtain ⟨N1, hN1⟩ : ∃ z, forkN most nx S xp = z := ⟨_, rfl⟩
  obtain ⟨N2, hN2⟩ : ∃ z, forkN most2 nx2 U xp = z := ⟨_, rfl⟩
  obtain ⟨E1, hE1⟩ : ∃ z, forkE most S xp = z := ⟨_, rfl⟩
  obtain ⟨E2, hE2⟩ : ∃ z, forkE most2 U xp = z := ⟨_, rfl⟩
  have HEE : Hid ((S = U ∧ most = most2 ∧ nx = nx2) → (N1 == N2) = true ∧ (E1 == E2) = true) := by
    rintro ⟨rfl, rfl, rfl⟩
    exact ⟨by rw [← hN1, ← hN2]; exact beq_self_eq_true _, by rw [← hE1, ← hE2]; exact beq_self_eq_true _⟩
  rw [hN1, hE1] at cD
  have HR2 : Hid (forkN most2 nx2 U xp = N2 ∧ forkE most2 U xp = E2) := ⟨hN2, hE2⟩
  clear hN1 hN2 hE1 hE2
  go_enter Try.func9, Try.ntmps9
  go_wp2_with fail
  generalize (w.alloc (.cells #[.int .i64 xk, .int .i64 xp, .int .i64 xn] 29)) = wa at *
  refine cD.mono ?_
  rintro e w3 ⟨rfl, v3, hT3, hG3⟩
  have hR3 := hG3.tab HT0.out.1 HT0.out.2.1 (by decide) (by decide) (by decide) HT0.out.2.2.1
  have hA3 := hG3.apt HT0.out.2.1.row HT0.out.2.2.1
  have hK3 := HT0.out.2.2.2.prog HT0.out.1 hG3
  have hX3 := hG3.blk HT0.out.1 HX0.out (by decide) (by decide)
  have hB3 := hG3.below HT0.out.1 HBe.out.1 (Nat.le_refl _) HBe.out.2.1
  have hS3 : hi ≤ w3.heap.size := Nat.le_trans HBe.out.2.1 hG3.size
  have u1 := hX3.cell 1 rfl
  have u2 := hX3.cell 2 rfl
  have cR := rfork_any hR3 HK2.out hm2 hc2 xp (pdB xn)
  rw [HR2.out.1, HR2.out.2] at cR
  have HT3 : Hid _ := And.intro hT3 (And.intro hR3 (And.intro hA3 hK3))
  have HB3 : Hid (Below hi w w3 ∧ hi ≤ w3.heap.size ∧ w.heap.size < w3.heap.size) := ⟨hB3, hS3, Nat.lt_of_lt_of_le HBe.out.2.2 hG3.size⟩
  clear cD hT3 hG3 hR3 hA3 hK3 hX3 hB3 hS3 HT0 HX0 HBe y0 y1 y2
  go_wp2_with fail
  refine cR.mono ?_
  rintro e w4 ⟨rfl, v4, hT4, hG4⟩
  have HZ : Hid (∀ B, ((S = U ∧ most = most2 ∧ nx = nx2) → B = true) → Post (.returned (.bool B)) w4) := fun B hB => HD.out (forkX most nx S xp) (forkS most nx S xp (pdB xn)) (forkX most2 nx2 U xp) (forkS most2 nx2 U xp (pdB xn)) (by unfold doX; rw [hk1b, hk2b, hk3b, hk4b, hk5b]; rfl) (by unfold doS; rw [hk1b, hk2b, hk3b, hk4b, hk5b]; rfl) (by unfold doX; rw [hk1b, hk2b, hk3b, hk4b, hk5b]; rfl) (by unfold doS; rw [hk1b, hk2b, hk3b, hk4b, hk5b]; rfl) B w4 v3 v4 hB (hG4.tab HT3.out.2.1 HT3.out.1 (by decide) (by decide) (by decide) HT3.out.2.2.1.symm) hT4 (hG4.apt HT3.out.1.row HT3.out.2.2.1.symm).symm (hG4.below HT3.out.2.1 HB3.out.1 (Nat.le_refl _) HB3.out.2.1) (Nat.lt_of_lt_of_le HB3.out.2.2 hG4.size) (HT3.out.2.2.2.ref HT3.out.2.1 hG4)
  clear cR hT4 hG4 HT3 HB3 HD u1 u2
  cases hN : (N1 == N2) with
  | false =>
    go_wp2
    exact HZ.out false (fun h => by have := (HEE.out h).1; rw [hN] at this; cases this)
  | true =>
    cases hE : (E1 == E2) with
    | false =>
      go_wp2
      exact HZ.out false (fun h => by have := (HEE.out h).2; rw [hE] at this; cases this)
    | true =>
      go_wp2
      exact HZ.out true fun _ => rfl

end Go.Proofs.Ythmefiegoagkjaa.Y
