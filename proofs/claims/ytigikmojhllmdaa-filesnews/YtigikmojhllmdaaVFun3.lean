/- What Dump, opens, stay and Open answer and do; a nil table. -/
import Derived.Test.YtigikmojhllmdaaVFun2
namespace Go.Proofs.Ytigikmojhllmdaa.V
open Go Go.RowKit

set_option maxRecDepth 100000 in
theorem opens_any (k : Int) (w : World) : Calls Try.prog 29 #[.int .i64 k] w fun e w' => e = .returned (.bool (kindB k)) ∧ w' = w := by
  have HK : Hid (kindB k = (k == 1 || k == 2 || k == 5 || k == 6 || k == 7)) := rfl
  generalize kindB k = r at *
  cases h1 : k == 1
  case true =>
    have HR : Hid (r = true) := by show r = true; have := HK.out; rw [h1] at this; simpa using this
    clear HK
    go_enter Try.func29, Try.ntmps29
    go_wp2
    go_ret
    exact ⟨by rw [HR.out]; rfl, rfl⟩
  cases h2 : k == 2
  case true =>
    have HR : Hid (r = true) := by show r = true; have := HK.out; rw [h2] at this; simpa using this
    clear HK
    go_enter Try.func29, Try.ntmps29
    go_wp2
    go_ret
    exact ⟨by rw [HR.out]; rfl, rfl⟩
  cases h3 : k == 5
  case true =>
    have HR : Hid (r = true) := by show r = true; have := HK.out; rw [h3] at this; simpa using this
    clear HK
    go_enter Try.func29, Try.ntmps29
    go_wp2
    go_ret
    exact ⟨by rw [HR.out]; rfl, rfl⟩
  cases h4 : k == 6
  case true =>
    have HR : Hid (r = true) := by show r = true; have := HK.out; rw [h4] at this; simpa using this
    clear HK
    go_enter Try.func29, Try.ntmps29
    go_wp2
    go_ret
    exact ⟨by rw [HR.out]; rfl, rfl⟩
  cases h5 : k == 7
  case true =>
    have HR : Hid (r = true) := by show r = true; have := HK.out; rw [h5] at this; simpa using this
    clear HK
    go_enter Try.func29, Try.ntmps29
    go_wp2
    go_ret
    exact ⟨by rw [HR.out]; rfl, rfl⟩
  have HR : Hid (r = false) := by show r = false; have := HK.out; rw [h1, h2, h3, h4, h5] at this; simpa using this
  clear HK
  go_enter Try.func29, Try.ntmps29
  go_wp2
  go_ret
  exact ⟨by rw [HR.out]; rfl, rfl⟩
set_option maxRecDepth 100000 in
theorem stay_any (f : Int) (hf : -9223372036854775808 ≤ f ∧ f ≤ 9223372036854775807) (w : World) : Calls Try.prog 30 #[.int .i64 f] w fun e w' => e = .returned (.bool (stayB f)) ∧ w' = w := by
  have h1 := not15 f hf
  have h2 := fun h => and3 f h
  have HK : Hid (stayB f = (decide (0 ≤ f) && decide (f ≤ 15) && f % 4 != 3)) := rfl
  generalize stayB f = r at *
  generalize hy : bits .andNot .i64 f 15 = y at h1
  generalize hz : bits .and .i64 f 3 = z at h2
  by_cases hin : 0 ≤ f ∧ f ≤ 15
  · have hy0 : (y == 0) = true := by rw [h1]; simp [hin]
    have hzz := h2 hin
    have HR : Hid (r = (f % 4 != 3)) := by show r = _; rw [HK.out]; simp [hin]
    clear h1 h2 HK
    obtain rfl : y = 0 := by simpa using hy0
    obtain ⟨q, hq⟩ : ∃ q, (z != 3) = q := ⟨_, rfl⟩
    have HQ : Hid (r = q) := by show r = q; rw [HR.out, ← hzz, hq]
    clear hzz HR
    go_enter Try.func30, Try.ntmps30
    go_wp2
    go_ret
    exact ⟨by rw [HQ.out]; rfl, rfl⟩
  · have hy0 : (y == 0) = false := by rw [h1]; simp; omega
    have HR : Hid (r = false) := by show r = false; rw [HK.out, ← h1, hy0]; rfl
    clear h1 h2 HK hin
    go_enter Try.func30, Try.ntmps30
    go_wp2
    go_ret
    exact ⟨by rw [HR.out]; rfl, rfl⟩

/-- Files are returned, as a row of one's own. -/
def RetF (w : World) (S : List Fl) (e : Ending) (w' : World) : Prop := ∃ v', e = .returned v' ∧ Row w.heap.size w' v' S ∧ Below w.heap.size w w'
section
variable {hi b c most : Nat} {v : Value} {mo nx : Int} {S : List Fl} {w : World}
set_option maxRecDepth 100000 in
set_option maxHeartbeats 1000000 in
theorem dump_any (h : TabAt hi 55 w b v mo nx S) (hl : S.length ≤ 1000) :
    Calls Try.prog 11 #[ptr b] w (RetF w S) := by
  have x0 := h.box.cell 0 rfl
  obtain ⟨p, cap, rfl, hat, _⟩ := rowS_at h.row
  obtain ⟨v', w', hrun, h1, h2⟩ := append_rowS elemF w.heap.size (.slice none 0 0) 0 [] p cap S.length (flat S) w (by omega) (by omega) (flat_length S) (flat_cell S) (World.ownsRow_nil _ _ _ _) hat.at (Nat.le_refl _)
  rw [Nat.zero_add, List.nil_append] at h1
  have HP : Hid (RetF w S (.returned v') w') := ⟨v', rfl, h1, h2.below (Below.refl _ _) (Nat.le_refl _) (Nat.le_refl _)⟩
  generalize RetF w S = Post at *
  clear h hat h1 h2
  go_enter Try.func11, Try.ntmps11
  go_wp2_with (at_builtin; refine wpList_run_append (by rfl) _ _ _ (by rfl) _ _ (by rfl) (by rfl) (hrun _) ?_)
  exact HP.out
end

section
variable (w : World) (i : Int)
set_option maxRecDepth 100000 in
theorem room_nil : Calls Try.prog 12 #[.pointer none] w fun e w' => e = .returned (.int .i64 0) ∧ w' = w := by
  go_enter Try.func12, Try.ntmps12
  go_wp2
  go_ret
  exact ⟨rfl, rfl⟩
set_option maxRecDepth 100000 in
theorem numbers_nil : Calls Try.prog 13 #[.pointer none] w fun e w' => e = .returned (.int .i64 0) ∧ w' = w := by
  go_enter Try.func13, Try.ntmps13
  go_wp2
  go_ret
  exact ⟨rfl, rfl⟩
set_option maxRecDepth 100000 in
theorem dump_nil : Calls Try.prog 11 #[.pointer none] w fun e w' => e = .returned (.slice none 0 0) ∧ w' = w := by
  go_enter Try.func11, Try.ntmps11
  go_wp2
  go_ret
  exact ⟨rfl, rfl⟩
set_option maxRecDepth 100000 in
theorem open_nil (k o f : Int) : Calls Try.prog 19 #[.pointer none, .int .i64 k, .int .i64 o, .int .i64 f] w fun e w' => e = .returned (.tuple #[.int .i64 0, .int .i64 22]) ∧ w' = w := by
  go_enter Try.func19, Try.ntmps19
  go_wp2
  go_ret2
  exact ⟨rfl, rfl⟩
set_option maxRecDepth 100000 in
theorem hold_nil : Calls Try.prog 17 #[.pointer none, .int .i64 i] w fun e w' => e = .returned (.int .i64 22) ∧ Below w.heap.size w w' := by
  have cP := place_nil i w
  go_enter Try.func17, Try.ntmps17
  go_wp2_with fail
  refine cP.mono ?_
  rintro e w1 ⟨rfl, hb1⟩
  go_wp2
  go_ret
  exact ⟨rfl, hb1⟩
set_option maxRecDepth 100000 in
theorem seek_nil (o : Int) : Calls Try.prog 20 #[.pointer none, .int .i64 i, .int .i64 o] w fun e w' => e = .returned (.int .i64 22) ∧ Below w.heap.size w w' := by
  have cP := place_nil i w
  go_enter Try.func20, Try.ntmps20
  go_wp2_with fail
  refine cP.mono ?_
  rintro e w1 ⟨rfl, hb1⟩
  go_wp2
  go_ret
  exact ⟨rfl, hb1⟩
set_option maxRecDepth 100000 in
theorem flags_nil (o : Int) : Calls Try.prog 21 #[.pointer none, .int .i64 i, .int .i64 o] w fun e w' => e = .returned (.int .i64 22) ∧ Below w.heap.size w w' := by
  have cP := place_nil i w
  go_enter Try.func21, Try.ntmps21
  go_wp2_with fail
  refine cP.mono ?_
  rintro e w1 ⟨rfl, hb1⟩
  go_wp2
  go_ret
  exact ⟨rfl, hb1⟩
set_option maxRecDepth 100000 in
theorem drop_nil : Calls Try.prog 18 #[.pointer none, .int .i64 i] w fun e w' => e = .returned (.tuple #[.bool false, .int .i64 22]) ∧ Below w.heap.size w w' := by
  have cP := place_nil i w
  go_enter Try.func18, Try.ntmps18
  go_wp2_with fail
  refine cP.mono ?_
  rintro e w1 ⟨rfl, hb1⟩
  go_wp2
  go_ret2
  exact ⟨rfl, hb1⟩
set_option maxRecDepth 100000 in
set_option maxHeartbeats 1000000 in
theorem get_nil : Calls Try.prog 14 #[.pointer none, .int .i64 i] w fun e w' => e = .returned (.tuple #[.agg (flC zeroFl).toArray, .bool false]) ∧ Below w.heap.size w w' := by
  have cP := place_nil i (w.alloc (.cells #[.int .i64 0, .int .i64 0, .int .i64 0, .int .i64 0, .int .i64 0, .int .i64 0] 37))
  have HB : Hid (Below w.heap.size w (w.alloc (.cells #[.int .i64 0, .int .i64 0, .int .i64 0, .int .i64 0, .int .i64 0, .int .i64 0] 37))) := on_alloc w _
  have HX : Hid (Blk (w.alloc (.cells #[.int .i64 0, .int .i64 0, .int .i64 0, .int .i64 0, .int .i64 0, .int .i64 0] 37)) w.heap.size 37 (flC zeroFl)) := Blk.new w 37 (flC zeroFl)
  go_enter Try.func14, Try.ntmps14
  go_wp2_with fail
  generalize w.alloc (.cells #[.int .i64 0, .int .i64 0, .int .i64 0, .int .i64 0, .int .i64 0, .int .i64 0] 37) = w0 at *
  refine cP.mono ?_
  rintro e w1 ⟨rfl, hb1⟩
  have HX1 : Hid (Blk w1 w.heap.size 37 (flC zeroFl)) := HX.out.on hb1
  have HB1 : Hid (Below w.heap.size w w1) := on_trans HB.out hb1
  have f0 := HX1.out.free 0
  have f1 := HX1.out.free 1
  have f2 := HX1.out.free 2
  have f3 := HX1.out.free 3
  have f4 := HX1.out.free 4
  have f5 := HX1.out.free 5
  have x0 := HX1.out.cell 0 rfl
  have x1 := HX1.out.cell 1 rfl
  have x2 := HX1.out.cell 2 rfl
  have x3 := HX1.out.cell 3 rfl
  have x4 := HX1.out.cell 4 rfl
  have x5 := HX1.out.cell 5 rfl
  simp only [zeroFl] at x0 x1 x2 x3 x4 x5
  clear cP hb1 HX HB
  go_wp2
  exact bodyPost_ret (results_blkT (cs := flC zeroFl) Try.isAgg37 infoF rfl _ _ rfl rfl (HX1.out.put (flC zeroFl) rfl)) rfl ⟨rfl, below_but HB1.out (but_putL w.heap.size (flC zeroFl) w1 0) (Nat.le_refl _)⟩
end

section
variable {hi b : Nat} {v : Value} {x y : Int} {S : List Fl} {w : World} {ty : TypeId}
theorem TabAt.next (h : TabAt hi ty w b v x y S) (hf : ty ≠ 37) (n : Int) : TabAt hi ty (w.setCell ⟨b, 2, none⟩ (.int .i64 n)) b v x n S := by
  refine ⟨h.box.set 2 _, rowS_but (_t := ty) (_cs := []) h.row (but_set _ _ _ _) (.inr fun g cap e e2 => ?_), h.hid⟩
  subst e2
  obtain ⟨_, _, cs', fr, hg⟩ := own_at h.row (g := g) (by rw [e]; simp [Value.ownBlock])
  have := hg.symm.trans h.box.row
  simp at this
  exact hf this.2.1.symm
/-- One file more: the append, and its row laid. -/
theorem lay_one {p : Option Addr} {cap : Nat} (h : TabAt hi 55 w b (.slice p S.length cap) x y S) (hl : S.length ≤ 1000) (z : Fl) :
    ∃ p' cap' W', (∀ t, (Builtin.append_ #[31, 31] t #[.slice p S.length cap, .slice (some ⟨w.heap.size, 0, none⟩) 1 1]).run Try.prog (w.alloc (.cells (flC z).toArray 37)) = .ok (.slice p' (S.length + 1) cap') W') ∧ Blk W' b 55 [.slice p S.length cap, .int .i64 x, .int .i64 y] ∧
      TabAt hi 55 (W'.setCell ⟨b, 0, none⟩ (.slice p' (S.length + 1) cap')) b (.slice p' (S.length + 1) cap') x y (S ++ [z]) ∧ Goes b (.slice p S.length cap) (.slice p' (S.length + 1) cap') w (W'.setCell ⟨b, 0, none⟩ (.slice p' (S.length + 1) cap')) := by
  have hal := on_alloc w (.cells (flC z).toArray 37)
  have h1 := h.on hal
  have hB := Blk.new w 37 (flC z)
  have hhi : hi ≤ w.heap.size := Nat.le_of_lt (Nat.lt_of_le_of_lt h.hid h.box.lt)
  obtain ⟨v', W', hrun, hrow, hgr, hgs⟩ := append_rowA elemF hi _ S.length (flat S) (some ⟨w.heap.size, 0, none⟩) 1 1 (flC z) (w.alloc (.cells (flC z).toArray 37)) (by omega) (by omega) (by rw [flC_len]) (flC_cell z) h1.row
    (.inr ⟨w.heap.size, 0, rfl, Nat.zero_le _, hB.lt, fun j u hj => by rw [Nat.zero_add]; exact hB.cell j hj⟩) (Nat.le_trans hhi hal.size)
  obtain ⟨p', cap', rfl, _⟩ := rowS_at hrow
  have hbox := hgr.blk h1.box (by decide)
  have hrow2 : Row hi W' (.slice p' (S.length + 1) cap') (S ++ [z]) := by
    show W'.ownsRow hi _ 6 _ (S ++ [z]).length (flat (S ++ [z]))
    rw [List.length_append, List.length_singleton, flat_append]
    simpa [flat] using hrow
  exact ⟨p', cap', W', hrun, hbox, TabAt.laid hbox hrow2 h.hid (by decide), goes_box ((Goes.on hal).trans (goes_grows hgs)) _ _ rfl⟩
end

section
variable {hi b c most : Nat} {v : Value} {nx : Int} {S : List Fl} {w : World}
set_option maxRecDepth 100000 in
set_option maxHeartbeats 1000000 in
theorem open_any (h : TabAt hi 55 w b v (most : Int) nx S) (ok : Ok c most nx S) (hc : c ≤ 900) (k o f : Int) (hf : -9223372036854775808 ≤ f ∧ f ≤ 9223372036854775807) :
    Calls Try.prog 19 #[ptr b, .int .i64 k, .int .i64 o, .int .i64 f] w (TPost hi 55 b w v (most : Int) (openX most nx S k o f) (openS most nx S k o f) (.tuple #[.int .i64 (openN most nx S k o f), .int .i64 (openE most S k o f)])) := by
  have hl : S.length ≤ 256 := by have := ok.len; have := ok.most; omega
  have hm : most ≤ 256 := ok.most
  have cO := opens_any k w
  have cS := stay_any f hf w
  have cR := room_any h (by omega) (by omega)
  have HT : Hid (TabAt hi 55 w b v (most : Int) nx S) := h
  have HP : Hid (∀ w1 v' N E, openN most nx S k o f = N → openE most S k o f = E → TabAt hi 55 w1 b v' (most : Int) (openX most nx S k o f) (openS most nx S k o f) → Goes b v v' w w1 → TPost hi 55 b w v (most : Int) (openX most nx S k o f) (openS most nx S k o f) (.tuple #[.int .i64 (openN most nx S k o f), .int .i64 (openE most S k o f)]) (.returned (.tuple #[.int .i64 N, .int .i64 E])) w1) := fun w1 v' N E h1 h2 h3 h4 => ⟨by rw [h1, h2], v', h3, h4⟩
  generalize TPost hi 55 b w v (most : Int) (openX most nx S k o f) (openS most nx S k o f) (.tuple #[.int .i64 (openN most nx S k o f), .int .i64 (openE most S k o f)]) = Post at *
  have HG : Hid (goodB k o f = (kindB k && decide (1 ≤ o) && stayB f)) := rfl
  have HBad : Hid (goodB k o f = false → Post (.returned (.tuple #[.int .i64 0, .int .i64 22])) w) := fun hg => by
    have e1 : openX most nx S k o f = nx := by unfold openX; rw [hg]; rfl
    have e2 : openS most nx S k o f = S := by unfold openS; rw [hg]; rfl
    refine HP.out w v _ _ (by unfold openN; rw [hg]; rfl) (by unfold openE; rw [hg]; rfl) ?_ (.refl _ _ _)
    rw [e1, e2]; exact h
  have hnx := ok.next
  clear ok h
  cases hk : kindB k with
  | false =>
    rw [hk] at cO HG
    have HZ : Hid (Post (.returned (.tuple #[.int .i64 0, .int .i64 22])) w) := HBad.out HG.out
    clear HG HBad HP HT cS cR hk
    go_enter Try.func19, Try.ntmps19
    go_wp2_with fail
    refine cO.mono ?_
    rintro e w1 ⟨rfl, rfl⟩
    go_wp2
    exact HZ.out
  | true =>
    rw [hk] at cO HG
    by_cases ho : o < 1
    · have HZ : Hid (Post (.returned (.tuple #[.int .i64 0, .int .i64 22])) w) := HBad.out (by rw [HG.out]; simp; omega)
      clear HG HBad HP HT cS cR hk
      go_enter Try.func19, Try.ntmps19
      go_wp2_with fail
      refine cO.mono ?_
      rintro e w1 ⟨rfl, rfl⟩
      go_wp2
      exact HZ.out
    · cases hs : stayB f with
      | false =>
        rw [hs] at cS HG
        have HZ : Hid (Post (.returned (.tuple #[.int .i64 0, .int .i64 22])) w) := HBad.out (by rw [HG.out]; simp)
        clear HG HBad HP HT cR hk hs
        go_enter Try.func19, Try.ntmps19
        go_wp2_with fail
        refine cO.mono ?_
        rintro e w1 ⟨rfl, rfl⟩
        go_wp2_with fail
        refine cS.mono ?_
        rintro e w2 ⟨rfl, rfl⟩
        go_wp2
        exact HZ.out
      | true =>
        rw [hs] at cS HG
        have HGo : Hid (goodB k o f = true) := by show _ = true; rw [HG.out]; simp; omega
        clear HG HBad hk hs
        by_cases hr : S.length < most
        · have hrz : ¬ (most : Int) - (S.length : Int) < 1 := by omega
          have HY : Hid (goodB k o f && decide (S.length < most)) := by show _ = true; rw [HGo.out, decide_eq_true hr]; rfl
          have e1 : openX most nx S k o f = nx + 1 := by unfold openX; rw [if_pos HY.out]
          have e2 : openS most nx S k o f = S ++ [⟨nx, k, o, 0, f, 1⟩] := by unfold openS; rw [if_pos HY.out]
          have e3 : openN most nx S k o f = nx := by unfold openN; rw [if_pos HY.out]
          have e4 : openE most S k o f = 0 := by unfold openE; rw [if_pos HGo.out, if_pos hr]
          rw [e1, e2, e3, e4] at HP
          clear e1 e2 e3 e4 HY HGo
          go_enter Try.func19, Try.ntmps19
          go_wp2_with fail
          refine cO.mono ?_
          rintro e w1 ⟨rfl, rfl⟩
          go_wp2_with fail
          refine cS.mono ?_
          rintro e w2 ⟨rfl, rfl⟩
          go_wp2_with fail
          refine cR.mono ?_
          rintro e w3 ⟨rfl, q, rfl⟩
          clear cO cS cR
          have hT3 := HT.out.on (on_drewN (Below.refl _ _) q)
          have HG3 : Hid (Goes b v v w2 (w2.drewN q)) := .on (on_drewN (Below.refl _ _) q)
          generalize w2.drewN q = w3 at *
          have y0 := hT3.box.cell 0 rfl
          have y2 := hT3.box.cell 2 rfl
          have f2 := hT3.box.free 2
          obtain ⟨p, cap, rfl⟩ := hT3.slice
          have hs4 : (w3.setCell ⟨b, 2, none⟩ (.int .i64 (nx + 1))).heap.size = w3.heap.size := (but_set w3 b 2 (.int .i64 (nx + 1))).size
          have hT4 : TabAt hi 55 (w3.setCell ⟨b, 2, none⟩ (.int .i64 (nx + 1))) b (.slice p S.length cap) (most : Int) (nx + 1) S := hT3.next (by decide) (nx + 1)
          have hG4 : Goes b (.slice p S.length cap) (.slice p S.length cap) w2 (w3.setCell ⟨b, 2, none⟩ (.int .i64 (nx + 1))) := goes_box HG3.out _ _ rfl
          have hlay := lay_one hT4 (by omega) ⟨nx, k, o, 0, f, 1⟩
          rw [hs4] at hlay
          obtain ⟨p5, cap5, W5, hrun, hB5, hT5, hG5⟩ := hlay
          have HZ : Hid _ := HP.out _ _ _ _ rfl rfl hT5 (hG4.trans hG5)
          have b0 := hB5.cell 0 rfl
          have g0 := hB5.free 0
          simp only [flC] at hrun
          clear HP hT5 hG5 hG4 hT4 HG3 hT3 HT hB5
          go_wp2_with (at_builtin; refine wpList_run_append (by rfl) _ _ _ (by rfl) _ _ (by rfl) (by rfl) (hrun _) ?_)
          exact HZ.out
        · have hrz : (most : Int) - (S.length : Int) < 1 := by omega
          have HY : Hid ((goodB k o f && decide (S.length < most)) = false) := by show _ = false; rw [decide_eq_false hr]; simp
          have e1 : openX most nx S k o f = nx := by unfold openX; rw [HY.out]; rfl
          have e2 : openS most nx S k o f = S := by unfold openS; rw [HY.out]; rfl
          have e3 : openN most nx S k o f = 0 := by unfold openN; rw [HY.out]; rfl
          have e4 : openE most S k o f = 23 := by unfold openE; rw [if_pos HGo.out, if_neg hr]
          rw [e1, e2, e3, e4] at HP
          clear e1 e2 e3 e4 HY HGo
          go_enter Try.func19, Try.ntmps19
          go_wp2_with fail
          refine cO.mono ?_
          rintro e w1 ⟨rfl, rfl⟩
          go_wp2_with fail
          refine cS.mono ?_
          rintro e w2 ⟨rfl, rfl⟩
          go_wp2_with fail
          refine cR.mono ?_
          rintro e w3 ⟨rfl, q, rfl⟩
          have HZ : Hid _ := HP.out _ v _ _ rfl rfl (HT.out.on (on_drewN (Below.refl _ _) q)) (.on (on_drewN (Below.refl _ _) q))
          clear HP HT cO cS cR
          go_wp2
          exact HZ.out
end

end Go.Proofs.Ytigikmojhllmdaa.V
