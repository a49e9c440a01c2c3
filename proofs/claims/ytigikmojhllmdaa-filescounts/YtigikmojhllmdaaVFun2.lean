/- What Get, Hold, Seek, Dump, opens, stay and Open answer and do. -/
import Derived.Test.YtigikmojhllmdaaVFun
namespace Go.Proofs.Ytigikmojhllmdaa.V
open Go Go.RowKit

def zeroFl : Fl := ⟨0, 0, 0, 0, 0, 0⟩
def getF (i : Int) (S : List Fl) : Fl := if h : spot i S < S.length then S[spot i S] else zeroFl
theorem infoF : (Try.prog.info? 37).map (·.size) = some 6 := by kernel_rfl
theorem results_blkT {P : Program} {fn : Func} {p u : Tmp} {t : TypeId} {cs : List Value} {v1 : Value} (hagg : ∀ w, (isAgg t).run P w = .ok true w) (hi : (P.info? t).map (·.size) = some cs.length) (h : fn.results = #[.cell p t, .tmp u]) (tmps : Array Value) (w : World) {b : Nat}
    (hp : tmps.getD p undef = .pointer (some ⟨b, 0, none⟩)) (h1 : tmps.getD u undef = v1) (hb : Blk w b t cs) : (results fn tmps).run P w = .ok (.tuple #[.agg cs.toArray, v1]) w := by
  have hp' : tmps[p]?.getD undef = .pointer (some ⟨b, 0, none⟩) := by simpa using hp
  have h1' : tmps[u]?.getD undef = v1 := by simpa using h1
  simp [results, h, hp', h1', asAddr, run_loadVar_blk hagg hi hb]
theorem blk_tab {hi b g : Nat} {ty : TypeId} {w w1 : World} {v _u : Value} {x y : Int} {S : List Fl} (h : TabAt hi ty w b v x y S) (hb : But g w w1) (h1 : w.heap.size ≤ g ∨ (g ≠ b ∧ v.ownBlock ≠ some g)) : TabAt hi ty w1 b v x y S := by
  have hne : b ≠ g := by
    rcases h1 with h1 | h1
    · have := h.box.lt; omega
    · exact fun e => h1.1 e.symm
  refine ⟨h.box.but hb hne, rowS_but (_t := ty) (_cs := []) h.row hb (.inr fun g2 cap e e2 => ?_), h.hid⟩
  subst e2
  have ho : v.ownBlock = some g2 := by rw [e]; simp [Value.ownBlock]
  rcases h1 with h1 | h1
  · have := (own_at h.row ho).2.1; omega
  · exact h1.2 ho

section
variable {hi b c most : Nat} {v : Value} {nx : Int} {S : List Fl} {w : World}
set_option maxRecDepth 100000 in
set_option maxHeartbeats 1000000 in
theorem get_any (h : TabAt hi 55 w b v (most : Int) nx S) (ok : Ok c most nx S) (i : Int) :
    Calls Try.prog 14 #[ptr b, .int .i64 i] w fun e w' => e = .returned (.tuple #[.agg (flC (getF i S)).toArray, .bool (has i S)]) ∧ Below w.heap.size w w' := by
  have hl : S.length ≤ 1000 := by have := ok.len; have := ok.most; omega
  have hal := on_alloc w (.cells #[.int .i64 0, .int .i64 0, .int .i64 0, .int .i64 0, .int .i64 0, .int .i64 0] 37)
  have HB : Hid (Below w.heap.size w (w.alloc (.cells #[.int .i64 0, .int .i64 0, .int .i64 0, .int .i64 0, .int .i64 0, .int .i64 0] 37))) := hal
  have HX : Hid (Blk (w.alloc (.cells #[.int .i64 0, .int .i64 0, .int .i64 0, .int .i64 0, .int .i64 0, .int .i64 0] 37)) w.heap.size 37 (flC zeroFl)) := Blk.new w 37 (flC zeroFl)
  have h0 := h.on hal
  cases hq : has i S with
  | false =>
    have cP := place_no h0 ok.sorted hl hq
    rw [show getF i S = zeroFl by unfold getF; rw [dif_neg (by rw [spot_no hq]; omega)]]
    clear h h0 hal
    go_enter Try.func14, Try.ntmps14
    go_wp2_with fail
    generalize w.alloc (.cells #[.int .i64 0, .int .i64 0, .int .i64 0, .int .i64 0, .int .i64 0, .int .i64 0] 37) = w0 at *
    refine cP.mono ?_
    rintro e w1 ⟨rfl, hb1⟩
    have HX1 : Hid (Blk w1 w.heap.size 37 (flC zeroFl)) := HX.out.on hb1
    have HB1 : Hid (Below w.heap.size w w1) := on_trans HB.out hb1
    have f0 := HX1.out.free 0
    have f1 := HX1.out.free 1
    have f2 := HX1.out.free 2
    have f3 := HX1.out.free 3
    have f4 := HX1.out.free 4
    have f5 := HX1.out.free 5
    have x0 := HX1.out.cell 0 rfl
    have x1 := HX1.out.cell 1 rfl
    have x2 := HX1.out.cell 2 rfl
    have x3 := HX1.out.cell 3 rfl
    have x4 := HX1.out.cell 4 rfl
    have x5 := HX1.out.cell 5 rfl
    simp only [zeroFl] at x0 x1 x2 x3 x4 x5
    clear cP hb1 HX HB
    go_wp2
    exact bodyPost_ret (results_blkT (cs := flC zeroFl) Try.isAgg37 infoF rfl _ _ rfl rfl (HX1.out.put (flC zeroFl) rfl)) rfl ⟨rfl, below_but HB1.out (but_putL w.heap.size (flC zeroFl) w1 0) (Nat.le_refl _)⟩
  | true =>
    have cP := place_yes h0 ok.sorted hl hq
    have hlt := spot_lt hq
    rw [show getF i S = S[spot i S] by unfold getF; rw [dif_pos hlt]]
    obtain ⟨F, hF0⟩ : ∃ F, S[spot i S] = F := ⟨_, rfl⟩
    have HF : Hid (S[spot i S] = F) := hF0
    rw [hF0]
    clear hF0
    have HT : Hid (∀ w1, Below (w.alloc (.cells #[.int .i64 0, .int .i64 0, .int .i64 0, .int .i64 0, .int .i64 0, .int .i64 0] 37)).heap.size (w.alloc (.cells #[.int .i64 0, .int .i64 0, .int .i64 0, .int .i64 0, .int .i64 0, .int .i64 0] 37)) w1 → TabAt hi 55 w1 b v (most : Int) nx S) := fun w1 hb => h0.on hb
    clear h h0 hal hq ok
    generalize spot i S = k at *
    go_enter Try.func14, Try.ntmps14
    go_wp2_with fail
    generalize w.alloc (.cells #[.int .i64 0, .int .i64 0, .int .i64 0, .int .i64 0, .int .i64 0, .int .i64 0] 37) = w0 at *
    refine cP.mono ?_
    rintro e w1 ⟨rfl, hb1⟩
    have HX1 : Hid (Blk w1 w.heap.size 37 (flC zeroFl)) := HX.out.on hb1
    have HB1 : Hid (Below w.heap.size w w1) := on_trans HB.out hb1
    have ht := HT.out w1 hb1
    have y0 := ht.box.cell 0 rfl
    obtain ⟨g, cap, rfl, _, hc, _⟩ := ht.cells hlt
    have z0 := hc 0 _ rfl
    have z1 := hc 1 _ rfl
    have z2 := hc 2 _ rfl
    have z3 := hc 3 _ rfl
    have z4 := hc 4 _ rfl
    have z5 := hc 5 _ rfl
    rw [Nat.add_zero] at z0
    have hz : (k : Int) < (S.length : Int) := by omega
    have f0 := HX1.out.free 0
    have f1 := HX1.out.free 1
    have f2 := HX1.out.free 2
    have f3 := HX1.out.free 3
    have f4 := HX1.out.free 4
    have f5 := HX1.out.free 5
    have x0 := HX1.out.cell 0 rfl
    have x1 := HX1.out.cell 1 rfl
    have x2 := HX1.out.cell 2 rfl
    have x3 := HX1.out.cell 3 rfl
    have x4 := HX1.out.cell 4 rfl
    have x5 := HX1.out.cell 5 rfl
    simp only [zeroFl] at x0 x1 x2 x3 x4 x5
    clear cP hb1 HX HB HT ht hc
    rw [HF.out] at z0 z1 z2 z3 z4 z5
    clear HF
    obtain ⟨F0, F1, F2, F3, F4, F5⟩ := F
    simp only at z0 z1 z2 z3 z4 z5
    go_wp2
    exact bodyPost_ret (results_blkT (cs := flC ⟨F0, F1, F2, F3, F4, F5⟩) Try.isAgg37 infoF rfl _ _ rfl rfl (HX1.out.put (flC ⟨F0, F1, F2, F3, F4, F5⟩) rfl)) rfl ⟨rfl, below_but HB1.out (but_putL w.heap.size (flC ⟨F0, F1, F2, F3, F4, F5⟩) w1 0) (Nat.le_refl _)⟩

set_option maxRecDepth 100000 in
set_option maxHeartbeats 1000000 in
theorem hold_any (h : TabAt hi 55 w b v (most : Int) nx S) (ok : Ok c most nx S) (hc : c ≤ 900) (i : Int) :
    Calls Try.prog 17 #[ptr b, .int .i64 i] w (TPost hi 55 b w v (most : Int) nx (holdS i S) (.int .i64 (errE i S))) := by
  have hl : S.length ≤ 1000 := by have := ok.len; have := ok.most; omega
  have HT : Hid (∀ w1, Below w.heap.size w w1 → TabAt hi 55 w1 b v (most : Int) nx S) := fun w1 hb => h.on hb
  unfold errE
  cases hq : has i S with
  | false =>
    have cP := place_no h ok.sorted hl hq
    rw [hold_no hq, if_neg (by decide)]
    have HP : Hid (∀ e w1, e = .returned (.int .i64 9) → Below w.heap.size w w1 → TPost hi 55 b w v (most : Int) nx S (.int .i64 9) e w1) := fun e w1 he hb => ⟨he, v, HT.out w1 hb, .on hb⟩
    generalize TPost hi 55 b w v (most : Int) nx S (.int .i64 9) = Post at *
    clear h HT hq ok
    go_enter Try.func17, Try.ntmps17
    go_wp2_with fail
    refine cP.mono ?_
    rintro e w1 ⟨rfl, hb1⟩
    go_wp2
    exact HP.out _ _ rfl hb1
  | true =>
    have cP := place_yes h ok.sorted hl hq
    have hlt := spot_lt hq
    have hr := ok.refs _ (List.getElem_mem hlt)
    rw [if_pos rfl]
    unfold holdS
    have HP : Hid (∀ e w1 v', e = .returned (.int .i64 0) → TabAt hi 55 w1 b v' (most : Int) nx (S.modify (spot i S) moreF) → Goes b v v' w w1 → TPost hi 55 b w v (most : Int) nx (S.modify (spot i S) moreF) (.int .i64 0) e w1) := fun e w1 v' he h1 h2 => ⟨he, v', h1, h2⟩
    generalize TPost hi 55 b w v (most : Int) nx (S.modify (spot i S) moreF) (.int .i64 0) = Post at *
    clear h hq ok
    generalize spot i S = k at *
    go_enter Try.func17, Try.ntmps17
    go_wp2_with fail
    refine cP.mono ?_
    rintro e w1 ⟨rfl, hb1⟩
    have ht := HT.out w1 hb1
    have y0 := ht.box.cell 0 rfl
    obtain ⟨g, cap, rfl, _, hc, hfr⟩ := ht.cells hlt
    have z5 := hc 5 _ rfl
    have f5 := hfr (k * 6 + 5)
    have hz : (k : Int) < (S.length : Int) := by omega
    have hst := ht.stored (by decide) hlt (i := 5) (by omega) (S[k].refs + 1) moreF rfl
    have HZ : Hid _ := HP.out (.returned (.int .i64 0)) _ _ rfl hst.1 ((Goes.on hb1).trans hst.2)
    clear cP HT ht hc hfr hst HP
    generalize S[k].refs = r at *
    go_wp2
    exact HZ.out

set_option maxRecDepth 100000 in
set_option maxHeartbeats 1000000 in
theorem seek_any (h : TabAt hi 55 w b v (most : Int) nx S) (ok : Ok c most nx S) (i o : Int) :
    Calls Try.prog 20 #[ptr b, .int .i64 i, .int .i64 o] w (TPost hi 55 b w v (most : Int) nx (seekS i o S) (.int .i64 (seekE i o S))) := by
  have hl : S.length ≤ 1000 := by have := ok.len; have := ok.most; omega
  have HT : Hid (∀ w1, Below w.heap.size w w1 → TabAt hi 55 w1 b v (most : Int) nx S) := fun w1 hb => h.on hb
  unfold seekE
  cases hq : has i S with
  | false =>
    have cP := place_no h ok.sorted hl hq
    rw [seek_no hq, if_neg (by decide)]
    have HP : Hid (∀ e w1, e = .returned (.int .i64 9) → Below w.heap.size w w1 → TPost hi 55 b w v (most : Int) nx S (.int .i64 9) e w1) := fun e w1 he hb => ⟨he, v, HT.out w1 hb, .on hb⟩
    generalize TPost hi 55 b w v (most : Int) nx S (.int .i64 9) = Post at *
    clear h HT hq ok
    go_enter Try.func20, Try.ntmps20
    go_wp2_with fail
    refine cP.mono ?_
    rintro e w1 ⟨rfl, hb1⟩
    go_wp2
    exact HP.out _ _ rfl hb1
  | true =>
    have cP := place_yes h ok.sorted hl hq
    have hlt := spot_lt hq
    rw [if_pos rfl]
    unfold seekS
    by_cases ho : o < 0
    · rw [if_pos ho, if_pos ho]
      have HP : Hid (∀ e w1, e = .returned (.int .i64 22) → Below w.heap.size w w1 → TPost hi 55 b w v (most : Int) nx S (.int .i64 22) e w1) := fun e w1 he hb => ⟨he, v, HT.out w1 hb, .on hb⟩
      generalize TPost hi 55 b w v (most : Int) nx S (.int .i64 22) = Post at *
      clear h HT hq ok
      go_enter Try.func20, Try.ntmps20
      go_wp2_with fail
      refine cP.mono ?_
      rintro e w1 ⟨rfl, hb1⟩
      go_wp2
      exact HP.out _ _ rfl hb1
    · rw [if_neg ho, if_neg ho]
      have HP : Hid (∀ e w1 v', e = .returned (.int .i64 0) → TabAt hi 55 w1 b v' (most : Int) nx (S.modify (spot i S) (offF o)) → Goes b v v' w w1 → TPost hi 55 b w v (most : Int) nx (S.modify (spot i S) (offF o)) (.int .i64 0) e w1) := fun e w1 v' he h1 h2 => ⟨he, v', h1, h2⟩
      generalize TPost hi 55 b w v (most : Int) nx (S.modify (spot i S) (offF o)) (.int .i64 0) = Post at *
      clear h hq ok
      generalize spot i S = k at *
      go_enter Try.func20, Try.ntmps20
      go_wp2_with fail
      refine cP.mono ?_
      rintro e w1 ⟨rfl, hb1⟩
      have ht := HT.out w1 hb1
      have y0 := ht.box.cell 0 rfl
      obtain ⟨g, cap, rfl, _, hc, hfr⟩ := ht.cells hlt
      have z3 := hc 3 _ rfl
      have f3 := hfr (k * 6 + 3)
      have hz : (k : Int) < (S.length : Int) := by omega
      have hst := ht.stored (by decide) hlt (i := 3) (by omega) o (offF o) rfl
      have HZ : Hid _ := HP.out (.returned (.int .i64 0)) _ _ rfl hst.1 ((Goes.on hb1).trans hst.2)
      clear cP HT ht hc hfr hst HP
      generalize S[k].off = r at *
      go_wp2
      exact HZ.out
end

end Go.Proofs.Ytigikmojhllmdaa.V
