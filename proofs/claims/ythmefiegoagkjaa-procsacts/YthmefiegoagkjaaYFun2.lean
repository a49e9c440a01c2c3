/- What find, living, Lives and Get answer. -/
import Derived.Test.YthmefiegoagkjaaYFun
namespace Go.Proofs.Ythmefiegoagkjaa.Y
open Go Go.RowKit

theorem results_blkT {P : Program} {fn : Func} {p u : Tmp} {t : TypeId} {cs : List Value} {v1 : Value} (hagg : ∀ w, (isAgg t).run P w = .ok true w) (hi : (P.info? t).map (·.size) = some cs.length) (h : fn.results = #[.cell p t, .tmp u]) (tmps : Array Value) (w : World) {b : Nat}
    (hp : tmps.getD p undef = .pointer (some ⟨b, 0, none⟩)) (h1 : tmps.getD u undef = v1) (hb : Blk w b t cs) : (results fn tmps).run P w = .ok (.tuple #[.agg cs.toArray, v1]) w := by
  have hp' : tmps[p]?.getD undef = .pointer (some ⟨b, 0, none⟩) := by simpa using hp
  have h1' : tmps[u]?.getD undef = v1 := by simpa using h1
  simp [results, h, hp', h1', asAddr, run_loadVar_blk hagg hi hb]
section
variable {hi b g cap : Nat} {v : Value} {mo nx : Int} {S : List Pr} {w : World} {i : Int}
set_option maxRecDepth 100000 in
set_option maxHeartbeats 1000000 in
theorem find_yes (h : TabAt hi 57 w b (.slice (some ⟨g, 0, none⟩) S.length cap) mo nx S) (hl : S.length ≤ 1000) (hq : has i S = true) :
    Calls Try.prog 31 #[ptr b, .int .i64 i] w fun e w' => e = .returned (.pointer (some ⟨g, spot i S * 7, none⟩)) ∧ Below w.heap.size w w' := by
  have hal := on_alloc w (.cells #[.int .i64 i] 3)
  have HB : Hid (Below w.heap.size w (w.alloc (.cells #[.int .i64 i] 3))) := hal
  have h0 := h.on hal
  have cI := index_any hi 35 #[ptr w.heap.size] (fun x => x.pid == i) (fun W => Blk W w.heap.size 3 [.int .i64 i]) en_find1 ⟨fun W W' h hb => h.on hb, fun x W h => find1_any x i _ W h⟩ (.slice (some ⟨g, 0, none⟩) S.length cap) S hl _ h0.row (Blk.new w 3 [.int .i64 i])
  have hlt := spot_lt hq
  rw [show (S.any fun x => x.pid == i) = true from hq, if_pos rfl, show S.findIdx (fun x => x.pid == i) = spot i S from rfl] at cI
  have HT : Hid (∀ w1, Below (w.alloc (.cells #[.int .i64 i] 3)).heap.size (w.alloc (.cells #[.int .i64 i] 3)) w1 → TabAt hi 57 w1 b (.slice (some ⟨g, 0, none⟩) S.length cap) mo nx S) := fun w1 hb => h0.on hb
  have y0 := h0.box.cell 0 rfl
  clear h h0 hal hq
  generalize spot i S = k at *
  have hz : (k : Int) < (S.length : Int) := by omega
  go_enter Try.func31, Try.ntmps31
  go_wp2_with fail
  refine cI.mono ?_
  rintro e w1 ⟨rfl, hb1⟩
  have ht := HT.out w1 hb1
  have y1 := ht.box.cell 0 rfl
  have HB1 : Hid (Below w.heap.size w w1) := on_trans HB.out hb1
  clear ht HT HB hb1 cI y0
  go_wp2
  go_ret
  exact ⟨rfl, HB1.out⟩
set_option maxRecDepth 100000 in
set_option maxHeartbeats 1000000 in
theorem find_no (h : TabAt hi 57 w b v mo nx S) (hl : S.length ≤ 1000) (hq : has i S = false) :
    Calls Try.prog 31 #[ptr b, .int .i64 i] w fun e w' => e = .returned (.pointer none) ∧ Below w.heap.size w w' := by
  have hal := on_alloc w (.cells #[.int .i64 i] 3)
  have HB : Hid (Below w.heap.size w (w.alloc (.cells #[.int .i64 i] 3))) := hal
  have h0 := h.on hal
  have cI := index_any hi 35 #[ptr w.heap.size] (fun x => x.pid == i) (fun W => Blk W w.heap.size 3 [.int .i64 i]) en_find1 ⟨fun W W' h hb => h.on hb, fun x W h => find1_any x i _ W h⟩ v S hl _ h0.row (Blk.new w 3 [.int .i64 i])
  rw [show (S.any fun x => x.pid == i) = false from hq, if_neg (by decide)] at cI
  have y0 := h0.box.cell 0 rfl
  obtain ⟨p, cap, rfl⟩ := h.slice
  clear h h0 hal hq
  go_enter Try.func31, Try.ntmps31
  go_wp2_with fail
  refine cI.mono ?_
  rintro e w1 ⟨rfl, hb1⟩
  go_wp2
  go_ret
  exact ⟨rfl, on_trans HB.out hb1⟩
set_option maxRecDepth 100000 in
theorem find_nil (w : World) (i : Int) : Calls Try.prog 31 #[.pointer none, .int .i64 i] w fun e w' => e = .returned (.pointer none) ∧ Below w.heap.size w w' := by
  have HB : Hid (Below w.heap.size w (w.alloc (.cells #[.int .i64 i] 3))) := on_alloc w _
  go_enter Try.func31, Try.ntmps31
  go_wp2
  go_ret
  exact ⟨rfl, HB.out⟩

theorem at_get (h : has i S = true) : at_ i S = S[spot i S]'(spot_lt h) := by
  unfold at_
  rw [List.getD_eq_getElem?_getD, List.getElem?_eq_getElem (spot_lt h)]
  rfl
set_option maxRecDepth 100000 in
set_option maxHeartbeats 1000000 in
theorem living_yes (h : TabAt hi 57 w b (.slice (some ⟨g, 0, none⟩) S.length cap) mo nx S) (hs : Sorted S) (hl : S.length ≤ 1000) (hq : lv i S = true) :
    Calls Try.prog 32 #[ptr b, .int .i64 i] w fun e w' => e = .returned (.pointer (some ⟨g, spot i S * 7, none⟩)) ∧ Below w.heap.size w w' := by
  have hh := lv_has hq
  have hlt := spot_lt hh
  have HL : Hid (S[spot i S].lives = true) := by
    have := lv_at hs hh
    rw [hq, at_get hh] at this
    exact this.symm
  have cF := find_yes h hl hh
  have HT : Hid (∀ w1, Below w.heap.size w w1 → TabAt hi 57 w1 b (.slice (some ⟨g, 0, none⟩) S.length cap) mo nx S) := fun w1 hb => h.on hb
  clear h hq hh hs
  generalize spot i S = k at *
  go_enter Try.func32, Try.ntmps32
  go_wp2_with fail
  refine cF.mono ?_
  rintro e w1 ⟨rfl, hb1⟩
  obtain ⟨g', cap', e1, _, c⟩ := tab_cells (HT.out w1 hb1) hlt
  cases e1
  have c2 := c.c2
  rw [HL.out] at c2
  clear c HT HL cF
  go_wp2
  go_ret
  exact ⟨rfl, hb1⟩
set_option maxRecDepth 100000 in
set_option maxHeartbeats 1000000 in
theorem living_no (h : TabAt hi 57 w b v mo nx S) (hs : Sorted S) (hl : S.length ≤ 1000) (hq : lv i S = false) :
    Calls Try.prog 32 #[ptr b, .int .i64 i] w fun e w' => e = .returned (.pointer none) ∧ Below w.heap.size w w' := by
  cases hh : has i S with
  | false =>
    have cF := find_no h hl hh
    clear h hq hh hs
    go_enter Try.func32, Try.ntmps32
    go_wp2_with fail
    refine cF.mono ?_
    rintro e w1 ⟨rfl, hb1⟩
    go_wp2
    go_ret
    exact ⟨rfl, hb1⟩
  | true =>
    have hlt := spot_lt hh
    have HL : Hid (S[spot i S].lives = false) := by
      have := lv_at hs hh
      rw [hq, at_get hh] at this
      exact this.symm
    obtain ⟨g, cap, rfl, _, _⟩ := tab_cells h hlt
    have cF := find_yes h hl hh
    have HT : Hid (∀ w1, Below w.heap.size w w1 → TabAt hi 57 w1 b (.slice (some ⟨g, 0, none⟩) S.length cap) mo nx S) := fun w1 hb => h.on hb
    clear h hq hh hs
    generalize spot i S = k at *
    go_enter Try.func32, Try.ntmps32
    go_wp2_with fail
    refine cF.mono ?_
    rintro e w1 ⟨rfl, hb1⟩
    obtain ⟨g', cap', e1, _, c⟩ := tab_cells (HT.out w1 hb1) hlt
    cases e1
    have c2 := c.c2
    rw [HL.out] at c2
    clear c HT HL cF
    go_wp2
    go_ret
    exact ⟨rfl, hb1⟩
set_option maxRecDepth 100000 in
theorem living_nil (w : World) (i : Int) : Calls Try.prog 32 #[.pointer none, .int .i64 i] w fun e w' => e = .returned (.pointer none) ∧ Below w.heap.size w w' := by
  have cF := find_nil w i
  go_enter Try.func32, Try.ntmps32
  go_wp2_with fail
  refine cF.mono ?_
  rintro e w1 ⟨rfl, hb1⟩
  go_wp2
  go_ret
  exact ⟨rfl, hb1⟩
set_option maxRecDepth 100000 in
theorem lives_t (h : TabAt hi 57 w b v mo nx S) (hs : Sorted S) (hl : S.length ≤ 1000) (i : Int) :
    Calls Try.prog 16 #[ptr b, .int .i64 i] w fun e w' => e = .returned (.bool (lv i S)) ∧ Below w.heap.size w w' := by
  cases hq : lv i S with
  | true =>
    obtain ⟨g, cap, rfl, _, hcc⟩ := tab_cells h (spot_lt (lv_has hq))
    have cF := living_yes h hs hl hq
    clear h hcc hq hs
    go_enter Try.func16, Try.ntmps16
    go_wp2_with fail
    refine cF.mono ?_
    rintro e w1 ⟨rfl, hb1⟩
    go_wp2
    go_ret
    exact ⟨rfl, hb1⟩
  | false =>
    have cF := living_no h hs hl hq
    clear h hq hs
    go_enter Try.func16, Try.ntmps16
    go_wp2_with fail
    refine cF.mono ?_
    rintro e w1 ⟨rfl, hb1⟩
    go_wp2
    go_ret
    exact ⟨rfl, hb1⟩
set_option maxRecDepth 100000 in
theorem lives_nil (w : World) (i : Int) : Calls Try.prog 16 #[.pointer none, .int .i64 i] w fun e w' => e = .returned (.bool false) ∧ Below w.heap.size w w' := by
  have cF := living_nil w i
  go_enter Try.func16, Try.ntmps16
  go_wp2_with fail
  refine cF.mono ?_
  rintro e w1 ⟨rfl, hb1⟩
  go_wp2
  go_ret
  exact ⟨rfl, hb1⟩

theorem at_no (h : has i S = false) : at_ i S = zPr := by
  unfold at_
  rw [spot_no h]
  simp
set_option maxRecDepth 100000 in
set_option maxHeartbeats 1000000 in
theorem get_none (P : World → Prop) (bv : Value) (_hP : P w) (hPb : ∀ W, P W → Calls Try.prog 31 #[bv, .int .i64 i] W fun e w' => e = .returned (.pointer none) ∧ Below W.heap.size W w') (hPo : P (w.alloc (.cells #[.int .i64 0, .int .i64 0, .bool false, .int .i64 0, .bool false, .bool false, .int .i64 0] 37))) :
    Calls Try.prog 14 #[bv, .int .i64 i] w fun e w' => e = .returned (.tuple #[.agg (prC zPr).toArray, .bool false]) ∧ Below w.heap.size w w' := by
  have hal := on_alloc w (.cells #[.int .i64 0, .int .i64 0, .bool false, .int .i64 0, .bool false, .bool false, .int .i64 0] 37)
  have HB : Hid (Below w.heap.size w (w.alloc (.cells #[.int .i64 0, .int .i64 0, .bool false, .int .i64 0, .bool false, .bool false, .int .i64 0] 37))) := hal
  have HX : Hid (Blk (w.alloc (.cells #[.int .i64 0, .int .i64 0, .bool false, .int .i64 0, .bool false, .bool false, .int .i64 0] 37)) w.heap.size 37 (prC zPr)) := Blk.new w 37 (prC zPr)
  have cP := hPb _ hPo
  clear hPb hPo hal
  go_enter Try.func14, Try.ntmps14
  go_wp2_with fail
  generalize w.alloc (.cells #[.int .i64 0, .int .i64 0, .bool false, .int .i64 0, .bool false, .bool false, .int .i64 0] 37) = w0 at *
  refine cP.mono ?_
  rintro e w1 ⟨rfl, hb1⟩
  have HX1 : Hid (Blk w1 w.heap.size 37 (prC zPr)) := HX.out.on hb1
  have HB1 : Hid (Below w.heap.size w w1) := on_trans HB.out hb1
  have f0 := HX1.out.free 0
  have f1 := HX1.out.free 1
  have f2 := HX1.out.free 2
  have f3 := HX1.out.free 3
  have f4 := HX1.out.free 4
  have f5 := HX1.out.free 5
  have f6 := HX1.out.free 6
  have x0 := HX1.out.cell 0 rfl
  have x1 := HX1.out.cell 1 rfl
  have x2 := HX1.out.cell 2 rfl
  have x3 := HX1.out.cell 3 rfl
  have x4 := HX1.out.cell 4 rfl
  have x5 := HX1.out.cell 5 rfl
  have x6 := HX1.out.cell 6 rfl
  simp only [zPr] at x0 x1 x2 x3 x4 x5 x6
  clear cP hb1 HX HB
  go_wp2
  exact bodyPost_ret (results_blkT (cs := prC zPr) Try.isAgg37 infoP rfl _ _ rfl rfl (HX1.out.put (prC zPr) rfl)) rfl ⟨rfl, below_but HB1.out (but_putL w.heap.size (prC zPr) w1 0) (Nat.le_refl _)⟩
theorem get_nil (w : World) (i : Int) : Calls Try.prog 14 #[.pointer none, .int .i64 i] w fun e w' => e = .returned (.tuple #[.agg (prC zPr).toArray, .bool false]) ∧ Below w.heap.size w w' :=
  get_none (fun _ => True) _ trivial (fun W _ => find_nil W i) trivial
set_option maxRecDepth 100000 in
set_option maxHeartbeats 1000000 in
theorem get_any (h : TabAt hi 57 w b v mo nx S) (hl : S.length ≤ 1000) (i : Int) :
    Calls Try.prog 14 #[ptr b, .int .i64 i] w fun e w' => e = .returned (.tuple #[.agg (prC (at_ i S)).toArray, .bool (has i S)]) ∧ Below w.heap.size w w' := by
  cases hq : has i S with
  | false =>
    rw [at_no hq]
    exact get_none (fun W => TabAt hi 57 W b v mo nx S) _ h (fun W h => find_no h hl hq) (h.on (on_alloc w _))
  | true =>
    have hal := on_alloc w (.cells #[.int .i64 0, .int .i64 0, .bool false, .int .i64 0, .bool false, .bool false, .int .i64 0] 37)
    have HB : Hid (Below w.heap.size w (w.alloc (.cells #[.int .i64 0, .int .i64 0, .bool false, .int .i64 0, .bool false, .bool false, .int .i64 0] 37))) := hal
    have HX : Hid (Blk (w.alloc (.cells #[.int .i64 0, .int .i64 0, .bool false, .int .i64 0, .bool false, .bool false, .int .i64 0] 37)) w.heap.size 37 (prC zPr)) := Blk.new w 37 (prC zPr)
    have h0 := h.on hal
    have hlt := spot_lt hq
    obtain ⟨g, cap, rfl, _, hcc⟩ := tab_cells h hlt
    have cP := find_yes h0 hl hq
    clear hcc
    rw [at_get hq]
    have HT : Hid (∀ w1, Below (w.alloc (.cells #[.int .i64 0, .int .i64 0, .bool false, .int .i64 0, .bool false, .bool false, .int .i64 0] 37)).heap.size (w.alloc (.cells #[.int .i64 0, .int .i64 0, .bool false, .int .i64 0, .bool false, .bool false, .int .i64 0] 37)) w1 → Cells w1 g (spot i S) S[spot i S]) := fun w1 hb => by
      obtain ⟨g', cap', e1, _, c⟩ := tab_cells (h0.on hb) hlt
      cases e1
      exact c
    clear h h0 hal
    generalize hF : S[spot i S] = F at *
    clear hF hq
    generalize spot i S = k at *
    go_enter Try.func14, Try.ntmps14
    go_wp2_with fail
    generalize w.alloc (.cells #[.int .i64 0, .int .i64 0, .bool false, .int .i64 0, .bool false, .bool false, .int .i64 0] 37) = w0 at *
    refine cP.mono ?_
    rintro e w1 ⟨rfl, hb1⟩
    have HX1 : Hid (Blk w1 w.heap.size 37 (prC zPr)) := HX.out.on hb1
    have HB1 : Hid (Below w.heap.size w w1) := on_trans HB.out hb1
    obtain ⟨z0, z1, z2, z3, z4, z5, z6, _⟩ := HT.out w1 hb1
    have f0 := HX1.out.free 0
    have f1 := HX1.out.free 1
    have f2 := HX1.out.free 2
    have f3 := HX1.out.free 3
    have f4 := HX1.out.free 4
    have f5 := HX1.out.free 5
    have f6 := HX1.out.free 6
    have x0 := HX1.out.cell 0 rfl
    have x1 := HX1.out.cell 1 rfl
    have x2 := HX1.out.cell 2 rfl
    have x3 := HX1.out.cell 3 rfl
    have x4 := HX1.out.cell 4 rfl
    have x5 := HX1.out.cell 5 rfl
    have x6 := HX1.out.cell 6 rfl
    simp only [zPr] at x0 x1 x2 x3 x4 x5 x6
    clear cP hb1 HX HB HT
    obtain ⟨F0, F1, F2, F3, F4, F5, F6⟩ := F
    simp only at z0 z1 z2 z3 z4 z5 z6
    go_wp2
    exact bodyPost_ret (results_blkT (cs := prC ⟨F0, F1, F2, F3, F4, F5, F6⟩) Try.isAgg37 infoP rfl _ _ rfl rfl (HX1.out.put (prC ⟨F0, F1, F2, F3, F4, F5, F6⟩) rfl)) rfl ⟨rfl, below_but HB1.out (but_putL w.heap.size (prC ⟨F0, F1, F2, F3, F4, F5, F6⟩) w1 0) (Nat.le_refl _)⟩
end

end Go.Proofs.Ythmefiegoagkjaa.Y
