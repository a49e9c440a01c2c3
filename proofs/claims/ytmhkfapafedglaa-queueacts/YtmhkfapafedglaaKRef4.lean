/- The reference's Take. -/
import Derived.Test.YtmhkfapafedglaaKRef2
import Derived.Test.YtmhkfapafedglaaKRef3
namespace Go.Proofs.Ytmhkfapafedglaa.K
open Go Go.RowKit

/-- What Take comes to, ahead of its end. -/
structure TFin (O : Nat → Prop) (w : World) (rb : Nat) (ov bv v0 v1 : Value) (LL : List Pt × List UInt8 × List Ps × List Ps) (W : World) : Prop where
  res : Blk W rb 52 [v0, v1]
  par : ParO O W ov LL.1
  byt : BytO (fun _ => True) W bv LL.2.1
  p0 : PasO (fun _ => True) W v0 LL.2.2.1
  p1 : PasO (fun _ => True) W v1 LL.2.2.2
  below : Below w.heap.size w W
section
variable {O : Nat → Prop} {w W W' : World} {rb b : Nat} {ov bv v0 v1 v : Value} {LL : List Pt × List UInt8 × List Ps × List Ps} {B : List UInt8} {L : List Ps} {M : List PV} {ps : List Pt} {cs : List Value}
theorem TFin.on (h : TFin O w rb ov bv v0 v1 LL W) (hb : Below W.heap.size W W') : TFin O w rb ov bv v0 v1 LL W' := ⟨h.res.on hb, h.par.keep (keep_on hb), h.byt.keep (keep_on hb), h.p0.keep (keep_on hb), h.p1.keep (keep_on hb), on_trans h.below hb⟩
def ktf (O : Nat → Prop) (w : World) (rb : Nat) (ov bv v0 v1 : Value) (LL : List Pt × List UInt8 × List Ps × List Ps) : Kd 0 := Kd.st (fun _ W => TFin O w rb ov bv v0 v1 LL W) fun _ _ _ h hb => h.on hb
theorem byt_but (h : BytO O W v B) (hb : But b W W') (tb : typ W b 52) : BytO O W' v B := by
  obtain ⟨q, d, a1, a2, a3⟩ := h
  exact ⟨q, d, a1, a2, a3.keepT (keep_but hb fun h7 => typ_ne h7.2 tb (by decide) rfl)⟩
theorem pasM_but (h : PasM O W v M) (hb : But b W W') (tb : typ W b 52) : PasM O W' v M := h.keepT (keep_but hb fun h7 => by
  rcases h7.2 with h8 | h8
  · exact typ_ne h8 tb (by decide) rfl
  · exact typ_ne h8 tb (by decide) rfl)
theorem pas_but (h : PasO O W v L) (hb : But b W W') (tb : typ W b 52) : PasO O W' v L := by
  obtain ⟨M, h1, h2⟩ := h
  exact ⟨M, h1, pasM_but h2 hb tb⟩
theorem par_but (h : ParO O W v ps) (hb : But b W W') (tb : typ W b 52) : ParO O W' v ps := by
  obtain ⟨X, h1, h2⟩ := h
  obtain ⟨p, c, a1, a2, a3⟩ := h2.row
  exact ⟨X, h1, ⟨p, c, a1, a2, a3.keepT (keep_but hb fun h7 => typ_ne h7.2 tb (by decide) rfl)⟩, fun x hx => byt_but (h2.byt x hx) hb tb, fun x hx => pasM_but (h2.pas x hx) hb tb⟩
/-- The store to the result. -/
theorem fin_store (hr : Blk W rb 52 [.slice none 0 0, .slice none 0 0]) (h1 : ParO O W ov LL.1) (h2 : BytO (fun _ => True) W bv LL.2.1) (h3 : PasO (fun _ => True) W v0 LL.2.2.1) (h4 : PasO (fun _ => True) W v1 LL.2.2.2) (h5 : Below w.heap.size w W) (hlo : w.heap.size ≤ rb) :
    TFin O w rb ov bv v0 v1 LL ((W.setCell ⟨rb, 0, none⟩ v0).setCell ⟨rb, 1, none⟩ v1) ∧ W.cell? ⟨rb, 0, none⟩ = some (.slice none 0 0) ∧ W.frozen? ⟨rb, 0, none⟩ = false ∧ (W.setCell ⟨rb, 0, none⟩ v0).cell? ⟨rb, 1, none⟩ = some (.slice none 0 0) ∧ (W.setCell ⟨rb, 0, none⟩ v0).frozen? ⟨rb, 1, none⟩ = false := by
  have tb := typ_blk hr
  have hB1 := hr.set 0 v0
  have hk := (but_set W rb 0 v0).trans (but_set (W.setCell ⟨rb, 0, none⟩ v0) rb 1 v1)
  exact ⟨⟨hB1.set 1 v1, par_but h1 hk tb, byt_but h2 hk tb, pas_but h3 hk tb, pas_but h4 hk tb, below_but h5 hk hlo⟩, hr.cell 0 rfl, hr.free 0, hB1.cell 1 rfl, hB1.free 1⟩
end
/-- What the reference's Take leaves. -/
def RTakePost (O : Nat → Prop) (w : World) (ps : List Pt) (k m : Int) (e : Ending) (w' : World) : Prop :=
  ∃ v b p0 p1, e = .returned (.tuple #[v, b, .agg #[p0, p1]]) ∧ ParO (Up O w.heap.size) w' v (takeF ps k m).1 ∧ BytO (fun _ => True) w' b (takeF ps k m).2.1 ∧ PasO (fun _ => True) w' p0 (takeF ps k m).2.2.1 ∧ PasO (fun _ => True) w' p1 (takeF ps k m).2.2.2 ∧ Below w.heap.size w w'
theorem TFin.post {O : Nat → Prop} {w W : World} {rb : Nat} {ov bv v0 v1 : Value} {ps : List Pt} {k m : Int} (h : TFin (Up O w.heap.size) w rb ov bv v0 v1 (takeF ps k m) W) : RTakePost O w ps k m (.returned (.tuple #[ov, bv, .agg #[v0, v1]])) W := ⟨ov, bv, v0, v1, rfl, h.par, h.byt, h.p0, h.p1, h.below⟩
set_option maxRecDepth 100000 in
set_option maxHeartbeats 1000000 in
theorem rtake_no {O : Nat → Prop} {w : World} {lv : Value} {ps : List Pt} (h : ParO O w lv ps) (k m : Int) (hno : k < 1 ∨ ps = []) : Calls Try.prog 22 #[lv, .int .i64 k, .int .i64 m] w (RTakePost O w ps k m) := by
  obtain ⟨lp, lc, rfl⟩ := par_slice h
  have et : takeF ps k m = (ps, [], [], []) := by
    cases ps with
    | nil => rfl
    | cons x r => simp [takeF, hno.resolve_right (by simp)]
  obtain ⟨LL, hLL⟩ : ∃ LL, takeF ps k m = LL := ⟨_, rfl⟩
  obtain ⟨OO, hOO⟩ : ∃ OO, Up O w.heap.size = OO := ⟨_, rfl⟩
  have HP : Hid (∀ W ov bv v0 v1 rb, TFin OO w rb ov bv v0 v1 LL W → RTakePost O w ps k m (.returned (.tuple #[ov, bv, .agg #[v0, v1]])) W) := fun W ov bv v0 v1 rb h7 => by
    rw [← hLL, ← hOO] at h7
    exact h7.post
  -- the boxes
  have n1 := Blk.new w 52 [.slice none 0 0, .slice none 0 0]
  have a1 := on_alloc w (.cells #[.slice none 0 0, .slice none 0 0] 52)
  have a2 := on_alloc (w.alloc (.cells #[.slice none 0 0, .slice none 0 0] 52)) (.cells #[] 5)
  have n3 := Blk.new ((w.alloc (.cells #[.slice none 0 0, .slice none 0 0] 52)).alloc (.cells #[] 5)) 52 [.slice none 0 0, .slice none 0 0]
  have a3 := on_alloc ((w.alloc (.cells #[.slice none 0 0, .slice none 0 0] 52)).alloc (.cells #[] 5)) (.cells #[.slice none 0 0, .slice none 0 0] 52)
  rw [World.size_alloc, World.size_alloc] at n3
  have hb := on_trans (on_trans a1 a2) a3
  have n1' := (n1.on a2).on a3
  obtain ⟨w1, hw1⟩ : ∃ w1, ((w.alloc (.cells #[.slice none 0 0, .slice none 0 0] 52)).alloc (.cells #[] 5)).alloc (.cells #[.slice none 0 0, .slice none 0 0] 52) = w1 := ⟨_, rfl⟩
  rw [hw1] at n3 hb n1'
  have HFin : Hid (∀ W, Below w1.heap.size w1 W → TFin OO w w.heap.size (.slice lp ps.length lc) (.slice (some ⟨w.heap.size + 1, 0, none⟩) 0 0) (.slice none 0 0) (.slice none 0 0) LL ((W.setCell ⟨w.heap.size, 0, none⟩ (.slice none 0 0)).setCell ⟨w.heap.size, 1, none⟩ (.slice none 0 0)) ∧ W.cell? ⟨w.heap.size, 0, none⟩ = some (.slice none 0 0) ∧ W.frozen? ⟨w.heap.size, 0, none⟩ = false ∧ (W.setCell ⟨w.heap.size, 0, none⟩ (.slice none 0 0)).cell? ⟨w.heap.size, 1, none⟩ = some (.slice none 0 0) ∧ (W.setCell ⟨w.heap.size, 0, none⟩ (.slice none 0 0)).frozen? ⟨w.heap.size, 1, none⟩ = false) := fun W h7 => by
    rw [← hLL, ← hOO, et]
    exact fin_store (n1'.on h7) ((h.keep (keep_on (on_trans hb h7))).mono fun _ _ h => .inl h) ⟨_, 0, rfl, Nat.le_refl _, .inl rfl⟩ (PasO.nil _ _) (PasO.nil _ _) (on_trans hb h7) (Nat.le_refl _)
  have HAr : Hid (∀ W, Below w1.heap.size w1 W → W.cell? ⟨w.heap.size + 1 + 1, 0, none⟩ = some (.slice none 0 0) ∧ W.cell? ⟨w.heap.size + 1 + 1, 1, none⟩ = some (.slice none 0 0)) := fun W h7 => ⟨(n3.on h7).cell 0 rfl, (n3.on h7).cell 1 rfl⟩
  have HW1 : Hid _ := hw1
  generalize RTakePost O w ps k m = Post at *
  have hps : ps = [] → ps.length = 0 := fun e => by rw [e]; rfl
  clear h et hLL hOO n1 n1' n3 a1 a2 a3 hb hw1
  generalize hpl : ps.length = pl at *
  clear hpl
  by_cases hk : k < 1
  · clear hno hps
    go_enter Try.func22, Try.ntmps22
    go_wp2
    rw [HW1.out]
    refine wp_region_two (S := RS2 w1) (u := 5) (Keep := KeepF (fun k => k = w.heap.size) [5])
      (g := fun jj vv WW => (([.is (.slice lp pl lc), .is (.slice (some ⟨w.heap.size + 1, 0, none⟩) 0 0), .is (.agg #[.slice none 0 0, .slice none 0 0]), .is (.slice lp pl lc), .is (.slice (some ⟨w.heap.size + 1, 0, none⟩) 0 0), ktf OO w w.heap.size (.slice lp pl lc) (.slice (some ⟨w.heap.size + 1, 0, none⟩) 0 0) (.slice none 0 0) (.slice none 0 0) LL] : List (Kd 0)).getD jj Kd.any).ok vv WW)
      (tab := [[(0, none)], [(9, none)], [(10, none)], [(26, some 0)], [(27, some 1)], [(8, none), (28, some 2)]]) (tl := []) (n := 126)
      (by kernel_rfl) rfl (by kernel_rfl) (keep_f ?kR1) (fun _ => on_drew (Below.refl _ _)) ?stR1 ?enR1
    case kR1 =>
      intro u hu j hj
      simp only [List.mem_cons, List.not_mem_nil, or_false] at hu
      rcases hu with rfl
      · match j, hj with
        | 0, _ | 1, _ | 2, _ | 3, _ | 4, _ => exact .inr (.inr (stays_is _))
        | 5, hj => exact absurd rfl hj
        | j + 6, _ => exact .inr (.inr stays_any)
    case stR1 =>
      refine ⟨fun ρ W f hf hr hS hs => ?_, fun ρ W f hf hr hS hs => ?_, fun ρ W f hf hr hS hs => ?_, fun ρ W f hf hr hS hs => ?_, fun ρ W f hf hr hS hs => ?_, fun ρ W f hf hr hS hs => ?_, trivial⟩
      · have h0 : ρ (.tmp 0) = .slice lp pl lc := hs.1
        exact step_plain rfl (leaves_move (.tmp 0) rfl ⟨h0, by simpa using hS, .inr (Below.refl _ _)⟩)
      · have h9 : ρ (.tmp 9) = .slice (some ⟨w.heap.size + 1, 0, none⟩) 0 0 := hs.1
        exact step_plain rfl (leaves_move (.tmp 9) rfl ⟨h9, by simpa using hS, .inr (Below.refl _ _)⟩)
      · have h10 : ρ (.tmp 10) = .pointer (some ⟨w.heap.size + 1 + 1, 0, none⟩) := hs.1
        refine step_plain rfl (leaves_value (v := .agg #[.slice none 0 0, .slice none 0 0]) (w' := W) ?_ ⟨rfl, by simpa using hS, .inr (Below.refl _ _)⟩)
        obtain rfl : f = true := hf (by kernel_rfl); have a0 := (HAr.out W (hS rfl)).1
        have a1 := (HAr.out W (hS rfl)).2
        simp [go_sem, h10, a0, a1]
      · have h26 : ρ (.tmp 26) = .slice lp pl lc := hs.1
        exact step_plain rfl (leaves_assign (.tmp 26) rfl ⟨h26, by simpa using hS, .inr (Below.refl _ _)⟩)
      · have h27 : ρ (.tmp 27) = .slice (some ⟨w.heap.size + 1, 0, none⟩) 0 0 := hs.1
        exact step_plain rfl (leaves_assign (.tmp 27) rfl ⟨h27, by simpa using hS, .inr (Below.refl _ _)⟩)
      · have h8 : ρ (.tmp 8) = .pointer (some ⟨w.heap.size, 0, none⟩) := hs.1
        have h28 : ρ (.tmp 28) = .agg #[.slice none 0 0, .slice none 0 0] := hs.2.1
        obtain rfl : f = true := hf (by kernel_rfl)
        obtain ⟨hfin, b0, b1, b2, b3⟩ := HFin.out W (hS rfl)
        refine step_plain rfl (leaves_skip (w' := (W.setCell ⟨w.heap.size, 0, none⟩ (.slice none 0 0)).setCell ⟨w.heap.size, 1, none⟩ (.slice none 0 0)) ?_ ⟨hfin, (fun e => by cases e), .inl ⟨by simp, keep_but ((but_set _ _ _ _).trans (but_set _ _ _ _)) fun h7 => h7 rfl⟩⟩)
        simp [go_sem, h8, h28, b0, b1, b2, b3]
    case enR1 =>
      intro f W hf hS v0 h0 v1 h1 v2 h2 v3 h3 v4 h4 h5
      obtain rfl : f = false := hf (by decide)
      clear hf
      have e0 : v0 = .slice lp pl lc := h0 rfl
      subst v0
      have e1 : v1 = .slice (some ⟨w.heap.size + 1, 0, none⟩) 0 0 := h1 rfl
      subst v1
      have e2 : v2 = .agg #[.slice none 0 0, .slice none 0 0] := h2 rfl
      subst v2
      have e3 : v3 = .slice lp pl lc := h3 rfl
      subst v3
      have e4 : v4 = .slice (some ⟨w.heap.size + 1, 0, none⟩) 0 0 := h4 rfl
      subst v4
      clear h0 h1 h2 h3 h4
      simp only [ends, Act.put, List.setIfInBounds_toArray, List.set_cons_succ, List.set_cons_zero]
      have hE := h5 rfl
      have HE : Hid _ := HP.out _ _ _ _ _ _ hE
      have HB : Hid _ := hE.res
      clear h5 hS HFin HAr hE
      go_wp2
      exact bodyPost_ret (results_ttc (v1 := .slice lp pl lc) (v2 := .slice (some ⟨w.heap.size + 1, 0, none⟩) 0 0) (cs := [.slice none 0 0, .slice none 0 0]) agg52 info52 rfl _ _ rfl rfl rfl HB.out) rfl HE.out
  · obtain rfl : pl = 0 := hps (hno.resolve_left hk)
    clear hno hps
    go_enter Try.func22, Try.ntmps22
    go_wp2
    rw [HW1.out]
    refine wp_region_two (S := RS2 w1) (u := 5) (Keep := KeepF (fun k => k = w.heap.size) [5])
      (g := fun jj vv WW => (([.is (.slice lp 0 lc), .is (.slice (some ⟨w.heap.size + 1, 0, none⟩) 0 0), .is (.agg #[.slice none 0 0, .slice none 0 0]), .is (.slice lp 0 lc), .is (.slice (some ⟨w.heap.size + 1, 0, none⟩) 0 0), ktf OO w w.heap.size (.slice lp 0 lc) (.slice (some ⟨w.heap.size + 1, 0, none⟩) 0 0) (.slice none 0 0) (.slice none 0 0) LL] : List (Kd 0)).getD jj Kd.any).ok vv WW)
      (tab := [[(0, none)], [(9, none)], [(10, none)], [(26, some 0)], [(27, some 1)], [(8, none), (28, some 2)]]) (tl := []) (n := 126)
      (by kernel_rfl) rfl (by kernel_rfl) (keep_f ?kR2) (fun _ => on_drew (Below.refl _ _)) ?stR2 ?enR2
    case kR2 =>
      intro u hu j hj
      simp only [List.mem_cons, List.not_mem_nil, or_false] at hu
      rcases hu with rfl
      · match j, hj with
        | 0, _ | 1, _ | 2, _ | 3, _ | 4, _ => exact .inr (.inr (stays_is _))
        | 5, hj => exact absurd rfl hj
        | j + 6, _ => exact .inr (.inr stays_any)
    case stR2 =>
      refine ⟨fun ρ W f hf hr hS hs => ?_, fun ρ W f hf hr hS hs => ?_, fun ρ W f hf hr hS hs => ?_, fun ρ W f hf hr hS hs => ?_, fun ρ W f hf hr hS hs => ?_, fun ρ W f hf hr hS hs => ?_, trivial⟩
      · have h0 : ρ (.tmp 0) = .slice lp 0 lc := hs.1
        exact step_plain rfl (leaves_move (.tmp 0) rfl ⟨h0, by simpa using hS, .inr (Below.refl _ _)⟩)
      · have h9 : ρ (.tmp 9) = .slice (some ⟨w.heap.size + 1, 0, none⟩) 0 0 := hs.1
        exact step_plain rfl (leaves_move (.tmp 9) rfl ⟨h9, by simpa using hS, .inr (Below.refl _ _)⟩)
      · have h10 : ρ (.tmp 10) = .pointer (some ⟨w.heap.size + 1 + 1, 0, none⟩) := hs.1
        refine step_plain rfl (leaves_value (v := .agg #[.slice none 0 0, .slice none 0 0]) (w' := W) ?_ ⟨rfl, by simpa using hS, .inr (Below.refl _ _)⟩)
        obtain rfl : f = true := hf (by kernel_rfl); have a0 := (HAr.out W (hS rfl)).1
        have a1 := (HAr.out W (hS rfl)).2
        simp [go_sem, h10, a0, a1]
      · have h26 : ρ (.tmp 26) = .slice lp 0 lc := hs.1
        exact step_plain rfl (leaves_assign (.tmp 26) rfl ⟨h26, by simpa using hS, .inr (Below.refl _ _)⟩)
      · have h27 : ρ (.tmp 27) = .slice (some ⟨w.heap.size + 1, 0, none⟩) 0 0 := hs.1
        exact step_plain rfl (leaves_assign (.tmp 27) rfl ⟨h27, by simpa using hS, .inr (Below.refl _ _)⟩)
      · have h8 : ρ (.tmp 8) = .pointer (some ⟨w.heap.size, 0, none⟩) := hs.1
        have h28 : ρ (.tmp 28) = .agg #[.slice none 0 0, .slice none 0 0] := hs.2.1
        obtain rfl : f = true := hf (by kernel_rfl)
        obtain ⟨hfin, b0, b1, b2, b3⟩ := HFin.out W (hS rfl)
        refine step_plain rfl (leaves_skip (w' := (W.setCell ⟨w.heap.size, 0, none⟩ (.slice none 0 0)).setCell ⟨w.heap.size, 1, none⟩ (.slice none 0 0)) ?_ ⟨hfin, (fun e => by cases e), .inl ⟨by simp, keep_but ((but_set _ _ _ _).trans (but_set _ _ _ _)) fun h7 => h7 rfl⟩⟩)
        simp [go_sem, h8, h28, b0, b1, b2, b3]
    case enR2 =>
      intro f W hf hS v0 h0 v1 h1 v2 h2 v3 h3 v4 h4 h5
      obtain rfl : f = false := hf (by decide)
      clear hf
      have e0 : v0 = .slice lp 0 lc := h0 rfl
      subst v0
      have e1 : v1 = .slice (some ⟨w.heap.size + 1, 0, none⟩) 0 0 := h1 rfl
      subst v1
      have e2 : v2 = .agg #[.slice none 0 0, .slice none 0 0] := h2 rfl
      subst v2
      have e3 : v3 = .slice lp 0 lc := h3 rfl
      subst v3
      have e4 : v4 = .slice (some ⟨w.heap.size + 1, 0, none⟩) 0 0 := h4 rfl
      subst v4
      clear h0 h1 h2 h3 h4
      simp only [ends, Act.put, List.setIfInBounds_toArray, List.set_cons_succ, List.set_cons_zero]
      have hE := h5 rfl
      have HE : Hid _ := HP.out _ _ _ _ _ _ hE
      have HB : Hid _ := hE.res
      clear h5 hS HFin HAr hE
      go_wp2
      exact bodyPost_ret (results_ttc (v1 := .slice lp 0 lc) (v2 := .slice (some ⟨w.heap.size + 1, 0, none⟩) 0 0) (cs := [.slice none 0 0, .slice none 0 0]) agg52 info52 rfl _ _ rfl rfl rfl HB.out) rfl HE.out

/-- What the first loop's regions know. -/
structure RS3 (w w1 : World) (f : Bool) (W : World) : Prop where
  one : f = true → Below w1.heap.size w1 W
  two : Below w.heap.size w W
theorem RS3.on {w w1 W W' : World} {f : Bool} (h : RS3 w w1 f W) (hb : Below W.heap.size W W') : RS3 w w1 f W' := ⟨fun e => on_trans (h.one e) hb, on_trans h.two hb⟩
theorem RS3.did {w w1 W W' : World} {f : Bool} (h : RS3 w w1 f W) (hb : Below w.heap.size W W') : RS3 w w1 false W' := ⟨(fun e => by cases e), h.two.trans hb⟩
theorem RS3.st {w w1 W W' : World} {f : Bool} (_ : RS3 w w1 f W) (hb : Below w.heap.size w W') : RS3 w w1 false W' := ⟨(fun e => by cases e), hb⟩
/-- No bytes yet. -/
def BE (w W : World) : Prop := OwnV w.heap.size 5 W (.slice (some ⟨w.heap.size + 1, 0, none⟩) 0 0) []
theorem BE.on {w W W' : World} (h : BE w W) (hb : Below W.heap.size W W') : BE w W' := ownV_on h hb
theorem BE.keep {w W W' : World} {t : TypeId} (h : BE w W) (hk : Keep (fun k => ¬ typ W k t) W W') (ht : t ≠ 5) : BE w W' := rowS_keep h hk fun g e h7 => by
  obtain ⟨_, _, cur, h8⟩ := row_lt h e
  exact typ_ne h7 ⟨_, _, h8⟩ ht rfl
def kn (y : PV) : Kd 0 := Kd.st (fun v W => ∃ nb, v = .slice (some ⟨nb, 0, none⟩) 1 1 ∧ Blk W nb 64 (psC y)) fun _ _ _ ⟨nb, h1, h2⟩ hb => ⟨nb, h1, h2.on hb⟩
def km0 (w : World) (y : PV) (v0 v1 : Value) (A B : List PV) : Kd 0 := Kd.st (fun v W => TM w w.heap.size (w.heap.size + 1 + 1) v0 v1 v v1 (A ++ [y]) B W ∧ BE w W) fun _ _ _ h hb => ⟨h.1.on hb, h.2.on hb⟩
def km1 (w : World) (y : PV) (v0 v1 : Value) (A B : List PV) : Kd 0 := Kd.st (fun v W => TM w w.heap.size (w.heap.size + 1 + 1) v0 v1 v0 v A (B ++ [y]) W ∧ BE w W) fun _ _ _ h hb => ⟨h.1.on hb, h.2.on hb⟩
/-- The first loop, so far. -/
def TJ (w : World) (L : List Ps) (m : Int) (i : Nat) (W : World) : Prop := ∃ v0 v1 A B, TM w w.heap.size (w.heap.size + 1 + 1) v0 v1 v0 v1 A B W ∧ A.map Prod.fst = (L.take i).take m.toNat ∧ B.map Prod.fst = (L.take i).drop m.toNat ∧ BE w W
theorem TJ.on {w W W' : World} {L : List Ps} {m : Int} {i : Nat} (h : TJ w L m i W) (hb : Below W.heap.size W W') : TJ w L m i W' := by
  obtain ⟨v0, v1, A, B, h1, h2, h3, h4⟩ := h
  exact ⟨v0, v1, A, B, h1.on hb, h2, h3, h4.on hb⟩
def kj (w : World) (L : List Ps) (m : Int) (i : Nat) : Kd 0 := Kd.st (fun _ W => TJ w L m i W) fun _ _ _ h hb => h.on hb
/-- The second loop, so far. -/
structure UJ (O : Nat → Prop) (w : World) (v0 v1 : Value) (A B : List PV) (T : List UInt8) (ZL : List Pt) (bv ov : Value) (W : World) : Prop where
  tm : TM w w.heap.size (w.heap.size + 1 + 1) v0 v1 v0 v1 A B W
  byt : OwnV w.heap.size 5 W bv (bytesV T)
  row : ∃ Z : List PX, Z.map PX.pt = ZL ∧ W.ownsRow w.heap.size 45 2 ov Z.length (flatX Z) ∧ (∀ y ∈ Z, BytO (fun j => O j ∧ j < w.heap.size) W y.bv y.B) ∧ ∀ y ∈ Z, PasM (fun j => O j ∧ j < w.heap.size) W y.lv y.M
section
variable {O : Nat → Prop} {w W W' : World} {v0 v1 bv ov : Value} {A B : List PV} {T : List UInt8} {ZL : List Pt}
theorem UJ.on (h : UJ O w v0 v1 A B T ZL bv ov W) (hb : Below W.heap.size W W') : UJ O w v0 v1 A B T ZL bv ov W' := by
  obtain ⟨Z, h1, h2, h3, h4⟩ := h.row
  exact ⟨h.tm.on hb, ownV_on h.byt hb, Z, h1, rowS_on h2 hb, fun y hy => (h3 y hy).keep (keep_on hb), fun y hy => (h4 y hy).keep (keep_on hb)⟩
/-- One byte more. -/
theorem UJ.byte (h : UJ O w v0 v1 A B T ZL bv ov W) (x : UInt8) (hT : T.length ≤ 100000) : ∃ v' W', (Builtin.append_ #[29, 29] 29 #[bv, .slice (some ⟨W.heap.size, 0, none⟩) 1 1]).run Try.prog (W.alloc (.cells #[.int .u8 (x.toNat : Int)] 5)) = .ok v' W' ∧ UJ O w v0 v1 A B (T ++ [x]) ZL v' ov W' ∧ RowGrow w.heap.size 5 W W' := by
  obtain ⟨v', W', h1, h2, h3⟩ := append_one_grow elemByte w.heap.size bv (bytesV T) (.int .u8 (x.toNat : Int)) W (by simp; omega) rfl h.byt h.tm.below.size
  obtain ⟨Z, g1, g2, g3, g4⟩ := h.row
  have hk := grow_keep h3
  have hb : Below w.heap.size W W' := h3.below (Below.refl _ _) (Nat.le_refl _) h.tm.below.size
  have hkw : Keep (fun j => j < w.heap.size) W W' := ⟨hb.os, hb.tape, hb.output, h3.size, fun j _ h7 => hb.block j h7⟩
  have hk2 : Keep (fun k => k < w.heap.size ∨ ¬ typ W k 5) W W' := ⟨hb.os, hb.tape, hb.output, h3.size, fun j hj h7 => by
    rcases h7 with h7 | h7
    · exact hb.block j h7
    · exact hk.block j hj h7⟩
  refine ⟨v', W', h1, ⟨h.tm.keep (hk2.mono fun k _ h7 => ?_), by simpa [bytesV, byteV] using h2, Z, g1, rowS_keep g2 hk fun g e h7 => ?_, fun y hy => (g3 y hy).keep (hkw.mono fun _ _ h => h.2), fun y hy => (g4 y hy).keep (hkw.mono fun _ _ h => h.2)⟩, h3⟩
  · rcases h7 with h7 | h7 | h7
    · exact .inl h7
    · exact .inr fun h8 => typ_ne h7 h8 (by decide) rfl
    · exact .inr fun h8 => typ_ne h7 h8 (by decide) rfl
  · obtain ⟨_, _, cur, h8⟩ := row_lt g2 e
    exact typ_ne h7 ⟨_, _, h8⟩ (by decide) rfl
/-- One part more. -/
theorem UJ.part (h : UJ O w v0 v1 A B T ZL bv ov W) (x : PX) (hx : BytO (fun j => O j ∧ j < w.heap.size) W x.bv x.B) (hp : PasM (fun j => O j ∧ j < w.heap.size) W x.lv x.M) (hZ : ZL.length ≤ 1000) : ∃ v' W', (Builtin.append_ #[25, 25] 25 #[ov, .slice (some ⟨W.heap.size, 0, none⟩) 1 1]).run Try.prog (W.alloc (.cells #[x.bv, x.lv] 45)) = .ok v' W' ∧ UJ O w v0 v1 A B T (ZL ++ [x.pt]) bv v' W' := by
  obtain ⟨Z, g1, g2, g3, g4⟩ := h.row
  have hZl : Z.length = ZL.length := by rw [← g1, List.length_map]
  have hone : ∀ u ∈ [x.bv, x.lv], u.oneCell' = true := fun u hu => by
    obtain ⟨p9, c9, e9, _⟩ := hx
    obtain ⟨⟨p8, c8, e8, _⟩, _⟩ := hp
    simp at hu
    rcases hu with rfl | rfl
    · rw [e9]; rfl
    · rw [e8]; rfl
  obtain ⟨v', W', h1, h2, h3⟩ := append_struct elemPt w.heap.size ov Z.length (flatX Z) [x.bv, x.lv] W (by omega) rfl hone g2 h.tm.below.size
  have hk := grow_keep h3
  have hb : Below w.heap.size W W' := h3.below (Below.refl _ _) (Nat.le_refl _) h.tm.below.size
  have hkw : Keep (fun j => j < w.heap.size) W W' := ⟨hb.os, hb.tape, hb.output, h3.size, fun j _ h7 => hb.block j h7⟩
  have hk2 : Keep (fun k => k < w.heap.size ∨ ¬ typ W k 45) W W' := ⟨hb.os, hb.tape, hb.output, h3.size, fun j hj h7 => by
    rcases h7 with h7 | h7
    · exact hb.block j h7
    · exact hk.block j hj h7⟩
  refine ⟨v', W', h1, ⟨h.tm.keep (hk2.mono fun k _ h7 => ?_), rowS_keep h.byt hk fun g e h7 => ?_, Z ++ [x], by simp [g1], ?_, fun y hy => ?_, fun y hy => ?_⟩⟩
  · rcases h7 with h7 | h7 | h7
    · exact .inl h7
    · exact .inr fun h8 => typ_ne h7 h8 (by decide) rfl
    · exact .inr fun h8 => typ_ne h7 h8 (by decide) rfl
  · obtain ⟨_, _, cur, h8⟩ := row_lt h.byt e
    exact typ_ne h7 ⟨_, _, h8⟩ (by decide) rfl
  · rw [List.length_append, flatX_app]
    exact h2
  · rcases List.mem_append.1 hy with hy | hy
    · exact (g3 y hy).keep (hkw.mono fun _ _ h => h.2)
    · simp at hy; subst hy; exact hx.keep (hkw.mono fun _ _ h => h.2)
  · rcases List.mem_append.1 hy with hy | hy
    · exact (g4 y hy).keep (hkw.mono fun _ _ h => h.2)
    · simp at hy; subst hy; exact hp.keep (hkw.mono fun _ _ h => h.2)
/-- A box of a part beside it is turned. -/
theorem UJ.but (h : UJ O w v0 v1 A B T ZL bv ov W) {xb : Nat} {cs : List Value} (hx : Blk W xb 45 cs) (hb : But xb W W') (hlo : w.heap.size ≤ xb) (hne : ov.ownBlock ≠ some xb) : UJ O w v0 v1 A B T ZL bv ov W' := by
  obtain ⟨Z, g1, g2, g3, g4⟩ := h.row
  have tx := typ_blk hx
  have hk : Keep (fun k => k ≠ xb) W W' := keep_but hb fun h => h rfl
  refine ⟨h.tm.keep (hk.mono fun k _ h7 => ?_), rowS_keep h.byt hk fun g e => ?_, Z, g1, rowS_keep g2 hk fun g e e2 => hne (e2 ▸ e), fun y hy => (g3 y hy).keep (hk.mono fun k _ h7 => by have := h7.2; omega), fun y hy => (g4 y hy).keep (hk.mono fun k _ h7 => by have := h7.2; omega)⟩
  · rcases h7 with h7 | h7 | h7
    · omega
    · exact typ_ne h7 tx (by decide)
    · exact typ_ne h7 tx (by decide)
  · obtain ⟨_, _, cur, h8⟩ := row_lt h.byt e
    exact typ_ne ⟨_, _, h8⟩ tx (by decide)
end

end Go.Proofs.Ytmhkfapafedglaa.K
