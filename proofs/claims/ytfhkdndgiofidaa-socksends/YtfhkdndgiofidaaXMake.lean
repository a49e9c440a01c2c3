/- Package socks: Make, Pair. -/
import Derived.Test.YtfhkdndgiofidaaXJoin
import Derived.Test.YtfhkdndgiofidaaGStep
namespace Go.Proofs.Ytfhkdndgiofidaa.X
open Go Go.RowKit Go.Maps Go.Proofs.Ytfhkdndgiofidaa.K

/-- A fresh socket. -/
def freshK : Sk := ⟨0, 0, 0, 0, 0, [], false, false, []⟩
theorem en_qnew : ∀ args w, (callFunc 71 args).run Try.prog w = .ok (.enter 71 args) w := fun _ _ => by simp [callFunc, Try.func71]; rfl
/-- Ahead of the map's update, and behind it. -/
def mkS (P : Nat → Prop) (w : World) (sb mb n next : Nat) (g : Nat → Nat) (T : Tb) (f : Bool) (W : World) : Prop :=
  (f = true → Below w.heap.size w W) ∧
  (f = false → Blk W sb 65 [.map (some mb), .int .i64 (n : Int), .int .i64 (next : Int)] ∧ ∃ b P', StG P' (W.setCell ⟨sb, 2, none⟩ (.int .i64 ((next : Int) + 1))) sb mb n (next + 1) (putG g next b) (setT T next (some freshK)) ∧ Moves P P' w (W.setCell ⟨sb, 2, none⟩ (.int .i64 ((next : Int) + 1))))
def kq (w : World) (n : Nat) : Kd 0 := ⟨fun v W => ∃ qb F G, v = ptr qb ∧ QAt F G W qb n [] ∧ ∀ k, F k ∨ G k → w.heap.size ≤ k, none, fun _ _ _ ⟨qb, F, G, e, h, h2⟩ hb => ⟨qb, F, G, e, h.on hb, h2⟩, fun _ _ _ _ _ _ hlt _ => absurd hlt (by omega)⟩
def kb (w : World) (n : Nat) : Kd 0 := ⟨fun v W => ∃ qb F G, v = .agg #[ptr qb, .int .i64 0, .int .i64 0, .int .i64 0, .int .i64 0, .int .i64 0, .slice none 0 0, .bool false, .bool false] ∧ QAt F G W qb n [] ∧ ∀ k, F k ∨ G k → w.heap.size ≤ k, none, fun _ _ _ ⟨qb, F, G, e, h, h2⟩ hb => ⟨qb, F, G, e, h.on hb, h2⟩, fun _ _ _ _ _ _ hlt _ => absurd hlt (by omega)⟩
def kx (w : World) (n : Nat) : Kd 0 := ⟨fun v W => ∃ b qb F G, v = ptr b ∧ w.heap.size ≤ b ∧ Blk W b 79 (skC freshK qb (.slice none 0 0)) ∧ QAt F G W qb n [] ∧ ∀ k, F k ∨ G k → w.heap.size ≤ k, none, fun _ _ _ ⟨b, qb, F, G, e, h0, hB, h, h2⟩ hb => ⟨b, qb, F, G, e, h0, hB.on hb, h.on hb, h2⟩, fun _ _ _ _ _ _ hlt _ => absurd hlt (by omega)⟩
/-- What Make leaves. -/
def MakePost (P : Nat → Prop) (w : World) (sb mb n next : Nat) (g : Nat → Nat) (T : Tb) (e : Ending) (w' : World) : Prop := e = .returned (.int .i64 (next : Int)) ∧ ∃ b P', StG P' w' sb mb n (next + 1) (putG g next b) (setT T next (some freshK)) ∧ Moves P P' w w'
set_option maxRecDepth 100000 in
set_option maxHeartbeats 2000000 in
theorem make_any {P : Nat → Prop} {w : World} {sb mb n next : Nat} {g : Nat → Nat} {T : Tb} (h : StG P w sb mb n next g T) (hn : 1 ≤ n ∧ n ≤ 4096) (h0 : next ≠ 0) (hk : T next = none) (hl : next < 1023) : Calls Try.prog 34 #[ptr sb] w (MakePost P w sb mb n next g T) := by
  have cN := numbers_any h
  have h0z : ¬ (next : Int) = 0 := by omega
  have HN : Hid _ := hn
  have HF : Hid (T next = none ∧ next < 1023) := ⟨hk, hl⟩
  have H : Hid (StG P w sb mb n next g T) := h
  have HS0 : Hid (mkS P w sb mb n next g T true w.drew) := ⟨fun _ => on_drew (Below.refl _ _), (fun e => by cases e)⟩
  have HP : Hid (∀ W b P', StG P' W sb mb n (next + 1) (putG g next b) (setT T next (some freshK)) → Moves P P' w W → MakePost P w sb mb n next g T (.returned (.int .i64 (next : Int))) W) := fun W b P' h1 h2 => ⟨rfl, b, P', h1, h2⟩
  generalize MakePost P w sb mb n next g T = Post at *
  clear h hn hk
  go_enter Try.func34, Try.ntmps34
  go_wp2_with fail
  refine cN.mono ?_
  rintro e w1 ⟨rfl, hw1⟩
  subst w1
  clear cN
  go_wp2
  refine wp_region_two (S := mkS P w sb mb n next g T) (u := 12) (Keep := KeepU 12)
    (g := fun jj vv WW => (([.is (ptr sb), .is (ptr sb), .is (.pointer (some ⟨sb, 0, none⟩)), .is (.map (some mb)), .is (.int .i64 (next : Int)), .is (ptr sb), .is (ptr sb), .is (.pointer (some ⟨sb, 1, none⟩)), .is (.int .i64 (n : Int)), kq w n, kb w n, kx w n, .any] : List (Kd 0)).getD jj Kd.any).ok vv WW)
    (tab := [[(0, none)], [(8, some 0)], [(9, some 1)], [(10, some 2)], [(3, none)], [(0, none)], [(13, some 5)], [(14, some 6)], [(15, some 7)], [(16, some 8)], [(17, some 9)], [(18, some 10)], [(11, some 3), (12, some 4), (19, some 11)]]) (tl := [(9, 12), (10, 12), (11, 12)]) (n := 28)
    (by kernel_rfl) rfl (by kernel_rfl) (keep_u ?k) (HS0.out) ?st ?en
  case k =>
    intro j hj
    match j, hj with
    | 0, _ | 1, _ | 2, _ | 3, _ | 4, _ | 5, _ | 6, _ | 7, _ | 8, _ => exact .inr (pure_is _)
    | 9, _ | 10, _ | 11, _ => exact .inl rfl
    | 12, hj => exact absurd rfl hj
    | j + 13, _ => exact .inr pure_any
  case st =>
    refine ⟨fun ρ W f hf hr hS hs => ?_, fun ρ W f hf hr hS hs => ?_, fun ρ W f hf hr hS hs => ?_, fun ρ W f hf hr hS hs => ?_, fun ρ W f hf hr hS hs => ?_, fun ρ W f hf hr hS hs => ?_, fun ρ W f hf hr hS hs => ?_, fun ρ W f hf hr hS hs => ?_, fun ρ W f hf hr hS hs => ?_, fun ρ W f hf hr hS hs => ?_, fun ρ W f hf hr hS hs => ?_, fun ρ W f hf hr hS hs => ?_, fun ρ W f hf hr hS hs => ?_, trivial⟩
    · have h0 : ρ (.tmp 0) = ptr sb := hs.1
      exact step_plain rfl (leaves_move (.tmp 0) rfl ⟨h0, by simpa using hS, .inr (Below.refl _ _)⟩)
    · have h8 : ρ (.tmp 8) = ptr sb := hs.1
      refine step_plain rfl (leaves_value (v := ptr sb) (w' := W) ?_ ⟨rfl, by simpa using hS, .inr (Below.refl _ _)⟩)
      simp [go_sem, h8]
    · have h9 : ρ (.tmp 9) = ptr sb := hs.1
      refine step_plain rfl (leaves_value (v := .pointer (some ⟨sb, 0, none⟩)) (w' := W) ?_ ⟨rfl, by simpa using hS, .inr (Below.refl _ _)⟩)
      simp [go_sem, h9]
    · have h10 : ρ (.tmp 10) = .pointer (some ⟨sb, 0, none⟩) := hs.1
      refine step_plain rfl (leaves_value (v := .map (some mb)) (w' := W) ?_ ⟨rfl, by simpa using hS, .inr (Below.refl _ _)⟩)
      obtain rfl : f = true := hf (by kernel_rfl)
      have x0 := (H.out.on (hS.1 rfl)).box.cell 0 rfl
      simp [go_sem, h10, x0]
    · have h3 : ρ (.tmp 3) = .int .i64 (next : Int) := hs.1
      exact step_plain rfl (leaves_move (.tmp 3) rfl ⟨h3, by simpa using hS, .inr (Below.refl _ _)⟩)
    · have h0 : ρ (.tmp 0) = ptr sb := hs.1
      exact step_plain rfl (leaves_move (.tmp 0) rfl ⟨h0, by simpa using hS, .inr (Below.refl _ _)⟩)
    · have h13 : ρ (.tmp 13) = ptr sb := hs.1
      refine step_plain rfl (leaves_value (v := ptr sb) (w' := W) ?_ ⟨rfl, by simpa using hS, .inr (Below.refl _ _)⟩)
      simp [go_sem, h13]
    · have h14 : ρ (.tmp 14) = ptr sb := hs.1
      refine step_plain rfl (leaves_value (v := .pointer (some ⟨sb, 1, none⟩)) (w' := W) ?_ ⟨rfl, by simpa using hS, .inr (Below.refl _ _)⟩)
      simp [go_sem, h14]
    · have h15 : ρ (.tmp 15) = .pointer (some ⟨sb, 1, none⟩) := hs.1
      refine step_plain rfl (leaves_value (v := .int .i64 (n : Int)) (w' := W) ?_ ⟨rfl, by simpa using hS, .inr (Below.refl _ _)⟩)
      obtain rfl : f = true := hf (by kernel_rfl)
      have x1 := (H.out.on (hS.1 rfl)).box.cell 1 rfl
      simp [go_sem, h15, x1]
    · have h16 : ρ (.tmp 16) = .int .i64 (n : Int) := hs.1
      obtain rfl : f = true := hf (by kernel_rfl)
      refine step_plain rfl (leaves_call1 en_qnew hr (.tmp 16) _ rfl h16 ((K.new_in n W HN.out.1 HN.out.2).mono ?_))
      rintro e W' ⟨qb, F, G, rfl, hq, hb, hlo⟩
      have hs := (hS.1 rfl).size
      exact ⟨_, rfl, ⟨qb, F, G, rfl, hq, fun k hk => Nat.le_trans hs (hlo k hk)⟩, ⟨fun _ => on_trans (hS.1 rfl) hb, (fun e => by cases e)⟩, .inr hb⟩
    · have h17 := hs.1
      obtain rfl : f = true := hf (by kernel_rfl)
      obtain ⟨qb, F, G, e17, hq, hlo⟩ := h17
      change ρ (.tmp 17) = _ at e17
      refine step_plain rfl (leaves_value (v := .agg #[ptr qb, .int .i64 0, .int .i64 0, .int .i64 0, .int .i64 0, .int .i64 0, .slice none 0 0, .bool false, .bool false]) (w' := W) ?_ ⟨⟨qb, F, G, rfl, hq, hlo⟩, by simpa using hS, .inr (Below.refl _ _)⟩)
      have hcn := hr.const
      simp [go_sem, e17, hcn]
    · have h18 := hs.1
      obtain rfl : f = true := hf (by kernel_rfl)
      obtain ⟨qb, F, G, e18, hq, hlo⟩ := h18
      change ρ (.tmp 18) = _ at e18
      have hs := (hS.1 rfl).size
      refine step_plain rfl (leaves_value (v := ptr W.heap.size) (w' := W.alloc (.cells (skC freshK qb (.slice none 0 0)).toArray 79)) ?_ ⟨⟨W.heap.size, qb, F, G, rfl, hs, Blk.new W _ _, hq.on (on_alloc _ _), hlo⟩, ⟨fun _ => on_trans (hS.1 rfl) (on_alloc _ _), (fun e => by cases e)⟩, .inr (on_alloc _ _)⟩)
      simp [go_sem, e18, skC, freshK]
    · have h11 : ρ (.tmp 11) = .map (some mb) := hs.1
      have h12 : ρ (.tmp 12) = .int .i64 (next : Int) := hs.2.1
      have h19 := hs.2.2.1
      obtain rfl : f = true := hf (by kernel_rfl)
      obtain ⟨b, qb, F, G, e19, hb, hB, hq, hlo⟩ := h19
      change ρ (.tmp 19) = _ at e19
      obtain ⟨W2, hrun, hbx, hst⟩ := H.out.more (hS.1 rfl) HF.out.1 HF.out.2 rfl hB hq hb hlo
      refine step_plain rfl (leaves_skip (w' := W2) ?_ ⟨trivial, ⟨(fun e => by cases e), fun _ => ⟨hbx, b, hst⟩⟩, .inl rfl⟩)
      simp [execOp, h11, h12, e19, hrun, Result.andThen]
  case en =>
    intro f W hf hS v0 h0 v1 h1 v2 h2 v3 h3 v4 h4 v5 h5 v6 h6 v7 h7 v8 h8 v9 h9 v10 h10 v11 h11 h12
    obtain rfl : f = false := hf (by decide)
    clear hf
    have e0 : v0 = ptr sb := h0 rfl
    subst v0
    have e1 : v1 = ptr sb := h1 rfl
    subst v1
    have e2 : v2 = .pointer (some ⟨sb, 0, none⟩) := h2 rfl
    subst v2
    have e3 : v3 = .map (some mb) := h3 rfl
    subst v3
    have e4 : v4 = .int .i64 (next : Int) := h4 rfl
    subst v4
    have e5 : v5 = ptr sb := h5 rfl
    subst v5
    have e6 : v6 = ptr sb := h6 rfl
    subst v6
    have e7 : v7 = .pointer (some ⟨sb, 1, none⟩) := h7 rfl
    subst v7
    have e8 : v8 = .int .i64 (n : Int) := h8 rfl
    subst v8
    clear h0 h1 h2 h3 h4 h5 h6 h7 h8 h12
    simp only [ends, Act.put, List.setIfInBounds_toArray, List.set_cons_succ, List.set_cons_zero]
    obtain ⟨hbx, b, P', h1, h2⟩ := hS.2 rfl
    have x2 := hbx.cell 2 rfl
    have f2 := hbx.free 2
    have HE := HP.out _ b P' h1 h2
    clear HP H HS0 hS hbx h1 h2 HN HF
    go_wp2
    exact HE
/-- Two that are joined. -/
def pairT (T : Tb) (next : Nat) : Tb := joinT (setT (setT T next (some freshK)) (next + 1) (some freshK)) next (next + 1) freshK freshK
def PairPost (P : Nat → Prop) (w : World) (sb mb n next : Nat) (T : Tb) (e : Ending) (w' : World) : Prop := e = .returned (.tuple #[.int .i64 (next : Int), .int .i64 ((next : Int) + 1)]) ∧ ∃ g' P', StG P' w' sb mb n (next + 2) g' (pairT T next) ∧ Moves P P' w w'
theorem pair_any {P : Nat → Prop} {w : World} {sb mb n next : Nat} {g : Nat → Nat} {T : Tb} (h : StG P w sb mb n next g T) (hn : 1 ≤ n ∧ n ≤ 4096) (h0 : next ≠ 0) (hk : T next = none) (hk2 : T (next + 1) = none) (hl : next < 1022) : Calls Try.prog 26 #[ptr sb] w (PairPost P w sb mb n next T) := by
  have c1 := make_any h hn h0 hk (by omega)
  have h0z : ¬ (next : Int) = 0 := by omega
  have HP : Hid (∀ W g' P', StG P' W sb mb n (next + 2) g' (pairT T next) → Moves P P' w W → PairPost P w sb mb n next T (.returned (.tuple #[.int .i64 (next : Int), .int .i64 ((next : Int) + 1)])) W) := fun W g' P' h1 h2 => ⟨rfl, g', P', h1, h2⟩
  have H2 : Hid (setT T next (some freshK) (next + 1) = none ∧ next < 1022 ∧ 1 ≤ n ∧ n ≤ 4096) := ⟨by rw [setT_other T _ (by omega)]; exact hk2, hl, hn⟩
  generalize PairPost P w sb mb n next T = Post at *
  clear h hn hk hk2
  go_enter Try.func26, Try.ntmps26
  go_wp2_with fail
  refine c1.mono ?_
  rintro e w1 ⟨rfl, b1, P1, s1, m1⟩
  clear c1
  have c2 := make_any s1 H2.out.2.2 (by omega) H2.out.1 (by have := H2.out.2.1; omega)
  have HM1 : Hid _ := m1
  clear s1 m1
  go_wp2_with fail
  refine c2.mono ?_
  rintro e w2 ⟨rfl, b2, P2, s2, m2⟩
  have HM2 : Hid _ := HM1.out.trans m2
  clear c2 HM1 m2
  have c3 := join_any (a := next) (b := next + 1) (xa := freshK) (xb := freshK) s2 (by rw [setT_other _ _ (by omega), setT_same]) (by rw [setT_same]) (by omega)
  rw [show ((next + 1 : Nat) : Int) = (next : Int) + 1 by omega] at c3
  clear s2
  rw [show ((next + 1 : Nat) : Int) = (next : Int) + 1 by omega]
  go_wp2_with fail
  refine c3.mono ?_
  rintro e w3 ⟨rfl, P3, s3, m3⟩
  have HE := HP.out w3 _ P3 s3 (HM2.out.trans m3)
  clear HP c3 HM2 m3 s3
  go_wp2
  exact HE

end Go.Proofs.Ytfhkdndgiofidaa.X
