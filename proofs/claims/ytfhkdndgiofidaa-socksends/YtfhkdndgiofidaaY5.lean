/- The law's does: kind 4. -/
import Derived.Test.YtfhkdndgiofidaaY3
namespace Go.Proofs.Ytfhkdndgiofidaa.X
open Go Go.RowKit Go.Maps Go.Proofs.Ytfhkdndgiofidaa.K

set_option maxRecDepth 100000 in
set_option maxHeartbeats 4000000 in
theorem does_4b {w0 W : World} {sb mb c rb : Nat} {xk xi xn xm : Int} {xp : Option Addr} {xc : Nat} {xB : List UInt8} {fr : Int} (h : DPre w0 W sb mb c rb ⟨xk, xi, xn, xm, xp, xc, xB⟩ fr) (HK : ∀ w, Calls Try.prog 36 #[.int .i64 xk] w fun e w' => e = .returned (.int .i64 4) ∧ w' = w) (hbig : 200 < xB.length) :
    Calls Try.prog 10 #[ptr sb, ptr rb, .agg #[.int .i64 xk, .int .i64 xi, .int .i64 xn, .int .i64 xm, .slice xp xB.length xc], .int .i64 fr] W (DoesPost w0 sb mb c) := by
  have hxi := h.ok.iw
  have hxn := h.ok.nw
  have hxnl := wf_le h.ok.nw
  have hcap2 := h.ok.cap
  simp only at hxi hxn hxnl hcap2
  have hc9 := h.few
  have hrlo := h.rlo
  have hfr := h.fr
  have HP : Hid (∀ b W2, DX w0 sb mb (c + 2) W2 → DoesPost w0 sb mb c (.returned (.bool b)) W2) := fun b W2 h7 => ⟨⟨b, rfl⟩, h7⟩
  have HA : Hid (At w0 xp (bytesV (xB.take 200))) := by
    show At _ _ _
    have := h.ok.at_.take 200
    simpa [bytesV] using this
  have HBe : Hid (Below w0.heap.size w0 W) := by
    obtain ⟨P, next, g, T, h1, _⟩ := h.is
    exact h1.below
  obtain ⟨bp, op, hxp, _⟩ := h.ok.at_.place (k := 0) (by simp; omega)
  simp only at hxp
  subst hxp
  have hbz : (200 : Int) < (xB.length : Int) := by omega
  have hcz : (200 : Int) ≤ (xc : Int) := by omega
  have HD0 : Hid _ := h.box [.int .i64 xk, .int .i64 xi, .int .i64 xn, .int .i64 xm, .slice (some ⟨bp, op, none⟩) 200 xc]
  have HBa : Hid (Below w0.heap.size w0 (W.alloc (.cells #[.int .i64 xk, .int .i64 xi, .int .i64 xn, .int .i64 xm, .slice (some ⟨bp, op, none⟩) 200 xc] 30))) := on_trans HBe.out (on_alloc _ _)
  generalize DoesPost w0 sb mb c = Post at *
  clear h HBe
  go_enter Try.func10, Try.ntmps10
  go_wp2_with fail
  refine (HK _).mono ?_
  rintro e w1 ⟨rfl, hw1⟩
  subst w1
  clear HK
  generalize W.alloc (.cells #[.int .i64 xk, .int .i64 xi, .int .i64 xn, .int .i64 xm, .slice (some ⟨bp, op, none⟩) 200 xc] 30) = wa at *
  generalize W.heap.size = ab at *
  have HD : Hid (DR w0 sb mb c rb ab [.int .i64 xk, .int .i64 xi, .int .i64 xn, .int .i64 xm, .slice (some ⟨bp, op, none⟩) 200 xc] wa) := HD0.out
  clear HD0
  have HS0 : Hid (dS w0 sb mb c rb ab [.int .i64 xk, .int .i64 xi, .int .i64 xn, .int .i64 xm, .slice (some ⟨bp, op, none⟩) 200 xc] wa true wa.drew) := ⟨fun _ => on_drew (Below.refl _ _), (fun e => by cases e)⟩
  go_wp2
  refine wp_region_two (S := dS w0 sb mb c rb ab [.int .i64 xk, .int .i64 xi, .int .i64 xn, .int .i64 xm, .slice (some ⟨bp, op, none⟩) 200 xc] wa) (u := 5) (Keep := KeepU 5)
    (g := fun jj vv WW => (([.is (ptr sb), .is (.pointer (some ⟨ab, 1, none⟩)), .is (.int .i64 xi), .is (.pointer (some ⟨ab, 2, none⟩)), .is (.int .i64 xn), kint, .is (ptr rb), .is (.pointer (some ⟨ab, 1, none⟩)), .is (.int .i64 xi), .is (.pointer (some ⟨ab, 2, none⟩)), .is (.int .i64 xn), .is (.int .i64 22), kbool, kbool] : List (Kd 0)).getD jj Kd.any).ok vv WW)
    (tab := [[(0, none)], [(6, none)], [(115, some 1)], [(6, none)], [(117, some 3)], [(114, some 0), (116, some 2), (118, some 4)], [(1, none)], [(6, none)], [(121, some 7)], [(6, none)], [(123, some 9)], [(120, some 6), (122, some 8), (124, some 10)], [(119, some 5), (125, some 11)], [(126, some 12)]]) (tl := []) (n := 275)
    (by kernel_rfl) rfl (by kernel_rfl) (keep_u ?kk) (HS0.out) ?stR1 ?enR1
  case kk =>
    intro j hj
    match j, hj with
    | 0, _ | 1, _ | 2, _ | 3, _ | 4, _ | 6, _ | 7, _ | 8, _ | 9, _ | 10, _ | 11, _ => exact .inr (pure_is _)
    | 12, _ => exact .inr pure_bool
    | 13, _ => exact .inr pure_bool
    | 5, hj => exact absurd rfl hj
    | j + 14, _ => exact .inr pure_any
  case stR1 =>
    refine ⟨fun ρ W f hf hr hS hs => ?_, fun ρ W f hf hr hS hs => ?_, fun ρ W f hf hr hS hs => ?_, fun ρ W f hf hr hS hs => ?_, fun ρ W f hf hr hS hs => ?_, fun ρ W f hf hr hS hs => ?_, fun ρ W f hf hr hS hs => ?_, fun ρ W f hf hr hS hs => ?_, fun ρ W f hf hr hS hs => ?_, fun ρ W f hf hr hS hs => ?_, fun ρ W f hf hr hS hs => ?_, fun ρ W f hf hr hS hs => ?_, fun ρ W f hf hr hS hs => ?_, fun ρ W f hf hr hS hs => ?_, trivial⟩
    · have h0 : ρ (.tmp 0) = ptr sb := hs.1
      exact step_plain rfl (leaves_move (.tmp 0) rfl ⟨h0, by simpa using hS, .inr (Below.refl _ _)⟩)
    · have h6 : ρ (.tmp 6) = .pointer (some ⟨ab, 0, none⟩) := hs.1
      refine step_plain rfl (leaves_value (v := .pointer (some ⟨ab, 1, none⟩)) (w' := W) ?_ ⟨rfl, by simpa using hS, .inr (Below.refl _ _)⟩)
      obtain ⟨y1, y2, y3, y4⟩ := hS.cells HD.out
      simp [go_sem, h6]
    · have h115 : ρ (.tmp 115) = .pointer (some ⟨ab, 1, none⟩) := hs.1
      refine step_plain rfl (leaves_value (v := .int .i64 xi) (w' := W) ?_ ⟨rfl, by simpa using hS, .inr (Below.refl _ _)⟩)
      obtain ⟨y1, y2, y3, y4⟩ := hS.cells HD.out
      simp [go_sem, h115, y1]
    · have h6 : ρ (.tmp 6) = .pointer (some ⟨ab, 0, none⟩) := hs.1
      refine step_plain rfl (leaves_value (v := .pointer (some ⟨ab, 2, none⟩)) (w' := W) ?_ ⟨rfl, by simpa using hS, .inr (Below.refl _ _)⟩)
      obtain ⟨y1, y2, y3, y4⟩ := hS.cells HD.out
      simp [go_sem, h6]
    · have h117 : ρ (.tmp 117) = .pointer (some ⟨ab, 2, none⟩) := hs.1
      refine step_plain rfl (leaves_value (v := .int .i64 xn) (w' := W) ?_ ⟨rfl, by simpa using hS, .inr (Below.refl _ _)⟩)
      obtain ⟨y1, y2, y3, y4⟩ := hS.cells HD.out
      simp [go_sem, h117, y2]
    · have h114 : ρ (.tmp 114) = ptr sb := hs.1
      have h116 : ρ (.tmp 116) = .int .i64 xi := hs.2.1
      have h118 : ρ (.tmp 118) = .int .i64 xn := hs.2.2.1
      obtain rfl : f = true := hf (by kernel_rfl)
      refine step_plain rfl (leaves_call en_pConnect hr #[.tmp 114, .tmp 116, .tmp 118] _ rfl #[ptr sb, .int .i64 xi, .int .i64 xn] (by simp [h114, h116, h118]) ((d_connect (HD.out.on (hS.1 rfl)) (by omega) hxi hxn).mono ?_))
      rintro e W' ⟨⟨z, rfl⟩, hD2⟩
      exact ⟨_, rfl, ⟨z, rfl⟩, ⟨(fun e => by cases e), fun _ => hD2⟩, .inl rfl⟩
    · have h1 : ρ (.tmp 1) = ptr rb := hs.1
      exact step_plain rfl (leaves_move (.tmp 1) rfl ⟨h1, by simpa using hS, .inr (Below.refl _ _)⟩)
    · have h6 : ρ (.tmp 6) = .pointer (some ⟨ab, 0, none⟩) := hs.1
      refine step_plain rfl (leaves_value (v := .pointer (some ⟨ab, 1, none⟩)) (w' := W) ?_ ⟨rfl, by simpa using hS, .inr (Below.refl _ _)⟩)
      obtain ⟨y1, y2, y3, y4⟩ := hS.cells HD.out
      simp [go_sem, h6]
    · have h121 : ρ (.tmp 121) = .pointer (some ⟨ab, 1, none⟩) := hs.1
      refine step_plain rfl (leaves_value (v := .int .i64 xi) (w' := W) ?_ ⟨rfl, by simpa using hS, .inr (Below.refl _ _)⟩)
      obtain ⟨y1, y2, y3, y4⟩ := hS.cells HD.out
      simp [go_sem, h121, y1]
    · have h6 : ρ (.tmp 6) = .pointer (some ⟨ab, 0, none⟩) := hs.1
      refine step_plain rfl (leaves_value (v := .pointer (some ⟨ab, 2, none⟩)) (w' := W) ?_ ⟨rfl, by simpa using hS, .inr (Below.refl _ _)⟩)
      obtain ⟨y1, y2, y3, y4⟩ := hS.cells HD.out
      simp [go_sem, h6]
    · have h123 : ρ (.tmp 123) = .pointer (some ⟨ab, 2, none⟩) := hs.1
      refine step_plain rfl (leaves_value (v := .int .i64 xn) (w' := W) ?_ ⟨rfl, by simpa using hS, .inr (Below.refl _ _)⟩)
      obtain ⟨y1, y2, y3, y4⟩ := hS.cells HD.out
      simp [go_sem, h123, y2]
    · have h120 : ρ (.tmp 120) = ptr rb := hs.1
      have h122 : ρ (.tmp 122) = .int .i64 xi := hs.2.1
      have h124 : ρ (.tmp 124) = .int .i64 xn := hs.2.2.1
      refine step_plain rfl (leaves_call en_rConnect hr #[.tmp 120, .tmp 122, .tmp 124] _ rfl #[ptr rb, .int .i64 xi, .int .i64 xn] (by simp [h120, h122, h124]) ((rconnect_none (hS.dr HD.out).ref xi xn).mono ?_))
      rintro e W' ⟨rfl, hw'⟩
      subst W'
      exact ⟨_, rfl, rfl, by simpa using hS, .inr (Below.refl _ _)⟩
    · have h119 := hs.1
      have h125 : ρ (.tmp 125) = .int .i64 22 := hs.2.1
      obtain ⟨z, ez⟩ := h119
      change ρ (.tmp 119) = _ at ez
      refine step_plain rfl (leaves_value (v := .bool (z == 22)) (w' := W) ?_ ⟨⟨_, rfl⟩, by simpa using hS, .inr (Below.refl _ _)⟩)
      simp [go_sem, ez, h125]
    · have h126 := hs.1
      exact step_plain rfl (leaves_assign (.tmp 126) rfl ⟨h126, by simpa using hS, .inr (Below.refl _ _)⟩)
  case enR1 =>
    intro f W hf hS v0 h0 v1 h1 v2 h2 v3 h3 v4 h4 v5 h5 v6 h6 v7 h7 v8 h8 v9 h9 v10 h10 v11 h11 v12 h12 v13 h13
    obtain rfl : f = false := hf (by decide)
    clear hf
    have e0 : v0 = ptr sb := h0 rfl
    subst v0
    have e1 : v1 = .pointer (some ⟨ab, 1, none⟩) := h1 rfl
    subst v1
    have e2 : v2 = .int .i64 xi := h2 rfl
    subst v2
    have e3 : v3 = .pointer (some ⟨ab, 2, none⟩) := h3 rfl
    subst v3
    have e4 : v4 = .int .i64 xn := h4 rfl
    subst v4
    have e6 : v6 = ptr rb := h6 rfl
    subst v6
    have e7 : v7 = .pointer (some ⟨ab, 1, none⟩) := h7 rfl
    subst v7
    have e8 : v8 = .int .i64 xi := h8 rfl
    subst v8
    have e9 : v9 = .pointer (some ⟨ab, 2, none⟩) := h9 rfl
    subst v9
    have e10 : v10 = .int .i64 xn := h10 rfl
    subst v10
    have e11 : v11 = .int .i64 22 := h11 rfl
    subst v11
    clear h0 h1 h2 h3 h4 h6 h7 h8 h9 h10 h11
    simp only [ends, Act.put, List.setIfInBounds_toArray, List.set_cons_succ, List.set_cons_zero]
    obtain ⟨bb, eb⟩ : ∃ b, v13 = .bool b := h13 rfl
    subst eb
    have HX : Hid _ := (hS.2 rfl).dx
    clear h5 h12 h13 hS HS0 HD
    go_wp2
    exact HP.out _ _ HX.out
set_option maxRecDepth 100000 in
set_option maxHeartbeats 4000000 in
theorem does_4s {w0 W : World} {sb mb c rb : Nat} {xk xi xn xm : Int} {xp : Option Addr} {xc : Nat} {xB : List UInt8} {fr : Int} (h : DPre w0 W sb mb c rb ⟨xk, xi, xn, xm, xp, xc, xB⟩ fr) (HK : ∀ w, Calls Try.prog 36 #[.int .i64 xk] w fun e w' => e = .returned (.int .i64 4) ∧ w' = w) (hbig : ¬ 200 < xB.length) :
    Calls Try.prog 10 #[ptr sb, ptr rb, .agg #[.int .i64 xk, .int .i64 xi, .int .i64 xn, .int .i64 xm, .slice xp xB.length xc], .int .i64 fr] W (DoesPost w0 sb mb c) := by
  have hxi := h.ok.iw
  have hxn := h.ok.nw
  have hxnl := wf_le h.ok.nw
  have hcap2 := h.ok.cap
  simp only at hxi hxn hxnl hcap2
  have hc9 := h.few
  have hrlo := h.rlo
  have hfr := h.fr
  have HP : Hid (∀ b W2, DX w0 sb mb (c + 2) W2 → DoesPost w0 sb mb c (.returned (.bool b)) W2) := fun b W2 h7 => ⟨⟨b, rfl⟩, h7⟩
  have HA : Hid (At w0 xp (bytesV (xB.take 200))) := by
    show At _ _ _
    have := h.ok.at_.take 200
    simpa [bytesV] using this
  have HBe : Hid (Below w0.heap.size w0 W) := by
    obtain ⟨P, next, g, T, h1, _⟩ := h.is
    exact h1.below
  have hbz : ¬ (200 : Int) < (xB.length : Int) := by omega
  have HD0 : Hid _ := h.box [.int .i64 xk, .int .i64 xi, .int .i64 xn, .int .i64 xm, .slice xp xB.length xc]
  have HBa : Hid (Below w0.heap.size w0 (W.alloc (.cells #[.int .i64 xk, .int .i64 xi, .int .i64 xn, .int .i64 xm, .slice xp xB.length xc] 30))) := on_trans HBe.out (on_alloc _ _)
  generalize DoesPost w0 sb mb c = Post at *
  clear h HBe
  go_enter Try.func10, Try.ntmps10
  go_wp2_with fail
  refine (HK _).mono ?_
  rintro e w1 ⟨rfl, hw1⟩
  subst w1
  clear HK
  generalize W.alloc (.cells #[.int .i64 xk, .int .i64 xi, .int .i64 xn, .int .i64 xm, .slice xp xB.length xc] 30) = wa at *
  generalize W.heap.size = ab at *
  have HD : Hid (DR w0 sb mb c rb ab [.int .i64 xk, .int .i64 xi, .int .i64 xn, .int .i64 xm, .slice xp xB.length xc] wa) := HD0.out
  clear HD0
  have HS0 : Hid (dS w0 sb mb c rb ab [.int .i64 xk, .int .i64 xi, .int .i64 xn, .int .i64 xm, .slice xp xB.length xc] wa true wa.drew) := ⟨fun _ => on_drew (Below.refl _ _), (fun e => by cases e)⟩
  go_wp2
  refine wp_region_two (S := dS w0 sb mb c rb ab [.int .i64 xk, .int .i64 xi, .int .i64 xn, .int .i64 xm, .slice xp xB.length xc] wa) (u := 5) (Keep := KeepU 5)
    (g := fun jj vv WW => (([.is (ptr sb), .is (.pointer (some ⟨ab, 1, none⟩)), .is (.int .i64 xi), .is (.pointer (some ⟨ab, 2, none⟩)), .is (.int .i64 xn), kint, .is (ptr rb), .is (.pointer (some ⟨ab, 1, none⟩)), .is (.int .i64 xi), .is (.pointer (some ⟨ab, 2, none⟩)), .is (.int .i64 xn), .is (.int .i64 22), kbool, kbool] : List (Kd 0)).getD jj Kd.any).ok vv WW)
    (tab := [[(0, none)], [(6, none)], [(115, some 1)], [(6, none)], [(117, some 3)], [(114, some 0), (116, some 2), (118, some 4)], [(1, none)], [(6, none)], [(121, some 7)], [(6, none)], [(123, some 9)], [(120, some 6), (122, some 8), (124, some 10)], [(119, some 5), (125, some 11)], [(126, some 12)]]) (tl := []) (n := 275)
    (by kernel_rfl) rfl (by kernel_rfl) (keep_u ?kk) (HS0.out) ?stR2 ?enR2
  case kk =>
    intro j hj
    match j, hj with
    | 0, _ | 1, _ | 2, _ | 3, _ | 4, _ | 6, _ | 7, _ | 8, _ | 9, _ | 10, _ | 11, _ => exact .inr (pure_is _)
    | 12, _ => exact .inr pure_bool
    | 13, _ => exact .inr pure_bool
    | 5, hj => exact absurd rfl hj
    | j + 14, _ => exact .inr pure_any
  case stR2 =>
    refine ⟨fun ρ W f hf hr hS hs => ?_, fun ρ W f hf hr hS hs => ?_, fun ρ W f hf hr hS hs => ?_, fun ρ W f hf hr hS hs => ?_, fun ρ W f hf hr hS hs => ?_, fun ρ W f hf hr hS hs => ?_, fun ρ W f hf hr hS hs => ?_, fun ρ W f hf hr hS hs => ?_, fun ρ W f hf hr hS hs => ?_, fun ρ W f hf hr hS hs => ?_, fun ρ W f hf hr hS hs => ?_, fun ρ W f hf hr hS hs => ?_, fun ρ W f hf hr hS hs => ?_, fun ρ W f hf hr hS hs => ?_, trivial⟩
    · have h0 : ρ (.tmp 0) = ptr sb := hs.1
      exact step_plain rfl (leaves_move (.tmp 0) rfl ⟨h0, by simpa using hS, .inr (Below.refl _ _)⟩)
    · have h6 : ρ (.tmp 6) = .pointer (some ⟨ab, 0, none⟩) := hs.1
      refine step_plain rfl (leaves_value (v := .pointer (some ⟨ab, 1, none⟩)) (w' := W) ?_ ⟨rfl, by simpa using hS, .inr (Below.refl _ _)⟩)
      obtain ⟨y1, y2, y3, y4⟩ := hS.cells HD.out
      simp [go_sem, h6]
    · have h115 : ρ (.tmp 115) = .pointer (some ⟨ab, 1, none⟩) := hs.1
      refine step_plain rfl (leaves_value (v := .int .i64 xi) (w' := W) ?_ ⟨rfl, by simpa using hS, .inr (Below.refl _ _)⟩)
      obtain ⟨y1, y2, y3, y4⟩ := hS.cells HD.out
      simp [go_sem, h115, y1]
    · have h6 : ρ (.tmp 6) = .pointer (some ⟨ab, 0, none⟩) := hs.1
      refine step_plain rfl (leaves_value (v := .pointer (some ⟨ab, 2, none⟩)) (w' := W) ?_ ⟨rfl, by simpa using hS, .inr (Below.refl _ _)⟩)
      obtain ⟨y1, y2, y3, y4⟩ := hS.cells HD.out
      simp [go_sem, h6]
    · have h117 : ρ (.tmp 117) = .pointer (some ⟨ab, 2, none⟩) := hs.1
      refine step_plain rfl (leaves_value (v := .int .i64 xn) (w' := W) ?_ ⟨rfl, by simpa using hS, .inr (Below.refl _ _)⟩)
      obtain ⟨y1, y2, y3, y4⟩ := hS.cells HD.out
      simp [go_sem, h117, y2]
    · have h114 : ρ (.tmp 114) = ptr sb := hs.1
      have h116 : ρ (.tmp 116) = .int .i64 xi := hs.2.1
      have h118 : ρ (.tmp 118) = .int .i64 xn := hs.2.2.1
      obtain rfl : f = true := hf (by kernel_rfl)
      refine step_plain rfl (leaves_call en_pConnect hr #[.tmp 114, .tmp 116, .tmp 118] _ rfl #[ptr sb, .int .i64 xi, .int .i64 xn] (by simp [h114, h116, h118]) ((d_connect (HD.out.on (hS.1 rfl)) (by omega) hxi hxn).mono ?_))
      rintro e W' ⟨⟨z, rfl⟩, hD2⟩
      exact ⟨_, rfl, ⟨z, rfl⟩, ⟨(fun e => by cases e), fun _ => hD2⟩, .inl rfl⟩
    · have h1 : ρ (.tmp 1) = ptr rb := hs.1
      exact step_plain rfl (leaves_move (.tmp 1) rfl ⟨h1, by simpa using hS, .inr (Below.refl _ _)⟩)
    · have h6 : ρ (.tmp 6) = .pointer (some ⟨ab, 0, none⟩) := hs.1
      refine step_plain rfl (leaves_value (v := .pointer (some ⟨ab, 1, none⟩)) (w' := W) ?_ ⟨rfl, by simpa using hS, .inr (Below.refl _ _)⟩)
      obtain ⟨y1, y2, y3, y4⟩ := hS.cells HD.out
      simp [go_sem, h6]
    · have h121 : ρ (.tmp 121) = .pointer (some ⟨ab, 1, none⟩) := hs.1
      refine step_plain rfl (leaves_value (v := .int .i64 xi) (w' := W) ?_ ⟨rfl, by simpa using hS, .inr (Below.refl _ _)⟩)
      obtain ⟨y1, y2, y3, y4⟩ := hS.cells HD.out
      simp [go_sem, h121, y1]
    · have h6 : ρ (.tmp 6) = .pointer (some ⟨ab, 0, none⟩) := hs.1
      refine step_plain rfl (leaves_value (v := .pointer (some ⟨ab, 2, none⟩)) (w' := W) ?_ ⟨rfl, by simpa using hS, .inr (Below.refl _ _)⟩)
      obtain ⟨y1, y2, y3, y4⟩ := hS.cells HD.out
      simp [go_sem, h6]
    · have h123 : ρ (.tmp 123) = .pointer (some ⟨ab, 2, none⟩) := hs.1
      refine step_plain rfl (leaves_value (v := .int .i64 xn) (w' := W) ?_ ⟨rfl, by simpa using hS, .inr (Below.refl _ _)⟩)
      obtain ⟨y1, y2, y3, y4⟩ := hS.cells HD.out
      simp [go_sem, h123, y2]
    · have h120 : ρ (.tmp 120) = ptr rb := hs.1
      have h122 : ρ (.tmp 122) = .int .i64 xi := hs.2.1
      have h124 : ρ (.tmp 124) = .int .i64 xn := hs.2.2.1
      refine step_plain rfl (leaves_call en_rConnect hr #[.tmp 120, .tmp 122, .tmp 124] _ rfl #[ptr rb, .int .i64 xi, .int .i64 xn] (by simp [h120, h122, h124]) ((rconnect_none (hS.dr HD.out).ref xi xn).mono ?_))
      rintro e W' ⟨rfl, hw'⟩
      subst W'
      exact ⟨_, rfl, rfl, by simpa using hS, .inr (Below.refl _ _)⟩
    · have h119 := hs.1
      have h125 : ρ (.tmp 125) = .int .i64 22 := hs.2.1
      obtain ⟨z, ez⟩ := h119
      change ρ (.tmp 119) = _ at ez
      refine step_plain rfl (leaves_value (v := .bool (z == 22)) (w' := W) ?_ ⟨⟨_, rfl⟩, by simpa using hS, .inr (Below.refl _ _)⟩)
      simp [go_sem, ez, h125]
    · have h126 := hs.1
      exact step_plain rfl (leaves_assign (.tmp 126) rfl ⟨h126, by simpa using hS, .inr (Below.refl _ _)⟩)
  case enR2 =>
    intro f W hf hS v0 h0 v1 h1 v2 h2 v3 h3 v4 h4 v5 h5 v6 h6 v7 h7 v8 h8 v9 h9 v10 h10 v11 h11 v12 h12 v13 h13
    obtain rfl : f = false := hf (by decide)
    clear hf
    have e0 : v0 = ptr sb := h0 rfl
    subst v0
    have e1 : v1 = .pointer (some ⟨ab, 1, none⟩) := h1 rfl
    subst v1
    have e2 : v2 = .int .i64 xi := h2 rfl
    subst v2
    have e3 : v3 = .pointer (some ⟨ab, 2, none⟩) := h3 rfl
    subst v3
    have e4 : v4 = .int .i64 xn := h4 rfl
    subst v4
    have e6 : v6 = ptr rb := h6 rfl
    subst v6
    have e7 : v7 = .pointer (some ⟨ab, 1, none⟩) := h7 rfl
    subst v7
    have e8 : v8 = .int .i64 xi := h8 rfl
    subst v8
    have e9 : v9 = .pointer (some ⟨ab, 2, none⟩) := h9 rfl
    subst v9
    have e10 : v10 = .int .i64 xn := h10 rfl
    subst v10
    have e11 : v11 = .int .i64 22 := h11 rfl
    subst v11
    clear h0 h1 h2 h3 h4 h6 h7 h8 h9 h10 h11
    simp only [ends, Act.put, List.setIfInBounds_toArray, List.set_cons_succ, List.set_cons_zero]
    obtain ⟨bb, eb⟩ : ∃ b, v13 = .bool b := h13 rfl
    subst eb
    have HX : Hid _ := (hS.2 rfl).dx
    clear h5 h12 h13 hS HS0 HD
    go_wp2
    exact HP.out _ _ HX.out

end Go.Proofs.Ytfhkdndgiofidaa.X

namespace Go.Proofs.Ytfhkdndgiofidaa.X
open Go Go.RowKit Go.Maps Go.Proofs.Ytfhkdndgiofidaa.K

set_option maxRecDepth 100000 in
set_option maxHeartbeats 4000000 in
theorem does_5b {w0 W : World} {sb mb c rb : Nat} {xk xi xn xm : Int} {xp : Option Addr} {xc : Nat} {xB : List UInt8} {fr : Int} (h : DPre w0 W sb mb c rb ⟨xk, xi, xn, xm, xp, xc, xB⟩ fr) (HK : ∀ w, Calls Try.prog 36 #[.int .i64 xk] w fun e w' => e = .returned (.int .i64 5) ∧ w' = w) (hbig : 200 < xB.length) :
    Calls Try.prog 10 #[ptr sb, ptr rb, .agg #[.int .i64 xk, .int .i64 xi, .int .i64 xn, .int .i64 xm, .slice xp xB.length xc], .int .i64 fr] W (DoesPost w0 sb mb c) := by
  have hxi := h.ok.iw
  have hxn := h.ok.nw
  have hxnl := wf_le h.ok.nw
  have hcap2 := h.ok.cap
  simp only at hxi hxn hxnl hcap2
  have hc9 := h.few
  have hrlo := h.rlo
  have hfr := h.fr
  have HP : Hid (∀ b W2, DX w0 sb mb (c + 2) W2 → DoesPost w0 sb mb c (.returned (.bool b)) W2) := fun b W2 h7 => ⟨⟨b, rfl⟩, h7⟩
  have HA : Hid (At w0 xp (bytesV (xB.take 200))) := by
    show At _ _ _
    have := h.ok.at_.take 200
    simpa [bytesV] using this
  have HBe : Hid (Below w0.heap.size w0 W) := by
    obtain ⟨P, next, g, T, h1, _⟩ := h.is
    exact h1.below
  obtain ⟨bp, op, hxp, _⟩ := h.ok.at_.place (k := 0) (by simp; omega)
  simp only at hxp
  subst hxp
  have hbz : (200 : Int) < (xB.length : Int) := by omega
  have hcz : (200 : Int) ≤ (xc : Int) := by omega
  have HD0 : Hid _ := h.box [.int .i64 xk, .int .i64 xi, .int .i64 xn, .int .i64 xm, .slice (some ⟨bp, op, none⟩) 200 xc]
  have HBa : Hid (Below w0.heap.size w0 (W.alloc (.cells #[.int .i64 xk, .int .i64 xi, .int .i64 xn, .int .i64 xm, .slice (some ⟨bp, op, none⟩) 200 xc] 30))) := on_trans HBe.out (on_alloc _ _)
  generalize DoesPost w0 sb mb c = Post at *
  clear h HBe
  go_enter Try.func10, Try.ntmps10
  go_wp2_with fail
  refine (HK _).mono ?_
  rintro e w1 ⟨rfl, hw1⟩
  subst w1
  clear HK
  generalize W.alloc (.cells #[.int .i64 xk, .int .i64 xi, .int .i64 xn, .int .i64 xm, .slice (some ⟨bp, op, none⟩) 200 xc] 30) = wa at *
  generalize W.heap.size = ab at *
  have HD : Hid (DR w0 sb mb c rb ab [.int .i64 xk, .int .i64 xi, .int .i64 xn, .int .i64 xm, .slice (some ⟨bp, op, none⟩) 200 xc] wa) := HD0.out
  clear HD0
  have q1 := HD.out.act.cell 1 rfl
  have cc := d_accept HD.out hxi
  go_wp2_with fail
  refine cc.mono ?_
  rintro e w2 ⟨⟨z, y, rfl⟩, hD2⟩
  clear cc
  clear q1
  have q1 := hD2.act.cell 1 rfl
  have cc := raccept_none hD2.ref xi
  have HX : Hid _ := hD2.dx
  clear hD2
  go_wp2_with fail
  refine cc.mono ?_
  rintro e w3 ⟨rfl, hw3⟩
  subst w3
  clear cc q1
  by_cases hq : z = 0
  · have hqb : (z == 0) = true := by simpa using hq
    go_wp2
    exact HP.out _ _ HX.out
  · have hqb : (z == 0) = false := by simpa using hq
    go_wp2
    exact HP.out _ _ HX.out
set_option maxRecDepth 100000 in
set_option maxHeartbeats 4000000 in
theorem does_5s {w0 W : World} {sb mb c rb : Nat} {xk xi xn xm : Int} {xp : Option Addr} {xc : Nat} {xB : List UInt8} {fr : Int} (h : DPre w0 W sb mb c rb ⟨xk, xi, xn, xm, xp, xc, xB⟩ fr) (HK : ∀ w, Calls Try.prog 36 #[.int .i64 xk] w fun e w' => e = .returned (.int .i64 5) ∧ w' = w) (hbig : ¬ 200 < xB.length) :
    Calls Try.prog 10 #[ptr sb, ptr rb, .agg #[.int .i64 xk, .int .i64 xi, .int .i64 xn, .int .i64 xm, .slice xp xB.length xc], .int .i64 fr] W (DoesPost w0 sb mb c) := by
  have hxi := h.ok.iw
  have hxn := h.ok.nw
  have hxnl := wf_le h.ok.nw
  have hcap2 := h.ok.cap
  simp only at hxi hxn hxnl hcap2
  have hc9 := h.few
  have hrlo := h.rlo
  have hfr := h.fr
  have HP : Hid (∀ b W2, DX w0 sb mb (c + 2) W2 → DoesPost w0 sb mb c (.returned (.bool b)) W2) := fun b W2 h7 => ⟨⟨b, rfl⟩, h7⟩
  have HA : Hid (At w0 xp (bytesV (xB.take 200))) := by
    show At _ _ _
    have := h.ok.at_.take 200
    simpa [bytesV] using this
  have HBe : Hid (Below w0.heap.size w0 W) := by
    obtain ⟨P, next, g, T, h1, _⟩ := h.is
    exact h1.below
  have hbz : ¬ (200 : Int) < (xB.length : Int) := by omega
  have HD0 : Hid _ := h.box [.int .i64 xk, .int .i64 xi, .int .i64 xn, .int .i64 xm, .slice xp xB.length xc]
  have HBa : Hid (Below w0.heap.size w0 (W.alloc (.cells #[.int .i64 xk, .int .i64 xi, .int .i64 xn, .int .i64 xm, .slice xp xB.length xc] 30))) := on_trans HBe.out (on_alloc _ _)
  generalize DoesPost w0 sb mb c = Post at *
  clear h HBe
  go_enter Try.func10, Try.ntmps10
  go_wp2_with fail
  refine (HK _).mono ?_
  rintro e w1 ⟨rfl, hw1⟩
  subst w1
  clear HK
  generalize W.alloc (.cells #[.int .i64 xk, .int .i64 xi, .int .i64 xn, .int .i64 xm, .slice xp xB.length xc] 30) = wa at *
  generalize W.heap.size = ab at *
  have HD : Hid (DR w0 sb mb c rb ab [.int .i64 xk, .int .i64 xi, .int .i64 xn, .int .i64 xm, .slice xp xB.length xc] wa) := HD0.out
  clear HD0
  have q1 := HD.out.act.cell 1 rfl
  have cc := d_accept HD.out hxi
  go_wp2_with fail
  refine cc.mono ?_
  rintro e w2 ⟨⟨z, y, rfl⟩, hD2⟩
  clear cc
  clear q1
  have q1 := hD2.act.cell 1 rfl
  have cc := raccept_none hD2.ref xi
  have HX : Hid _ := hD2.dx
  clear hD2
  go_wp2_with fail
  refine cc.mono ?_
  rintro e w3 ⟨rfl, hw3⟩
  subst w3
  clear cc q1
  by_cases hq : z = 0
  · have hqb : (z == 0) = true := by simpa using hq
    go_wp2
    exact HP.out _ _ HX.out
  · have hqb : (z == 0) = false := by simpa using hq
    go_wp2
    exact HP.out _ _ HX.out

end Go.Proofs.Ytfhkdndgiofidaa.X

namespace Go.Proofs.Ytfhkdndgiofidaa.X
open Go Go.RowKit Go.Maps Go.Proofs.Ytfhkdndgiofidaa.K

set_option maxRecDepth 100000 in
set_option maxHeartbeats 4000000 in
theorem does_6b {w0 W : World} {sb mb c rb : Nat} {xk xi xn xm : Int} {xp : Option Addr} {xc : Nat} {xB : List UInt8} {fr : Int} (h : DPre w0 W sb mb c rb ⟨xk, xi, xn, xm, xp, xc, xB⟩ fr) (HK : ∀ w, Calls Try.prog 36 #[.int .i64 xk] w fun e w' => e = .returned (.int .i64 6) ∧ w' = w) (hbig : 200 < xB.length) :
    Calls Try.prog 10 #[ptr sb, ptr rb, .agg #[.int .i64 xk, .int .i64 xi, .int .i64 xn, .int .i64 xm, .slice xp xB.length xc], .int .i64 fr] W (DoesPost w0 sb mb c) := by
  have hxi := h.ok.iw
  have hxn := h.ok.nw
  have hxnl := wf_le h.ok.nw
  have hcap2 := h.ok.cap
  simp only at hxi hxn hxnl hcap2
  have hc9 := h.few
  have hrlo := h.rlo
  have hfr := h.fr
  have HP : Hid (∀ b W2, DX w0 sb mb (c + 2) W2 → DoesPost w0 sb mb c (.returned (.bool b)) W2) := fun b W2 h7 => ⟨⟨b, rfl⟩, h7⟩
  have HA : Hid (At w0 xp (bytesV (xB.take 200))) := by
    show At _ _ _
    have := h.ok.at_.take 200
    simpa [bytesV] using this
  have HBe : Hid (Below w0.heap.size w0 W) := by
    obtain ⟨P, next, g, T, h1, _⟩ := h.is
    exact h1.below
  obtain ⟨bp, op, hxp, _⟩ := h.ok.at_.place (k := 0) (by simp; omega)
  simp only at hxp
  subst hxp
  have hbz : (200 : Int) < (xB.length : Int) := by omega
  have hcz : (200 : Int) ≤ (xc : Int) := by omega
  have HD0 : Hid _ := h.box [.int .i64 xk, .int .i64 xi, .int .i64 xn, .int .i64 xm, .slice (some ⟨bp, op, none⟩) 200 xc]
  have HBa : Hid (Below w0.heap.size w0 (W.alloc (.cells #[.int .i64 xk, .int .i64 xi, .int .i64 xn, .int .i64 xm, .slice (some ⟨bp, op, none⟩) 200 xc] 30))) := on_trans HBe.out (on_alloc _ _)
  generalize DoesPost w0 sb mb c = Post at *
  clear h HBe
  go_enter Try.func10, Try.ntmps10
  go_wp2_with fail
  refine (HK _).mono ?_
  rintro e w1 ⟨rfl, hw1⟩
  subst w1
  clear HK
  generalize W.alloc (.cells #[.int .i64 xk, .int .i64 xi, .int .i64 xn, .int .i64 xm, .slice (some ⟨bp, op, none⟩) 200 xc] 30) = wa at *
  generalize W.heap.size = ab at *
  have HD : Hid (DR w0 sb mb c rb ab [.int .i64 xk, .int .i64 xi, .int .i64 xn, .int .i64 xm, .slice (some ⟨bp, op, none⟩) 200 xc] wa) := HD0.out
  clear HD0
  have q1 := HD.out.act.cell 1 rfl
  have q2 := HD.out.act.cell 2 rfl
  have cc := d_shut HD.out hxi xn
  go_wp2_with fail
  refine cc.mono ?_
  rintro e w2 ⟨⟨p9, l9, c9, z, rfl⟩, hD2⟩
  clear cc
  clear q1 q2
  have q1 := hD2.act.cell 1 rfl
  have q2 := hD2.act.cell 2 rfl
  have cc := rshut_none hD2.ref xi xn
  have HD2 : Hid _ := hD2
  clear hD2
  go_wp2_with fail
  refine cc.mono ?_
  rintro e w3 ⟨rfl, hb3⟩
  clear cc q1 q2
  have HX : Hid _ := (HD2.out.on hb3).dx
  clear hb3
  have cc := given_len p9 l9 c9 (some ⟨w2.heap.size, 0, none⟩) 0 w3
  go_wp2_with fail
  refine cc.mono ?_
  rintro e w4 ⟨⟨gb, rfl⟩, hw4⟩
  subst w4
  clear cc HD2
  cases gb
  · go_wp2
    exact HP.out _ _ HX.out
  · go_wp2
    exact HP.out _ _ HX.out
set_option maxRecDepth 100000 in
set_option maxHeartbeats 4000000 in
theorem does_6s {w0 W : World} {sb mb c rb : Nat} {xk xi xn xm : Int} {xp : Option Addr} {xc : Nat} {xB : List UInt8} {fr : Int} (h : DPre w0 W sb mb c rb ⟨xk, xi, xn, xm, xp, xc, xB⟩ fr) (HK : ∀ w, Calls Try.prog 36 #[.int .i64 xk] w fun e w' => e = .returned (.int .i64 6) ∧ w' = w) (hbig : ¬ 200 < xB.length) :
    Calls Try.prog 10 #[ptr sb, ptr rb, .agg #[.int .i64 xk, .int .i64 xi, .int .i64 xn, .int .i64 xm, .slice xp xB.length xc], .int .i64 fr] W (DoesPost w0 sb mb c) := by
  have hxi := h.ok.iw
  have hxn := h.ok.nw
  have hxnl := wf_le h.ok.nw
  have hcap2 := h.ok.cap
  simp only at hxi hxn hxnl hcap2
  have hc9 := h.few
  have hrlo := h.rlo
  have hfr := h.fr
  have HP : Hid (∀ b W2, DX w0 sb mb (c + 2) W2 → DoesPost w0 sb mb c (.returned (.bool b)) W2) := fun b W2 h7 => ⟨⟨b, rfl⟩, h7⟩
  have HA : Hid (At w0 xp (bytesV (xB.take 200))) := by
    show At _ _ _
    have := h.ok.at_.take 200
    simpa [bytesV] using this
  have HBe : Hid (Below w0.heap.size w0 W) := by
    obtain ⟨P, next, g, T, h1, _⟩ := h.is
    exact h1.below
  have hbz : ¬ (200 : Int) < (xB.length : Int) := by omega
  have HD0 : Hid _ := h.box [.int .i64 xk, .int .i64 xi, .int .i64 xn, .int .i64 xm, .slice xp xB.length xc]
  have HBa : Hid (Below w0.heap.size w0 (W.alloc (.cells #[.int .i64 xk, .int .i64 xi, .int .i64 xn, .int .i64 xm, .slice xp xB.length xc] 30))) := on_trans HBe.out (on_alloc _ _)
  generalize DoesPost w0 sb mb c = Post at *
  clear h HBe
  go_enter Try.func10, Try.ntmps10
  go_wp2_with fail
  refine (HK _).mono ?_
  rintro e w1 ⟨rfl, hw1⟩
  subst w1
  clear HK
  generalize W.alloc (.cells #[.int .i64 xk, .int .i64 xi, .int .i64 xn, .int .i64 xm, .slice xp xB.length xc] 30) = wa at *
  generalize W.heap.size = ab at *
  have HD : Hid (DR w0 sb mb c rb ab [.int .i64 xk, .int .i64 xi, .int .i64 xn, .int .i64 xm, .slice xp xB.length xc] wa) := HD0.out
  clear HD0
  have q1 := HD.out.act.cell 1 rfl
  have q2 := HD.out.act.cell 2 rfl
  have cc := d_shut HD.out hxi xn
  go_wp2_with fail
  refine cc.mono ?_
  rintro e w2 ⟨⟨p9, l9, c9, z, rfl⟩, hD2⟩
  clear cc
  clear q1 q2
  have q1 := hD2.act.cell 1 rfl
  have q2 := hD2.act.cell 2 rfl
  have cc := rshut_none hD2.ref xi xn
  have HD2 : Hid _ := hD2
  clear hD2
  go_wp2_with fail
  refine cc.mono ?_
  rintro e w3 ⟨rfl, hb3⟩
  clear cc q1 q2
  have HX : Hid _ := (HD2.out.on hb3).dx
  clear hb3
  have cc := given_len p9 l9 c9 (some ⟨w2.heap.size, 0, none⟩) 0 w3
  go_wp2_with fail
  refine cc.mono ?_
  rintro e w4 ⟨⟨gb, rfl⟩, hw4⟩
  subst w4
  clear cc HD2
  cases gb
  · go_wp2
    exact HP.out _ _ HX.out
  · go_wp2
    exact HP.out _ _ HX.out

end Go.Proofs.Ytfhkdndgiofidaa.X
