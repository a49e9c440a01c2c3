/- The law SocksEnds answers true at every input. -/
import Derived.Test.YtfhkdndgiofidaaY4
import Derived.Test.YtfhkdndgiofidaaY5
import Derived.Test.YtfhkdndgiofidaaY6
namespace Go.Proofs.Ytfhkdndgiofidaa.X
open Go Go.RowKit Go.Maps Go.Proofs.Ytfhkdndgiofidaa.K

theorem does_any {w0 W : World} {sb mb c rb : Nat} {x : ActV} {fr : Int} (h : DPre w0 W sb mb c rb x fr) : Calls Try.prog 10 #[ptr sb, ptr rb, .agg #[.int .i64 x.k, .int .i64 x.i, .int .i64 x.n, .int .i64 x.m, .slice x.p x.B.length x.c], .int .i64 fr] W (DoesPost w0 sb mb c) := by
  obtain ⟨r, hr, hk⟩ := kind_det x.k h.ok.kw
  have hr2 : r = 0 ∨ r = 1 ∨ r = 2 ∨ r = 3 ∨ r = 4 ∨ r = 5 ∨ r = 6 ∨ r = 7 ∨ r = 8 ∨ r = 9 := by omega
  rcases hr2 with rfl | rfl | rfl | rfl | rfl | rfl | rfl | rfl | rfl | rfl
  · exact (if hbig : 200 < x.B.length then does_0b h (fun w => hk w) hbig else does_0s h (fun w => hk w) hbig)
  · exact (if hbig : 200 < x.B.length then does_1b h (fun w => hk w) hbig else does_1s h (fun w => hk w) hbig)
  · exact (if hbig : 200 < x.B.length then does_2b h (fun w => hk w) hbig else does_2s h (fun w => hk w) hbig)
  · exact (if hbig : 200 < x.B.length then does_3b h (fun w => hk w) hbig else does_3s h (fun w => hk w) hbig)
  · exact (if hbig : 200 < x.B.length then does_4b h (fun w => hk w) hbig else does_4s h (fun w => hk w) hbig)
  · exact (if hbig : 200 < x.B.length then does_5b h (fun w => hk w) hbig else does_5s h (fun w => hk w) hbig)
  · exact (if hbig : 200 < x.B.length then does_6b h (fun w => hk w) hbig else does_6s h (fun w => hk w) hbig)
  · exact (if hbig : 200 < x.B.length then does_7b h (fun w => hk w) hbig else does_7s h (fun w => hk w) hbig)
  · exact (if hbig : 200 < x.B.length then does_8b h (fun w => hk w) hbig else does_8s h (fun w => hk w) hbig)
  · exact (if hbig : 200 < x.B.length then does_9b h (fun w => hk w) hbig else does_9s h (fun w => hk w) hbig)
theorem info11 : (Try.prog.info? 30).map (·.size) = some 5 := by kernel_rfl
theorem agg11 : ∀ w, (isAgg 30).run Try.prog w = .ok true w := fun w => by kernel_rfl
theorem leaves_act {o : Oper} {ρ : Operand → Value} {w : World} {post : Value → World → Prop} {b k : Nat} {cs : List Value} (hl : cs.length = 5) (x : Operand) (ho : o.op = .load 30 x) (hx : ρ x = .pointer (some ⟨b, k, none⟩)) (hc : ∀ i, i < 5 → ∀ v, cs[i]? = some v → w.cell? ⟨b, k + i, none⟩ = some v) (h : post (.agg cs.toArray) w) : leaves Try.prog o ρ w post := by
  refine leaves_value (v := .agg cs.toArray) (w' := w) ?_ h
  have hl2 : (loadCells ⟨b, k, none⟩ 5).run Try.prog w = .ok cs.toArray w := by
    rw [← hl]
    exact run_loadCells_list (P := Try.prog) w ⟨b, k, none⟩ cs (fun j v hv => by
      have hj : j < 5 := by have := (List.getElem?_eq_some_iff.1 hv).1; omega
      have e : (⟨b, k, none⟩ : Addr).add j = ⟨b, k + j, none⟩ := by unfold Addr.add; split <;> simp_all
      rw [e]; exact hc j hj v hv)
  have hi := info11
  cases hq : Try.prog.info? 30 with
  | none => simp [hq] at hi
  | some i =>
    have hs : i.size = 5 := by simpa [hq] using hi
    unfold execOp
    simp only [ho, hx, Instr.loadAt, Instr.sureAddr, Sem.run_bind, Sem.run_pure, Result.andThen_ok]
    simp [loadVar, Sem.run_bind, Try.isAgg30, sizeOf, typeInfo, hq, hs, hl2]
theorem en_rnew : ∀ args w, (callFunc 9 args).run Try.prog w = .ok (.enter 9 args) w := fun _ _ => by simp [callFunc, Try.func9]; rfl
theorem en_does : ∀ args w, (callFunc 10 args).run Try.prog w = .ok (.enter 10 args) w := fun _ _ => by simp [callFunc, Try.func10]; rfl
/-- Ahead of an act in its region, and behind it. -/
def eS (w0 : World) (sb mb c : Nat) (wr : World) (f : Bool) (W : World) : Prop := (f = true → Below wr.heap.size wr W) ∧ (f = false → DX w0 sb mb c W)
theorem DX.on {w0 W W' : World} {sb mb c : Nat} (h : DX w0 sb mb c W) (hb : Below W.heap.size W W') : DX w0 sb mb c W' := by
  obtain ⟨P, next, g, T, h1, h2⟩ := h
  exact ⟨P, next, g, T, h1.on hb, h2⟩
theorem eS.on {w0 wr W W' : World} {sb mb c : Nat} {f : Bool} (h : eS w0 sb mb c wr f W) (hb : Below W.heap.size W W') : eS w0 sb mb c wr f W' := ⟨fun e => on_trans (h.1 e) hb, fun e => (h.2 e).on hb⟩
theorem DX.below {w0 W : World} {sb mb c : Nat} (h : DX w0 sb mb c W) : Below w0.heap.size w0 W := by
  obtain ⟨P, next, g, T, h1, _⟩ := h
  exact h1.below
theorem eS.below {w0 wr W : World} {sb mb c : Nat} {f : Bool} (h : eS w0 sb mb c wr f W) (h0 : Below w0.heap.size w0 wr) : Below w0.heap.size w0 W := by
  cases f with
  | true => exact on_trans h0 (h.1 rfl)
  | false => exact (h.2 rfl).below
def kre (w : World) : Kd 0 := Kd.st (fun v W => ∃ rb, v = ptr rb ∧ REm W rb ∧ w.heap.size ≤ rb) fun _ _ _ ⟨rb, h1, h2, h3⟩ hb => ⟨rb, h1, h2.on hb, h3⟩
set_option maxRecDepth 100000 in
set_option maxHeartbeats 8000000 in
theorem ends_walk (p : Option Addr) (cap : Nat) (l : List ActV) (w : World) (_hcap : l.length ≤ cap) (_hl : l.length ≤ 9223372036854775807) (hat : ActsAt w p l) :
    Calls Try.prog 5 #[.slice p l.length cap] w fun e w' => e = .returned (.bool true) ∧ Below w.heap.size w w' := by
  have cN := new_in 20 w (by omega) (by omega)
  have HA : Hid (ActsAt w p l) := hat
  obtain ⟨Post, hPost⟩ : ∃ Post : Ending → World → Prop, (fun e w' => e = .returned (.bool true) ∧ Below w.heap.size w w') = Post := ⟨_, rfl⟩
  have HP : Hid (∀ W, Below w.heap.size w W → Post (.returned (.bool true)) W) := fun W hb => by subst hPost; exact ⟨rfl, hb⟩
  rw [hPost]
  clear hPost hat
  go_enter Try.func5, Try.ntmps5
  go_wp2_with fail
  refine cN.mono ?_
  intro e w1 hn
  obtain ⟨sb, mb, g0, P0, rfl, hx1⟩ := XS.new hn
  have HI0 : Hid (DX w sb mb 1 w1) := ⟨P0, 1, g0, _, hx1, inv_none 1, Nat.le_refl _, Nat.le_refl _⟩
  clear cN hn hx1
  go_wp2
  go_loopw [4] (fun kv wr => ∃ k : Nat, k ≤ 60 ∧ k ≤ l.length ∧ kv = .int .i64 (k : Int) ∧ Hid (DX w sb mb (1 + 2 * k) wr)) (fun kv _ => 60 - (intOf kv).toNat)
  case atStart => exact ⟨0, Nat.zero_le _, Nat.zero_le _, rfl, HI0⟩
  case round =>
    clear HI0
    obtain ⟨k, hk, hkl, rfl, HI⟩ := hrel
    by_cases hgo : k < l.length ∧ k < 60
    · obtain ⟨hlt, hlt2⟩ := hgo
      have hltz : (k : Int) < (l.length : Int) := by omega
      have hlt2z : (k : Int) < 60 := by omega
      obtain ⟨b, off, hp, _, hb, hc⟩ := HA.out.row.place (k := k * 5) (by rw [actsV_len]; omega)
      cases hp
      have HBr : Hid (Below w.heap.size w wr) := HI.out.below
      have hcw : ∀ W, Below w.heap.size w W → ∀ i, i < 5 → ∀ v, (l[k].cells)[i]? = some v → W.cell? ⟨b, off + k * 5 + i, none⟩ = some v := fun W hbw i hi v hv => by
        rw [Nat.add_assoc]
        exact (hbw.cell (p := ⟨b, off + (k * 5 + i), none⟩) hb).trans (hc _ _ ((actsV_get hlt hi).trans hv))
      have HOk : Hid (ActOk w l[k]) := HA.out.ok l[k] (by simp)
      clear hc
      generalize l[k] = x at *
      obtain ⟨xk, xi, xn, xm, xp, xc, xB⟩ := x
      have HC : Hid (∀ W f, eS w sb mb (1 + 2 * (k + 1)) wr f W → ∀ i, i < 5 → ∀ v, ([.int .i64 xk, .int .i64 xi, .int .i64 xn, .int .i64 xm, .slice xp xB.length xc] : List Value)[i]? = some v → W.cell? ⟨b, off + k * 5 + i, none⟩ = some v) := fun W f hS => hcw W (hS.below HBr.out)
      have HS0 : Hid (eS w sb mb (1 + 2 * (k + 1)) wr true wr.drew) := ⟨fun _ => on_drew (Below.refl _ _), (fun e => by cases e)⟩
      have HDo : Hid (∀ W, Below wr.heap.size wr W → ∀ rb, REm W rb → wr.heap.size ≤ rb → Calls Try.prog 10 #[ptr sb, ptr rb, .agg #[.int .i64 xk, .int .i64 xi, .int .i64 xn, .int .i64 xm, .slice xp xB.length xc], .int .i64 (k : Int)] W fun e W' => (∃ bb, e = .returned (.bool bb)) ∧ DX w sb mb (1 + 2 * (k + 1)) W') := fun W hbw rb hre hrl => by
        obtain ⟨P, next, g, T, h1, h2, h3, h4⟩ := HI.out
        have hpre : DPre w W sb mb (1 + 2 * k) rb ⟨xk, xi, xn, xm, xp, xc, xB⟩ (k : Int) := ⟨⟨P, next, g, T, h1.on hbw, h2, h3, h4, fun h7 => by have := h1.st.lt h7; omega⟩, hre, Nat.le_trans HBr.out.size hrl, HOk.out, ⟨by omega, by omega⟩, by omega⟩
        refine (does_any hpre).mono ?_
        rintro e W' ⟨h5, h6⟩
        exact ⟨h5, by rw [show 1 + 2 * (k + 1) = 1 + 2 * k + 2 by omega]; exact h6⟩
      clear hcw
      go_wp2
      refine wp_region_two (S := eS w sb mb (1 + 2 * (k + 1)) wr) (u := 7) (Keep := KeepU 7)
        (g := fun jj vv WW => (([.is (ptr sb), kre wr, .is (.slice (some ⟨b, off, none⟩) l.length cap), .is (.int .i64 (k : Int)), .is (.pointer (some ⟨b, off + k * 5, none⟩)), .is (.agg #[.int .i64 xk, .int .i64 xi, .int .i64 xn, .int .i64 xm, .slice xp xB.length xc]), .is (.int .i64 (k : Int)), kbool] : List (Kd 0)).getD jj Kd.any).ok vv WW)
        (tab := [[(3, none)], [], [(0, none)], [(4, none)], [(24, some 2), (25, some 3)], [(26, some 4)], [(4, none)], [(22, some 0), (23, some 1), (27, some 5), (28, some 6)]]) (tl := [(1, 7)]) (n := 94)
        (by kernel_rfl) rfl (by kernel_rfl) (keep_u ?kk) (HS0.out) ?stR1 ?enR1
      case kk =>
        intro j hj
        match j, hj with
        | 0, _ | 2, _ | 3, _ | 4, _ | 5, _ | 6, _ => exact .inr (pure_is _)
        | 1, _ => exact .inl rfl
        | 7, hj => exact absurd rfl hj
        | j + 8, _ => exact .inr pure_any
      case stR1 =>
        refine ⟨fun ρ W f hf hr hS hs => ?_, fun ρ W f hf hr hS hs => ?_, fun ρ W f hf hr hS hs => ?_, fun ρ W f hf hr hS hs => ?_, fun ρ W f hf hr hS hs => ?_, fun ρ W f hf hr hS hs => ?_, fun ρ W f hf hr hS hs => ?_, fun ρ W f hf hr hS hs => ?_, trivial⟩
        · have h3 : ρ (.tmp 3) = ptr sb := hs.1
          exact step_plain rfl (leaves_move (.tmp 3) rfl ⟨h3, by simpa using hS, .inr (Below.refl _ _)⟩)
        · obtain rfl : f = true := hf (by kernel_rfl)
          refine step_plain rfl (leaves_call en_rnew hr #[.const (.int .i64 20)] _ rfl #[.int .i64 20] (by simp [hr.const]) ((rnew W).mono ?_))
          rintro e W' ⟨rfl, hw'⟩
          subst W'
          exact ⟨_, rfl, ⟨W.heap.size, rfl, Blk.new W _ _, (hS.1 rfl).size⟩, by simpa using hS.on (on_alloc _ _), .inr (on_alloc _ _)⟩
        · have h0 : ρ (.tmp 0) = .slice (some ⟨b, off, none⟩) l.length cap := hs.1
          exact step_plain rfl (leaves_move (.tmp 0) rfl ⟨h0, by simpa using hS, .inr (Below.refl _ _)⟩)
        · have h4 : ρ (.tmp 4) = .int .i64 (k : Int) := hs.1
          exact step_plain rfl (leaves_move (.tmp 4) rfl ⟨h4, by simpa using hS, .inr (Below.refl _ _)⟩)
        · have h24 : ρ (.tmp 24) = .slice (some ⟨b, off, none⟩) l.length cap := hs.1
          have h25 : ρ (.tmp 25) = .int .i64 (k : Int) := hs.2.1
          refine step_plain rfl (leaves_value (v := .pointer (some ⟨b, off + k * 5, none⟩)) (w' := W) ?_ ⟨rfl, by simpa using hS, .inr (Below.refl _ _)⟩)
          simp [go_sem, h24, h25, hltz]
        · have h26 : ρ (.tmp 26) = .pointer (some ⟨b, off + k * 5, none⟩) := hs.1
          exact step_plain rfl (leaves_act (cs := [.int .i64 xk, .int .i64 xi, .int .i64 xn, .int .i64 xm, .slice xp xB.length xc]) rfl (.tmp 26) rfl h26 (HC.out W f hS) ⟨rfl, by simpa using hS, .inr (Below.refl _ _)⟩)
        · have h4 : ρ (.tmp 4) = .int .i64 (k : Int) := hs.1
          exact step_plain rfl (leaves_move (.tmp 4) rfl ⟨h4, by simpa using hS, .inr (Below.refl _ _)⟩)
        · have h22 : ρ (.tmp 22) = ptr sb := hs.1
          have h23 := hs.2.1
          have h27 : ρ (.tmp 27) = .agg #[.int .i64 xk, .int .i64 xi, .int .i64 xn, .int .i64 xm, .slice xp xB.length xc] := hs.2.2.1
          have h28 : ρ (.tmp 28) = .int .i64 (k : Int) := hs.2.2.2.1
          obtain rfl : f = true := hf (by kernel_rfl)
          obtain ⟨rb, e23, hre, hrl⟩ := h23
          change ρ (.tmp 23) = _ at e23
          refine step_plain rfl (leaves_call en_does hr #[.tmp 22, .tmp 23, .tmp 27, .tmp 28] _ rfl #[ptr sb, ptr rb, .agg #[.int .i64 xk, .int .i64 xi, .int .i64 xn, .int .i64 xm, .slice xp xB.length xc], .int .i64 (k : Int)] (by simp [h22, e23, h27, h28]) ((HDo.out W (hS.1 rfl) rb hre hrl).mono ?_))
          rintro e W' ⟨⟨bb, rfl⟩, hD2⟩
          exact ⟨_, rfl, ⟨bb, rfl⟩, ⟨(fun e => by cases e), fun _ => hD2⟩, .inl rfl⟩
      case enR1 =>
        intro f W hf hS v0 h0 v1 h1 v2 h2 v3 h3 v4 h4 v5 h5 v6 h6 v7 h7
        obtain rfl : f = false := hf (by decide)
        clear hf
        have e0 : v0 = ptr sb := h0 rfl
        subst v0
        have e2 : v2 = .slice (some ⟨b, off, none⟩) l.length cap := h2 rfl
        subst v2
        have e3 : v3 = .int .i64 (k : Int) := h3 rfl
        subst v3
        have e4 : v4 = .pointer (some ⟨b, off + k * 5, none⟩) := h4 rfl
        subst v4
        have e5 : v5 = .agg #[.int .i64 xk, .int .i64 xi, .int .i64 xn, .int .i64 xm, .slice xp xB.length xc] := h5 rfl
        subst v5
        have e6 : v6 = .int .i64 (k : Int) := h6 rfl
        subst v6
        clear h0 h2 h3 h4 h5 h6
        simp only [ends, Act.put, List.setIfInBounds_toArray, List.set_cons_succ, List.set_cons_zero]
        have HI2 : Hid (DX w sb mb (1 + 2 * (k + 1)) W) := hS.2 rfl
        obtain ⟨bb, eb⟩ : ∃ b, v7 = .bool b := h7 rfl
        subst eb
        clear h1 h7 hS HS0 HDo HC HI
        go_wp2
        go_roundw
        case rel => exact ⟨k + 1, by omega, by omega, by go_num, HI2⟩
        case measure => simp [intOf]; omega
    · by_cases hlt : k < l.length
      · have hltz : (k : Int) < (l.length : Int) := by omega
        have h60 : ¬ (k : Int) < 60 := by omega
        have h60n : ¬ k < 60 := by omega
        have hk60 : k = 60 := by omega
        obtain ⟨P, next, g, T, h1, hInv, h3, h4⟩ := HI.out
        have cD := dump_any h1.st (fun k x hx => by have := (hInv.few k x hx).1; omega)
        have HBr : Hid (Below w.heap.size w wr) := h1.below
        have HInv : Hid (Inv T next) := hInv
        have hnx : next ≤ 121 := by omega
        clear h1 HI hInv h4
        unfold DumpPost at cD
        obtain ⟨K, hK⟩ : ∃ K, keysT T = K := ⟨_, rfl⟩
        rw [hK] at cD
        have HKm : Hid (∀ j : Nat, j ∈ K ↔ j < 1024 ∧ hasT T j = true) := fun j => by rw [← hK]; exact keysT_mem
        have hKl : K.length ≤ 1024 := by
          rw [← hK]
          unfold keysT
          exact Nat.le_trans (List.length_filter_le _ _) (by simp)
        clear hK
        go_wp2_with fail
        refine cD.mono ?_
        rintro e w3 ⟨dp, dc, Y, rfl, _, hTold, hdat, hb3⟩
        clear cD
        have HB3 : Hid (Below w.heap.size w w3) := on_trans HBr.out hb3
        have HCell : Hid (∀ (j : Nat) (hj : j < K.length), ∃ x db dof, T K[j] = some x ∧ dp = some ⟨db, dof, none⟩ ∧ ∀ W, Below w3.heap.size w3 W → W.cell? ⟨db, dof + j * 9, none⟩ = some (.int .i64 (K[j] : Int)) ∧ W.cell? ⟨db, dof + j * 9 + 1, none⟩ = some (.int .i64 (x.st : Int)) ∧ W.cell? ⟨db, dof + j * 9 + 2, none⟩ = some (.int .i64 (x.peer : Int))) := fun j hj => by
          obtain ⟨x, a, bq, a1, a2, _⟩ := hTold.is j K[j] (List.getElem?_eq_getElem hj)
          obtain ⟨db, dof, e, _, hlt, hc⟩ := hdat.place (k := j * 9) (by rw [flat_len hTold.nines, hTold.len]; omega)
          refine ⟨x, db, dof, a1, e, fun W hb => ?_⟩
          have h0 := flat_get hTold.nines a2 (c := 0) (by omega)
          have h1 := flat_get hTold.nines a2 (c := 1) (by omega)
          have h2 := flat_get hTold.nines a2 (c := 2) (by omega)
          refine ⟨(hb.cell (p := ⟨db, dof + j * 9, none⟩) hlt).trans (hc _ _ h0), (hb.cell (p := ⟨db, dof + j * 9 + 1, none⟩) hlt).trans ?_, (hb.cell (p := ⟨db, dof + j * 9 + 2, none⟩) hlt).trans ?_⟩
          · rw [Nat.add_assoc]; exact hc _ _ h1
          · rw [Nat.add_assoc]; exact hc _ _ h2
        clear hTold hdat hb3 HBr
        obtain ⟨n, hn⟩ : ∃ n, K.length = n := ⟨_, rfl⟩
        rw [hn] at hKl
        rw [hn]
        go_wp2
        go_loopw [6] (fun iv wq => ∃ i : Nat, i ≤ n ∧ iv = .int .i64 (i : Int) ∧ Hid (Below w3.heap.size w3 wq)) (fun iv _ => n - (intOf iv).toNat)
        case atStart => exact ⟨0, Nat.zero_le _, rfl, Below.refl _ _⟩
        case round =>
          obtain ⟨i, hi, rfl, HQ⟩ := hrel
          by_cases hin : i < n
          · have hinz : (i : Int) < (n : Int) := by omega
            have hiK : i < K.length := by omega
            obtain ⟨x, db, dof, hTx, rfl, hcell⟩ := HCell.out i hiK
            have HIc : Hid (∀ W, Below w3.heap.size w3 W → W.cell? ⟨db, dof + i * 9, none⟩ = some (.int .i64 (K[i] : Int)) ∧ W.cell? ⟨db, dof + i * 9 + 1, none⟩ = some (.int .i64 (x.st : Int)) ∧ W.cell? ⟨db, dof + i * 9 + 2, none⟩ = some (.int .i64 (x.peer : Int))) := hcell
            obtain ⟨c0, c1, c2⟩ := hcell wr HQ.out
            have HX : Hid (T K[i] = some x) := hTx
            clear hcell hTx
            obtain ⟨ki, hki⟩ : ∃ ki, K[i] = ki := ⟨_, rfl⟩
            rw [hki] at c0 HX HIc
            have hs1 : (((x.st : Int) != 2) && ((x.peer : Int) != 0)) = false := by
              by_cases e : x.peer = 0
              · simp [e]
              · have := HInv.out.join ki x HX.out e
                simp [this]
            have HJ0 : Hid ((x.peer = 0 ∧ ((x.peer : Int) == 0) = true) ∨ (((x.peer : Int) == 0) = false ∧ ∃ (j : Nat) (hj : j < K.length), K[j] = x.peer ∧ ∀ y, T K[j] = some y → y.peer = ki)) := by
              rcases HInv.out.peer ki x HX.out with e | ⟨y, hy, hy2⟩
              · exact .inl ⟨e, by simp [e]⟩
              · have hlo := HInv.out.lo _ y hy
                refine .inr ⟨by simp; omega, ?_⟩
                have hm : x.peer ∈ K := (HKm.out x.peer).2 ⟨by omega, hasT_of hy⟩
                obtain ⟨j, hj, e⟩ := List.getElem_of_mem hm
                exact ⟨j, hj, e, fun y' hy' => by rw [e, hy] at hy'; cases hy'; exact hy2⟩
            clear HX hki
            generalize x.st = xst at *
            generalize x.peer = xpe at *
            obtain ⟨bk, hbk⟩ : ∃ bk, ((xpe : Int) == 0) = bk := ⟨_, rfl⟩
            have HJ : Hid (bk = true ∨ ∃ (j : Nat) (hj : j < K.length), K[j] = xpe ∧ ∀ y, T K[j] = some y → y.peer = ki) := by
              rcases HJ0.out with ⟨_, e⟩ | ⟨_, e⟩
              · exact .inl (by rw [← hbk]; exact e)
              · exact .inr e
            clear HJ0
            by_cases hst : xst = 2
            · subst hst
              go_wp2
              obtain ⟨wo, hwo⟩ : ∃ wo, Hid (Below w3.heap.size w3 wo) ∧ wo = wr := ⟨wr, HQ, rfl⟩
              clear hwo
              go_loopw [7, 8] (fun bv jv wq => ∃ (j : Nat) (b : Bool), j ≤ n ∧ bv = .bool b ∧ jv = .int .i64 (j : Int) ∧ Hid (Below w3.heap.size w3 wq ∧ (b = true ∨ ∃ (q : Nat) (hq : q < K.length), j ≤ q ∧ K[q] = xpe ∧ ∀ y, T K[q] = some y → y.peer = ki))) (fun _ jv _ => n - (intOf jv).toNat)
              case atStart => exact ⟨0, bk, Nat.zero_le _, by rw [← hbk], rfl, HQ.out, HJ.out.imp_right fun ⟨q, hq, h1⟩ => ⟨q, hq, Nat.zero_le _, h1⟩⟩
              case round =>
                obtain ⟨j, bb, hj, rfl, rfl, HR⟩ := hrel
                clear c0 c1 c2
                obtain ⟨c0, c1, c2⟩ := HIc.out wr HR.out.1
                by_cases hjn : j < n
                · have hjnz : (j : Int) < (n : Int) := by omega
                  have hjK : j < K.length := by omega
                  cases bb with
                  | true =>
                    have HR2 : Hid (∀ q, Below w3.heap.size w3 (wr.drewN q)) := fun q => on_trans HR.out.1 (on_drewN (Below.refl _ _) q)
                    clear HR c0 c1 c2
                    go_wp2
                    go_quiet (fail)
                    go_wp2
                    go_roundw
                    case rel => exact ⟨j + 1, true, by omega, rfl, by go_num, HR2.out _, .inl rfl⟩
                    case measure => simp [intOf]; omega
                  | false =>
                    obtain ⟨y, db2, dof2, hTy, edp, hcy⟩ := HCell.out j hjK
                    cases edp
                    obtain ⟨e0, e1, e2⟩ := hcy wr HR.out.1
                    have HR2 : Hid (∀ q, Below w3.heap.size w3 (wr.drewN q)) := fun q => on_trans HR.out.1 (on_drewN (Below.refl _ _) q)
                    obtain ⟨q, hq, hjq, hKq, hyq⟩ : ∃ (q : Nat) (hq : q < K.length), j ≤ q ∧ K[q] = xpe ∧ ∀ y, T K[q] = some y → y.peer = ki := HR.out.2.resolve_left (by simp)
                    have HQ3 : Hid _ := And.intro hq (And.intro hKq (And.intro hjq hyq))
                    by_cases hm : K[j] = xpe
                    · have hyk : y.peer = ki := by
                        refine hyq y ?_
                        rw [hKq, ← hm]
                        exact hTy
                      have hmb : ((K[j] : Int) == (xpe : Int)) = true := by simp [hm]
                      have hyb : ((y.peer : Int) == (ki : Int)) = true := by simp [hyk]
                      generalize y.peer = yp at *
                      generalize K[j] = kj at *
                      clear HR HQ3 hyq hTy hcy
                      go_wp2
                      go_quiet (fail)
                      go_wp2
                      go_roundw
                      case rel => exact ⟨j + 1, true, by omega, rfl, by go_num, HR2.out _, .inl rfl⟩
                      case measure => simp [intOf]; omega
                    · have hmb : ((K[j] : Int) == (xpe : Int)) = false := by simp; omega
                      have hjq2 : j + 1 ≤ q := by
                        by_cases e : j = q
                        · subst e; exact absurd hKq hm
                        · omega
                      have HQ4 : Hid (∃ (q : Nat) (hq : q < K.length), j + 1 ≤ q ∧ K[q] = xpe ∧ ∀ y, T K[q] = some y → y.peer = ki) := ⟨q, hq, hjq2, hKq, hyq⟩
                      generalize y.peer = yp at *
                      clear HR HQ3 hyq hTy hcy hKq hq hjq hjq2 hm
                      generalize K[j] = kj at *
                      go_wp2
                      go_quiet (fail)
                      go_wp2
                      go_roundw
                      case rel => exact ⟨j + 1, false, by omega, rfl, by go_num, HR2.out _, .inr HQ4.out⟩
                      case measure => simp [intOf]; omega
                · obtain rfl : j = n := by omega
                  have hjnz : ¬ (j : Int) < (j : Int) := by omega
                  have hbt : bb = true := by
                    rcases HR.out.2 with e | ⟨q, hq, h1, _⟩
                    · exact e
                    · omega
                  subst hbt
                  have HR2 : Hid (Below w3.heap.size w3 wr) := HR.out.1
                  clear HR c0 c1 c2
                  go_wp2
                  go_roundw
                  case rel => exact ⟨i + 1, by omega, by go_num, HR2⟩
                  case measure => simp [intOf]; omega
            · have hstz : ((xst : Int) != 2) = true := by simp; omega
              have hpz : ((xpe : Int) != 0) = false := by simpa [hstz] using hs1
              go_wp2
              obtain ⟨wo, hwo⟩ : ∃ wo, Hid (Below w3.heap.size w3 wo) ∧ wo = wr := ⟨wr, HQ, rfl⟩
              clear hwo
              go_loopw [7, 8] (fun bv jv wq => ∃ (j : Nat) (b : Bool), j ≤ n ∧ bv = .bool b ∧ jv = .int .i64 (j : Int) ∧ Hid (Below w3.heap.size w3 wq ∧ (b = true ∨ ∃ (q : Nat) (hq : q < K.length), j ≤ q ∧ K[q] = xpe ∧ ∀ y, T K[q] = some y → y.peer = ki))) (fun _ jv _ => n - (intOf jv).toNat)
              case atStart => exact ⟨0, bk, Nat.zero_le _, by rw [← hbk], rfl, HQ.out, HJ.out.imp_right fun ⟨q, hq, h1⟩ => ⟨q, hq, Nat.zero_le _, h1⟩⟩
              case round =>
                obtain ⟨j, bb, hj, rfl, rfl, HR⟩ := hrel
                clear c0 c1 c2
                obtain ⟨c0, c1, c2⟩ := HIc.out wr HR.out.1
                by_cases hjn : j < n
                · have hjnz : (j : Int) < (n : Int) := by omega
                  have hjK : j < K.length := by omega
                  cases bb with
                  | true =>
                    have HR2 : Hid (∀ q, Below w3.heap.size w3 (wr.drewN q)) := fun q => on_trans HR.out.1 (on_drewN (Below.refl _ _) q)
                    clear HR c0 c1 c2
                    go_wp2
                    go_quiet (fail)
                    go_wp2
                    go_roundw
                    case rel => exact ⟨j + 1, true, by omega, rfl, by go_num, HR2.out _, .inl rfl⟩
                    case measure => simp [intOf]; omega
                  | false =>
                    obtain ⟨y, db2, dof2, hTy, edp, hcy⟩ := HCell.out j hjK
                    cases edp
                    obtain ⟨e0, e1, e2⟩ := hcy wr HR.out.1
                    have HR2 : Hid (∀ q, Below w3.heap.size w3 (wr.drewN q)) := fun q => on_trans HR.out.1 (on_drewN (Below.refl _ _) q)
                    obtain ⟨q, hq, hjq, hKq, hyq⟩ : ∃ (q : Nat) (hq : q < K.length), j ≤ q ∧ K[q] = xpe ∧ ∀ y, T K[q] = some y → y.peer = ki := HR.out.2.resolve_left (by simp)
                    have HQ3 : Hid _ := And.intro hq (And.intro hKq (And.intro hjq hyq))
                    by_cases hm : K[j] = xpe
                    · have hyk : y.peer = ki := by
                        refine hyq y ?_
                        rw [hKq, ← hm]
                        exact hTy
                      have hmb : ((K[j] : Int) == (xpe : Int)) = true := by simp [hm]
                      have hyb : ((y.peer : Int) == (ki : Int)) = true := by simp [hyk]
                      generalize y.peer = yp at *
                      generalize K[j] = kj at *
                      clear HR HQ3 hyq hTy hcy
                      go_wp2
                      go_quiet (fail)
                      go_wp2
                      go_roundw
                      case rel => exact ⟨j + 1, true, by omega, rfl, by go_num, HR2.out _, .inl rfl⟩
                      case measure => simp [intOf]; omega
                    · have hmb : ((K[j] : Int) == (xpe : Int)) = false := by simp; omega
                      have hjq2 : j + 1 ≤ q := by
                        by_cases e : j = q
                        · subst e; exact absurd hKq hm
                        · omega
                      have HQ4 : Hid (∃ (q : Nat) (hq : q < K.length), j + 1 ≤ q ∧ K[q] = xpe ∧ ∀ y, T K[q] = some y → y.peer = ki) := ⟨q, hq, hjq2, hKq, hyq⟩
                      generalize y.peer = yp at *
                      clear HR HQ3 hyq hTy hcy hKq hq hjq hjq2 hm
                      generalize K[j] = kj at *
                      go_wp2
                      go_quiet (fail)
                      go_wp2
                      go_roundw
                      case rel => exact ⟨j + 1, false, by omega, rfl, by go_num, HR2.out _, .inr HQ4.out⟩
                      case measure => simp [intOf]; omega
                · obtain rfl : j = n := by omega
                  have hjnz : ¬ (j : Int) < (j : Int) := by omega
                  have hbt : bb = true := by
                    rcases HR.out.2 with e | ⟨q, hq, h1, _⟩
                    · exact e
                    · omega
                  subst hbt
                  have HR2 : Hid (Below w3.heap.size w3 wr) := HR.out.1
                  clear HR c0 c1 c2
                  go_wp2
                  go_roundw
                  case rel => exact ⟨i + 1, by omega, by go_num, HR2⟩
                  case measure => simp [intOf]; omega
          · obtain rfl : i = n := by omega
            have hinz : ¬ (i : Int) < (i : Int) := by omega
            have cV := lives_any wr
            have HB6 : Hid (Below w.heap.size w wr) := on_trans HB3.out HQ.out
            clear HQ HCell
            go_wp2_with fail
            refine cV.mono ?_
            rintro e w8 ⟨rfl, hb8⟩
            have HE := HP.out w8 (on_trans HB6.out hb8)
            clear cV hb8
            go_wp2
            exact HE
      · have hltz : ¬ (k : Int) < (l.length : Int) := by omega
        obtain ⟨P, next, g, T, h1, hInv, h3, h4⟩ := HI.out
        have cD := dump_any h1.st (fun k x hx => by have := (hInv.few k x hx).1; omega)
        have HBr : Hid (Below w.heap.size w wr) := h1.below
        have HInv : Hid (Inv T next) := hInv
        have hnx : next ≤ 121 := by omega
        clear h1 HI hInv h4
        unfold DumpPost at cD
        obtain ⟨K, hK⟩ : ∃ K, keysT T = K := ⟨_, rfl⟩
        rw [hK] at cD
        have HKm : Hid (∀ j : Nat, j ∈ K ↔ j < 1024 ∧ hasT T j = true) := fun j => by rw [← hK]; exact keysT_mem
        have hKl : K.length ≤ 1024 := by
          rw [← hK]
          unfold keysT
          exact Nat.le_trans (List.length_filter_le _ _) (by simp)
        clear hK
        go_wp2_with fail
        refine cD.mono ?_
        rintro e w3 ⟨dp, dc, Y, rfl, _, hTold, hdat, hb3⟩
        clear cD
        have HB3 : Hid (Below w.heap.size w w3) := on_trans HBr.out hb3
        have HCell : Hid (∀ (j : Nat) (hj : j < K.length), ∃ x db dof, T K[j] = some x ∧ dp = some ⟨db, dof, none⟩ ∧ ∀ W, Below w3.heap.size w3 W → W.cell? ⟨db, dof + j * 9, none⟩ = some (.int .i64 (K[j] : Int)) ∧ W.cell? ⟨db, dof + j * 9 + 1, none⟩ = some (.int .i64 (x.st : Int)) ∧ W.cell? ⟨db, dof + j * 9 + 2, none⟩ = some (.int .i64 (x.peer : Int))) := fun j hj => by
          obtain ⟨x, a, bq, a1, a2, _⟩ := hTold.is j K[j] (List.getElem?_eq_getElem hj)
          obtain ⟨db, dof, e, _, hlt, hc⟩ := hdat.place (k := j * 9) (by rw [flat_len hTold.nines, hTold.len]; omega)
          refine ⟨x, db, dof, a1, e, fun W hb => ?_⟩
          have h0 := flat_get hTold.nines a2 (c := 0) (by omega)
          have h1 := flat_get hTold.nines a2 (c := 1) (by omega)
          have h2 := flat_get hTold.nines a2 (c := 2) (by omega)
          refine ⟨(hb.cell (p := ⟨db, dof + j * 9, none⟩) hlt).trans (hc _ _ h0), (hb.cell (p := ⟨db, dof + j * 9 + 1, none⟩) hlt).trans ?_, (hb.cell (p := ⟨db, dof + j * 9 + 2, none⟩) hlt).trans ?_⟩
          · rw [Nat.add_assoc]; exact hc _ _ h1
          · rw [Nat.add_assoc]; exact hc _ _ h2
        clear hTold hdat hb3 HBr
        obtain ⟨n, hn⟩ : ∃ n, K.length = n := ⟨_, rfl⟩
        rw [hn] at hKl
        rw [hn]
        go_wp2
        go_loopw [6] (fun iv wq => ∃ i : Nat, i ≤ n ∧ iv = .int .i64 (i : Int) ∧ Hid (Below w3.heap.size w3 wq)) (fun iv _ => n - (intOf iv).toNat)
        case atStart => exact ⟨0, Nat.zero_le _, rfl, Below.refl _ _⟩
        case round =>
          obtain ⟨i, hi, rfl, HQ⟩ := hrel
          by_cases hin : i < n
          · have hinz : (i : Int) < (n : Int) := by omega
            have hiK : i < K.length := by omega
            obtain ⟨x, db, dof, hTx, rfl, hcell⟩ := HCell.out i hiK
            have HIc : Hid (∀ W, Below w3.heap.size w3 W → W.cell? ⟨db, dof + i * 9, none⟩ = some (.int .i64 (K[i] : Int)) ∧ W.cell? ⟨db, dof + i * 9 + 1, none⟩ = some (.int .i64 (x.st : Int)) ∧ W.cell? ⟨db, dof + i * 9 + 2, none⟩ = some (.int .i64 (x.peer : Int))) := hcell
            obtain ⟨c0, c1, c2⟩ := hcell wr HQ.out
            have HX : Hid (T K[i] = some x) := hTx
            clear hcell hTx
            obtain ⟨ki, hki⟩ : ∃ ki, K[i] = ki := ⟨_, rfl⟩
            rw [hki] at c0 HX HIc
            have hs1 : (((x.st : Int) != 2) && ((x.peer : Int) != 0)) = false := by
              by_cases e : x.peer = 0
              · simp [e]
              · have := HInv.out.join ki x HX.out e
                simp [this]
            have HJ0 : Hid ((x.peer = 0 ∧ ((x.peer : Int) == 0) = true) ∨ (((x.peer : Int) == 0) = false ∧ ∃ (j : Nat) (hj : j < K.length), K[j] = x.peer ∧ ∀ y, T K[j] = some y → y.peer = ki)) := by
              rcases HInv.out.peer ki x HX.out with e | ⟨y, hy, hy2⟩
              · exact .inl ⟨e, by simp [e]⟩
              · have hlo := HInv.out.lo _ y hy
                refine .inr ⟨by simp; omega, ?_⟩
                have hm : x.peer ∈ K := (HKm.out x.peer).2 ⟨by omega, hasT_of hy⟩
                obtain ⟨j, hj, e⟩ := List.getElem_of_mem hm
                exact ⟨j, hj, e, fun y' hy' => by rw [e, hy] at hy'; cases hy'; exact hy2⟩
            clear HX hki
            generalize x.st = xst at *
            generalize x.peer = xpe at *
            obtain ⟨bk, hbk⟩ : ∃ bk, ((xpe : Int) == 0) = bk := ⟨_, rfl⟩
            have HJ : Hid (bk = true ∨ ∃ (j : Nat) (hj : j < K.length), K[j] = xpe ∧ ∀ y, T K[j] = some y → y.peer = ki) := by
              rcases HJ0.out with ⟨_, e⟩ | ⟨_, e⟩
              · exact .inl (by rw [← hbk]; exact e)
              · exact .inr e
            clear HJ0
            by_cases hst : xst = 2
            · subst hst
              go_wp2
              obtain ⟨wo, hwo⟩ : ∃ wo, Hid (Below w3.heap.size w3 wo) ∧ wo = wr := ⟨wr, HQ, rfl⟩
              clear hwo
              go_loopw [7, 8] (fun bv jv wq => ∃ (j : Nat) (b : Bool), j ≤ n ∧ bv = .bool b ∧ jv = .int .i64 (j : Int) ∧ Hid (Below w3.heap.size w3 wq ∧ (b = true ∨ ∃ (q : Nat) (hq : q < K.length), j ≤ q ∧ K[q] = xpe ∧ ∀ y, T K[q] = some y → y.peer = ki))) (fun _ jv _ => n - (intOf jv).toNat)
              case atStart => exact ⟨0, bk, Nat.zero_le _, by rw [← hbk], rfl, HQ.out, HJ.out.imp_right fun ⟨q, hq, h1⟩ => ⟨q, hq, Nat.zero_le _, h1⟩⟩
              case round =>
                obtain ⟨j, bb, hj, rfl, rfl, HR⟩ := hrel
                clear c0 c1 c2
                obtain ⟨c0, c1, c2⟩ := HIc.out wr HR.out.1
                by_cases hjn : j < n
                · have hjnz : (j : Int) < (n : Int) := by omega
                  have hjK : j < K.length := by omega
                  cases bb with
                  | true =>
                    have HR2 : Hid (∀ q, Below w3.heap.size w3 (wr.drewN q)) := fun q => on_trans HR.out.1 (on_drewN (Below.refl _ _) q)
                    clear HR c0 c1 c2
                    go_wp2
                    go_quiet (fail)
                    go_wp2
                    go_roundw
                    case rel => exact ⟨j + 1, true, by omega, rfl, by go_num, HR2.out _, .inl rfl⟩
                    case measure => simp [intOf]; omega
                  | false =>
                    obtain ⟨y, db2, dof2, hTy, edp, hcy⟩ := HCell.out j hjK
                    cases edp
                    obtain ⟨e0, e1, e2⟩ := hcy wr HR.out.1
                    have HR2 : Hid (∀ q, Below w3.heap.size w3 (wr.drewN q)) := fun q => on_trans HR.out.1 (on_drewN (Below.refl _ _) q)
                    obtain ⟨q, hq, hjq, hKq, hyq⟩ : ∃ (q : Nat) (hq : q < K.length), j ≤ q ∧ K[q] = xpe ∧ ∀ y, T K[q] = some y → y.peer = ki := HR.out.2.resolve_left (by simp)
                    have HQ3 : Hid _ := And.intro hq (And.intro hKq (And.intro hjq hyq))
                    by_cases hm : K[j] = xpe
                    · have hyk : y.peer = ki := by
                        refine hyq y ?_
                        rw [hKq, ← hm]
                        exact hTy
                      have hmb : ((K[j] : Int) == (xpe : Int)) = true := by simp [hm]
                      have hyb : ((y.peer : Int) == (ki : Int)) = true := by simp [hyk]
                      generalize y.peer = yp at *
                      generalize K[j] = kj at *
                      clear HR HQ3 hyq hTy hcy
                      go_wp2
                      go_quiet (fail)
                      go_wp2
                      go_roundw
                      case rel => exact ⟨j + 1, true, by omega, rfl, by go_num, HR2.out _, .inl rfl⟩
                      case measure => simp [intOf]; omega
                    · have hmb : ((K[j] : Int) == (xpe : Int)) = false := by simp; omega
                      have hjq2 : j + 1 ≤ q := by
                        by_cases e : j = q
                        · subst e; exact absurd hKq hm
                        · omega
                      have HQ4 : Hid (∃ (q : Nat) (hq : q < K.length), j + 1 ≤ q ∧ K[q] = xpe ∧ ∀ y, T K[q] = some y → y.peer = ki) := ⟨q, hq, hjq2, hKq, hyq⟩
                      generalize y.peer = yp at *
                      clear HR HQ3 hyq hTy hcy hKq hq hjq hjq2 hm
                      generalize K[j] = kj at *
                      go_wp2
                      go_quiet (fail)
                      go_wp2
                      go_roundw
                      case rel => exact ⟨j + 1, false, by omega, rfl, by go_num, HR2.out _, .inr HQ4.out⟩
                      case measure => simp [intOf]; omega
                · obtain rfl : j = n := by omega
                  have hjnz : ¬ (j : Int) < (j : Int) := by omega
                  have hbt : bb = true := by
                    rcases HR.out.2 with e | ⟨q, hq, h1, _⟩
                    · exact e
                    · omega
                  subst hbt
                  have HR2 : Hid (Below w3.heap.size w3 wr) := HR.out.1
                  clear HR c0 c1 c2
                  go_wp2
                  go_roundw
                  case rel => exact ⟨i + 1, by omega, by go_num, HR2⟩
                  case measure => simp [intOf]; omega
            · have hstz : ((xst : Int) != 2) = true := by simp; omega
              have hpz : ((xpe : Int) != 0) = false := by simpa [hstz] using hs1
              go_wp2
              obtain ⟨wo, hwo⟩ : ∃ wo, Hid (Below w3.heap.size w3 wo) ∧ wo = wr := ⟨wr, HQ, rfl⟩
              clear hwo
              go_loopw [7, 8] (fun bv jv wq => ∃ (j : Nat) (b : Bool), j ≤ n ∧ bv = .bool b ∧ jv = .int .i64 (j : Int) ∧ Hid (Below w3.heap.size w3 wq ∧ (b = true ∨ ∃ (q : Nat) (hq : q < K.length), j ≤ q ∧ K[q] = xpe ∧ ∀ y, T K[q] = some y → y.peer = ki))) (fun _ jv _ => n - (intOf jv).toNat)
              case atStart => exact ⟨0, bk, Nat.zero_le _, by rw [← hbk], rfl, HQ.out, HJ.out.imp_right fun ⟨q, hq, h1⟩ => ⟨q, hq, Nat.zero_le _, h1⟩⟩
              case round =>
                obtain ⟨j, bb, hj, rfl, rfl, HR⟩ := hrel
                clear c0 c1 c2
                obtain ⟨c0, c1, c2⟩ := HIc.out wr HR.out.1
                by_cases hjn : j < n
                · have hjnz : (j : Int) < (n : Int) := by omega
                  have hjK : j < K.length := by omega
                  cases bb with
                  | true =>
                    have HR2 : Hid (∀ q, Below w3.heap.size w3 (wr.drewN q)) := fun q => on_trans HR.out.1 (on_drewN (Below.refl _ _) q)
                    clear HR c0 c1 c2
                    go_wp2
                    go_quiet (fail)
                    go_wp2
                    go_roundw
                    case rel => exact ⟨j + 1, true, by omega, rfl, by go_num, HR2.out _, .inl rfl⟩
                    case measure => simp [intOf]; omega
                  | false =>
                    obtain ⟨y, db2, dof2, hTy, edp, hcy⟩ := HCell.out j hjK
                    cases edp
                    obtain ⟨e0, e1, e2⟩ := hcy wr HR.out.1
                    have HR2 : Hid (∀ q, Below w3.heap.size w3 (wr.drewN q)) := fun q => on_trans HR.out.1 (on_drewN (Below.refl _ _) q)
                    obtain ⟨q, hq, hjq, hKq, hyq⟩ : ∃ (q : Nat) (hq : q < K.length), j ≤ q ∧ K[q] = xpe ∧ ∀ y, T K[q] = some y → y.peer = ki := HR.out.2.resolve_left (by simp)
                    have HQ3 : Hid _ := And.intro hq (And.intro hKq (And.intro hjq hyq))
                    by_cases hm : K[j] = xpe
                    · have hyk : y.peer = ki := by
                        refine hyq y ?_
                        rw [hKq, ← hm]
                        exact hTy
                      have hmb : ((K[j] : Int) == (xpe : Int)) = true := by simp [hm]
                      have hyb : ((y.peer : Int) == (ki : Int)) = true := by simp [hyk]
                      generalize y.peer = yp at *
                      generalize K[j] = kj at *
                      clear HR HQ3 hyq hTy hcy
                      go_wp2
                      go_quiet (fail)
                      go_wp2
                      go_roundw
                      case rel => exact ⟨j + 1, true, by omega, rfl, by go_num, HR2.out _, .inl rfl⟩
                      case measure => simp [intOf]; omega
                    · have hmb : ((K[j] : Int) == (xpe : Int)) = false := by simp; omega
                      have hjq2 : j + 1 ≤ q := by
                        by_cases e : j = q
                        · subst e; exact absurd hKq hm
                        · omega
                      have HQ4 : Hid (∃ (q : Nat) (hq : q < K.length), j + 1 ≤ q ∧ K[q] = xpe ∧ ∀ y, T K[q] = some y → y.peer = ki) := ⟨q, hq, hjq2, hKq, hyq⟩
                      generalize y.peer = yp at *
                      clear HR HQ3 hyq hTy hcy hKq hq hjq hjq2 hm
                      generalize K[j] = kj at *
                      go_wp2
                      go_quiet (fail)
                      go_wp2
                      go_roundw
                      case rel => exact ⟨j + 1, false, by omega, rfl, by go_num, HR2.out _, .inr HQ4.out⟩
                      case measure => simp [intOf]; omega
                · obtain rfl : j = n := by omega
                  have hjnz : ¬ (j : Int) < (j : Int) := by omega
                  have hbt : bb = true := by
                    rcases HR.out.2 with e | ⟨q, hq, h1, _⟩
                    · exact e
                    · omega
                  subst hbt
                  have HR2 : Hid (Below w3.heap.size w3 wr) := HR.out.1
                  clear HR c0 c1 c2
                  go_wp2
                  go_roundw
                  case rel => exact ⟨i + 1, by omega, by go_num, HR2⟩
                  case measure => simp [intOf]; omega
          · obtain rfl : i = n := by omega
            have hinz : ¬ (i : Int) < (i : Int) := by omega
            have cV := lives_any wr
            have HB6 : Hid (Below w.heap.size w wr) := on_trans HB3.out HQ.out
            clear HQ HCell
            go_wp2_with fail
            refine cV.mono ?_
            rintro e w8 ⟨rfl, hb8⟩
            have HE := HP.out w8 (on_trans HB6.out hb8)
            clear cV hb8
            go_wp2
            exact HE

end Go.Proofs.Ytfhkdndgiofidaa.X
