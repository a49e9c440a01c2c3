/- Package queue: Put. -/
import Derived.Test.YtfhkdndgiofidaaKStep
namespace Go.Proofs.Ytfhkdndgiofidaa.K
open Go Go.RowKit

theorem en_fresh : ∀ args w, (callFunc 82 args).run Try.prog w = .ok (.enter 82 args) w := fun _ _ => by simp [callFunc, Try.func82]; rfl
/-- What the region that begins a part knows. -/
def PS (F : Nat → Prop) (w : World) (lv : Value) (M : List PV) (f : Bool) (W : World) : Prop := (f = true → Below w.heap.size w W) ∧ PasM (fun k => ¬ F k) W lv M ∧ w.heap.size ≤ W.heap.size
section
variable {F : Nat → Prop} {w W W' : World} {lv : Value} {M : List PV} {f : Bool}
theorem PS.on (h : PS F w lv M f W) (hb : Below W.heap.size W W') : PS F w lv M f W' := ⟨fun e => on_trans (h.1 e) hb, h.2.1.keep (keep_on hb), Nat.le_trans h.2.2 hb.size⟩
theorem PS.did (h : PS F w lv M true W) (hk : Keep (fun k => ¬ F k) W W') : PS F w lv M false W' := ⟨(fun e => by cases e), h.2.1.keep hk, Nat.le_trans h.2.2 hk.size⟩
theorem PS.stored (h : PS F w lv M f W) (hk : Keep (fun k => ¬ F k) W W') : PS F w lv M false W' := ⟨(fun e => by cases e), h.2.1.keep hk, Nat.le_trans h.2.2 hk.size⟩
end
def k6 (_F : Nat → Prop) (w : World) (M : List PV) : Kd 0 := Kd.st (fun v W => ∃ N : List PV, N.map Prod.fst = M.map Prod.fst ∧ PasM (fun k => w.heap.size ≤ k) W v N) fun _ _ _ ⟨N, h1, h2⟩ hb => ⟨N, h1, h2.keep (keep_on hb)⟩
def k7 (_F : Nat → Prop) (w : World) (M : List PV) : Kd 0 := Kd.st (fun v W => ∃ (v' : Value) (N : List PV), v = .agg #[.slice none 0 0, v'] ∧ N.map Prod.fst = M.map Prod.fst ∧ PasM (fun k => w.heap.size ≤ k) W v' N) fun _ _ _ ⟨v', N, h0, h1, h2⟩ hb => ⟨v', N, h0, h1, h2.keep (keep_on hb)⟩
def k8 (_F : Nat → Prop) (w : World) (M : List PV) : Kd 0 := Kd.st (fun v W => ∃ (b : Nat) (v' : Value) (N : List PV), v = .slice (some ⟨b, 0, none⟩) 1 1 ∧ Blk W b 87 [.slice none 0 0, v'] ∧ w.heap.size ≤ b ∧ N.map Prod.fst = M.map Prod.fst ∧ PasM (fun k => w.heap.size ≤ k) W v' N) fun _ _ _ ⟨b, v', N, h0, hB, hb, h1, h2⟩ h => ⟨b, v', N, h0, hB.on h, hb, h1, h2.keep (keep_on h)⟩
def k9 (F : Nat → Prop) (w : World) (X : List PX) (pv : Value) (M : List PV) : Kd 0 := Kd.st (fun v W => Mid F w X pv M v W) fun _ _ _ h hb => h.on hb
def k12 (F G : Nat → Prop) (w : World) (qb n : Nat) (X : List PX) (M : List PV) : Kd 0 := Kd.st (fun _ W => Fin F G w qb n X M W) fun _ _ _ h hb => h.on hb
def k28 (F : Nat → Prop) (w : World) (x : PX) (l : List UInt8) : Kd 0 := Kd.st (fun v W => Mid2 F w x l v W) fun _ _ _ h hb => h.on hb
def k211 (F G : Nat → Prop) (w : World) (qb n : Nat) (X : List PX) (x : PX) (l : List UInt8) : Kd 0 := Kd.st (fun _ W => Fin2 F G w qb n X x l W) fun _ _ _ h hb => h.on hb
section
variable {F : Nat → Prop} {w : World} {M : List PV}
theorem k6_stays (h : ∀ k, F k → k < w.heap.size) : Stays F (k6 F w M) := fun _ _ _ ⟨N, h1, h2⟩ hk => ⟨N, h1, h2.keep (hk.mono fun k _ h7 h8 => by have := h k h8; omega)⟩
theorem k7_stays (h : ∀ k, F k → k < w.heap.size) : Stays F (k7 F w M) := fun _ _ _ ⟨v', N, h0, h1, h2⟩ hk => ⟨v', N, h0, h1, h2.keep (hk.mono fun k _ h7 h8 => by have := h k h8; omega)⟩
theorem k8_stays (h : ∀ k, F k → k < w.heap.size) : Stays F (k8 F w M) := fun _ _ _ ⟨b, v', N, h0, hB, hb, h1, h2⟩ hk => ⟨b, v', N, h0, hk.blk hB fun h8 => by have := h b h8; omega, hb, h1, h2.keep (hk.mono fun k _ h7 h8 => by have := h k h8; omega)⟩
end

/-- What Put leaves. -/
def PutPost (F G : Nat → Prop) (w : World) (qb n : Nat) (ps : List Pt) (b : List UInt8) (L : List Ps) (e : Ending) (w' : World) : Prop :=
  ∃ F' G', e = .returned (.tuple #[.int .i64 ((putF n ps b L).2.1 : Nat), .int .i64 (putF n ps b L).2.2]) ∧ QAt F' G' w' qb n (putF n ps b L).1 ∧ Goes F G F' G' w w'
theorem put_nil (p : Option Addr) (l c : Nat) (v : Value) (w : World) : Calls Try.prog 65 #[.pointer none, .slice p l c, v] w fun e w' => e = .returned (.tuple #[.int .i64 0, .int .i64 22]) ∧ w' = w := by
  go_enter Try.func65, Try.ntmps65
  go_wp2
  go_ret2
  exact ⟨rfl, rfl⟩
set_option maxRecDepth 100000 in
theorem put_bad {F G : Nat → Prop} {w : World} {qb n : Nat} {ps : List Pt} (h : QAt F G w qb n ps) (p lp : Option Addr) (cap lc : Nat) (b : List UInt8) (L : List Ps) (hbad : b = [] ∨ 4 < L.length) :
    Calls Try.prog 65 #[.pointer (some ⟨qb, 0, none⟩), .slice p b.length cap, .slice lp L.length lc] w (PutPost F G w qb n ps b L) := by
  have HP : Hid (PutPost F G w qb n ps b L (.returned (.tuple #[.int .i64 0, .int .i64 22])) w) := by
    have e : putF n ps b L = (ps, 0, 22) := if_pos hbad
    exact ⟨F, G, by rw [e]; rfl, by rw [e]; exact h, .on (Below.refl _ _)⟩
  generalize PutPost F G w qb n ps b L = Post at *
  clear h
  by_cases hb : b = []
  · subst hb
    clear hbad
    go_enter Try.func65, Try.ntmps65
    go_wp2
    exact HP.out
  · have hl : 4 < L.length := hbad.resolve_left hb
    have hlz : (4 : Int) < (L.length : Int) := by omega
    have hbl : b.length ≠ 0 := fun e => hb (List.eq_nil_of_length_eq_zero e)
    generalize b.length = bl at *
    have hbz : ¬ (bl : Int) = 0 := by omega
    clear hbad hb
    go_enter Try.func65, Try.ntmps65
    go_wp2
    exact HP.out
set_option maxRecDepth 100000 in
theorem put_full {F G : Nat → Prop} {w : World} {qb n : Nat} {ps : List Pt} (h : QAt F G w qb n ps) (p lp : Option Addr) (cap lc : Nat) (b : List UInt8) (L : List Ps) (hgood : ¬ (b = [] ∨ 4 < L.length)) (hfull : total ps = n ∨ ((0 < L.length ∨ ps = []) ∧ ps.length = 16)) :
    Calls Try.prog 65 #[.pointer (some ⟨qb, 0, none⟩), .slice p b.length cap, .slice lp L.length lc] w (PutPost F G w qb n ps b L) := by
  have HP : Hid (∀ W, Below w.heap.size w W → PutPost F G w qb n ps b L (.returned (.tuple #[.int .i64 0, .int .i64 35])) W) := fun W hb => by
    have e : putF n ps b L = (ps, 0, 35) := by unfold putF; rw [if_neg hgood, if_pos hfull]
    exact ⟨F, G, by rw [e]; rfl, by rw [e]; exact h.on hb, .on hb⟩
  have cR := room_any h
  have cB := fun W (hb : Below w.heap.size w W) => begins_any (h.on hb) lp L.length lc
  have hmost := h.ok.most
  have hall := h.ok.all
  have hbl : b.length ≠ 0 := fun e => hgood (.inl (List.eq_nil_of_length_eq_zero e))
  have hl4 : ¬ 4 < L.length := fun e => hgood (.inr e)
  obtain ⟨X, rfl, hM, _, _⟩ := h
  obtain ⟨q, qc, hB, hc, _⟩ := hM.view
  have x1 := hB.cell 1 rfl
  have hq := hB.lt
  generalize PutPost F G w qb n (X.map PX.pt) b L = Post at *
  have hl4z : ¬ (4 : Int) < (L.length : Int) := by omega
  generalize b.length = bl at *
  have hbz : ¬ (bl : Int) = 0 := by omega
  clear hgood hM hB hc
  by_cases hf : total (X.map PX.pt) = n
  · rw [hf] at cR
    clear hfull cB hf x1
    have hz : ((n : Int) - (n : Int)) = 0 := by omega
    rw [hz] at cR
    go_enter Try.func65, Try.ntmps65
    go_wp2_with fail
    refine cR.mono ?_
    rintro e w1 ⟨rfl, hb1⟩
    go_wp2
    exact HP.out _ hb1
  · obtain ⟨hbeg, h16⟩ := hfull.resolve_left hf
    rw [List.length_map] at h16
    rw [h16] at x1
    have ed : decide (0 < L.length ∨ X.map PX.pt = []) = true := decide_eq_true hbeg
    rw [ed] at cB
    generalize total (X.map PX.pt) = T at *
    have hTz : ¬ (n : Int) - (T : Int) = 0 := by omega
    clear hfull hbeg ed h16 hf
    go_enter Try.func65, Try.ntmps65
    go_wp2_with fail
    refine cR.mono ?_
    rintro e w1 ⟨rfl, hb1⟩
    go_wp2_with fail
    refine (cB _ hb1).mono ?_
    rintro e w2 ⟨rfl, rfl⟩
    have y1 := (hb1.cell (p := ⟨qb, 1, none⟩) hq).trans x1
    go_wp2
    exact HP.out _ hb1

set_option maxRecDepth 100000 in
set_option maxHeartbeats 2000000 in
theorem put_begin {F G : Nat → Prop} {w : World} {qb n : Nat} {ps : List Pt} (h : QAt F G w qb n ps) (p lp : Option Addr) (cap lc : Nat) (b : List UInt8) (M : List PV) (hl : PasM (fun k => ¬ F k) w (.slice lp M.length lc) M) (hb : AtO 5 (fun k => ¬ F k) w p (bytesV b)) (hbc : b.length ≤ cap) (hbm : b.length ≤ 100000) (hfew : Few (M.map Prod.fst))
    (hgood : ¬ (b = [] ∨ 4 < (M.map Prod.fst).length)) (hroom : ¬ (total ps = n ∨ ((0 < (M.map Prod.fst).length ∨ ps = []) ∧ ps.length = 16))) (hbeg :  (0 < (M.map Prod.fst).length ∨ ps = [])) :
    Calls Try.prog 65 #[.pointer (some ⟨qb, 0, none⟩), .slice p b.length cap, .slice lp M.length lc] w (PutPost F G w qb n ps b (M.map Prod.fst)) := by
  have cR := fun W (hb : Below w.heap.size w W) => room_any (h.on hb)
  have cB := fun W (hb : Below w.heap.size w W) => begins_any (h.on hb) lp M.length lc
  have hok := h.ok
  have hmost := h.ok.most
  have hall := h.ok.all
  have hlt := h.lt
  have hbl : b.length ≠ 0 := fun e => hgood (.inl (List.eq_nil_of_length_eq_zero e))
  obtain ⟨X, rfl, hM, _, _⟩ := h
  have ed : decide (0 < M.length ∨ X.map PX.pt = []) = true := by have := hbeg; rw [List.length_map] at this; exact decide_eq_true this
  rw [ed] at cB
  clear ed
  have hTn : total (X.map PX.pt) ≠ n := fun e => hroom (.inl e)
  obtain ⟨k, hk⟩ : ∃ k, min b.length (n - total (X.map PX.pt)) = k := ⟨_, rfl⟩
  have hkb : k ≤ b.length := by omega
  have hk0 : 0 < k := by omega
  have htk : b.take (n - total (X.map PX.pt)) = b.take k := by
    rw [← hk, List.take_eq_take_iff]; omega
  have hl4 : M.length ≤ 4 := by have := hfew.1; simpa using this
  have hkl : (b.take k).length = k := by rw [List.length_take]; omega
  have HP : Hid (∀ m W5 v (N : List PV) lv, w.heap.size ≤ m → N.map Prod.fst = M.map Prod.fst → QM (Up F m) (Up G m) W5 qb n (X ++ [⟨[] ++ b.take k, v, N, lv⟩]) → Keep (fun k => ¬ F k) w W5 → PutPost F G w qb n (X.map PX.pt) b (M.map Prod.fst) (.returned (.tuple #[.int .i64 (k : Int), .int .i64 0])) W5) := fun m W5 v N lv hm hN hQ hK => by
    have e : putF n (X.map PX.pt) b (M.map Prod.fst) = (X.map PX.pt ++ [(b.take k, M.map Prod.fst)], k, 0) := by unfold putF; rw [if_neg hgood, if_neg hroom, if_pos hbeg, htk, hk]
    have e2 : (X ++ [(⟨[] ++ b.take k, v, N, lv⟩ : PX)]).map PX.pt = X.map PX.pt ++ [(b.take k, M.map Prod.fst)] := by simp [PX.pt, hN]
    obtain ⟨h1, h2⟩ := QAt.of_up (hQ.sure (F' := Up F w.heap.size) (G' := Up G w.heap.size) (fun j _ _ h7 => h7.imp id (Nat.le_trans hm)) (fun j _ _ h7 => h7.imp id (Nat.le_trans hm))) (by
      rw [e2]
      refine ok_begin hok (fun e => by rw [e] at hkl; simp at hkl; omega) (by rw [hkl]; omega) hfew (fun e => hroom (.inr ⟨hbeg, e⟩)) hbeg) hK
    rw [e2] at h1
    exact ⟨_, _, by rw [e], by rw [e]; exact h1, h2⟩
  have hX16 : ¬ (X.length : Int) = 16 := fun e => hroom (.inr ⟨hbeg, by rw [List.length_map]; omega⟩)
  obtain ⟨sb, so, rfl, _⟩ := hb.at.place (k := 0) (by simp; omega)
  have hmin : (if (n : Int) - (total (X.map PX.pt) : Int) < (b.length : Int) then (n : Int) - (total (X.map PX.pt) : Int) else (b.length : Int)) = (k : Int) := by split <;> omega
  have hmin2 : min (b.length : Int) ((n : Int) - (total (X.map PX.pt) : Int)) = (k : Int) := by omega
  have HFew : Hid (M.length ≤ 4 ∧ ∀ x ∈ M, x.1.ints.length ≤ 1000) := ⟨hl4, fun x hx => by have := hfew.2 x.1 (List.mem_map_of_mem hx); omega⟩
  have HQ : Hid (QM F G w qb n X) := hM
  have HL : Hid (PasM (fun k => ¬ F k) w (.slice lp M.length lc) M) := hl
  have HA : Hid (AtO 5 (fun k => ¬ F k) w (some ⟨sb, so, none⟩) (bytesV b)) := hb
  have HLt0 : Hid (∀ k, F k → k < w.heap.size) := hlt
  have HBl : Hid (k ≤ b.length) := hkb
  have HBL : Hid (b.length ≤ 100000) := hbm
  have hcap : k ≤ cap := by omega
  have HX16 : Hid (X.length ≤ 16) := by have := hok.few; rw [List.length_map] at this; exact this
  have HKl : Hid ((b.take k).length = k) := hkl
  obtain ⟨q0, qc0, hB0, _, _⟩ := hM.view
  have x1 := hB0.cell 1 rfl
  have hq := hB0.lt
  generalize total (X.map PX.pt) = T at *
  generalize PutPost F G w qb n (X.map PX.pt) b (M.map Prod.fst) = Post at *
  clear hM hl hb hlt hk htk hok hroom hgood hbeg hfew hbm hB0 hkl
  generalize b.length = bl at *
  have hbz : ¬ (bl : Int) = 0 := by omega
  have hl4z : ¬ (4 : Int) < (M.length : Int) := by omega
  have hTz : ¬ (n : Int) - (T : Int) = 0 := by omega
  clear hbl hTn
  go_enter Try.func65, Try.ntmps65
  go_wp2_with fail
  refine (cR _ (Below.refl _ _)).mono ?_
  rintro e w1 ⟨rfl, hb1⟩
  go_wp2_with fail
  refine (cB _ hb1).mono ?_
  rintro e w2 ⟨rfl, rfl⟩
  have y1 := (hb1.cell (p := ⟨qb, 1, none⟩) hq).trans x1
  go_wp2_with fail
  refine (cR _ hb1).mono ?_
  rintro e w3 ⟨rfl, hb3⟩
  have hb13 := on_trans hb1 hb3
  go_wp2_with fail
  refine (cB _ hb13).mono ?_
  rintro e w4 ⟨rfl, rfl⟩
  have hQ3 := HQ.out.keep (keep_on hb13)
  have hsz := hb13.size
  clear cR cB hmin hmin2 hb3 y1 x1
  obtain ⟨pv, hbx, hrow, hFp⟩ := hQ3.box
  have HLt : Hid (∀ k, F k → k < w4.heap.size) := fun k h7 => Nat.lt_of_lt_of_le (HLt0.out k h7) hsz
  have HY1 : Hid (∀ W, Below w4.heap.size w4 W → W.cell? ⟨qb, 1, none⟩ = some pv) := fun W hb => (hb.cell (p := ⟨qb, 1, none⟩) hbx.lt).trans (hbx.cell 1 rfl)
  have HS0 : Hid (PS F w4 (.slice lp M.length lc) M true w4.drew) := ⟨fun _ => on_drew (Below.refl _ _), HL.out.keep (keep_on (on_drew hb13)), Nat.le_refl _⟩
  have HApp : Hid (∀ W, Below w4.heap.size w4 W → ∀ v, (k8 F w4 M).ok v W → ∃ v' W', (∀ ty, (Builtin.append_ #[43, 43] ty #[pv, v]).run Try.prog W = .ok v' W') ∧ Mid F w4 X pv M v' W' ∧ Keep (fun k => ¬ F k) W W') := fun W hb v ⟨b8, v8, N, e8, hB8, hb8, hN8, hP8⟩ => by
    subst e8
    have hone : ∀ u ∈ [Value.slice none 0 0, v8], u.oneCell' = true := fun u hu => by
      obtain ⟨⟨p9, c9, e9, _⟩, _⟩ := hP8
      simp at hu
      rcases hu with rfl | rfl
      · rfl
      · rw [e9]; rfl
    have hat : At W (some ⟨b8, 0, none⟩) [.slice none 0 0, v8] := .inr ⟨b8, 0, rfl, Nat.zero_le _, hB8.lt, fun j u hj => by rw [Nat.zero_add]; exact hB8.cell j hj⟩
    obtain ⟨v', W', hrun, ho, _, hg⟩ := append_rowA elemPt 0 pv X.length (flatX X) (some ⟨b8, 0, none⟩) 1 1 [.slice none 0 0, v8] W (by have := HX16.out; omega) (by omega) rfl hone (rowS_on hrow hb) hat (Nat.zero_le _)
    have hk : Keep (fun k => pv.ownBlock ≠ some k) W W' := ⟨hg.os, hg.tape, hg.output, hg.size, fun k h1 h2 => hg.block k h1 h2⟩
    refine ⟨v', W', hrun, ⟨⟨v8, N, hN8, ho, hP8.keep (hk.mono fun k _ h7 e => ?_)⟩, (keep_on hb).trans hk, fun j hj => ?_⟩, hk.mono fun k _ h7 e => h7 (hFp k e)⟩
    · have := (row_lt hrow e).2.1
      omega
    · rcases hg.lies j hj with h7 | h7
      · exact .inl h7
      · exact .inr (Nat.le_trans hb.size h7)
  have HFinR : Hid (∀ W v, Mid F w4 X pv M v W → Fin F G w4 qb n X M (W.setCell ⟨qb, 1, none⟩ v) ∧ Keep (fun k => ¬ F k) W (W.setCell ⟨qb, 1, none⟩ v) ∧ W.cell? ⟨qb, 1, none⟩ = some pv ∧ W.frozen? ⟨qb, 1, none⟩ = false ∧ ∃ p c, v = .slice p (X.length + 1) c) := fun W v hm => by
    have hne : pv.ownBlock ≠ some qb := fun e => by
      obtain ⟨_, _, cur, h7⟩ := row_lt hrow e
      exact typ_ne (typ_blk hbx) ⟨_, _, h7⟩ (by decide) rfl
    have hB := hm.keep.blk hbx hne
    refine ⟨hm.fin hQ3 hbx hrow hFp HLt.out, keep_but (but_set _ _ _ _) fun h7 => h7 hQ3.own, hB.cell 1 rfl, hB.free 1, ?_⟩
    obtain ⟨lv, N, _, h2, _⟩ := hm.is
    obtain ⟨p, c, e, _, _⟩ := rowS_at h2
    exact ⟨p, c, e⟩
  clear hrow hFp hbx hQ3 HL
  go_wp2
  refine wp_region_three (S := PS F w4 (.slice lp M.length lc) M) (u := 9) (Keep := KeepF F [9, 12])
    (g := fun jj vv WW => (([.is (.pointer (some ⟨qb, 0, none⟩)), .is (.pointer (some ⟨qb, 0, none⟩)), .is (.pointer (some ⟨qb, 0, none⟩)), .is (.pointer (some ⟨qb, 1, none⟩)), .is (pv), .is (.slice lp M.length lc), k6 F w4 M, k7 F w4 M, k8 F w4 M, k9 F w4 X pv M, .is (.pointer (some ⟨qb, 0, none⟩)), .is (.pointer (some ⟨qb, 1, none⟩)), k12 F G w4 qb n X M] : List (Kd 0)).getD jj Kd.any).ok vv WW)
    (tab := [[(0, none)], [(0, none)], [(43, some 1)], [(44, some 2)], [(45, some 3)], [(2, none)], [(47, some 5)], [(48, some 6)], [(49, some 7)], [(46, some 4), (50, some 8)], [(42, some 0)], [(52, some 10)], [(53, some 11), (51, some 9)]]) (tl := [(9, 12)]) (n := 77)
    (by kernel_rfl) rfl (by kernel_rfl) (keep_f ?kR1) (HS0.out) ?stR1 ?enR1
  case kR1 =>
    intro u hu j hj
    simp only [List.mem_cons, List.not_mem_nil, or_false] at hu
    rcases hu with rfl | rfl
    · match j, hj with
      | 0, _ | 1, _ | 2, _ | 3, _ | 4, _ | 5, _ | 10, _ | 11, _ => exact .inr (.inr (stays_is _))
      | 6, _ => exact .inr (.inr (k6_stays HLt.out))
      | 7, _ => exact .inr (.inr (k7_stays HLt.out))
      | 8, _ => exact .inr (.inr (k8_stays HLt.out))
      | 12, _ => exact .inl (by kernel_rfl)
      | 9, hj => exact absurd rfl hj
      | j + 13, _ => exact .inr (.inr stays_any)
    · match j, hj with
      | 0, _ | 1, _ | 2, _ | 3, _ | 4, _ | 5, _ | 10, _ | 11, _ => exact .inr (.inr (stays_is _))
      | 6, _ => exact .inr (.inr (k6_stays HLt.out))
      | 7, _ => exact .inr (.inr (k7_stays HLt.out))
      | 8, _ => exact .inr (.inr (k8_stays HLt.out))
      | 9, _ => exact .inr (.inl ⟨12, rfl, .inl rfl⟩)
      | 12, hj => exact absurd rfl hj
      | j + 13, _ => exact .inr (.inr stays_any)
  case stR1 =>
    refine ⟨fun ρ W f hf hf2 hr hS hs => ?_, fun ρ W f hf hf2 hr hS hs => ?_, fun ρ W f hf hf2 hr hS hs => ?_, fun ρ W f hf hf2 hr hS hs => ?_, fun ρ W f hf hf2 hr hS hs => ?_, fun ρ W f hf hf2 hr hS hs => ?_, fun ρ W f hf hf2 hr hS hs => ?_, fun ρ W f hf hf2 hr hS hs => ?_, fun ρ W f hf hf2 hr hS hs => ?_, fun ρ W f hf hf2 hr hS hs => ?_, fun ρ W f hf hf2 hr hS hs => ?_, fun ρ W f hf hf2 hr hS hs => ?_, fun ρ W f hf hf2 hr hS hs => ?_, trivial⟩
    · have h0 : ρ (.tmp 0) = .pointer (some ⟨qb, 0, none⟩) := hs.1
      exact step_plain rfl (leaves_move (.tmp 0) rfl ⟨h0, by simpa using hS, .inr (Below.refl _ _)⟩)
    · have h0 : ρ (.tmp 0) = .pointer (some ⟨qb, 0, none⟩) := hs.1
      exact step_plain rfl (leaves_move (.tmp 0) rfl ⟨h0, by simpa using hS, .inr (Below.refl _ _)⟩)
    · have h43 : ρ (.tmp 43) = .pointer (some ⟨qb, 0, none⟩) := hs.1
      refine step_plain rfl (leaves_value (v := .pointer (some ⟨qb, 0, none⟩)) (w' := W) ?_ ⟨rfl, by simpa using hS, .inr (Below.refl _ _)⟩)
      simp [go_sem, h43]
    · have h44 : ρ (.tmp 44) = .pointer (some ⟨qb, 0, none⟩) := hs.1
      refine step_plain rfl (leaves_value (v := .pointer (some ⟨qb, 1, none⟩)) (w' := W) ?_ ⟨rfl, by simpa using hS, .inr (Below.refl _ _)⟩)
      simp [go_sem, h44]
    · have h45 : ρ (.tmp 45) = .pointer (some ⟨qb, 1, none⟩) := hs.1
      obtain rfl : f = true := hf (by kernel_rfl)
      have y1 := HY1.out W (hS.1 rfl)
      refine step_plain rfl (leaves_value (v := pv) (w' := W) ?_ ⟨rfl, by simpa using hS, .inr (Below.refl _ _)⟩)
      simp [go_sem, h45, y1]
    · have h2 : ρ (.tmp 2) = .slice lp M.length lc := hs.1
      exact step_plain rfl (leaves_move (.tmp 2) rfl ⟨h2, by simpa using hS, .inr (Below.refl _ _)⟩)
    · have h47 : ρ (.tmp 47) = .slice lp M.length lc := hs.1
      refine step_plain rfl (leaves_call1 en_fresh hr (.tmp 47) _ rfl h47 ((fresh_any hS.2.1 (by have := HFew.out.1; omega) HFew.out.2).mono ?_))
      rintro e W' ⟨v', N, rfl, h1, h2, h3⟩
      exact ⟨_, rfl, ⟨N, h1, h2.mono fun k _ h => Nat.le_trans hS.2.2 h⟩, by simpa using hS.on h3, .inr h3⟩
    · have h48 := hs.1
      obtain ⟨N, h1, h2⟩ := h48
      refine step_plain rfl (leaves_value (v := .agg #[.slice none 0 0, ρ (.tmp 48)]) (w' := W) ?_ ⟨⟨ρ (.tmp 48), N, rfl, h1, h2⟩, by simpa using hS, .inr (Below.refl _ _)⟩)
      obtain ⟨⟨p9, c9, e9, _⟩, _⟩ := h2
      simp [go_sem, e9]
    · have h49 := hs.1
      obtain ⟨v48, N, e49, h1, h2⟩ := h49
      change ρ (.tmp 49) = _ at e49
      refine step_plain rfl (leaves_value (v := .slice (some ⟨W.heap.size, 0, none⟩) 1 1) (w' := W.alloc (.cells #[.slice none 0 0, v48] 87)) ?_ ⟨⟨W.heap.size, v48, N, rfl, Blk.new W _ _, hS.2.2, h1, h2.keep (keep_on (on_alloc _ _))⟩, by simpa using hS.on (on_alloc _ _), .inr (on_alloc _ _)⟩)
      obtain ⟨⟨p9, c9, e9, _⟩, _⟩ := h2
      simp [go_sem, e49, e9]
    · have h46 : ρ (.tmp 46) = pv := hs.1
      have h50 := hs.2.1
      obtain rfl : f = true := hf (by kernel_rfl)
      obtain ⟨v', W', hrun, hmid, hkp⟩ := HApp.out W (hS.1 rfl) _ h50
      exact step_plain rfl (leaves_append (.tmp 46) (.tmp 50) 43 rfl (by rw [h46]; exact hrun _) ⟨hmid, by simpa using hS.did hkp, .inl ⟨by simp, hkp⟩⟩)
    · have h42 : ρ (.tmp 42) = .pointer (some ⟨qb, 0, none⟩) := hs.1
      refine step_plain rfl (leaves_value (v := .pointer (some ⟨qb, 0, none⟩)) (w' := W) ?_ ⟨rfl, by simpa using hS, .inr (Below.refl _ _)⟩)
      simp [go_sem, h42]
    · have h52 : ρ (.tmp 52) = .pointer (some ⟨qb, 0, none⟩) := hs.1
      refine step_plain rfl (leaves_value (v := .pointer (some ⟨qb, 1, none⟩)) (w' := W) ?_ ⟨rfl, by simpa using hS, .inr (Below.refl _ _)⟩)
      simp [go_sem, h52]
    · have h53 : ρ (.tmp 53) = .pointer (some ⟨qb, 1, none⟩) := hs.1
      have h51 := hs.2.1
      obtain rfl : f = false := hf2 (by kernel_rfl)
      have hfin := HFinR.out W _ h51
      refine step_plain rfl (leaves_skip (w' := W.setCell ⟨qb, 1, none⟩ (ρ (.tmp 51))) ?_ ⟨hfin.1, by simpa using hS.stored hfin.2.1, .inl ⟨by simp, hfin.2.1⟩⟩)
      obtain ⟨p51, c51, e51⟩ := hfin.2.2.2.2
      simp [go_sem, h53, hfin.2.2.1, hfin.2.2.2.1, e51]
  case enR1 =>
    intro f W hf hS v0 h0 v1 h1 v2 h2 v3 h3 v4 h4 v5 h5 v6 h6 v7 h7 v8 h8 v9 h9 v10 h10 v11 h11 h12
    obtain rfl : f = false := hf (by decide)
    clear hf
    have e0 : v0 = .pointer (some ⟨qb, 0, none⟩) := h0 rfl
    subst v0
    have e1 : v1 = .pointer (some ⟨qb, 0, none⟩) := h1 rfl
    subst v1
    have e2 : v2 = .pointer (some ⟨qb, 0, none⟩) := h2 rfl
    subst v2
    have e3 : v3 = .pointer (some ⟨qb, 1, none⟩) := h3 rfl
    subst v3
    have e4 : v4 = pv := h4 rfl
    subst v4
    have e5 : v5 = .slice lp M.length lc := h5 rfl
    subst v5
    have e10 : v10 = .pointer (some ⟨qb, 0, none⟩) := h10 rfl
    subst v10
    have e11 : v11 = .pointer (some ⟨qb, 1, none⟩) := h11 rfl
    subst v11
    clear h0 h1 h2 h3 h4 h5 h10 h11
    simp only [ends, Act.put, List.setIfInBounds_toArray, List.set_cons_succ, List.set_cons_zero]
    obtain ⟨lv, N, hN, hH, hK4⟩ := h12 rfl
    have HPx : Hid (∀ W5 v, QM (Up F w4.heap.size) (Up G w4.heap.size) W5 qb n (X ++ [⟨[] ++ b.take k, v, N, lv⟩]) → Keep (fun k => ¬ F k) w W5 → Post (.returned (.tuple #[.int .i64 (k : Int), .int .i64 0])) W5) := fun W5 v h1 h2 => HP.out w4.heap.size W5 v N lv hsz hN h1 h2
    have HXB : Hid (([] : List UInt8).length ≤ 100000) := Nat.zero_le _
    have HYl := HX16
    have HK4 : Hid (Keep (fun k => ¬ F k) w W) := (keep_on hb13).trans hK4
    have HFU : Hid (∀ j, W.heap.size ≤ j → Up F w4.heap.size j) := fun j hj => .inr (Nat.le_trans hK4.size hj)
    have HH : Hid (QH (Up F w4.heap.size) (Up G w4.heap.size) W qb n X ⟨[], .slice none 0 0, N, lv⟩) := hH
    clear h6 h7 h8 h9 HP hN hH hK4 HFinR HApp HS0 HY1 HLt hS
    obtain ⟨x, hx⟩ : ∃ x : PX, (⟨[], .slice none 0 0, N, lv⟩ : PX) = x := ⟨_, rfl⟩
    have hx1 : x.B = [] := by rw [← hx]
    have hx2 : x.M = N := by rw [← hx]
    have hx3 : x.lv = lv := by rw [← hx]
    rw [hx] at HH
    rw [← hx1] at HPx HXB
    rw [← hx2, ← hx3] at HPx
    clear hx hx1 hx2 hx3
    obtain ⟨W4, rfl⟩ : ∃ W4, W4 = W := ⟨_, rfl⟩
    obtain ⟨Y, rfl⟩ : ∃ Y, Y = X := ⟨_, rfl⟩
    have HA4 : Hid (AtO 5 (fun k => ¬ F k) W4 (some ⟨sb, so, none⟩) (bytesV b)) := HA.out.keep HK4.out
    have HUp : Hid (∀ j, j < w.heap.size → ¬ F j → ¬ Up F w4.heap.size j) := fun j hj h1 h2 => by
      rcases h2 with h2 | h2
      · exact h1 h2
      · omega
    have HsW : Hid (w.heap.size ≤ W4.heap.size) := HK4.out.size
    obtain ⟨FU, hFU⟩ : ∃ FU, Up F w4.heap.size = FU := ⟨_, rfl⟩
    obtain ⟨GU, hGU⟩ : ∃ GU, Up G w4.heap.size = GU := ⟨_, rfl⟩
    rw [hFU] at HPx HFU HH HUp
    rw [hGU] at HPx HH
    clear hFU hGU HA
    obtain ⟨g, gc, hbox, hFg, hgl, tg, hcx, hfx⟩ := HH.out.view
    have z1 := hbox.cell 1 rfl
    have HZ1 : Hid (∀ W, Below W4.heap.size W4 W → W.cell? ⟨g, Y.length * 2, none⟩ = some x.bv) := fun W hb => (hb.cell (p := ⟨g, Y.length * 2, none⟩) hgl).trans hcx
    have HApp2 : Hid (∀ W, Below W4.heap.size W4 W → ∃ v' W', (Builtin.append_ #[28, 28] 28 #[x.bv, .slice (some ⟨sb, so, none⟩) k cap]).run Try.prog W = .ok v' W' ∧ Mid2 FU W4 x (b.take k) v' W' ∧ Keep (fun k => ¬ FU k) W W') := fun W hb => by
      have hlast : BytA FU W x.bv x.B := (HH.out.on hb).last
      have hat : At W (some ⟨sb, so, none⟩) (bytesV (b.take k)) := by
        have := (HA4.out.at.on hb).take k
        simpa [bytesV] using this
      have hkl := HKl.out
      obtain ⟨v', W', hrun, h1, h2, h3⟩ := byt_append (l := b.take k) k (fun j hj => HFU.out j (Nat.le_trans hb.size hj)) hlast (some ⟨sb, so, none⟩) cap hat (fun e => by rw [e] at hkl; simp at hkl; omega) HXB.out (by rw [hkl]; have := HBL.out; have := HBl.out; omega) hkl
      refine ⟨v', W', hrun, ⟨h1, ⟨h2.os.trans hb.os, h2.tape.trans hb.tape, h2.output.trans hb.output, Nat.le_trans hb.size h2.size, fun j hj hne => (h2.block j (Nat.lt_of_lt_of_le hj hb.size) hne).trans (hb.block j hj)⟩, ?_⟩, keep_grown h2 fun j hj h7 => ?_⟩
      · rcases h3 with h3 | h3
        · exact .inl h3
        · exact .inr (Nat.le_trans hb.size h3)
      · rcases hlast with ⟨h8, _⟩ | h8
        · rw [h8] at hj; cases hj
        · rw [byt_own h8] at hj
          cases hj
          exact h7 h8.blk.1
    have HFinR2 : Hid (∀ W v, Mid2 FU W4 x (b.take k) v W → Fin2 FU GU W4 qb n Y x (b.take k) (W.setCell ⟨g, Y.length * 2, none⟩ v) ∧ Keep (fun k => ¬ FU k) W (W.setCell ⟨g, Y.length * 2, none⟩ v) ∧ W.cell? ⟨g, Y.length * 2, none⟩ = some x.bv ∧ W.frozen? ⟨g, Y.length * 2, none⟩ = false ∧ ∃ p c, v = .slice p (x.B ++ b.take k).length c) := fun W v hm => by
      have hne : some g ≠ x.bv.ownBlock := fun e => by
        rcases HH.out.last with ⟨h8, _⟩ | h8
        · rw [h8] at e; cases e
        · rw [byt_own h8] at e
          obtain ⟨_, cs, h9⟩ := h8.blk
          exact typ_ne tg (typ_blk h9) (by decide) (Option.some.inj e)
      have hbg := hm.keep.block g hgl hne
      refine ⟨hm.fin HH.out hbox, keep_but (but_set _ _ _ _) fun h7 => h7 hFg, ?_, ?_, ?_⟩
      · rw [World.cell?_of_block (a := ⟨g, Y.length * 2, none⟩) hbg]; exact hcx
      · rw [World.frozen?_of_block (a := ⟨g, Y.length * 2, none⟩) hbg]; exact hfx
      · obtain ⟨b9, o9, c9, _, e9, _⟩ := hm.byt.is
        exact ⟨_, _, e9⟩
    have HXf : Hid (∃ p c, x.bv = .slice p x.B.length c) := by
      rcases HH.out.last with ⟨h8, h9⟩ | h8
      · exact ⟨_, _, by rw [h8, h9]; rfl⟩
      · obtain ⟨b9, o9, c9, _, e9, _⟩ := h8.is
        exact ⟨_, _, e9⟩
    clear hbox tg hfx hcx HH
    have hiz : (Y.length : Int) < (Y.length : Int) + 1 := by omega
    have hyl : Y.length ≤ 16 := HYl.out
    have hwr : IntKind.i64.wrap ((Y.length : Int) + 1 - 1) = (Y.length : Int) := by rw [IntKind.wrap_i64] <;> omega
    go_wp2
    go_quiet (fail)
    go_wp2
    refine wp_region_three (S := fun f W => f = true → Below W4.heap.size W4 W) (u := 8) (Keep := KeepF FU [8, 11])
      (g := fun jj vv WW => (([.is (.pointer (some ⟨g, Y.length * 2, none⟩)), .is (.pointer (some ⟨g, Y.length * 2, none⟩)), .is (.pointer (some ⟨g, Y.length * 2, none⟩)), .is (.pointer (some ⟨g, Y.length * 2, none⟩)), .is (x.bv), .is (.slice (some ⟨sb, so, none⟩) bl cap), .is (.int .i64 (k : Int)), .is (.slice (some ⟨sb, so, none⟩) k cap), k28 FU W4 x (b.take k), .is (.pointer (some ⟨g, Y.length * 2, none⟩)), .is (.pointer (some ⟨g, Y.length * 2, none⟩)), k211 FU GU W4 qb n Y x (b.take k)] : List (Kd 0)).getD jj Kd.any).ok vv WW)
      (tab := [[(9, none)], [(9, none)], [(66, some 1)], [(67, some 2)], [(68, some 3)], [(1, none)], [(8, none)], [(70, some 5), (71, some 6)], [(69, some 4), (72, some 7)], [(65, some 0)], [(74, some 9)], [(75, some 10), (73, some 8)]]) (tl := [(8, 11)]) (n := 77)
      (by kernel_rfl) rfl (by kernel_rfl) (keep_f ?kR2) (fun _ => on_drew (on_drewN (Below.refl _ _) _)) ?stR2 ?enR2
    case kR2 =>
      intro u hu j hj
      simp only [List.mem_cons, List.not_mem_nil, or_false] at hu
      rcases hu with rfl | rfl
      · match j, hj with
        | 0, _ | 1, _ | 2, _ | 3, _ | 4, _ | 5, _ | 6, _ | 7, _ | 9, _ | 10, _ => exact .inr (.inr (stays_is _))
        | 11, _ => exact .inl (by kernel_rfl)
        | 8, hj => exact absurd rfl hj
        | j + 12, _ => exact .inr (.inr stays_any)
      · match j, hj with
        | 0, _ | 1, _ | 2, _ | 3, _ | 4, _ | 5, _ | 6, _ | 7, _ | 9, _ | 10, _ => exact .inr (.inr (stays_is _))
        | 8, _ => exact .inr (.inl ⟨11, rfl, .inl rfl⟩)
        | 11, hj => exact absurd rfl hj
        | j + 12, _ => exact .inr (.inr stays_any)
    case stR2 =>
      refine ⟨fun ρ W f hf hf2 hr hS hs => ?_, fun ρ W f hf hf2 hr hS hs => ?_, fun ρ W f hf hf2 hr hS hs => ?_, fun ρ W f hf hf2 hr hS hs => ?_, fun ρ W f hf hf2 hr hS hs => ?_, fun ρ W f hf hf2 hr hS hs => ?_, fun ρ W f hf hf2 hr hS hs => ?_, fun ρ W f hf hf2 hr hS hs => ?_, fun ρ W f hf hf2 hr hS hs => ?_, fun ρ W f hf hf2 hr hS hs => ?_, fun ρ W f hf hf2 hr hS hs => ?_, fun ρ W f hf hf2 hr hS hs => ?_, trivial⟩
      · have h9 : ρ (.tmp 9) = .pointer (some ⟨g, Y.length * 2, none⟩) := hs.1
        exact step_plain rfl (leaves_move (.tmp 9) rfl ⟨h9, by simpa using hS, .inr (Below.refl _ _)⟩)
      · have h9 : ρ (.tmp 9) = .pointer (some ⟨g, Y.length * 2, none⟩) := hs.1
        exact step_plain rfl (leaves_move (.tmp 9) rfl ⟨h9, by simpa using hS, .inr (Below.refl _ _)⟩)
      · have h66 : ρ (.tmp 66) = .pointer (some ⟨g, Y.length * 2, none⟩) := hs.1
        refine step_plain rfl (leaves_value (v := .pointer (some ⟨g, Y.length * 2, none⟩)) (w' := W) ?_ ⟨rfl, by simpa using hS, .inr (Below.refl _ _)⟩)
        simp [go_sem, h66]
      · have h67 : ρ (.tmp 67) = .pointer (some ⟨g, Y.length * 2, none⟩) := hs.1
        refine step_plain rfl (leaves_value (v := .pointer (some ⟨g, Y.length * 2, none⟩)) (w' := W) ?_ ⟨rfl, by simpa using hS, .inr (Below.refl _ _)⟩)
        simp [go_sem, h67]
      · have h68 : ρ (.tmp 68) = .pointer (some ⟨g, Y.length * 2, none⟩) := hs.1
        obtain rfl : f = true := hf (by kernel_rfl)
        have z1 := HZ1.out W (hS rfl)
        refine step_plain rfl (leaves_value (v := x.bv) (w' := W) ?_ ⟨rfl, by simpa using hS, .inr (Below.refl _ _)⟩)
        simp [go_sem, h68, z1]
      · have h1 : ρ (.tmp 1) = .slice (some ⟨sb, so, none⟩) bl cap := hs.1
        exact step_plain rfl (leaves_move (.tmp 1) rfl ⟨h1, by simpa using hS, .inr (Below.refl _ _)⟩)
      · have h8 : ρ (.tmp 8) = .int .i64 (k : Int) := hs.1
        exact step_plain rfl (leaves_move (.tmp 8) rfl ⟨h8, by simpa using hS, .inr (Below.refl _ _)⟩)
      · have h70 : ρ (.tmp 70) = .slice (some ⟨sb, so, none⟩) bl cap := hs.1
        have h71 : ρ (.tmp 71) = .int .i64 (k : Int) := hs.2.1
        refine step_plain rfl (leaves_sliceTo (.tmp 70) (.tmp 71) 28 rfl ?_ ⟨rfl, by simpa using hS, .inr (Below.refl _ _)⟩)
        rw [h70, h71, run_sliceAt_slice W 28 _ _ _ _ (by kernel_rfl)]
        exact slice_to elemByte sb so bl cap k (by omega) W
      · have h69 : ρ (.tmp 69) = x.bv := hs.1
        have h72 : ρ (.tmp 72) = .slice (some ⟨sb, so, none⟩) k cap := hs.2.1
        obtain rfl : f = true := hf (by kernel_rfl)
        obtain ⟨v', W', hrun, hmid, hkp⟩ := HApp2.out W (hS rfl)
        exact step_plain rfl (leaves_append (.tmp 69) (.tmp 72) 28 rfl (by rw [h69, h72]; exact hrun) ⟨hmid, (fun e => by cases e), .inl ⟨by simp, hkp⟩⟩)
      · have h65 : ρ (.tmp 65) = .pointer (some ⟨g, Y.length * 2, none⟩) := hs.1
        refine step_plain rfl (leaves_value (v := .pointer (some ⟨g, Y.length * 2, none⟩)) (w' := W) ?_ ⟨rfl, by simpa using hS, .inr (Below.refl _ _)⟩)
        simp [go_sem, h65]
      · have h74 : ρ (.tmp 74) = .pointer (some ⟨g, Y.length * 2, none⟩) := hs.1
        refine step_plain rfl (leaves_value (v := .pointer (some ⟨g, Y.length * 2, none⟩)) (w' := W) ?_ ⟨rfl, by simpa using hS, .inr (Below.refl _ _)⟩)
        simp [go_sem, h74]
      · have h75 : ρ (.tmp 75) = .pointer (some ⟨g, Y.length * 2, none⟩) := hs.1
        have h73 := hs.2.1
        obtain rfl : f = false := hf2 (by kernel_rfl)
        have hfin := HFinR2.out W _ h73
        refine step_plain rfl (leaves_skip (w' := W.setCell ⟨g, Y.length * 2, none⟩ (ρ (.tmp 73))) ?_ ⟨hfin.1, (fun e => by cases e), .inl ⟨by simp, hfin.2.1⟩⟩)
        obtain ⟨p73, c73, e73⟩ := hfin.2.2.2.2
        simp [go_sem, h75, hfin.2.2.1, hfin.2.2.2.1, e73]
    case enR2 =>
      intro f W hf hS v0 h0 v1 h1 v2 h2 v3 h3 v4 h4 v5 h5 v6 h6 v7 h7 v8 h8 v9 h9 v10 h10 h11
      obtain rfl : f = false := hf (by decide)
      clear hf
      have e0 : v0 = .pointer (some ⟨g, Y.length * 2, none⟩) := h0 rfl
      subst v0
      have e1 : v1 = .pointer (some ⟨g, Y.length * 2, none⟩) := h1 rfl
      subst v1
      have e2 : v2 = .pointer (some ⟨g, Y.length * 2, none⟩) := h2 rfl
      subst v2
      have e3 : v3 = .pointer (some ⟨g, Y.length * 2, none⟩) := h3 rfl
      subst v3
      have e4 : v4 = x.bv := h4 rfl
      subst v4
      have e5 : v5 = .slice (some ⟨sb, so, none⟩) bl cap := h5 rfl
      subst v5
      have e6 : v6 = .int .i64 (k : Int) := h6 rfl
      subst v6
      have e7 : v7 = .slice (some ⟨sb, so, none⟩) k cap := h7 rfl
      subst v7
      have e9 : v9 = .pointer (some ⟨g, Y.length * 2, none⟩) := h9 rfl
      subst v9
      have e10 : v10 = .pointer (some ⟨g, Y.length * 2, none⟩) := h10 rfl
      subst v10
      clear h0 h1 h2 h3 h4 h5 h6 h7 h9 h10
      simp only [ends, Act.put, List.setIfInBounds_toArray, List.set_cons_succ, List.set_cons_zero]
      obtain ⟨v5, hQ5, hKK⟩ := h11 rfl
      have HE : Hid (Post (.returned (.tuple #[.int .i64 (k : Int), .int .i64 0])) W) := by
        refine HPx.out W v5 hQ5 ?_
        have hk1 : Keep (fun j => ¬ F j ∧ j < w.heap.size) w W4 := HK4.out.mono fun _ _ h => h.1
        exact (hk1.trans (hKK _ fun j _ h => HUp.out j h.2 h.1)).mono fun j hj h => ⟨h, hj⟩
      go_wp2
      exact HE.out

set_option maxRecDepth 100000 in
set_option maxHeartbeats 2000000 in
theorem put_last {F G : Nat → Prop} {w : World} {qb n : Nat} {ps : List Pt} (h : QAt F G w qb n ps) (p lp : Option Addr) (cap lc : Nat) (b : List UInt8) (M : List PV) (hl : PasM (fun k => ¬ F k) w (.slice lp M.length lc) M) (hb : AtO 5 (fun k => ¬ F k) w p (bytesV b)) (hbc : b.length ≤ cap) (hbm : b.length ≤ 100000) (hfew : Few (M.map Prod.fst))
    (hgood : ¬ (b = [] ∨ 4 < (M.map Prod.fst).length)) (hroom : ¬ (total ps = n ∨ ((0 < (M.map Prod.fst).length ∨ ps = []) ∧ ps.length = 16))) (hbeg : ¬ (0 < (M.map Prod.fst).length ∨ ps = [])) :
    Calls Try.prog 65 #[.pointer (some ⟨qb, 0, none⟩), .slice p b.length cap, .slice lp M.length lc] w (PutPost F G w qb n ps b (M.map Prod.fst)) := by
  have cR := fun W (hb : Below w.heap.size w W) => room_any (h.on hb)
  have cB := fun W (hb : Below w.heap.size w W) => begins_any (h.on hb) lp M.length lc
  have hok := h.ok
  have hmost := h.ok.most
  have hall := h.ok.all
  have hlt := h.lt
  have hbl : b.length ≠ 0 := fun e => hgood (.inl (List.eq_nil_of_length_eq_zero e))
  obtain ⟨X, rfl, hM, _, _⟩ := h
  have ed : decide (0 < M.length ∨ X.map PX.pt = []) = false := by have := hbeg; rw [List.length_map] at this; exact decide_eq_false this
  rw [ed] at cB
  clear ed
  have hTn : total (X.map PX.pt) ≠ n := fun e => hroom (.inl e)
  obtain ⟨k, hk⟩ : ∃ k, min b.length (n - total (X.map PX.pt)) = k := ⟨_, rfl⟩
  have hkb : k ≤ b.length := by omega
  have hk0 : 0 < k := by omega
  have htk : b.take (n - total (X.map PX.pt)) = b.take k := by
    rw [← hk, List.take_eq_take_iff]; omega
  have hl4 : M.length ≤ 4 := by have := hfew.1; simpa using this
  have hkl : (b.take k).length = k := by rw [List.length_take]; omega
  obtain ⟨Y, x, rfl⟩ : ∃ Y x, X = Y ++ [x] := by
    have hX : X ≠ [] := fun e => hbeg (.inr (by rw [e]; rfl))
    exact ⟨X.dropLast, X.getLast hX, (List.dropLast_concat_getLast hX).symm⟩
  have HP : Hid (∀ m W5 v, w.heap.size ≤ m → QM (Up F m) (Up G m) W5 qb n (Y ++ [⟨x.B ++ b.take k, v, x.M, x.lv⟩]) → Keep (fun k => ¬ F k) w W5 → PutPost F G w qb n ((Y ++ [x]).map PX.pt) b (M.map Prod.fst) (.returned (.tuple #[.int .i64 (k : Int), .int .i64 0])) W5) := fun m W5 v hm hQ hK => by
    have e0 : (Y ++ [x]).map PX.pt = Y.map PX.pt ++ [x.pt] := by simp
    have e : putF n ((Y ++ [x]).map PX.pt) b (M.map Prod.fst) = (Y.map PX.pt ++ [(x.B ++ b.take k, x.M.map Prod.fst)], k, 0) := by
      unfold putF; rw [if_neg hgood, if_neg hroom, if_neg hbeg, htk, hk, e0, addLast_snoc]; rfl
    have e2 : (Y ++ [(⟨x.B ++ b.take k, v, x.M, x.lv⟩ : PX)]).map PX.pt = Y.map PX.pt ++ [(x.B ++ b.take k, x.M.map Prod.fst)] := by simp [PX.pt]
    obtain ⟨h1, h2⟩ := QAt.of_up (hQ.sure (F' := Up F w.heap.size) (G' := Up G w.heap.size) (fun j _ _ h7 => h7.imp id (Nat.le_trans hm)) (fun j _ _ h7 => h7.imp id (Nat.le_trans hm))) (by
      rw [e2]
      rw [e0] at hok
      exact ok_last (x := x.pt) hok (by rw [← e0, hkl]; omega)) hK
    rw [e2] at h1
    exact ⟨_, _, by rw [e], by rw [e]; exact h1, h2⟩
  have HXB : Hid (x.B.length ≤ 100000) := by
    have h7 := hok.all
    rw [List.map_append, total_app] at h7
    have h8 : total (List.map PX.pt [x]) = x.B.length := by simp [total, PX.pt]
    rw [h8] at h7
    show x.B.length ≤ 100000
    omega
  obtain ⟨sb, so, rfl, _⟩ := hb.at.place (k := 0) (by simp; omega)
  have hmin : (if (n : Int) - (total ((Y ++ [x]).map PX.pt) : Int) < (b.length : Int) then (n : Int) - (total ((Y ++ [x]).map PX.pt) : Int) else (b.length : Int)) = (k : Int) := by split <;> omega
  have hmin2 : min (b.length : Int) ((n : Int) - (total ((Y ++ [x]).map PX.pt) : Int)) = (k : Int) := by omega
  have HFew : Hid (M.length ≤ 4 ∧ ∀ x ∈ M, x.1.ints.length ≤ 1000) := ⟨hl4, fun x hx => by have := hfew.2 x.1 (List.mem_map_of_mem hx); omega⟩
  have HQ : Hid (QM F G w qb n (Y ++ [x])) := hM
  have HL : Hid (PasM (fun k => ¬ F k) w (.slice lp M.length lc) M) := hl
  have HA : Hid (AtO 5 (fun k => ¬ F k) w (some ⟨sb, so, none⟩) (bytesV b)) := hb
  have HLt0 : Hid (∀ k, F k → k < w.heap.size) := hlt
  have HBl : Hid (k ≤ b.length) := hkb
  have HBL : Hid (b.length ≤ 100000) := hbm
  have hcap : k ≤ cap := by omega
  have HX16 : Hid ((Y ++ [x]).length ≤ 16) := by have := hok.few; rw [List.length_map] at this; exact this
  have HKl : Hid ((b.take k).length = k) := hkl
  obtain ⟨q0, qc0, hB0, _, _⟩ := hM.view
  have x1 := hB0.cell 1 rfl
  have hq := hB0.lt
  generalize total ((Y ++ [x]).map PX.pt) = T at *
  generalize PutPost F G w qb n ((Y ++ [x]).map PX.pt) b (M.map Prod.fst) = Post at *
  clear hM hl hb hlt hk htk hok hroom hgood hbeg hfew hbm hB0 hkl
  generalize b.length = bl at *
  have hbz : ¬ (bl : Int) = 0 := by omega
  have hl4z : ¬ (4 : Int) < (M.length : Int) := by omega
  have hTz : ¬ (n : Int) - (T : Int) = 0 := by omega
  clear hbl hTn
  go_enter Try.func65, Try.ntmps65
  go_wp2_with fail
  refine (cR _ (Below.refl _ _)).mono ?_
  rintro e w1 ⟨rfl, hb1⟩
  go_wp2_with fail
  refine (cB _ hb1).mono ?_
  rintro e w2 ⟨rfl, rfl⟩
  have y1 := (hb1.cell (p := ⟨qb, 1, none⟩) hq).trans x1
  go_wp2_with fail
  refine (cR _ hb1).mono ?_
  rintro e w3 ⟨rfl, hb3⟩
  have hb13 := on_trans hb1 hb3
  go_wp2_with fail
  refine (cB _ hb13).mono ?_
  rintro e w4 ⟨rfl, rfl⟩
  have hQ3 := HQ.out.keep (keep_on hb13)
  have hsz := hb13.size
  clear cR cB hmin hmin2 hb3 y1 x1
  have HPx : Hid (∀ W5 v, QM (Up F w4.heap.size) (Up G w4.heap.size) W5 qb n (Y ++ [⟨x.B ++ b.take k, v, x.M, x.lv⟩]) → Keep (fun k => ¬ F k) w W5 → Post (.returned (.tuple #[.int .i64 (k : Int), .int .i64 0])) W5) := fun W5 v h1 h2 => HP.out w4.heap.size W5 v hsz h1 h2
  have HK4 : Hid (Keep (fun k => ¬ F k) w w4) := keep_on hb13
  have HFU : Hid (∀ j, w4.heap.size ≤ j → Up F w4.heap.size j) := fun j hj => .inr hj
  have HH : Hid (QH (Up F w4.heap.size) (Up G w4.heap.size) w4 qb n Y x) := (hQ3.sure (F' := Up F w4.heap.size) (G' := Up G w4.heap.size) (fun j _ _ h7 => .inl h7) (fun j _ _ h7 => .inl h7)).half
  have HYl : Hid (Y.length ≤ 16) := by have := HX16.out; rw [List.length_append] at this; show Y.length ≤ 16; omega
  clear HP hQ3 HL
  have HA4 : Hid (AtO 5 (fun k => ¬ F k) w4 (some ⟨sb, so, none⟩) (bytesV b)) := HA.out.keep HK4.out
  have HUp : Hid (∀ j, j < w.heap.size → ¬ F j → ¬ Up F w4.heap.size j) := fun j hj h1 h2 => by
    rcases h2 with h2 | h2
    · exact h1 h2
    · omega
  have HsW : Hid (w.heap.size ≤ w4.heap.size) := HK4.out.size
  obtain ⟨FU, hFU⟩ : ∃ FU, Up F w4.heap.size = FU := ⟨_, rfl⟩
  obtain ⟨GU, hGU⟩ : ∃ GU, Up G w4.heap.size = GU := ⟨_, rfl⟩
  rw [hFU] at HPx HFU HH HUp
  rw [hGU] at HPx HH
  clear hFU hGU HA
  obtain ⟨g, gc, hbox, hFg, hgl, tg, hcx, hfx⟩ := HH.out.view
  have z1 := hbox.cell 1 rfl
  have HZ1 : Hid (∀ W, Below w4.heap.size w4 W → W.cell? ⟨g, Y.length * 2, none⟩ = some x.bv) := fun W hb => (hb.cell (p := ⟨g, Y.length * 2, none⟩) hgl).trans hcx
  have HApp2 : Hid (∀ W, Below w4.heap.size w4 W → ∃ v' W', (Builtin.append_ #[28, 28] 28 #[x.bv, .slice (some ⟨sb, so, none⟩) k cap]).run Try.prog W = .ok v' W' ∧ Mid2 FU w4 x (b.take k) v' W' ∧ Keep (fun k => ¬ FU k) W W') := fun W hb => by
    have hlast : BytA FU W x.bv x.B := (HH.out.on hb).last
    have hat : At W (some ⟨sb, so, none⟩) (bytesV (b.take k)) := by
      have := (HA4.out.at.on hb).take k
      simpa [bytesV] using this
    have hkl := HKl.out
    obtain ⟨v', W', hrun, h1, h2, h3⟩ := byt_append (l := b.take k) k (fun j hj => HFU.out j (Nat.le_trans hb.size hj)) hlast (some ⟨sb, so, none⟩) cap hat (fun e => by rw [e] at hkl; simp at hkl; omega) HXB.out (by rw [hkl]; have := HBL.out; have := HBl.out; omega) hkl
    refine ⟨v', W', hrun, ⟨h1, ⟨h2.os.trans hb.os, h2.tape.trans hb.tape, h2.output.trans hb.output, Nat.le_trans hb.size h2.size, fun j hj hne => (h2.block j (Nat.lt_of_lt_of_le hj hb.size) hne).trans (hb.block j hj)⟩, ?_⟩, keep_grown h2 fun j hj h7 => ?_⟩
    · rcases h3 with h3 | h3
      · exact .inl h3
      · exact .inr (Nat.le_trans hb.size h3)
    · rcases hlast with ⟨h8, _⟩ | h8
      · rw [h8] at hj; cases hj
      · rw [byt_own h8] at hj
        cases hj
        exact h7 h8.blk.1
  have HFinR2 : Hid (∀ W v, Mid2 FU w4 x (b.take k) v W → Fin2 FU GU w4 qb n Y x (b.take k) (W.setCell ⟨g, Y.length * 2, none⟩ v) ∧ Keep (fun k => ¬ FU k) W (W.setCell ⟨g, Y.length * 2, none⟩ v) ∧ W.cell? ⟨g, Y.length * 2, none⟩ = some x.bv ∧ W.frozen? ⟨g, Y.length * 2, none⟩ = false ∧ ∃ p c, v = .slice p (x.B ++ b.take k).length c) := fun W v hm => by
    have hne : some g ≠ x.bv.ownBlock := fun e => by
      rcases HH.out.last with ⟨h8, _⟩ | h8
      · rw [h8] at e; cases e
      · rw [byt_own h8] at e
        obtain ⟨_, cs, h9⟩ := h8.blk
        exact typ_ne tg (typ_blk h9) (by decide) (Option.some.inj e)
    have hbg := hm.keep.block g hgl hne
    refine ⟨hm.fin HH.out hbox, keep_but (but_set _ _ _ _) fun h7 => h7 hFg, ?_, ?_, ?_⟩
    · rw [World.cell?_of_block (a := ⟨g, Y.length * 2, none⟩) hbg]; exact hcx
    · rw [World.frozen?_of_block (a := ⟨g, Y.length * 2, none⟩) hbg]; exact hfx
    · obtain ⟨b9, o9, c9, _, e9, _⟩ := hm.byt.is
      exact ⟨_, _, e9⟩
  have HXf : Hid (∃ p c, x.bv = .slice p x.B.length c) := by
    rcases HH.out.last with ⟨h8, h9⟩ | h8
    · exact ⟨_, _, by rw [h8, h9]; rfl⟩
    · obtain ⟨b9, o9, c9, _, e9, _⟩ := h8.is
      exact ⟨_, _, e9⟩
  clear hbox tg hfx hcx HH
  have hiz : (Y.length : Int) < (Y.length : Int) + 1 := by omega
  have hyl : Y.length ≤ 16 := HYl.out
  have hwr : IntKind.i64.wrap ((Y.length : Int) + 1 - 1) = (Y.length : Int) := by rw [IntKind.wrap_i64] <;> omega
  go_wp2
  go_quiet (fail)
  go_wp2
  refine wp_region_three (S := fun f W => f = true → Below w4.heap.size w4 W) (u := 8) (Keep := KeepF FU [8, 11])
    (g := fun jj vv WW => (([.is (.pointer (some ⟨g, Y.length * 2, none⟩)), .is (.pointer (some ⟨g, Y.length * 2, none⟩)), .is (.pointer (some ⟨g, Y.length * 2, none⟩)), .is (.pointer (some ⟨g, Y.length * 2, none⟩)), .is (x.bv), .is (.slice (some ⟨sb, so, none⟩) bl cap), .is (.int .i64 (k : Int)), .is (.slice (some ⟨sb, so, none⟩) k cap), k28 FU w4 x (b.take k), .is (.pointer (some ⟨g, Y.length * 2, none⟩)), .is (.pointer (some ⟨g, Y.length * 2, none⟩)), k211 FU GU w4 qb n Y x (b.take k)] : List (Kd 0)).getD jj Kd.any).ok vv WW)
    (tab := [[(9, none)], [(9, none)], [(66, some 1)], [(67, some 2)], [(68, some 3)], [(1, none)], [(8, none)], [(70, some 5), (71, some 6)], [(69, some 4), (72, some 7)], [(65, some 0)], [(74, some 9)], [(75, some 10), (73, some 8)]]) (tl := [(8, 11)]) (n := 77)
    (by kernel_rfl) rfl (by kernel_rfl) (keep_f ?kR3) (fun _ => on_drew (on_drewN (Below.refl _ _) _)) ?stR3 ?enR3
  case kR3 =>
    intro u hu j hj
    simp only [List.mem_cons, List.not_mem_nil, or_false] at hu
    rcases hu with rfl | rfl
    · match j, hj with
      | 0, _ | 1, _ | 2, _ | 3, _ | 4, _ | 5, _ | 6, _ | 7, _ | 9, _ | 10, _ => exact .inr (.inr (stays_is _))
      | 11, _ => exact .inl (by kernel_rfl)
      | 8, hj => exact absurd rfl hj
      | j + 12, _ => exact .inr (.inr stays_any)
    · match j, hj with
      | 0, _ | 1, _ | 2, _ | 3, _ | 4, _ | 5, _ | 6, _ | 7, _ | 9, _ | 10, _ => exact .inr (.inr (stays_is _))
      | 8, _ => exact .inr (.inl ⟨11, rfl, .inl rfl⟩)
      | 11, hj => exact absurd rfl hj
      | j + 12, _ => exact .inr (.inr stays_any)
  case stR3 =>
    refine ⟨fun ρ W f hf hf2 hr hS hs => ?_, fun ρ W f hf hf2 hr hS hs => ?_, fun ρ W f hf hf2 hr hS hs => ?_, fun ρ W f hf hf2 hr hS hs => ?_, fun ρ W f hf hf2 hr hS hs => ?_, fun ρ W f hf hf2 hr hS hs => ?_, fun ρ W f hf hf2 hr hS hs => ?_, fun ρ W f hf hf2 hr hS hs => ?_, fun ρ W f hf hf2 hr hS hs => ?_, fun ρ W f hf hf2 hr hS hs => ?_, fun ρ W f hf hf2 hr hS hs => ?_, fun ρ W f hf hf2 hr hS hs => ?_, trivial⟩
    · have h9 : ρ (.tmp 9) = .pointer (some ⟨g, Y.length * 2, none⟩) := hs.1
      exact step_plain rfl (leaves_move (.tmp 9) rfl ⟨h9, by simpa using hS, .inr (Below.refl _ _)⟩)
    · have h9 : ρ (.tmp 9) = .pointer (some ⟨g, Y.length * 2, none⟩) := hs.1
      exact step_plain rfl (leaves_move (.tmp 9) rfl ⟨h9, by simpa using hS, .inr (Below.refl _ _)⟩)
    · have h66 : ρ (.tmp 66) = .pointer (some ⟨g, Y.length * 2, none⟩) := hs.1
      refine step_plain rfl (leaves_value (v := .pointer (some ⟨g, Y.length * 2, none⟩)) (w' := W) ?_ ⟨rfl, by simpa using hS, .inr (Below.refl _ _)⟩)
      simp [go_sem, h66]
    · have h67 : ρ (.tmp 67) = .pointer (some ⟨g, Y.length * 2, none⟩) := hs.1
      refine step_plain rfl (leaves_value (v := .pointer (some ⟨g, Y.length * 2, none⟩)) (w' := W) ?_ ⟨rfl, by simpa using hS, .inr (Below.refl _ _)⟩)
      simp [go_sem, h67]
    · have h68 : ρ (.tmp 68) = .pointer (some ⟨g, Y.length * 2, none⟩) := hs.1
      obtain rfl : f = true := hf (by kernel_rfl)
      have z1 := HZ1.out W (hS rfl)
      refine step_plain rfl (leaves_value (v := x.bv) (w' := W) ?_ ⟨rfl, by simpa using hS, .inr (Below.refl _ _)⟩)
      simp [go_sem, h68, z1]
    · have h1 : ρ (.tmp 1) = .slice (some ⟨sb, so, none⟩) bl cap := hs.1
      exact step_plain rfl (leaves_move (.tmp 1) rfl ⟨h1, by simpa using hS, .inr (Below.refl _ _)⟩)
    · have h8 : ρ (.tmp 8) = .int .i64 (k : Int) := hs.1
      exact step_plain rfl (leaves_move (.tmp 8) rfl ⟨h8, by simpa using hS, .inr (Below.refl _ _)⟩)
    · have h70 : ρ (.tmp 70) = .slice (some ⟨sb, so, none⟩) bl cap := hs.1
      have h71 : ρ (.tmp 71) = .int .i64 (k : Int) := hs.2.1
      refine step_plain rfl (leaves_sliceTo (.tmp 70) (.tmp 71) 28 rfl ?_ ⟨rfl, by simpa using hS, .inr (Below.refl _ _)⟩)
      rw [h70, h71, run_sliceAt_slice W 28 _ _ _ _ (by kernel_rfl)]
      exact slice_to elemByte sb so bl cap k (by omega) W
    · have h69 : ρ (.tmp 69) = x.bv := hs.1
      have h72 : ρ (.tmp 72) = .slice (some ⟨sb, so, none⟩) k cap := hs.2.1
      obtain rfl : f = true := hf (by kernel_rfl)
      obtain ⟨v', W', hrun, hmid, hkp⟩ := HApp2.out W (hS rfl)
      exact step_plain rfl (leaves_append (.tmp 69) (.tmp 72) 28 rfl (by rw [h69, h72]; exact hrun) ⟨hmid, (fun e => by cases e), .inl ⟨by simp, hkp⟩⟩)
    · have h65 : ρ (.tmp 65) = .pointer (some ⟨g, Y.length * 2, none⟩) := hs.1
      refine step_plain rfl (leaves_value (v := .pointer (some ⟨g, Y.length * 2, none⟩)) (w' := W) ?_ ⟨rfl, by simpa using hS, .inr (Below.refl _ _)⟩)
      simp [go_sem, h65]
    · have h74 : ρ (.tmp 74) = .pointer (some ⟨g, Y.length * 2, none⟩) := hs.1
      refine step_plain rfl (leaves_value (v := .pointer (some ⟨g, Y.length * 2, none⟩)) (w' := W) ?_ ⟨rfl, by simpa using hS, .inr (Below.refl _ _)⟩)
      simp [go_sem, h74]
    · have h75 : ρ (.tmp 75) = .pointer (some ⟨g, Y.length * 2, none⟩) := hs.1
      have h73 := hs.2.1
      obtain rfl : f = false := hf2 (by kernel_rfl)
      have hfin := HFinR2.out W _ h73
      refine step_plain rfl (leaves_skip (w' := W.setCell ⟨g, Y.length * 2, none⟩ (ρ (.tmp 73))) ?_ ⟨hfin.1, (fun e => by cases e), .inl ⟨by simp, hfin.2.1⟩⟩)
      obtain ⟨p73, c73, e73⟩ := hfin.2.2.2.2
      simp [go_sem, h75, hfin.2.2.1, hfin.2.2.2.1, e73]
  case enR3 =>
    intro f W hf hS v0 h0 v1 h1 v2 h2 v3 h3 v4 h4 v5 h5 v6 h6 v7 h7 v8 h8 v9 h9 v10 h10 h11
    obtain rfl : f = false := hf (by decide)
    clear hf
    have e0 : v0 = .pointer (some ⟨g, Y.length * 2, none⟩) := h0 rfl
    subst v0
    have e1 : v1 = .pointer (some ⟨g, Y.length * 2, none⟩) := h1 rfl
    subst v1
    have e2 : v2 = .pointer (some ⟨g, Y.length * 2, none⟩) := h2 rfl
    subst v2
    have e3 : v3 = .pointer (some ⟨g, Y.length * 2, none⟩) := h3 rfl
    subst v3
    have e4 : v4 = x.bv := h4 rfl
    subst v4
    have e5 : v5 = .slice (some ⟨sb, so, none⟩) bl cap := h5 rfl
    subst v5
    have e6 : v6 = .int .i64 (k : Int) := h6 rfl
    subst v6
    have e7 : v7 = .slice (some ⟨sb, so, none⟩) k cap := h7 rfl
    subst v7
    have e9 : v9 = .pointer (some ⟨g, Y.length * 2, none⟩) := h9 rfl
    subst v9
    have e10 : v10 = .pointer (some ⟨g, Y.length * 2, none⟩) := h10 rfl
    subst v10
    clear h0 h1 h2 h3 h4 h5 h6 h7 h9 h10
    simp only [ends, Act.put, List.setIfInBounds_toArray, List.set_cons_succ, List.set_cons_zero]
    obtain ⟨v5, hQ5, hKK⟩ := h11 rfl
    have HE : Hid (Post (.returned (.tuple #[.int .i64 (k : Int), .int .i64 0])) W) := by
      refine HPx.out W v5 hQ5 ?_
      have hk1 : Keep (fun j => ¬ F j ∧ j < w.heap.size) w w4 := HK4.out.mono fun _ _ h => h.1
      exact (hk1.trans (hKK _ fun j _ h => HUp.out j h.2 h.1)).mono fun j hj h => ⟨h, hj⟩
    go_wp2
    exact HE.out

/-- Put, whatever is put. -/
theorem put_any {F G : Nat → Prop} {w : World} {qb n : Nat} {ps : List Pt} (h : QAt F G w qb n ps) (v lv : Value) (b : List UInt8) (L : List Ps) (hb : BytO (fun k => ¬ F k) w v b) (hl : PasO (fun k => ¬ F k) w lv L) (hbm : b.length ≤ 100000) (hfew : ∀ y ∈ L, y.ints.length ≤ 100) :
    Calls Try.prog 65 #[.pointer (some ⟨qb, 0, none⟩), v, lv] w (PutPost F G w qb n ps b L) := by
  obtain ⟨M, rfl, hM⟩ := hl
  obtain ⟨p, cap, rfl, hbc, hat⟩ := hb
  obtain ⟨lp, lc, e, hlc, hlat⟩ := hM.row
  subst e
  have el : (M.map Prod.fst).length = M.length := List.length_map ..
  by_cases hgood : b = [] ∨ 4 < (M.map Prod.fst).length
  · have := put_bad h p lp cap lc b (M.map Prod.fst) hgood
    rwa [el] at this
  by_cases hroom : total ps = n ∨ ((0 < (M.map Prod.fst).length ∨ ps = []) ∧ ps.length = 16)
  · have := put_full h p lp cap lc b (M.map Prod.fst) hgood hroom
    rwa [el] at this
  have hf : Few (M.map Prod.fst) := ⟨Nat.le_of_not_lt fun e => hgood (.inr e), hfew⟩
  by_cases hbeg : 0 < (M.map Prod.fst).length ∨ ps = []
  · exact put_begin h p lp cap lc b M hM hat hbc hbm hf hgood hroom hbeg
  · exact put_last h p lp cap lc b M hM hat hbc hbm hf hgood hroom hbeg

end Go.Proofs.Ytfhkdndgiofidaa.K
