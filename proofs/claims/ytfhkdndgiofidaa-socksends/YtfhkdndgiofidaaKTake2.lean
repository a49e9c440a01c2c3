/- Package queue: Take. -/
import Derived.Test.YtfhkdndgiofidaaKTake
namespace Go.Proofs.Ytfhkdndgiofidaa.K
open Go Go.RowKit

/-- What Take leaves: the parts, bytes, what is told, the others. -/
def takeF (ps : List Pt) (k most : Int) : List Pt × List UInt8 × List Ps × List Ps :=
  match ps with
  | [] => ([], [], [], [])
  | x :: r => if k < 1 then (x :: r, [], [], []) else ((if k < (x.1.length : Int) then (x.1.drop k.toNat, []) :: r else r), x.1.take k.toNat, x.2.take most.toNat, x.2.drop most.toNat)
theorem ok_told {n : Nat} {B : List UInt8} {L : List Ps} {r : List Pt} (h : Ok n ((B, L) :: r)) : Ok n ((B, []) :: r) := by
  refine ⟨h.pos, h.most, by have := h.all; simpa [total] using this, by have := h.few; simpa using this, fun x hx => ?_, fun x hx => h.tail x hx, fun x hx => ?_⟩
  · rcases List.mem_cons.1 hx with rfl | hx
    · exact h.some (B, L) (List.mem_cons_self)
    · exact h.some x (List.mem_cons_of_mem _ hx)
  · rcases List.mem_cons.1 hx with rfl | hx
    · exact ⟨Nat.zero_le _, fun y hy => by simp at hy⟩
    · exact h.pass x (List.mem_cons_of_mem _ hx)
theorem ok_less {n : Nat} {B : List UInt8} {r : List Pt} (h : Ok n ((B, []) :: r)) (k : Nat) (hk : k < B.length) : Ok n ((B.drop k, []) :: r) := by
  refine ⟨h.pos, h.most, by have := h.all; simp [total] at this ⊢; omega, by have := h.few; simpa using this, fun x hx => ?_, fun x hx => h.tail x hx, fun x hx => ?_⟩
  · rcases List.mem_cons.1 hx with rfl | hx
    · intro e
      have := congrArg List.length e
      simp at this
      omega
    · exact h.some x (List.mem_cons_of_mem _ hx)
  · rcases List.mem_cons.1 hx with rfl | hx
    · exact ⟨Nat.zero_le _, fun y hy => by simp at hy⟩
    · exact h.pass x (List.mem_cons_of_mem _ hx)
theorem ok_tail {n : Nat} {x : Pt} {r : List Pt} (h : Ok n (x :: r)) : Ok n r :=
  ⟨h.pos, h.most, by have := h.all; simp [total] at this ⊢; omega, by have := h.few; simp at this; omega, fun y hy => h.some y (List.mem_cons_of_mem _ hy), fun y hy => h.tail y (List.mem_of_mem_tail hy), fun y hy => h.pass y (List.mem_cons_of_mem _ hy)⟩

/-- Of what was the queue's, what it writes to. -/
def FF (F : Nat → Prop) (w : World) (k : Nat) : Prop := F k ∧ Wr w k
theorem QAt.of_same {F G : Nat → Prop} {w w' : World} {qb n : Nat} {X : List PX} (h : QM F G w' qb n X) (hok : Ok n (X.map PX.pt)) (hF : ∀ k, F k → k < w.heap.size) (hG : ∀ k, G k → k < w.heap.size) (hk : Keep (fun k => ¬ F k) w w') : QM (FF F w') G w' qb n X ∧ QAt (FF F w') G w' qb n (X.map PX.pt) ∧ Goes F G (FF F w') G w w' := by
  have h1 : QM (FF F w') G w' qb n X := h.sure (fun _ _ h2 h3 => ⟨h3, h2⟩) fun _ _ _ h => h
  exact ⟨h1, ⟨X, rfl, h1, hok, fun k h2 => ⟨Nat.lt_of_lt_of_le (hF k h2.1) hk.size, h2.2⟩, fun k h2 => Nat.lt_of_lt_of_le (hG k h2) hk.size⟩, hk, fun _ h => .inl h.1, fun _ h => .inl h⟩

/-- What Take leaves. -/
def TakePost (F G : Nat → Prop) (w : World) (qb n : Nat) (ps : List Pt) (k most : Int) (e : Ending) (w' : World) : Prop :=
  ∃ F' v1 v2 v3, e = .returned (.tuple #[v1, v2, v3]) ∧ QAt F' G w' qb n (takeF ps k most).1 ∧ Goes F G F' G w w' ∧ BytO (fun j => w.heap.size ≤ j) w' v1 (takeF ps k most).2.1 ∧ PasO G w' v2 (takeF ps k most).2.2.1 ∧ PasO G w' v3 (takeF ps k most).2.2.2
theorem take_nil (k most : Int) (w : World) : Calls Try.prog 66 #[.pointer none, .int .i64 k, .int .i64 most] w fun e w' => e = .returned (.tuple #[.slice none 0 0, .slice none 0 0, .slice none 0 0]) ∧ w' = w := by
  have cL := len_nil w
  by_cases hk : k < 1
  · go_enter Try.func66, Try.ntmps66
    go_wp2
    go_ret3
    exact ⟨rfl, rfl⟩
  · go_enter Try.func66, Try.ntmps66
    go_wp2_with fail
    refine cL.mono ?_
    rintro e w1 ⟨rfl, rfl⟩
    go_wp2
    go_ret3
    exact ⟨rfl, rfl⟩
theorem en_tb : ∀ args w, (callFunc 85 args).run Try.prog w = .ok (.enter 85 args) w := fun _ _ => by simp [callFunc, Try.func85]; rfl

set_option maxRecDepth 100000 in
set_option maxHeartbeats 2000000 in
theorem take_any {F G : Nat → Prop} {w : World} {qb n : Nat} {ps : List Pt} (h : QAt F G w qb n ps) (k most : Int) (hk2 : k ≤ 9223372036854775807) :
    Calls Try.prog 66 #[.pointer (some ⟨qb, 0, none⟩), .int .i64 k, .int .i64 most] w (TakePost F G w qb n ps k most) := by
  have HN : Hid (takeF ps k most = (ps, [], [], []) → ∀ W, Below w.heap.size w W → TakePost F G w qb n ps k most (.returned (.tuple #[.slice none 0 0, .slice none 0 0, .slice none 0 0])) W) := fun e W hb => by
    unfold TakePost
    rw [e]
    exact ⟨F, _, _, _, rfl, h.on hb, .on hb, BytO.nil _ _, PasO.nil _ _, PasO.nil _ _⟩
  by_cases hk : k < 1
  · have HE := HN.out (by
      cases ps with
      | nil => rfl
      | cons x r => simp [takeF, hk]) w (Below.refl _ _)
    generalize TakePost F G w qb n ps k most = Post at *
    clear HN h
    go_enter Try.func66, Try.ntmps66
    go_wp2
    go_ret3
    exact HE
  · have cL := len_any h
    have hz := total_zero h.ok
    have hok := h.ok
    have hF := h.lt
    have hG := h.ltG
    obtain ⟨X, rfl, hM, _, hFw, _⟩ := h
    cases X with
    | nil =>
      have HE := HN.out rfl
      generalize TakePost F G w qb n _ k most = Post at *
      have ht : total (([] : List PX).map PX.pt) = 0 := rfl
      rw [ht] at cL
      clear HN hM hok hz
      go_enter Try.func66, Try.ntmps66
      go_wp2_with fail
      refine cL.mono ?_
      rintro e w1 ⟨rfl, hb⟩
      go_wp2
      go_ret3
      exact HE _ hb
    | cons x R =>
      clear HN
      obtain ⟨p, cap, hbox, hcap, hv⟩ := hM.view
      obtain ⟨g, rfl, hFg, hg, hc0, hc1, hf0, hf1⟩ := hv 0 x rfl
      rw [Nat.zero_mul, Nat.zero_add] at hc1 hf1
      have hl1 : (x :: R).length = R.length + 1 := rfl
      rw [hl1] at hbox hcap
      have x1 := hbox.cell 1 rfl
      obtain ⟨pv, hb2, hrow, _⟩ := hM.box
      obtain rfl : pv = .slice (some ⟨g, 0, none⟩) (R.length + 1) cap := by
        have := hb2.row
        rw [hbox.row] at this
        simp at this
        exact this.symm
      have tg : typ w g 87 := by
        obtain ⟨_, _, cur, h7⟩ := row_lt hrow (g := g) rfl
        exact ⟨_, _, h7⟩
      have hgq : g ≠ qb := typ_ne tg (typ_blk hbox) (by decide)
      have hxm := hM.pas x (List.mem_cons_self)
      have hxf := hok.pass x.pt (by simp)
      have hx4 : x.M.length ≤ 4 := by have := hxf.1; simpa [PX.pt] using this
      have hT4 : total ((x :: R).map PX.pt) ≤ 4096 := Nat.le_trans hok.all hok.most
      have hTne : total ((x :: R).map PX.pt) ≠ 0 := fun e => by simp at hz; exact hz e
      obtain ⟨lp, lc, hlv, _⟩ := hxm.row
      rw [hlv] at hc1
      have cC := fun W (hb : Below w.heap.size w W) => cut_any (hxm.keep (keep_on hb)) (by omega) most
      rw [hlv] at cC
      -- behind the store
      have HM2 : Hid (∀ w1, Below w.heap.size w w1 → QM (FF F (w1.setCell ⟨g, 1, none⟩ (.slice none 0 0))) G (w1.setCell ⟨g, 1, none⟩ (.slice none 0 0)) qb n (⟨x.B, x.bv, [], .slice none 0 0⟩ :: R) ∧ QAt (FF F (w1.setCell ⟨g, 1, none⟩ (.slice none 0 0))) G (w1.setCell ⟨g, 1, none⟩ (.slice none 0 0)) qb n ((⟨x.B, x.bv, [], .slice none 0 0⟩ :: R).map PX.pt) ∧ Keep (fun k => ¬ F k) w (w1.setCell ⟨g, 1, none⟩ (.slice none 0 0)) ∧ Keep (fun k => k ≠ g) w1 (w1.setCell ⟨g, 1, none⟩ (.slice none 0 0))) := fun w1 hb => by
        have hM1 := hM.keep (keep_on hb)
        have k1 := but_set w1 g 1 (.slice none 0 0)
        have hkk : Keep (fun j => j ≠ g ∧ j ≠ qb) w1 (w1.setCell ⟨g, 1, none⟩ (.slice none 0 0)) := keep_but k1 fun h => h.1 rfl
        have hkw : Keep (fun k => ¬ F k) w (w1.setCell ⟨g, 1, none⟩ (.slice none 0 0)) := (keep_on hb).trans (keep_but k1 fun h => h hFg)
        have hq : QM F G (w1.setCell ⟨g, 1, none⟩ (.slice none 0 0)) qb n (⟨x.B, x.bv, [], .slice none 0 0⟩ :: R) := by
          refine QM.repl (pv := .slice (some ⟨g, 0, none⟩) (R.length + 1) cap) (hbox.on hb) (typ_keep tg (hb.block g hg)) hkk ((hbox.on hb).but k1 (Ne.symm hgq)) ?_ (fun j e => by cases e; exact hFg) hM.own (fun y hy => ?_) (fun y hy => ?_) ?_
          · have h7 := ((rowS_on hrow hb).stored 1 (.slice none 0 0)).1
            have e8 : (flatX (x :: R)).set 1 (.slice none 0 0) = flatX (⟨x.B, x.bv, [], .slice none 0 0⟩ :: R) := by simp [flatX, PX.cells]
            rw [e8] at h7
            exact h7
          · rcases List.mem_cons.1 hy with rfl | hy
            · exact hM1.byt x (List.mem_cons_self)
            · exact hM1.byt y (List.mem_cons_of_mem _ hy)
          · rcases List.mem_cons.1 hy with rfl | hy
            · exact PasM.nil G w1
            · exact hM1.pas y (List.mem_cons_of_mem _ hy)
          · have ha := hM.apart
            rw [List.pairwise_cons] at ha ⊢
            exact ha
        obtain ⟨h1, h2, _⟩ := QAt.of_same hq (ok_told (L := x.M.map Prod.fst) hok) hF hG hkw
        exact ⟨h1, h2, hkw, keep_but k1 fun h => h rfl⟩
      -- what comes of it
      have HP : Hid (∀ w1 v2 v3, Below w.heap.size w w1 → PasM G w1 v2 (x.M.take most.toNat) → PasM G w1 v3 (x.M.drop most.toNat) → ∀ e w', TbPost (FF F (w1.setCell ⟨g, 1, none⟩ (.slice none 0 0))) G (w1.setCell ⟨g, 1, none⟩ (.slice none 0 0)) qb n x.B R k e w' → ∃ v1, e = .returned v1 ∧ TakePost F G w qb n ((x :: R).map PX.pt) k most (.returned (.tuple #[v1, v2, v3])) w') := fun w1 v2 v3 hb h2 h3 e w' ⟨v1, X', he, hby, hq, hX, hkp⟩ => by
        obtain ⟨m1, m2, m3, m4⟩ := HM2.out w1 hb
        refine ⟨v1, he, ?_⟩
        have et : takeF ((x :: R).map PX.pt) k most = (X'.map PX.pt, x.B.take k.toNat, (x.M.map Prod.fst).take most.toNat, (x.M.map Prod.fst).drop most.toNat) := by
          rw [hX]
          simp only [List.map_cons, takeF, if_neg hk]
          rfl
        have hk2 : Keep (fun k => ¬ F k) w w' := m3.trans (hkp.mono fun j _ h7 h8 => h7 h8.1)
        have hok' : Ok n (X'.map PX.pt) := by
          have h9 := ok_told (L := x.M.map Prod.fst) hok
          rw [hX]
          by_cases h10 : k < (x.B.length : Int)
          · rw [if_pos h10]
            exact ok_less h9 k.toNat (by omega)
          · rw [if_neg h10]
            exact ok_tail h9
        have hsz : w.heap.size ≤ (w1.setCell ⟨g, 1, none⟩ (.slice none 0 0)).heap.size := m3.size
        obtain ⟨_, q2, _⟩ := QAt.of_same hq hok' (w := w1.setCell ⟨g, 1, none⟩ (.slice none 0 0)) (fun j h7 => Nat.lt_of_lt_of_le (hF j h7.1) hsz) (fun j h7 => Nat.lt_of_lt_of_le (hG j h7) hsz) hkp
        have hpk : ∀ {v M}, PasM G w1 v M → PasM G w' v M := fun {v M} hp => by
          have hp1 : PasM G (w1.setCell ⟨g, 1, none⟩ (.slice none 0 0)) v M := hp.keepT (m4.mono fun j _ h7 => by
            have tg1 := typ_keep tg (hb.block g hg)
            rcases h7.2 with h8 | h8
            · exact typ_ne h8 tg1 (by decide)
            · exact typ_ne h8 tg1 (by decide))
          exact hp1.keepT (hkp.mono fun j _ h7 h8 => wr_rd h8.2 h7.2)
        unfold TakePost
        rw [et]
        exact ⟨_, v1, v2, v3, rfl, q2, ⟨hk2, fun _ h => .inl h.1.1, fun _ h => .inl h⟩, hby.mono fun j _ h => Nat.le_trans hsz h, ⟨_, by rw [List.map_take], hpk h2⟩, ⟨_, by rw [List.map_drop], hpk h3⟩⟩
      have HTb : Hid (∀ w1, Below w.heap.size w w1 → Calls Try.prog 85 #[.pointer (some ⟨qb, 0, none⟩), .int .i64 k] (w1.setCell ⟨g, 1, none⟩ (.slice none 0 0)) (TbPost (FF F (w1.setCell ⟨g, 1, none⟩ (.slice none 0 0))) G (w1.setCell ⟨g, 1, none⟩ (.slice none 0 0)) qb n x.B R k)) := fun w1 hb => by
        obtain ⟨m1, m2, _, _⟩ := HM2.out w1 hb
        by_cases h10 : k < (x.B.length : Int)
        · obtain ⟨kn, rfl⟩ : ∃ kn : Nat, k = (kn : Int) := ⟨k.toNat, by omega⟩
          exact tb_less m2 m1 rfl rfl kn (by omega) (by show kn < x.B.length; omega)
        · exact tb_all m2 m1 rfl k (by omega) hk2 (by show (x.B.length : Int) ≤ k; omega)
      generalize TakePost F G w qb n ((x :: R).map PX.pt) k most = Post at *
      generalize total ((x :: R).map PX.pt) = T at *
      have hTz : ¬ (T : Int) = 0 := by omega
      have hq := hbox.lt
      have HBf : Hid (Blk w qb 111 [.int .i64 (n : Int), .slice (some ⟨g, 0, none⟩) (R.length + 1) cap]) := hbox
      clear HM2 hM hbox hb2 hrow hv hxm hxf hok hz hc0 hf0 hF hG hFw hlv
      generalize R.length = rl at *
      generalize x.M.length = ml at *
      have hrz : (0 : Int) < (rl : Int) + 1 := by omega
      go_enter Try.func66, Try.ntmps66
      go_wp2_with fail
      refine cL.mono ?_
      rintro e w1 ⟨rfl, hb1⟩
      have y1 := (hb1.cell (p := ⟨qb, 1, none⟩) hq).trans x1
      have y2 := (hb1.cell (p := ⟨g, 1, none⟩) hg).trans hc1
      have y2f : w1.frozen? ⟨g, 1, none⟩ = false := by rw [World.frozen?_of_block (a := ⟨g, 1, none⟩) (hb1.block g hg)]; exact hf1
      clear x1 hc1
      go_wp2_with fail
      refine (cC w1 hb1).mono ?_
      rintro e w2 ⟨v2, v3, rfl, rfl, h2, h3⟩
      have cT := HTb.out w2 hb1
      have HP1 := HP.out w2 v2 v3 hb1 h2 h3
      have HP2 : Hid _ := HP1
      clear cC HTb HP HP1 cL
      go_wp2_with fail
      refine cT.mono ?_
      intro e w4 hp
      obtain ⟨v1, rfl, hE⟩ := HP2.out e w4 hp
      clear hp cT
      go_wp2
      go_ret3
      exact hE

end Go.Proofs.Ytfhkdndgiofidaa.K
