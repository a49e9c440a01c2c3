/- What Limit, LimitIoctls and LimitFcntls answer and do. -/
import Derived.Test.YtmccfcllehfebaaZFun2
namespace Go.Proofs.Ytmccfcllehfebaa.Z
open Go Go.RowKit

section
variable {D F : Nat → Prop} {w : World} {tb : Nat} {S : List Sl}
set_option maxRecDepth 100000 in
theorem lim_no (h : TabAt D F w tb S) (fd : Int) (r : Nat) (hl : liveB S fd = false) :
    Calls Try.prog 20 #[ptr tb, .int .i64 fd, .int .u32 (r : Int)] w (TPost D F tb w S (.int .i64 9)) := by
  have HP : Hid (TPost D F tb w S (.int .i64 9) (.returned (.int .i64 9)) w) := TPost.same h (Below.refl _ _)
  generalize TPost D F tb w S (.int .i64 9) = Post at *
  obtain ⟨rb, M, rfl, h⟩ := h
  have cH := held_no h hl
  clear h hl
  go_enter Try.func20, Try.ntmps20
  go_wp2_with fail
  refine cH.mono ?_
  rintro e w1 ⟨rfl, rfl⟩
  go_wp2
  exact HP.out
set_option maxRecDepth 100000 in
theorem lim_less (h : TabAt D F w tb S) (hS : Fits S) (fd : Int) (r : Nat) (hr : r < 4294967296) (hl : liveB S fd = true) (hs : R.subB r (atS S fd).rights = false) :
    Calls Try.prog 20 #[ptr tb, .int .i64 fd, .int .u32 (r : Int)] w (TPost D F tb w S (.int .i64 93)) := by
  have HP : Hid (TPost D F tb w S (.int .i64 93) (.returned (.int .i64 93)) w) := TPost.same h (Below.refl _ _)
  generalize TPost D F tb w S (.int .i64 93) = Post at *
  obtain ⟨k, rfl, hk, hf⟩ := live_in hl
  have hfit := hS.at (k : Int)
  rw [show atS S (k : Int) = S.getD k zS from rfl] at hfit hs
  have HT : Hid (TabAt D F w tb S) := h
  obtain ⟨rb, M, rfl, h⟩ := h
  have hk' : k < M.length := by simpa using hk
  obtain ⟨e, hke, he⟩ := ent_at M hk'
  rw [he] at hf hfit hs
  have cH := held_yes h hke hf
  obtain ⟨hFe, hbe, hie⟩ := h.ent k e hke hf
  have cS := fun w1 => R.sub_any r e.sl.rights hr hfit.1 w1
  rw [hs] at cS
  have b1 := hbe.cell 1 rfl
  clear h HT hl hk he hie hbe hke hf hS hfit hk' hFe
  go_enter Try.func20, Try.ntmps20
  go_wp2_with fail
  refine cH.mono ?_
  rintro e w1 ⟨rfl, rfl⟩
  go_wp2_with fail
  refine (cS _).mono ?_
  rintro e w2 ⟨rfl, rfl⟩
  go_wp2
  exact HP.out
theorem cap_has (k r : Nat) (hk : k < 32) (hr : r < 4294967296) (n : Int) (hn : (2 : Int) ^ k = n) (w : World) : Calls Try.prog 39 #[.int .u32 n, .int .u32 (r : Int)] w fun e w' => e = .returned (.bool (r.testBit k)) ∧ w' = w := by
  rw [← hn]
  exact R.has_any k r hk hr w
set_option maxRecDepth 100000 in
set_option maxHeartbeats 2000000 in
theorem lim_yes (h : TabAt D F w tb S) (hS : Fits S) (fd : Int) (r : Nat) (hr : r < 4294967296) (hl : liveB S fd = true) (hs : R.subB r (atS S fd).rights = true) :
    Calls Try.prog 20 #[ptr tb, .int .i64 fd, .int .u32 (r : Int)] w (TPost D F tb w (S.set fd.toNat (lessR r (atS S fd))) (.int .i64 0)) := by
  obtain ⟨k, rfl, hk, hf⟩ := live_in hl
  have hfit := hS.at (k : Int)
  rw [show atS S (k : Int) = S.getD k zS from rfl] at hfit hs ⊢
  rw [show (k : Int).toNat = k from rfl]
  have HT : Hid (TabAt D F w tb S) := h
  obtain ⟨rb, M, rfl, h⟩ := h
  have hk' : k < M.length := by simpa using hk
  obtain ⟨e, hke, he⟩ := ent_at M hk'
  rw [he] at hf hfit hs ⊢
  have cH := held_yes h hke hf
  obtain ⟨hFe, hbe, hie⟩ := h.ent k e hke hf
  have cS := fun w1 => R.sub_any r e.sl.rights hr hfit.1 w1
  rw [hs] at cS
  have HP : Hid (∀ w2 lv, But e.bk w w2 → Blk w2 e.bk 34 (slC (lessR r e.sl) lv) → IntD D w2 lv (lessR r e.sl).ints → TPost D F tb w ((M.map Ent.sl).set k (lessR r e.sl)) (.int .i64 0) (.returned (.int .i64 0)) w2) := fun w2 lv hB hb hi => by
    have h2 := h.turn hke hf hB (lessR r e.sl) lv hf hb hi
    have h3 : TabAt D F w2 tb ((M.map Ent.sl).set k (lessR r e.sl)) := ⟨rb, _, by rw [List.map_set], h2⟩
    exact ⟨rfl, F, tab_or h3, goes_but hFe hB⟩
  generalize TPost D F tb w ((M.map Ent.sl).set k (lessR r e.sl)) (.int .i64 0) = Post at *
  have HI : Hid (∀ w2, But e.bk w w2 → IntD D w2 e.lv e.sl.ints) := fun w2 hB => hie.keep (keep_but hB fun h7 => h7 (h.sub _ hFe).1)
  have c28 := fun w1 => cap_has 28 r (by decide) hr 268435456 (by decide) w1
  have c9 := fun w1 => cap_has 9 r (by decide) hr 512 (by decide) w1
  obtain ⟨x, bk, lv⟩ := e
  simp only at hf hbe hie cH cS HP HI ⊢
  obtain ⟨p, c, rfl, hat⟩ := hie
  have b1 := hbe.cell 1 rfl
  have f1 := hbe.free 1
  have HB1 : Hid (Blk (w.setCell ⟨bk, 1, none⟩ (.int .u32 (r : Int))) bk 34 [.int .i64 x.file, .int .u32 (r : Int), .bool x.all, .slice p x.ints.length c, .int .i64 x.fc]) := hbe.set 1 (.int .u32 (r : Int))
  have HU1 : Hid (But bk w (w.setCell ⟨bk, 1, none⟩ (.int .u32 (r : Int)))) := but_set _ _ _ _
  have HL : Hid (lessR r x = ⟨x.file, r, if r.testBit 28 then x.all else false, if r.testBit 28 then x.ints else [], if r.testBit 9 then x.fc else 0⟩) := rfl
  generalize lessR r x = y at *
  obtain ⟨file, rights, all, ints, fc⟩ := x
  simp only at b1 HB1 HL HI
  simp only at cS
  clear h HT hl hk he hat hbe hke hf hS hfit hk' hFe
  cases t28 : r.testBit 28 with
  | true =>
    rw [t28] at c28 HL
    cases t9 : r.testBit 9 with
    | true =>
      rw [t9] at c9 HL
      have HZ : Hid _ := HP.out _ (.slice p ints.length c) HU1.out (by rw [HL.out]; exact HB1.out) (by rw [HL.out]; exact HI.out _ HU1.out)
      clear HP HI HL
      go_enter Try.func20, Try.ntmps20
      go_wp2_with fail
      refine cH.mono ?_
      rintro e w1 ⟨rfl, rfl⟩
      go_wp2_with fail
      refine (cS _).mono ?_
      rintro e w2 ⟨rfl, rfl⟩
      go_wp2_with fail
      refine (c28 _).mono ?_
      rintro e w3 ⟨rfl, rfl⟩
      go_wp2_with fail
      refine (c9 _).mono ?_
      rintro e w4 ⟨rfl, rfl⟩
      go_wp2
      exact HZ.out
    | false =>
      rw [t9] at c9 HL
      have HB4 : Hid _ := HB1.out.set 4 (.int .i64 0)
      have HU4 : Hid _ := HU1.out.trans (but_set _ bk 4 (.int .i64 0))
      have HZ : Hid _ := HP.out _ (.slice p ints.length c) HU4.out (by rw [HL.out]; exact HB4.out) (by rw [HL.out]; exact HI.out _ HU4.out)
      have f4 := HB1.out.free 4
      have b4 := HB1.out.cell 4 rfl
      clear HP HI HL HB4 HU4
      go_enter Try.func20, Try.ntmps20
      go_wp2_with fail
      refine cH.mono ?_
      rintro e w1 ⟨rfl, rfl⟩
      go_wp2_with fail
      refine (cS _).mono ?_
      rintro e w2 ⟨rfl, rfl⟩
      go_wp2_with fail
      refine (c28 _).mono ?_
      rintro e w3 ⟨rfl, rfl⟩
      go_wp2_with fail
      refine (c9 _).mono ?_
      rintro e w4 ⟨rfl, rfl⟩
      go_wp2
      exact HZ.out
  | false =>
    rw [t28] at c28 HL
    have f2 := HB1.out.free 2
    have b2 := HB1.out.cell 2 rfl
    have f3 := HB1.out.free 3
    have b3 := HB1.out.cell 3 rfl
    have HB3 : Hid _ := (HB1.out.set 2 (.bool false)).set 3 (.slice none 0 0)
    have HU3 : Hid _ := (HU1.out.trans (but_set _ bk 2 (.bool false))).trans (but_set _ bk 3 (.slice none 0 0))
    cases t9 : r.testBit 9 with
    | true =>
      rw [t9] at c9 HL
      have HZ : Hid _ := HP.out _ (.slice none 0 0) HU3.out (by rw [HL.out]; exact HB3.out) (by rw [HL.out]; exact .nil _ _)
      clear HP HI HL HB3 HU3
      go_enter Try.func20, Try.ntmps20
      go_wp2_with fail
      refine cH.mono ?_
      rintro e w1 ⟨rfl, rfl⟩
      go_wp2_with fail
      refine (cS _).mono ?_
      rintro e w2 ⟨rfl, rfl⟩
      go_wp2_with fail
      refine (c28 _).mono ?_
      rintro e w3 ⟨rfl, rfl⟩
      go_wp2_with fail
      refine (c9 _).mono ?_
      rintro e w4 ⟨rfl, rfl⟩
      go_wp2
      exact HZ.out
    | false =>
      rw [t9] at c9 HL
      have HB4 : Hid _ := HB3.out.set 4 (.int .i64 0)
      have HU4 : Hid _ := HU3.out.trans (but_set _ bk 4 (.int .i64 0))
      have HZ : Hid _ := HP.out _ (.slice none 0 0) HU4.out (by rw [HL.out]; exact HB4.out) (by rw [HL.out]; exact .nil _ _)
      have f4 := HB3.out.free 4
      have b4 := HB3.out.cell 4 rfl
      clear HP HI HL HB4 HU4
      go_enter Try.func20, Try.ntmps20
      go_wp2_with fail
      refine cH.mono ?_
      rintro e w1 ⟨rfl, rfl⟩
      go_wp2_with fail
      refine (cS _).mono ?_
      rintro e w2 ⟨rfl, rfl⟩
      go_wp2_with fail
      refine (c28 _).mono ?_
      rintro e w3 ⟨rfl, rfl⟩
      go_wp2_with fail
      refine (c9 _).mono ?_
      rintro e w4 ⟨rfl, rfl⟩
      go_wp2
      exact HZ.out
theorem lim_any (h : TabAt D F w tb S) (hS : Fits S) (fd : Int) (r : Nat) (hr : r < 4294967296) :
    Calls Try.prog 20 #[ptr tb, .int .i64 fd, .int .u32 (r : Int)] w (TPost D F tb w (limS S fd r) (.int .i64 (getE S fd r))) := by
  unfold limS getE
  cases hl : liveB S fd with
  | false => exact lim_no h fd r hl
  | true =>
    cases hs : R.subB r (atS S fd).rights with
    | false => exact lim_less h hS fd r hr hl hs
    | true => exact lim_yes h hS fd r hr hl hs
set_option maxRecDepth 100000 in
theorem fc_no (h : TabAt D F w tb S) (fd : Int) (m : Int) (hl : liveB S fd = false) :
    Calls Try.prog 22 #[ptr tb, .int .i64 fd, .int .i64 m] w (TPost D F tb w S (.int .i64 9)) := by
  have HP : Hid (TPost D F tb w S (.int .i64 9) (.returned (.int .i64 9)) w) := TPost.same h (Below.refl _ _)
  generalize TPost D F tb w S (.int .i64 9) = Post at *
  obtain ⟨rb, M, rfl, h⟩ := h
  have cH := held_no h hl
  clear h hl
  go_enter Try.func22, Try.ntmps22
  go_wp2_with fail
  refine cH.mono ?_
  rintro e w1 ⟨rfl, rfl⟩
  go_wp2
  exact HP.out
set_option maxRecDepth 100000 in
set_option maxHeartbeats 1000000 in
theorem fc_yes (h : TabAt D F w tb S) (hS : Fits S) (fd m : Int) (hl : liveB S fd = true) :
    Calls Try.prog 22 #[ptr tb, .int .i64 fd, .int .i64 m] w (TPost D F tb w (if decide (W.maskE (atS S fd).fc m = 0) then S.set fd.toNat (lessF m (atS S fd)) else S) (.int .i64 (W.maskE (atS S fd).fc m))) := by
  obtain ⟨k, rfl, hk, hf⟩ := live_in hl
  have hfit := hS.at (k : Int)
  rw [show atS S (k : Int) = S.getD k zS from rfl] at hfit ⊢
  rw [show (k : Int).toNat = k from rfl]
  have HT : Hid (TabAt D F w tb S) := h
  obtain ⟨rb, M, rfl, h⟩ := h
  have hk' : k < M.length := by simpa using hk
  obtain ⟨e, hke, he⟩ := ent_at M hk'
  rw [he] at hf hfit ⊢
  have cH := held_yes h hke hf
  obtain ⟨hFe, hbe, hie⟩ := h.ent k e hke hf
  have cM := fun w1 => W.mask_any e.sl.fc m w1
  have b4 := hbe.cell 4 rfl
  have f4 := hbe.free 4
  obtain ⟨E, hE⟩ : ∃ E, W.maskE e.sl.fc m = E := ⟨_, rfl⟩
  rw [hE] at cM ⊢
  by_cases h0 : E = 0
  · subst h0
    rw [if_pos (by decide)]
    have HP : Hid (∀ w2, But e.bk w w2 → Blk w2 e.bk 34 (slC (lessF m e.sl) e.lv) → TPost D F tb w ((M.map Ent.sl).set k (lessF m e.sl)) (.int .i64 0) (.returned (.int .i64 0)) w2) := fun w2 hB hb => by
      have h2 := h.turn hke hf hB (lessF m e.sl) e.lv hf hb (hie.keep (keep_but hB fun h7 => h7 (h.sub _ hFe).1))
      have h3 : TabAt D F w2 tb ((M.map Ent.sl).set k (lessF m e.sl)) := ⟨rb, _, by rw [List.map_set], h2⟩
      exact ⟨rfl, F, tab_or h3, goes_but hFe hB⟩
    generalize TPost D F tb w ((M.map Ent.sl).set k (lessF m e.sl)) (.int .i64 0) = Post at *
    have HZ : Hid _ := HP.out _ (but_set w e.bk 4 (.int .i64 (W.maskV e.sl.fc m))) (hbe.set 4 _)
    generalize W.maskV e.sl.fc m = V at *
    clear h HT hl hk he hie hbe hke hf hS hfit hk' hFe HP hE
    go_enter Try.func22, Try.ntmps22
    go_wp2_with fail
    refine cH.mono ?_
    rintro e w1 ⟨rfl, rfl⟩
    go_wp2_with fail
    refine (cM _).mono ?_
    rintro e w2 ⟨rfl, rfl⟩
    go_wp2
    exact HZ.out
  · rw [if_neg (by simpa using h0)]
    have HP : Hid (TPost D F tb w (M.map Ent.sl) (.int .i64 E) (.returned (.int .i64 E)) w) := TPost.same HT.out (Below.refl _ _)
    generalize TPost D F tb w (M.map Ent.sl) (.int .i64 E) = Post at *
    have z0 : (E != 0) = true := by simpa using h0
    generalize W.maskV e.sl.fc m = V at *
    clear h HT hl hk he hie hbe hke hf hS hfit hk' hFe hE h0
    go_enter Try.func22, Try.ntmps22
    go_wp2_with fail
    refine cH.mono ?_
    rintro e w1 ⟨rfl, rfl⟩
    go_wp2_with fail
    refine (cM _).mono ?_
    rintro e w2 ⟨rfl, rfl⟩
    go_wp2
    exact HP.out
theorem fc_any (h : TabAt D F w tb S) (hS : Fits S) (fd m : Int) :
    Calls Try.prog 22 #[ptr tb, .int .i64 fd, .int .i64 m] w (TPost D F tb w (fcS S fd m) (.int .i64 (fcE S fd m))) := by
  unfold fcS fcE
  cases hl : liveB S fd with
  | false => exact fc_no h fd m hl
  | true => exact fc_yes h hS fd m hl
set_option maxRecDepth 100000 in
theorem io_no (h : TabAt D F w tb S) (fd : Int) (q : Option Addr) (l : List Int) (d : Nat) (hl : liveB S fd = false) :
    Calls Try.prog 21 #[ptr tb, .int .i64 fd, .slice q l.length d] w (TPost D F tb w S (.int .i64 9)) := by
  have HP : Hid (TPost D F tb w S (.int .i64 9) (.returned (.int .i64 9)) w) := TPost.same h (Below.refl _ _)
  generalize TPost D F tb w S (.int .i64 9) = Post at *
  obtain ⟨rb, M, rfl, h⟩ := h
  have cH := held_no h hl
  clear h hl
  go_enter Try.func21, Try.ntmps21
  go_wp2_with fail
  refine cH.mono ?_
  rintro e w1 ⟨rfl, rfl⟩
  go_wp2
  exact HP.out
set_option maxRecDepth 100000 in
set_option maxHeartbeats 1000000 in
theorem io_yes (h : TabAt D F w tb S) (hS : Fits S) (hD : Lt D w) (fd : Int) (q : Option Addr) (l : List Int) (d : Nat) (hq : W.At w q l) (hql : l.length ≤ 1000) (hl : liveB S fd = true) :
    Calls Try.prog 21 #[ptr tb, .int .i64 fd, .slice q l.length d] w (TPost D F tb w (if decide (W.limE (atS S fd).all (atS S fd).ints l = 0) then S.set fd.toNat (lessI l (atS S fd)) else S) (.int .i64 (W.limE (atS S fd).all (atS S fd).ints l))) := by
  obtain ⟨k, rfl, hk, hf⟩ := live_in hl
  have hfit := hS.at (k : Int)
  rw [show atS S (k : Int) = S.getD k zS from rfl] at hfit ⊢
  rw [show (k : Int).toNat = k from rfl]
  have HT : Hid (TabAt D F w tb S) := h
  obtain ⟨rb, M, rfl, h⟩ := h
  have hk' : k < M.length := by simpa using hk
  obtain ⟨e, hke, he⟩ := ent_at M hk'
  rw [he] at hf hfit ⊢
  have cH := held_yes h hke hf
  obtain ⟨hFe, hbe, hie⟩ := h.ent k e hke hf
  obtain ⟨p, c, hlv, hat⟩ := hie
  have hx := hfit.len
  have cM := W.limit_any e.sl.all p q c d e.sl.ints l w (by omega) hql (W.at_ints.2 hat.at) hq
  have HM : Hid (∀ w1, Below w.heap.size w w1 → TabM D F w1 tb rb M) := fun w1 hb => h.keep (keep_on hb)
  have b2 := hbe.cell 2 rfl
  have b3 := hbe.cell 3 (v := .slice p e.sl.ints.length c) (by rw [← hlv]; rfl)
  obtain ⟨E, hE⟩ : ∃ E, W.limE e.sl.all e.sl.ints l = E := ⟨_, rfl⟩
  have HL : Hid (lessI l e.sl = ⟨e.sl.file, e.sl.rights, false, W.limV e.sl.all e.sl.ints l, e.sl.fc⟩) := rfl
  unfold W.LimPost at cM
  rw [hE] at cM ⊢
  generalize W.limV e.sl.all e.sl.ints l = V at *
  by_cases h0 : E = 0
  · subst h0
    rw [if_pos (by decide)]
    have HP : Hid (∀ w1 w2 lv, Below w.heap.size w w1 → But e.bk w1 w2 → Blk w2 e.bk 34 (slC (lessI l e.sl) lv) → IntD D w2 lv (lessI l e.sl).ints → TPost D F tb w ((M.map Ent.sl).set k (lessI l e.sl)) (.int .i64 0) (.returned (.int .i64 0)) w2) := fun w1 w2 lv hb1 hB hb hi => by
      have h2 := (HM.out w1 hb1).turn hke hf hB (lessI l e.sl) lv hf hb hi
      have h3 : TabAt D F w2 tb ((M.map Ent.sl).set k (lessI l e.sl)) := ⟨rb, _, by rw [List.map_set], h2⟩
      exact ⟨rfl, F, tab_or h3, (Goes.on hb1).trans (goes_but hFe hB)⟩
    generalize TPost D F tb w ((M.map Ent.sl).set k (lessI l e.sl)) (.int .i64 0) = Post at *
    rw [HL.out] at HP
    have HBE : Hid (Blk w e.bk 34 (slC e.sl e.lv)) := hbe
    have hFD : Hid (D e.bk ∧ e.bk < w.heap.size) := h.sub _ hFe
    have HD : Hid (Lt D w) := hD
    clear h HT HM hl hk he hbe hke hf hS hfit hk' hFe hE hat hx hq HL hD
    obtain ⟨⟨file, rights, all, ints, fc⟩, bk, lv⟩ := e
    simp only at *
    subst hlv
    go_enter Try.func21, Try.ntmps21
    go_wp2_with fail
    refine cH.mono ?_
    rintro e w1 ⟨rfl, rfl⟩
    go_wp2_with fail
    refine cM.mono ?_
    rintro e w2 ⟨hb2, p2, c2, rfl, hat2⟩
    have hal := on_alloc w2 (.cells #[.bool false, .slice p2 V.length c2] 32)
    have hB3 := (HBE.out.on hb2).on hal
    have g2 := hB3.free 2
    have g3 := hB3.free 3
    have a2 := hB3.cell 2 rfl
    have a3 := hB3.cell 3 rfl
    have hU3 := (but_set (w2.alloc (.cells #[.bool false, .slice p2 V.length c2] 32)) bk 2 (.bool false)).trans (but_set _ bk 3 (.slice p2 V.length c2))
    have hi3 : IntD D (((w2.alloc (.cells #[.bool false, .slice p2 V.length c2] 32)).setCell ⟨bk, 2, none⟩ (.bool false)).setCell ⟨bk, 3, none⟩ (.slice p2 V.length c2)) (.slice p2 V.length c2) V :=
      (IntD.of (hat2.on hal) HD.out).keep (keep_but hU3 fun h7 => h7 hFD.out.1)
    have HZ : Hid _ := HP.out _ _ (.slice p2 V.length c2) (on_trans hb2 hal) hU3 ((hB3.set 2 (.bool false)).set 3 (.slice p2 V.length c2)) hi3
    clear HP HBE hFD HD hB3 hi3 hU3 hat2 hal hb2
    go_wp2
    exact HZ.out
  · rw [if_neg (by simpa using h0)]
    have HP : Hid (∀ w1, Below w.heap.size w w1 → TPost D F tb w (M.map Ent.sl) (.int .i64 E) (.returned (.int .i64 E)) w1) := fun w1 hb => TPost.same HT.out hb
    generalize TPost D F tb w (M.map Ent.sl) (.int .i64 E) = Post at *
    have z0 : (E != 0) = true := by simpa using h0
    clear h HT HM hl hk he hbe hke hf hS hfit hk' hFe hE hat hx hq HL hD h0
    go_enter Try.func21, Try.ntmps21
    go_wp2_with fail
    refine cH.mono ?_
    rintro e w1 ⟨rfl, rfl⟩
    go_wp2_with fail
    refine cM.mono ?_
    rintro e w2 ⟨hb2, p2, c2, rfl, hat2⟩
    have HZ : Hid _ := HP.out _ (on_trans hb2 (on_alloc w2 (.cells #[.bool false, .slice p2 V.length c2] 32)))
    clear HP hat2 hb2
    go_wp2
    exact HZ.out
theorem io_any (h : TabAt D F w tb S) (hS : Fits S) (hD : Lt D w) (fd : Int) (q : Option Addr) (l : List Int) (d : Nat) (hq : W.At w q l) (hql : l.length ≤ 1000) :
    Calls Try.prog 21 #[ptr tb, .int .i64 fd, .slice q l.length d] w (TPost D F tb w (ioS S fd l) (.int .i64 (ioE S fd l))) := by
  unfold ioS ioE
  cases hl : liveB S fd with
  | false => exact io_no h fd q l d hl
  | true => exact io_yes h hS hD fd q l d hq hql hl
end
set_option maxRecDepth 100000 in
theorem lim_nil (fd : Int) (r : Int) (w : World) : Calls Try.prog 20 #[.pointer none, .int .i64 fd, .int .u32 r] w fun e w' => e = .returned (.int .i64 22) ∧ w' = w := by
  have cH := held_nil fd w
  go_enter Try.func20, Try.ntmps20
  go_wp2_with fail
  refine cH.mono ?_
  rintro e w1 ⟨rfl, rfl⟩
  go_wp2
  go_ret
  exact ⟨rfl, rfl⟩
set_option maxRecDepth 100000 in
theorem fc_nil (fd : Int) (m : Int) (w : World) : Calls Try.prog 22 #[.pointer none, .int .i64 fd, .int .i64 m] w fun e w' => e = .returned (.int .i64 22) ∧ w' = w := by
  have cH := held_nil fd w
  go_enter Try.func22, Try.ntmps22
  go_wp2_with fail
  refine cH.mono ?_
  rintro e w1 ⟨rfl, rfl⟩
  go_wp2
  go_ret
  exact ⟨rfl, rfl⟩
set_option maxRecDepth 100000 in
theorem io_nil (fd : Int) (v : Value) (w : World) : Calls Try.prog 21 #[.pointer none, .int .i64 fd, v] w fun e w' => e = .returned (.int .i64 22) ∧ w' = w := by
  have cH := held_nil fd w
  go_enter Try.func21, Try.ntmps21
  go_wp2_with fail
  refine cH.mono ?_
  rintro e w1 ⟨rfl, rfl⟩
  go_wp2
  go_ret
  exact ⟨rfl, rfl⟩

end Go.Proofs.Ytmccfcllehfebaa.Z
