/- Package ring: Peek, Take. -/
import Derived.Test.YtfdpiinkjgepkaaBPut
namespace Go.Proofs.Ytfdpiinkjgepkaa.B
open Go Go.RowKit

/-- The first bytes of a list, and zeros behind them. -/
def outB (l : List UInt8) (k : Nat) : List UInt8 := l.take k ++ List.replicate (l.length - k) 0
theorem outB_zero (l : List UInt8) : outB l 0 = List.replicate l.length 0 := by simp [outB]
theorem outB_all (l : List UInt8) : outB l l.length = l := by simp [outB]
theorem outB_len (l : List UInt8) (k : Nat) : (outB l k).length = l.length := by simp [outB]; omega
theorem outB_set (l : List UInt8) (k : Nat) (h : k < l.length) : (outB l k).set k (l.getD k 0) = outB l (k + 1) := by
  have e : (l.take k).length = k := by simp; omega
  unfold outB
  rw [List.set_append_right _ _ (by omega), e, Nat.sub_self, show l.length - k = (l.length - (k + 1)) + 1 by omega, List.replicate_succ, List.set_cons_zero]
  rw [List.take_add_one, List.getElem?_eq_getElem h, Option.toList_some, List.append_assoc]
  simp [List.getD_eq_getElem?_getD, h]

/-- What Peek leaves. -/
def PeekPost (R : List UInt8) (w : World) (e : Ending) (w' : World) : Prop := ∃ v, e = .returned v ∧ OwnV w.heap.size 5 w' v (bytesV R) ∧ Below w.heap.size w w'
theorem peek_nil (k : Int) (w : World) : Calls Try.prog 10 #[.pointer none, .int .i64 k] w fun e w' => e = .returned (.slice none 0 0) ∧ w' = w := by
  have c1 := len_nil w
  obtain ⟨m, hm⟩ : ∃ m : Int, (if (0 : Int) < k then 0 else k) = m := ⟨_, rfl⟩
  have hm1 : m < 1 := by rw [← hm]; split <;> omega
  go_enter Try.func10, Try.ntmps10
  go_wp2_with fail
  refine c1.mono ?_
  rintro e w1 ⟨rfl, rfl⟩
  go_wp2
  go_ret
  exact ⟨rfl, rfl⟩
set_option maxRecDepth 100000 in
set_option maxHeartbeats 2000000 in
theorem peek_any {w : World} {rb pb n : Nat} {B : List UInt8} (h : RingAt w rb pb n B) (kz : Int) :
    Calls Try.prog 10 #[.pointer (some ⟨rb, 0, none⟩), .int .i64 kz] w (PeekPost (B.take kz.toNat) w) := by
  have c1 := len_any h
  have hfew := h.few
  have hmost := h.most
  obtain ⟨f, C, hM⟩ := h
  obtain ⟨R, HR⟩ : ∃ R, Hid (B.take kz.toNat = R) := ⟨_, rfl⟩
  have hR : B.take kz.toNat = R := HR.out
  have hRl : R.length = min kz.toNat B.length := by rw [← hR, List.length_take]
  rw [hR]
  clear hR
  obtain ⟨m, hm⟩ : ∃ m : Int, (if (B.length : Int) < kz then (B.length : Int) else kz) = m := ⟨_, rfl⟩
  by_cases h1 : m < 1
  · have hR0 : R = [] := by
      refine List.eq_nil_of_length_eq_zero ?_
      rw [hRl]
      split at hm <;> omega
    have HP : Hid (PeekPost R w (.returned (.slice none 0 0)) w) := ⟨_, rfl, by rw [hR0]; exact ownV_nil _ _ _, Below.refl _ _⟩
    clear hM HR hRl hR0
    generalize PeekPost R w = Post at *
    go_enter Try.func10, Try.ntmps10
    go_wp2_with fail
    refine c1.mono ?_
    rintro e w1 ⟨rfl, rfl⟩
    go_wp2
    exact HP.out
  · obtain ⟨m, rfl⟩ : ∃ m' : Nat, m = (m' : Int) := ⟨m.toNat, by omega⟩
    have hml : R.length = m := by rw [hRl]; split at hm <;> omega
    have hmB : m ≤ B.length := by split at hm <;> omega
    obtain ⟨w0, hmk, hB0, hb0, hs0⟩ := make_row elemByte rfl m (by omega) w
    have HI0 : Hid (Blk w0 w.heap.size 5 (bytesV (outB R 0)) ∧ Below w.heap.size w w0) := ⟨by rw [outB_zero, hml]; simpa [bytesV, byteV] using hB0, hb0⟩
    have HM : Hid (∀ W, Below w.heap.size w W → RingM W rb pb n f C B) := fun W hb => hM.on hb
    have HRg : Hid (∀ i, i < m → C.getD ((f + i) % n) 0 = R.getD i 0) := fun i hi => by
      rw [hM.get i (by omega)]
      simp only [List.getD_eq_getElem?_getD, ← HR.out]
      rw [List.getElem?_take_of_lt (by rw [hRl] at hml; omega)]
    have HL : Hid (R.length = m) := hml
    have HP : Hid (∀ W, Blk W w.heap.size 5 (bytesV (outB R m)) → Below w.heap.size w W → PeekPost R w (.returned (.slice (some ⟨w.heap.size, 0, none⟩) m m)) W) := fun W h1 h2 => by
      rw [← hml, outB_all] at h1
      have := own_blk h1 (Nat.le_refl _) (by simp; omega)
      simp only [List.length_map, hml] at this
      exact ⟨_, rfl, this, h2⟩
    have hpos := hM.pos
    have hpl := hM.row.lt
    generalize PeekPost R w = Post at *
    clear hM HR hRl hml hB0 hb0
    go_enter Try.func10, Try.ntmps10
    go_wp2_with fail
    refine c1.mono ?_
    rintro e w1 ⟨rfl, rfl⟩
    clear c1
    go_wp2
    generalize w1.heap.size = gb at *
    go_loopw [16] (fun iv wr => ∃ i : Nat, i ≤ m ∧ iv = .int .i64 (i : Int) ∧ Hid (Blk wr gb 5 (bytesV (outB R i)) ∧ Below gb w1 wr)) (fun iv _ => m - (intOf iv).toNat)
    case atStart => exact ⟨0, Nat.zero_le _, rfl, HI0⟩
    case round =>
      clear HI0
      obtain ⟨i, him, rfl, HI⟩ := hrel
      by_cases hil : i < m
      · have hilz : (i : Int) < (m : Int) := by omega
        have hMr := HM.out wr HI.out.2
        have x0 := hMr.box.cell 0 rfl
        have hrl0 : (f + i) % n < n := Nat.mod_lt _ (by omega)
        have hc0 : wr.cell? ⟨pb, (f + i) % n, none⟩ = some (.int .u8 ((C.getD ((f + i) % n) 0).toNat : Int)) := hMr.row.cell _ (bytesV_get (by rw [hMr.len]; exact hrl0))
        rw [HRg.out i hil] at hc0
        have HPl0 := fun q => place_any (hMr.on (on_drewN (Below.refl _ _) q)) i (by omega)
        have HS : Hid (bytesV (outB R (i + 1)) = (bytesV (outB R i)).set i (.int .u8 ((R.getD i 0).toNat : Int))) := by
          show bytesV _ = _
          rw [← outB_set R i (by rw [HL.out]; exact hil)]
          simp [bytesV, byteV, List.map_set]
        have hcr := HI.out.1.cell i (bytesV_get (by rw [outB_len, HL.out]; exact hil))
        have hfr := HI.out.1.free i
        have hxb := (R.getD i 0).toNat_lt
        clear hMr
        generalize (f + i) % n = r at *
        generalize (R.getD i 0).toNat = x at *
        have hrl : r < n := hrl0
        have hrlz : (r : Int) < (n : Int) := by omega
        have HPl : Hid (∀ q, Calls Try.prog 17 #[.pointer (some ⟨rb, 0, none⟩), .int .i64 (i : Int)] (wr.drewN q) fun e w' => e = .returned (.int .i64 (r : Int)) ∧ ∃ q2, w' = (wr.drewN q).drewN q2) := HPl0
        have hc := hc0
        clear HPl0 hc0 hrl0
        go_wp2
        refine wp_region_two (S := putS wr gb i (.int .u8 x)) (u := 12) (Keep := KeepU 12)
          (g := fun jj vv WW => (([.is (.slice (some ⟨gb, 0, none⟩) m m), .is (.int .i64 (i : Int)), .is (.pointer (some ⟨rb, 0, none⟩)), .is (.pointer (some ⟨rb, 0, none⟩)), .is (.pointer (some ⟨rb, 0, none⟩)), .is (.slice (some ⟨pb, 0, none⟩) n n), .is (.pointer (some ⟨rb, 0, none⟩)), .is (.int .i64 (i : Int)), .is (.int .i64 (r : Int)), .is (.pointer (some ⟨pb, r, none⟩)), .is (.int .u8 (x : Int)), .is (.pointer (some ⟨gb, i, none⟩)), .any] : List (Kd 0)).getD jj Kd.any).ok vv WW)
          (tab := [[(5, none)], [(6, none)], [(0, none)], [(21, some 2)], [(22, some 3)], [(23, some 4)], [(0, none)], [(6, none)], [(25, some 6), (26, some 7)], [(24, some 5), (27, some 8)], [(28, some 9)], [(19, some 0), (20, some 1)], [(30, some 11), (29, some 10)]]) (tl := []) (n := 33)
          (by kernel_rfl) rfl (by kernel_rfl) (keep_u ?kR1) ⟨fun _ => ⟨1, rfl⟩, (fun e => by cases e)⟩ ?stR1 ?enR1
        case kR1 =>
          intro j hj
          match j, hj with
          | 0, _ | 1, _ | 2, _ | 3, _ | 4, _ | 5, _ | 6, _ | 7, _ | 8, _ | 9, _ | 10, _ | 11, _ => exact .inr (pure_is _)
          | 12, hj => exact absurd rfl hj
          | j + 13, _ => exact .inr pure_any
        case stR1 =>
          refine ⟨fun ρ W f hf hr hS hs => ?_, fun ρ W f hf hr hS hs => ?_, fun ρ W f hf hr hS hs => ?_, fun ρ W f hf hr hS hs => ?_, fun ρ W f hf hr hS hs => ?_, fun ρ W f hf hr hS hs => ?_, fun ρ W f hf hr hS hs => ?_, fun ρ W f hf hr hS hs => ?_, fun ρ W f hf hr hS hs => ?_, fun ρ W f hf hr hS hs => ?_, fun ρ W f hf hr hS hs => ?_, fun ρ W f hf hr hS hs => ?_, fun ρ W f hf hr hS hs => ?_, trivial⟩
          · have h5 : ρ (.tmp 5) = .slice (some ⟨gb, 0, none⟩) m m := hs.1
            exact step_plain rfl (leaves_move (.tmp 5) rfl ⟨h5, by simpa using hS, .inr (Below.refl _ _)⟩)
          · have h6 : ρ (.tmp 6) = .int .i64 (i : Int) := hs.1
            exact step_plain rfl (leaves_move (.tmp 6) rfl ⟨h6, by simpa using hS, .inr (Below.refl _ _)⟩)
          · have h0 : ρ (.tmp 0) = .pointer (some ⟨rb, 0, none⟩) := hs.1
            exact step_plain rfl (leaves_move (.tmp 0) rfl ⟨h0, by simpa using hS, .inr (Below.refl _ _)⟩)
          · have h21 : ρ (.tmp 21) = .pointer (some ⟨rb, 0, none⟩) := hs.1
            refine step_plain rfl (leaves_value (v := .pointer (some ⟨rb, 0, none⟩)) (w' := W) ?_ ⟨rfl, by simpa using hS, .inr (Below.refl _ _)⟩)
            simp [go_sem, h21]
          · have h22 : ρ (.tmp 22) = .pointer (some ⟨rb, 0, none⟩) := hs.1
            refine step_plain rfl (leaves_value (v := .pointer (some ⟨rb, 0, none⟩)) (w' := W) ?_ ⟨rfl, by simpa using hS, .inr (Below.refl _ _)⟩)
            simp [go_sem, h22]
          · have h23 : ρ (.tmp 23) = .pointer (some ⟨rb, 0, none⟩) := hs.1
            refine step_plain rfl (leaves_value (v := .slice (some ⟨pb, 0, none⟩) n n) (w' := W) ?_ ⟨rfl, by simpa using hS, .inr (Below.refl _ _)⟩)
            obtain rfl : f = true := hf (by kernel_rfl)
            obtain ⟨q, rfl⟩ := hS.1 rfl
            simp [go_sem, h23, x0]
          · have h0 : ρ (.tmp 0) = .pointer (some ⟨rb, 0, none⟩) := hs.1
            exact step_plain rfl (leaves_move (.tmp 0) rfl ⟨h0, by simpa using hS, .inr (Below.refl _ _)⟩)
          · have h6 : ρ (.tmp 6) = .int .i64 (i : Int) := hs.1
            exact step_plain rfl (leaves_move (.tmp 6) rfl ⟨h6, by simpa using hS, .inr (Below.refl _ _)⟩)
          · have h25 : ρ (.tmp 25) = .pointer (some ⟨rb, 0, none⟩) := hs.1
            have h26 : ρ (.tmp 26) = .int .i64 (i : Int) := hs.2.1
            obtain rfl : f = true := hf (by kernel_rfl)
            obtain ⟨q, rfl⟩ := hS.1 rfl
            refine step_plain rfl (leaves_call2 en_place hr (.tmp 25) (.tmp 26) _ _ rfl h25 h26 ((HPl.out q).mono ?_))
            rintro e W' ⟨rfl, q2, rfl⟩
            exact ⟨_, rfl, rfl, ⟨fun _ => ⟨q + q2, by rw [World.drewN_drewN]⟩, (fun e => by cases e)⟩, .inr (on_drewN (Below.refl _ _) _)⟩
          · have h24 : ρ (.tmp 24) = .slice (some ⟨pb, 0, none⟩) n n := hs.1
            have h27 : ρ (.tmp 27) = .int .i64 (r : Int) := hs.2.1
            refine step_plain rfl (leaves_value (v := .pointer (some ⟨pb, r, none⟩)) (w' := W) ?_ ⟨rfl, by simpa using hS, .inr (Below.refl _ _)⟩)
            simp [go_sem, h24, h27, hrlz]
          · have h28 : ρ (.tmp 28) = .pointer (some ⟨pb, r, none⟩) := hs.1
            refine step_plain rfl (leaves_value (v := .int .u8 (x : Int)) (w' := W) ?_ ⟨rfl, by simpa using hS, .inr (Below.refl _ _)⟩)
            obtain rfl : f = true := hf (by kernel_rfl)
            obtain ⟨q, rfl⟩ := hS.1 rfl
            simp [go_sem, h28, hc]
          · have h19 : ρ (.tmp 19) = .slice (some ⟨gb, 0, none⟩) m m := hs.1
            have h20 : ρ (.tmp 20) = .int .i64 (i : Int) := hs.2.1
            refine step_plain rfl (leaves_value (v := .pointer (some ⟨gb, i, none⟩)) (w' := W) ?_ ⟨rfl, by simpa using hS, .inr (Below.refl _ _)⟩)
            simp [go_sem, h19, h20, hilz]
          · have h30 : ρ (.tmp 30) = .pointer (some ⟨gb, i, none⟩) := hs.1
            have h29 : ρ (.tmp 29) = .int .u8 (x : Int) := hs.2.1
            obtain rfl : f = true := hf (by kernel_rfl)
            obtain ⟨q, rfl⟩ := hS.1 rfl
            refine step_plain rfl (leaves_skip (w' := (wr.drewN q).setCell ⟨gb, i, none⟩ (.int .u8 x)) ?_ ⟨trivial, ⟨(fun e => by cases e), fun _ => ⟨q, rfl⟩⟩, .inl rfl⟩)
            simp [go_sem, h30, h29, hcr, hfr]
        case enR1 =>
          intro f W hf hS v0 h0 v1 h1 v2 h2 v3 h3 v4 h4 v5 h5 v6 h6 v7 h7 v8 h8 v9 h9 v10 h10 v11 h11 h12
          obtain rfl : f = false := hf (by decide)
          clear hf
          have e0 : v0 = .slice (some ⟨gb, 0, none⟩) m m := h0 rfl
          subst v0
          have e1 : v1 = .int .i64 (i : Int) := h1 rfl
          subst v1
          have e2 : v2 = .pointer (some ⟨rb, 0, none⟩) := h2 rfl
          subst v2
          have e3 : v3 = .pointer (some ⟨rb, 0, none⟩) := h3 rfl
          subst v3
          have e4 : v4 = .pointer (some ⟨rb, 0, none⟩) := h4 rfl
          subst v4
          have e5 : v5 = .slice (some ⟨pb, 0, none⟩) n n := h5 rfl
          subst v5
          have e6 : v6 = .pointer (some ⟨rb, 0, none⟩) := h6 rfl
          subst v6
          have e7 : v7 = .int .i64 (i : Int) := h7 rfl
          subst v7
          have e8 : v8 = .int .i64 (r : Int) := h8 rfl
          subst v8
          have e9 : v9 = .pointer (some ⟨pb, r, none⟩) := h9 rfl
          subst v9
          have e10 : v10 = .int .u8 (x : Int) := h10 rfl
          subst v10
          have e11 : v11 = .pointer (some ⟨gb, i, none⟩) := h11 rfl
          subst v11
          clear h0 h1 h2 h3 h4 h5 h6 h7 h8 h9 h10 h11 h12
          simp only [ends, Act.put, List.setIfInBounds_toArray, List.set_cons_succ, List.set_cons_zero]
          obtain ⟨q, rfl⟩ := hS.2 rfl
          clear hS HPl
          have HI3 : Hid (Blk ((wr.drewN q).setCell ⟨gb, i, none⟩ (.int .u8 (x : Int))) gb 5 (bytesV (outB R (i + 1))) ∧ Below gb w1 ((wr.drewN q).setCell ⟨gb, i, none⟩ (.int .u8 (x : Int)))) := by
            refine ⟨?_, below_but (HI.out.2.trans (on_drewN (Below.refl _ _) q |>.mono (Nat.le_of_lt HI.out.1.lt))) (but_set _ _ _ _) (Nat.le_refl _)⟩
            rw [HS.out]
            exact (HI.out.1.on (on_drewN (Below.refl _ _) q)).set i _
          clear HI HS x0 hc hcr hfr
          go_wp2
          go_roundw
          case rel => exact ⟨i + 1, by omega, by go_num, HI3⟩
          case measure => simp [intOf]; omega
      · obtain rfl : i = m := by omega
        have hltz : ¬ (i : Int) < (i : Int) := by omega
        go_wp2
        exact HP.out _ HI.out.1 HI.out.2

/-- What Take leaves. -/
def TakePost (rb pb n : Nat) (B : List UInt8) (k : Nat) (w : World) (e : Ending) (w' : World) : Prop := ∃ v, e = .returned v ∧ OwnV w.heap.size 5 w' v (bytesV (B.take k)) ∧ RingAt w' rb pb n (B.drop k) ∧ Two rb pb w w'
theorem take_nil (k : Int) (w : World) : Calls Try.prog 9 #[.pointer none, .int .i64 k] w fun e w' => e = .returned (.slice none 0 0) ∧ w' = w := by
  have c1 := peek_nil k w
  go_enter Try.func9, Try.ntmps9
  go_wp2_with fail
  refine c1.mono ?_
  rintro e w1 ⟨rfl, rfl⟩
  go_wp2
  go_ret
  exact ⟨rfl, rfl⟩
set_option maxRecDepth 100000 in
set_option maxHeartbeats 2000000 in
theorem take_any {w : World} {rb pb n : Nat} {B : List UInt8} (h : RingAt w rb pb n B) (kz : Int) :
    Calls Try.prog 9 #[.pointer (some ⟨rb, 0, none⟩), .int .i64 kz] w (TakePost rb pb n B kz.toNat w) := by
  have c1 := peek_any h kz
  have hfew := h.few
  have hmost := h.most
  obtain ⟨hlr, hlp⟩ := h.lt
  have HH : Hid (RingAt w rb pb n B) := h
  have HT : Hid (∀ v W, OwnV w.heap.size 5 W v (bytesV (B.take kz.toNat)) → RingAt W rb pb n (B.drop kz.toNat) → Two rb pb w W → TakePost rb pb n B kz.toNat w (.returned v) W) := fun v W h1 h2 h3 => ⟨v, rfl, h1, h2, h3⟩
  have hz : B.take kz.toNat = [] → B.drop kz.toNat = B := fun e => by
    have := List.take_append_drop kz.toNat B
    rw [e] at this
    simpa using this
  have HD : Hid (∀ m, (B.take kz.toNat).length = m → B.drop m = B.drop kz.toNat ∧ m ≤ B.length) := fun m hm => by
    rw [List.length_take] at hm
    refine ⟨?_, by omega⟩
    rw [← hm]
    rcases Nat.le_total kz.toNat B.length with h7 | h7
    · rw [Nat.min_eq_left h7]
    · rw [Nat.min_eq_right h7, List.drop_length, List.drop_of_length_le h7]
  generalize TakePost rb pb n B kz.toNat w = Post at *
  generalize B.take kz.toNat = R at *
  clear h
  go_enter Try.func9, Try.ntmps9
  go_wp2_with fail
  refine c1.mono ?_
  rintro e w1 ⟨v, rfl, ho, hb⟩
  clear c1
  obtain ⟨p, cap, rfl, hat, hcap⟩ := ownV_at ho
  have HO : Hid (OwnV w.heap.size 5 w1 (.slice p (bytesV R).length cap) (bytesV R)) := ho
  have HB : Hid (Below w.heap.size w w1) := hb
  clear ho hat
  simp only [bytesV, List.length_map] at *
  by_cases h0 : R.length = 0
  · obtain rfl : R = [] := List.eq_nil_of_length_eq_zero h0
    have HK := HT.out _ _ HO.out (by rw [hz rfl]; exact HH.out.on hb) (two_on hb)
    simp only [List.length_nil] at HK ⊢
    clear HT HO HD hz HH
    go_wp2
    exact HK
  · obtain ⟨hD, hmB⟩ := HD.out R.length rfl
    have h0p : 0 < R.length := by omega
    have h0z : (0 : Int) < (R.length : Int) := by omega
    obtain ⟨f, C, hM⟩ := HH.out.on hb
    have cP := place_any hM R.length (by omega)
    have HM : Hid (RingM w1 rb pb n f C B) := hM
    have hS := hM.drop R.length hmB
    have HS : Hid (RingM ((w1.setCell ⟨rb, 1, none⟩ (.int .i64 (((f + R.length) % n : Nat) : Int))).setCell ⟨rb, 2, none⟩ (.int .i64 ((B.length - R.length : Nat) : Int))) rb pb n ((f + R.length) % n) C (B.drop kz.toNat)) := by rw [← hD]; exact hS
    clear hM hS hz HH HD hD
    generalize hm : R.length = m at *
    clear hm
    generalize (f + m) % n = r at *
    generalize B.drop kz.toNat = B2 at *
    go_wp2_with fail
    refine cP.mono ?_
    rintro e w2 ⟨rfl, q, rfl⟩
    clear cP
    have x1 := HM.out.box.cell 1 rfl
    have x1f := HM.out.box.free 1
    have x2 : ((w1.drewN q).setCell ⟨rb, 1, none⟩ (.int .i64 (r : Int))).cell? ⟨rb, 2, none⟩ = some (.int .i64 (B.length : Nat)) := (HM.out.box.set 1 (.int .i64 (r : Int))).cell 2 rfl
    have x2f : ((w1.drewN q).setCell ⟨rb, 1, none⟩ (.int .i64 (r : Int))).frozen? ⟨rb, 2, none⟩ = false := (HM.out.box.set 1 (.int .i64 (r : Int))).free 2
    have hsub : (B.length : Int) - (m : Int) = ((B.length - m : Nat) : Int) := by omega
    have HK : Post (.returned (.slice p m cap)) (((w1.drewN q).setCell ⟨rb, 1, none⟩ (.int .i64 (r : Int))).setCell ⟨rb, 2, none⟩ (.int .i64 ((B.length - m : Nat) : Int))) := by
      have hbb : ∀ i v W, OwnV w.heap.size 5 W (.slice p m cap) (bytesV R) → OwnV w.heap.size 5 (W.setCell ⟨rb, i, none⟩ v) (.slice p m cap) (bytesV R) := fun i v W ho => ownV_but ho (but_set _ _ _ _) hlr
      refine HT.out _ _ (hbb _ _ _ (hbb _ _ _ (ownV_on HO.out (on_drewN (Below.refl _ _) q)))) ⟨_, _, HS.out.on (on_drewN (Below.refl _ _) q)⟩ (((two_on (on_drewN HB.out q)).trans (two_one (but_set _ _ _ _))).trans (two_one (but_set _ _ _ _)))
    clear HT HS HM HO HB
    go_wp2
    exact HK

end Go.Proofs.Ytfdpiinkjgepkaa.B
