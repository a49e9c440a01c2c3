/- SlotsClones holds. -/
import Derived.Test.YtmccfcllehfebaaZLaw
namespace Go.Proofs.Ytmccfcllehfebaa.Z
open Go Go.RowKit

/-- A table and its clone, and both of the reference. -/
structure Tw (w0 : World) (tb tb2 : Nat) (lv : Value) (S : List Sl) (mv : Value) (M : List Sl) (w : World) : Prop where
  is : ∃ D F F2, TabAt D F w tb S ∧ RowAt D w lv S ∧ TabAt D F2 w tb2 M ∧ RowAt D w mv M ∧ Lt D w ∧ (∀ k, F2 k → ¬ F k) ∧ (∀ k, F2 k → w0.heap.size ≤ k)
  below : Below w0.heap.size w0 w
  fits : Fits S ∧ Fits M
  len : S.length = 4 ∧ M.length = 4
section
variable {w0 w w' : World} {tb tb2 : Nat} {lv mv : Value} {S M : List Sl}
theorem Tw.on (h : Tw w0 tb tb2 lv S mv M w) (hb : Below w.heap.size w w') : Tw w0 tb tb2 lv S mv M w' := by
  obtain ⟨D, F, F2, h1, h2, h3, h4, h5, h6, h7⟩ := h.is
  exact ⟨⟨D, F, F2, h1.on hb, h2.on hb, h3.on hb, h4.on hb, h5.on hb, h6, h7⟩, on_trans h.below hb, h.fits, h.len⟩
theorem Tw.does (h : Tw w0 tb tb2 lv S mv M w) {a : ActV} (ha : ActOk w0 a) :
    Calls Try.prog 9 #[ptr tb2, mv, .agg a.cells.toArray] w fun e w' => ∃ v' M', e = .returned (.tuple #[v', .bool true]) ∧ Tw w0 tb tb2 lv S v' M' w' := by
  obtain ⟨D, F, F2, h1, h2, h3, h4, h5, h6, h7⟩ := h.is
  refine (does_any h3 h4 h5 h.fits.2 (by rw [h.len.2]; decide) a.k a.d a.x a.p a.q a.c a.e a.m (ha.sl.at_.below h.below (Nat.le_refl _)) (ha.at_.below h.below (Nat.le_refl _)) ha.sl.cap ha.cap ha.sl.rights).mono ?_
  rintro e w' ⟨F', v', rfl, g1, g2, g3⟩
  have hFD : ∀ k, F2 k → D k := fun k hk => (h3.sub k hk).1
  exact ⟨v', _, rfl, ⟨_, F, F', h1.goes g3 hFD h6, h2.goes g3 hFD, g1, g2, h5.goes g1 g3, fun k hk hF => by
    rcases g3.sub k hk with h8 | h8
    · exact h6 k h8 hF
    · have := (h1.sub k hF).2; omega, fun k hk => by
    rcases g3.sub k hk with h8 | h8
    · exact h7 k h8
    · exact Nat.le_trans h.below.size h8⟩, g3.below h.below h7 h.below.size, ⟨h.fits.1, doX_fits h.fits.2 _ _ _ ha.sl.rights⟩, h.len.1, by rw [doX_len]; exact h.len.2⟩
theorem Tw.alike (h : Tw w0 tb tb2 lv S mv M w) : Calls Try.prog 10 #[ptr tb, lv] w fun e w' => e = .returned (.bool true) ∧ Tw w0 tb tb2 lv S mv M w' := by
  obtain ⟨D, F, F2, h1, h2, h3, h4, h5, h6, h7⟩ := h.is
  exact (alike_any h1 h2 h5 h.fits.1 (by rw [h.len.1]; decide)).mono fun e w' ⟨g1, g2⟩ => ⟨g1, h.on g2⟩
theorem Tw.alike2 (h : Tw w0 tb tb2 lv S mv M w) : Calls Try.prog 10 #[ptr tb2, mv] w fun e w' => e = .returned (.bool true) ∧ Tw w0 tb tb2 lv S mv M w' := by
  obtain ⟨D, F, F2, h1, h2, h3, h4, h5, h6, h7⟩ := h.is
  exact (alike_any h3 h4 h5 h.fits.2 (by rw [h.len.2]; decide)).mono fun e w' ⟨g1, g2⟩ => ⟨g1, h.on g2⟩
theorem Rn.clone (h : Rn w0 tb lv S 4 w) : Calls Try.prog 24 #[ptr tb] w fun e w' => ∃ tb2, e = .returned (ptr tb2) ∧ Tw w0 tb tb2 lv S lv S w' := by
  obtain ⟨D, F, h1, h2, h3, h4⟩ := h.is
  refine (clone_any h1 h.fits h3 (by rw [h.len]; decide)).mono ?_
  rintro e w' ⟨tb2, F2, rfl, g1, g2, g3⟩
  have hup : Ups D (Or D F2) w.heap.size := fun k hk => by
    rcases hk with h7 | h7
    · exact .inl h7
    · exact .inr (g3 k h7)
  have hst := St.made h3 g1 g2 g3
  exact ⟨tb2, rfl, ⟨_, F, F2, (h1.up hup fun k hk => .inl (h1.sub k hk).1).on g2, (h2.up hup).on g2, g1, (h2.up hup).on g2, hst.lt, fun k hk hF => by have := g3 k hk; have := (h1.sub k hF).2; omega, fun k hk => Nat.le_trans h.below.size (g3 k hk)⟩, on_trans h.below g2, ⟨h.fits, h.fits⟩, h.len, h.len⟩
end
set_option maxRecDepth 100000 in
set_option maxHeartbeats 4000000 in
theorem clones_walk (p : Option Addr) (cap : Nat) (l : List ActV) (p2 : Option Addr) (cap2 : Nat) (l2 : List ActV) (w : World) (_hcap : l.length ≤ cap) (_hl : l.length ≤ 9223372036854775807) (hat : ActsAt w p l) (_hcap2 : l2.length ≤ cap2) (_hl2 : l2.length ≤ 9223372036854775807) (hat2 : ActsAt w p2 l2) : Calls Try.prog 6 #[.slice p l.length cap, .slice p2 l2.length cap2] w fun e w' => e = .returned (.bool true) ∧ Below w.heap.size w w' := by
  have HN : Hid (∀ W, Below w.heap.size w W → Calls Try.prog 8 #[.int .i64 4] W fun e Y' => ∃ v, e = .returned v ∧ (kt w 4).ok v Y' ∧ Below W.heap.size W Y') := fun W hb => new_kt 4 w W (by omega) (by omega) hb
  have HMk : Hid (∀ W, (Instr.makeSlice 25 (.int .i64 4) (.int .i64 4)).run Try.prog W = .ok (.slice (some ⟨W.heap.size, 0, none⟩) 4 4) (W.alloc (.cells (flat (zRow 4)).toArray 34))) := fun W => make_slots 4 (by omega) (by omega) W
  have HA : Hid (ActsAt w p l) := hat
  have HA2 : Hid (ActsAt w p2 l2) := hat2
  have HL : Hid (∀ wr, Calls Try.prog 11 #[] wr fun e w' => e = .returned (.bool true) ∧ Below wr.heap.size wr w') := fun wr => lives_any wr
  clear hat hat2
  go_enter Try.func6, Try.ntmps6
  go_wp2
  refine wp_region_left (S := fun W => Below w.heap.size w W) (Keep := KeepK [])
    (g := fun jj vv WW => (([kt w 4, kz 4, kt w 4, kz 4] : List (Kd 0)).getD jj Kd.any).ok vv WW)
    (tab := [[], [], [(13, some 0)], [(14, some 1)]]) (tl := []) (n := 82)
    (by kernel_rfl) rfl (by kernel_rfl) keep_none (on_drew (Below.refl _ _)) ?st ?en
  case st =>
    refine ⟨fun ρ W hr hS hs => ?_, fun ρ W hr hS hs => ?_, fun ρ W hr hS hs => ?_, fun ρ W hr hS hs => ?_, trivial⟩
    · have hcn := hr.const
      refine step_plain rfl (leaves_call en_new hr #[.const (.int .i64 4)] _ rfl #[.int .i64 4] (by simp [hcn]) ((HN.out W hS).mono ?_))
      rintro e W' ⟨v9, rfl, h9, hb9⟩
      exact ⟨_, rfl, h9, on_trans hS hb9, hb9⟩
    · have hmk := HMk.out W
      have hcn := hr.const
      refine step_plain rfl (leaves_value (v := .slice (some ⟨W.heap.size, 0, none⟩) 4 4) (w' := W.alloc (.cells (flat (zRow 4)).toArray 34)) ?_ ⟨⟨W.heap.size, rfl, Blk.new W _ _⟩, on_trans hS (on_alloc _ _), on_alloc _ _⟩)
      simp [go_sem, hcn, hmk]
    · have h13 := hs.1
      exact step_plain rfl (leaves_assign (.tmp 13) rfl ⟨h13, hS, Below.refl _ _⟩)
    · have h14 := hs.1
      exact step_plain rfl (leaves_assign (.tmp 14) rfl ⟨h14, hS, Below.refl _ _⟩)
  case en =>
    intro W hS v0 h0 v1 h1 v2 h2 v3 h3
    simp only [ends, Act.put, List.setIfInBounds_toArray, List.set_cons_succ, List.set_cons_zero]
    obtain ⟨tb, hv4, hrn⟩ := rn_start hS (h2 rfl) (h3 rfl)
    subst hv4
    have HR0 : Hid _ := hrn
    clear hrn hS h0 h1 h2 h3 HN HMk
    go_wp2
    go_loopw [6, 7] (fun lv iv wr => ∃ (k : Nat) (u : Value), u = lv ∧ iv = .int .i64 (k : Int) ∧ k ≤ 30 ∧ k ≤ l.length ∧ Hid (∃ S, Rn w tb lv S 4 wr)) (fun _ iv _ => 30 - (intOf iv).toNat)
    case atStart => exact ⟨0, _, rfl, rfl, by omega, Nat.zero_le _, ⟨_, HR0.out⟩⟩
    case round =>
    clear HR0
    obtain ⟨k, u, hu, rfl, hk, hkl, HR⟩ := hrel
    subst hu
    by_cases hgo : k < l.length ∧ k < 30
    · obtain ⟨hlt, hlt2⟩ := hgo
      have hltz : (k : Int) < (l.length : Int) := by omega
      have hlt2z : (k : Int) < 30 := by omega
      obtain ⟨S, hR⟩ := HR.out
      obtain ⟨pb, off, hp, _, hpb, hc⟩ := HA.out.row.place (k := k * 8) (by rw [actsV_len]; omega)
      cases hp
      have hXs : ∀ i v, (l[k].cells)[i]? = some v → wr.cell? ⟨pb, off + k * 8 + i, none⟩ = some v := fun i v hv => by
        have hi8 : i < 8 := by have := (List.getElem?_eq_some_iff.1 hv).1; simpa [ActV.cells, acC] using this
        have := (hR.below.cell (p := ⟨pb, off + (k * 8 + i), none⟩) hpb).trans (hc _ _ ((actsV_get hlt hi8).trans hv))
        rwa [← Nat.add_assoc] at this
      have okx := HA.out.ok l[k] (by simp)
      clear hc
      generalize l[k] = x at *
      have a0 := hXs 0 _ rfl
      have a1 := hXs 1 _ rfl
      have a2 := hXs 2 _ rfl
      have a3 := hXs 3 _ rfl
      have a4 := hXs 4 _ rfl
      have a5 := hXs 5 _ rfl
      have a6 := hXs 6 _ rfl
      have a7 := hXs 7 _ rfl
      rw [Nat.add_zero] at a0
      clear hXs hpb
      have cD : Calls Try.prog 9 #[ptr tb, u, .agg #[.int .i64 x.k, .int .i64 x.d, .int .i64 x.x.file, .int .u32 (x.x.rights : Int), .bool x.x.all, .slice x.p x.x.ints.length x.c, .int .i64 x.x.fc, .slice x.q x.m.length x.e]] wr fun e w' => ∃ v' S', e = .returned (.tuple #[v', .bool true]) ∧ Rn w tb v' S' 4 w' := hR.does (by omega) okx
      clear HR hR
      go_wp2_with fail
      refine cD.mono ?_
      rintro e w5 ⟨v5, S5, rfl, h5⟩
      have HR5 : Hid (∃ S, Rn w tb v5 S 4 w5) := ⟨S5, h5⟩
      clear h5 cD a0 a1 a2 a3 a4 a5 a6 a7 okx
      go_wp2
      go_roundw
      case rel => exact ⟨k + 1, _, rfl, by go_num, by omega, by omega, HR5⟩
      case measure => simp [intOf]; omega
    · obtain ⟨S, hR⟩ := HR.out
      have cC := hR.clone
      clear hR HR HA
      by_cases hlt : k < l.length
      · have hltz : (k : Int) < (l.length : Int) := by omega
        have hlt2z : ¬ (k : Int) < 30 := by omega
        go_wp2_with fail
        refine cC.mono ?_
        rintro e w5 ⟨tb2, rfl, h5⟩
        have cA := h5.alike2
        clear h5 cC
        go_wp2_with fail
        refine cA.mono ?_
        rintro e w6 ⟨rfl, h6⟩
        have HT6 : Hid _ := h6
        clear h6 cA hltz hkl hk hgo
        go_wp2
        go_loopw [9, 10] (fun mv iv wr2 => ∃ (k : Nat) (u2 : Value), u2 = mv ∧ iv = .int .i64 (k : Int) ∧ k ≤ 30 ∧ k ≤ l2.length ∧ Hid (∃ M, Tw w tb tb2 u S mv M wr2)) (fun _ iv _ => 30 - (intOf iv).toNat)
        case atStart => exact ⟨0, _, rfl, rfl, by omega, Nat.zero_le _, ⟨_, HT6.out⟩⟩
        case round =>
        clear HT6
        obtain ⟨k, u2, hu2, rfl, hk, hkl, HR⟩ := hrel
        subst hu2
        by_cases hgo : k < l2.length ∧ k < 30
        · obtain ⟨hlt, hlt2⟩ := hgo
          have hltz : (k : Int) < (l2.length : Int) := by omega
          have hlt2z : (k : Int) < 30 := by omega
          obtain ⟨M, hR⟩ := HR.out
          obtain ⟨pb, off, hp, _, hpb, hc⟩ := HA2.out.row.place (k := k * 8) (by rw [actsV_len]; omega)
          cases hp
          have hXs : ∀ i v, (l2[k].cells)[i]? = some v → wr.cell? ⟨pb, off + k * 8 + i, none⟩ = some v := fun i v hv => by
            have hi8 : i < 8 := by have := (List.getElem?_eq_some_iff.1 hv).1; simpa [ActV.cells, acC] using this
            have := (hR.below.cell (p := ⟨pb, off + (k * 8 + i), none⟩) hpb).trans (hc _ _ ((actsV_get hlt hi8).trans hv))
            rwa [← Nat.add_assoc] at this
          have okx := HA2.out.ok l2[k] (by simp)
          clear hc
          generalize l2[k] = x at *
          have a0 := hXs 0 _ rfl
          have a1 := hXs 1 _ rfl
          have a2 := hXs 2 _ rfl
          have a3 := hXs 3 _ rfl
          have a4 := hXs 4 _ rfl
          have a5 := hXs 5 _ rfl
          have a6 := hXs 6 _ rfl
          have a7 := hXs 7 _ rfl
          rw [Nat.add_zero] at a0
          clear hXs hpb
          have cD : Calls Try.prog 9 #[ptr tb2, u2, .agg #[.int .i64 x.k, .int .i64 x.d, .int .i64 x.x.file, .int .u32 (x.x.rights : Int), .bool x.x.all, .slice x.p x.x.ints.length x.c, .int .i64 x.x.fc, .slice x.q x.m.length x.e]] wr fun e w' => ∃ v' M', e = .returned (.tuple #[v', .bool true]) ∧ Tw w tb tb2 u S v' M' w' := hR.does okx
          clear HR hR
          go_wp2_with fail
          refine cD.mono ?_
          rintro e w7 ⟨v7, M7, rfl, h7⟩
          have HR7 : Hid (∃ M, Tw w tb tb2 u S v7 M w7) := ⟨M7, h7⟩
          clear h7 cD a0 a1 a2 a3 a4 a5 a6 a7 okx
          go_wp2
          go_roundw
          case rel => exact ⟨k + 1, _, rfl, by go_num, by omega, by omega, HR7⟩
          case measure => simp [intOf]; omega
        · obtain ⟨M, hR⟩ := HR.out
          have cA := hR.alike
          clear hR HR HA2
          by_cases hlt : k < l2.length
          · have hltz : (k : Int) < (l2.length : Int) := by omega
            have hlt2z : ¬ (k : Int) < 30 := by omega
            go_wp2_with fail
            refine cA.mono ?_
            rintro e w8 ⟨rfl, h8⟩
            have cB := h8.alike2
            clear h8 cA
            go_wp2_with fail
            refine cB.mono ?_
            rintro e w9 ⟨rfl, h9⟩
            have HB : Hid (Below w.heap.size w w9) := h9.below
            clear h9 cB
            go_wp2_with fail
            refine (HL.out _).mono ?_
            rintro e w10 ⟨rfl, hb10⟩
            have HB10 : Hid (Below w.heap.size w w10) := on_trans HB.out hb10
            clear HB hb10 HL
            go_wp2
            go_ret
            exact ⟨rfl, HB10.out⟩
          · have hltz : ¬ (k : Int) < (l2.length : Int) := by omega
            go_wp2_with fail
            refine cA.mono ?_
            rintro e w8 ⟨rfl, h8⟩
            have cB := h8.alike2
            clear h8 cA
            go_wp2_with fail
            refine cB.mono ?_
            rintro e w9 ⟨rfl, h9⟩
            have HB : Hid (Below w.heap.size w w9) := h9.below
            clear h9 cB
            go_wp2_with fail
            refine (HL.out _).mono ?_
            rintro e w10 ⟨rfl, hb10⟩
            have HB10 : Hid (Below w.heap.size w w10) := on_trans HB.out hb10
            clear HB hb10 HL
            go_wp2
            go_ret
            exact ⟨rfl, HB10.out⟩
      · have hltz : ¬ (k : Int) < (l.length : Int) := by omega
        go_wp2_with fail
        refine cC.mono ?_
        rintro e w5 ⟨tb2, rfl, h5⟩
        have cA := h5.alike2
        clear h5 cC
        go_wp2_with fail
        refine cA.mono ?_
        rintro e w6 ⟨rfl, h6⟩
        have HT6 : Hid _ := h6
        clear h6 cA hltz hkl hk hgo
        go_wp2
        go_loopw [9, 10] (fun mv iv wr2 => ∃ (k : Nat) (u2 : Value), u2 = mv ∧ iv = .int .i64 (k : Int) ∧ k ≤ 30 ∧ k ≤ l2.length ∧ Hid (∃ M, Tw w tb tb2 u S mv M wr2)) (fun _ iv _ => 30 - (intOf iv).toNat)
        case atStart => exact ⟨0, _, rfl, rfl, by omega, Nat.zero_le _, ⟨_, HT6.out⟩⟩
        case round =>
        clear HT6
        obtain ⟨k, u2, hu2, rfl, hk, hkl, HR⟩ := hrel
        subst hu2
        by_cases hgo : k < l2.length ∧ k < 30
        · obtain ⟨hlt, hlt2⟩ := hgo
          have hltz : (k : Int) < (l2.length : Int) := by omega
          have hlt2z : (k : Int) < 30 := by omega
          obtain ⟨M, hR⟩ := HR.out
          obtain ⟨pb, off, hp, _, hpb, hc⟩ := HA2.out.row.place (k := k * 8) (by rw [actsV_len]; omega)
          cases hp
          have hXs : ∀ i v, (l2[k].cells)[i]? = some v → wr.cell? ⟨pb, off + k * 8 + i, none⟩ = some v := fun i v hv => by
            have hi8 : i < 8 := by have := (List.getElem?_eq_some_iff.1 hv).1; simpa [ActV.cells, acC] using this
            have := (hR.below.cell (p := ⟨pb, off + (k * 8 + i), none⟩) hpb).trans (hc _ _ ((actsV_get hlt hi8).trans hv))
            rwa [← Nat.add_assoc] at this
          have okx := HA2.out.ok l2[k] (by simp)
          clear hc
          generalize l2[k] = x at *
          have a0 := hXs 0 _ rfl
          have a1 := hXs 1 _ rfl
          have a2 := hXs 2 _ rfl
          have a3 := hXs 3 _ rfl
          have a4 := hXs 4 _ rfl
          have a5 := hXs 5 _ rfl
          have a6 := hXs 6 _ rfl
          have a7 := hXs 7 _ rfl
          rw [Nat.add_zero] at a0
          clear hXs hpb
          have cD : Calls Try.prog 9 #[ptr tb2, u2, .agg #[.int .i64 x.k, .int .i64 x.d, .int .i64 x.x.file, .int .u32 (x.x.rights : Int), .bool x.x.all, .slice x.p x.x.ints.length x.c, .int .i64 x.x.fc, .slice x.q x.m.length x.e]] wr fun e w' => ∃ v' M', e = .returned (.tuple #[v', .bool true]) ∧ Tw w tb tb2 u S v' M' w' := hR.does okx
          clear HR hR
          go_wp2_with fail
          refine cD.mono ?_
          rintro e w7 ⟨v7, M7, rfl, h7⟩
          have HR7 : Hid (∃ M, Tw w tb tb2 u S v7 M w7) := ⟨M7, h7⟩
          clear h7 cD a0 a1 a2 a3 a4 a5 a6 a7 okx
          go_wp2
          go_roundw
          case rel => exact ⟨k + 1, _, rfl, by go_num, by omega, by omega, HR7⟩
          case measure => simp [intOf]; omega
        · obtain ⟨M, hR⟩ := HR.out
          have cA := hR.alike
          clear hR HR HA2
          by_cases hlt : k < l2.length
          · have hltz : (k : Int) < (l2.length : Int) := by omega
            have hlt2z : ¬ (k : Int) < 30 := by omega
            go_wp2_with fail
            refine cA.mono ?_
            rintro e w8 ⟨rfl, h8⟩
            have cB := h8.alike2
            clear h8 cA
            go_wp2_with fail
            refine cB.mono ?_
            rintro e w9 ⟨rfl, h9⟩
            have HB : Hid (Below w.heap.size w w9) := h9.below
            clear h9 cB
            go_wp2_with fail
            refine (HL.out _).mono ?_
            rintro e w10 ⟨rfl, hb10⟩
            have HB10 : Hid (Below w.heap.size w w10) := on_trans HB.out hb10
            clear HB hb10 HL
            go_wp2
            go_ret
            exact ⟨rfl, HB10.out⟩
          · have hltz : ¬ (k : Int) < (l2.length : Int) := by omega
            go_wp2_with fail
            refine cA.mono ?_
            rintro e w8 ⟨rfl, h8⟩
            have cB := h8.alike2
            clear h8 cA
            go_wp2_with fail
            refine cB.mono ?_
            rintro e w9 ⟨rfl, h9⟩
            have HB : Hid (Below w.heap.size w w9) := h9.below
            clear h9 cB
            go_wp2_with fail
            refine (HL.out _).mono ?_
            rintro e w10 ⟨rfl, hb10⟩
            have HB10 : Hid (Below w.heap.size w w10) := on_trans HB.out hb10
            clear HB hb10 HL
            go_wp2
            go_ret
            exact ⟨rfl, HB10.out⟩

end Go.Proofs.Ytmccfcllehfebaa.Z
