/- SlotsActs holds. -/
import Derived.Test.YtmccfcllehfebaaZLaw
namespace Go.Proofs.Ytmccfcllehfebaa.Z
open Go Go.RowKit

set_option maxRecDepth 100000 in
set_option maxHeartbeats 2000000 in
theorem acts_walk (m : Int) (p : Option Addr) (cap : Nat) (l : List ActV) (w : World) (hm : (Lit.int .u8 m).wf = true) (_hcap : l.length ≤ cap) (_hl : l.length ≤ 9223372036854775807) (hat : ActsAt w p l) : Calls Try.prog 3 #[.int .u8 m, .slice p l.length cap] w fun e w' => e = .returned (.bool true) ∧ Below w.heap.size w w' := by
  have hm2 : 0 ≤ m ∧ m ≤ 255 := by
    simp [Lit.wf, IntKind.min, IntKind.max, IntKind.signed, IntKind.bits] at hm
    omega
  obtain ⟨r, hr0⟩ : ∃ r : Nat, m % 8 = (r : Int) := ⟨(m % 8).toNat, by omega⟩
  have hrt : Int.tmod m 8 = (r : Int) := by rw [Int.tmod_eq_emod_of_nonneg hm2.1]; exact hr0
  have hr3 : r < 8 := by omega
  obtain ⟨n, hN⟩ : ∃ n : Nat, 1 + (r : Int) = (n : Int) := ⟨1 + r, by omega⟩
  have hn1 : 1 ≤ n ∧ n ≤ 8 := by omega
  have HN : Hid (∀ W, Below w.heap.size w W → Calls Try.prog 8 #[.int .i64 (n : Int)] W fun e Y' => ∃ v, e = .returned v ∧ (kt w n).ok v Y' ∧ Below W.heap.size W Y') := fun W hb => new_kt n w W (by omega) (by omega) hb
  have HMk : Hid (∀ W, (Instr.makeSlice 25 (.int .i64 (n : Int)) (.int .i64 (n : Int))).run Try.prog W = .ok (.slice (some ⟨W.heap.size, 0, none⟩) n n) (W.alloc (.cells (flat (zRow n)).toArray 34))) := fun W => make_slots n (by omega) (by omega) W
  have HA : Hid (ActsAt w p l) := hat
  have HL : Hid (∀ wr, Calls Try.prog 11 #[] wr fun e w' => e = .returned (.bool true) ∧ Below wr.heap.size wr w') := fun wr => lives_any wr
  clear hat hm hm2 hr0
  go_enter Try.func3, Try.ntmps3
  go_wp2
  refine wp_region_left (S := fun W => Below w.heap.size w W) (Keep := KeepK [])
    (g := fun jj vv WW => (([.is (.int .i64 (n : Int)), kt w n, .is (.int .i64 (n : Int)), kz n, kt w n, kz n] : List (Kd 0)).getD jj Kd.any).ok vv WW)
    (tab := [[(5, none)], [(15, some 0)], [(5, none)], [(17, some 2)], [(16, some 1)], [(18, some 3)]]) (tl := []) (n := 51)
    (by kernel_rfl) rfl (by kernel_rfl) keep_none (on_drew (Below.refl _ _)) ?st ?en
  case st =>
    refine ⟨fun ρ W hr hS hs => ?_, fun ρ W hr hS hs => ?_, fun ρ W hr hS hs => ?_, fun ρ W hr hS hs => ?_, fun ρ W hr hS hs => ?_, fun ρ W hr hS hs => ?_, trivial⟩
    · have h5 : ρ (.tmp 5) = .int .i64 (n : Int) := hs.1
      exact step_plain rfl (leaves_move (.tmp 5) rfl ⟨h5, hS, Below.refl _ _⟩)
    · have h15 : ρ (.tmp 15) = .int .i64 (n : Int) := hs.1
      refine step_plain rfl (leaves_call1 en_new hr (.tmp 15) _ rfl h15 ((HN.out W hS).mono ?_))
      rintro e W' ⟨v9, rfl, h9, hb9⟩
      exact ⟨_, rfl, h9, on_trans hS hb9, hb9⟩
    · have h5 : ρ (.tmp 5) = .int .i64 (n : Int) := hs.1
      exact step_plain rfl (leaves_move (.tmp 5) rfl ⟨h5, hS, Below.refl _ _⟩)
    · have h17 : ρ (.tmp 17) = .int .i64 (n : Int) := hs.1
      have hmk := HMk.out W
      refine step_plain rfl (leaves_value (v := .slice (some ⟨W.heap.size, 0, none⟩) n n) (w' := W.alloc (.cells (flat (zRow n)).toArray 34)) ?_ ⟨⟨W.heap.size, rfl, Blk.new W _ _⟩, on_trans hS (on_alloc _ _), on_alloc _ _⟩)
      simp [go_sem, h17, hmk]
    · have h16 := hs.1
      exact step_plain rfl (leaves_assign (.tmp 16) rfl ⟨h16, hS, Below.refl _ _⟩)
    · have h18 := hs.1
      exact step_plain rfl (leaves_assign (.tmp 18) rfl ⟨h18, hS, Below.refl _ _⟩)
  case en =>
    intro W hS v0 h0 v1 h1 v2 h2 v3 h3 v4 h4 v5 h5
    have e0 : v0 = .int .i64 (n : Int) := h0 rfl
    subst v0
    have e2 : v2 = .int .i64 (n : Int) := h2 rfl
    subst v2
    clear h0 h2
    simp only [ends, Act.put, List.setIfInBounds_toArray, List.set_cons_succ, List.set_cons_zero]
    obtain ⟨tb, hv4, hrn⟩ := rn_start hS (h4 rfl) (h5 rfl)
    subst hv4
    have HR0 : Hid _ := hrn
    clear hrn hS h1 h3 h4 h5 HN HMk
    go_wp2
    go_loopw [7, 8] (fun lv iv wr => ∃ (k : Nat) (u : Value), u = lv ∧ iv = .int .i64 (k : Int) ∧ k ≤ 60 ∧ k ≤ l.length ∧ Hid (∃ S, Rn w tb lv S n wr)) (fun _ iv _ => 60 - (intOf iv).toNat)
    case atStart => exact ⟨0, _, rfl, rfl, by omega, Nat.zero_le _, ⟨_, HR0.out⟩⟩
    case round =>
    clear HR0
    obtain ⟨k, u, hu, rfl, hk, hkl, HR⟩ := hrel
    subst hu
    by_cases hgo : k < l.length ∧ k < 60
    · obtain ⟨hlt, hlt2⟩ := hgo
      have hltz : (k : Int) < (l.length : Int) := by omega
      have hlt2z : (k : Int) < 60 := by omega
      obtain ⟨S, hR⟩ := HR.out
      obtain ⟨pb, off, hp, _, hpb, hc⟩ := HA.out.row.place (k := k * 8) (by rw [actsV_len]; omega)
      cases hp
      have hXs : ∀ i v, (l[k].cells)[i]? = some v → wr.cell? ⟨pb, off + k * 8 + i, none⟩ = some v := fun i v hv => by
        have hi8 : i < 8 := by have := (List.getElem?_eq_some_iff.1 hv).1; simpa [ActV.cells, acC] using this
        have := (hR.below.cell (p := ⟨pb, off + (k * 8 + i), none⟩) hpb).trans (hc _ _ ((actsV_get hlt hi8).trans hv))
        rwa [← Nat.add_assoc] at this
      have okx := HA.out.ok l[k] (by simp)
      clear hc
      generalize l[k] = x at *
      have a0 := hXs 0 _ rfl
      have a1 := hXs 1 _ rfl
      have a2 := hXs 2 _ rfl
      have a3 := hXs 3 _ rfl
      have a4 := hXs 4 _ rfl
      have a5 := hXs 5 _ rfl
      have a6 := hXs 6 _ rfl
      have a7 := hXs 7 _ rfl
      rw [Nat.add_zero] at a0
      clear hXs hpb
      have cD : Calls Try.prog 9 #[ptr tb, u, .agg #[.int .i64 x.k, .int .i64 x.d, .int .i64 x.x.file, .int .u32 (x.x.rights : Int), .bool x.x.all, .slice x.p x.x.ints.length x.c, .int .i64 x.x.fc, .slice x.q x.m.length x.e]] wr fun e w' => ∃ v' S', e = .returned (.tuple #[v', .bool true]) ∧ Rn w tb v' S' n w' := hR.does (by omega) okx
      clear HR hR
      go_wp2_with fail
      refine cD.mono ?_
      rintro e w5 ⟨v5, S5, rfl, h5⟩
      have HR5 : Hid _ := h5
      have cA := h5.alike (by omega)
      clear h5 cD a0 a1 a2 a3 a4 a5 a6 a7 okx
      go_wp2_with fail
      refine cA.mono ?_
      rintro e w6 ⟨rfl, h6⟩
      have HR6 : Hid (∃ S, Rn w tb v5 S n w6) := ⟨S5, h6⟩
      clear h6 cA HR5
      go_wp2
      go_roundw
      case rel => exact ⟨k + 1, _, rfl, by go_num, by omega, by omega, HR6⟩
      case measure => simp [intOf]; omega
    · obtain ⟨S, hR⟩ := HR.out
      have HB : Hid (Below w.heap.size w wr) := hR.below
      clear hR HR
      by_cases hlt : k < l.length
      · have hltz : (k : Int) < (l.length : Int) := by omega
        have hlt2z : ¬ (k : Int) < 60 := by omega
        go_wp2_with fail
        refine (HL.out _).mono ?_
        rintro e w5 ⟨rfl, hb5⟩
        have HB5 : Hid _ := on_trans HB.out hb5
        clear hb5 HB HL
        go_wp2
        go_ret
        exact ⟨rfl, HB5.out⟩
      · have hltz : ¬ (k : Int) < (l.length : Int) := by omega
        go_wp2_with fail
        refine (HL.out _).mono ?_
        rintro e w5 ⟨rfl, hb5⟩
        have HB5 : Hid _ := on_trans HB.out hb5
        clear hb5 HB HL
        go_wp2
        go_ret
        exact ⟨rfl, HB5.out⟩

end Go.Proofs.Ytmccfcllehfebaa.Z
