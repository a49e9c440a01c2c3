/- The law RingActs answers true at every input. -/
import Derived.Test.YtfdpiinkjgepkaaBLaw
import Derived.Test.YtfdpiinkjgepkaaBOpen
namespace Go.Proofs.Ytfdpiinkjgepkaa.B
open Go Go.RowKit

/-- What holds while acts are done. -/
structure AI (w : World) (rb pb N hi : Nat) (B : List UInt8) (bv : Value) (W : World) : Prop where
  ring : RingAt W rb pb N B
  sl : SlAt hi W bv B
  below : Below w.heap.size w W
  size : hi ≤ W.heap.size
theorem SlAt.read {hi n c : Nat} {W : World} {q : Option Addr} {L : List UInt8} (h : SlAt hi W (.slice q n c) L) : At W q (bytesV L) := by
  obtain ⟨q', c', e, hat, _⟩ := h.is
  cases e
  exact hat.at
theorem kept_size {rb pb hi : Nat} : Kept rb pb fun W => hi ≤ W.heap.size := ⟨fun _ _ a b => Nat.le_trans a b.size, fun _ _ a b => Nat.le_trans a b.size⟩
theorem AI.on {w W W' : World} {rb pb N hi : Nat} {B : List UInt8} {bv : Value} (h : AI w rb pb N hi B bv W) (hb : Below W.heap.size W W') (hw : w.heap.size ≤ hi) : AI w rb pb N hi B bv W' :=
  ⟨h.ring.on hb, h.sl.on hb, h.below.trans (hb.mono (Nat.le_trans hw h.size)), Nat.le_trans h.size hb.size⟩

set_option maxRecDepth 100000 in
set_option maxHeartbeats 2000000 in
theorem acts_walk (m : Int) (p : Option Addr) (cap : Nat) (l : List ActV) (w : World) (hm : (Lit.int .u16 m).wf = true) (_hcap : l.length ≤ cap) (_hl : l.length ≤ 9223372036854775807) (hat : ActsAt w p l) :
    Calls Try.prog 3 #[.int .u16 m, .slice p l.length cap] w fun e w' => e = .returned (.bool true) ∧ Below w.heap.size w w' := by
  have hm2 : 0 ≤ m ∧ m ≤ 65535 := by
    simp [Lit.wf, IntKind.min, IntKind.max, IntKind.signed, IntKind.bits] at hm
    omega
  obtain ⟨r, hr0⟩ : ∃ r : Nat, m % 300 = (r : Int) := ⟨(m % 300).toNat, by omega⟩
  have hm0 : 0 ≤ m := hm2.1
  have hrt : Int.tmod m 300 = (r : Int) := by rw [Int.tmod_eq_emod_of_nonneg hm0]; exact hr0
  have hr3 : r < 300 := by omega
  obtain ⟨N, hN⟩ : ∃ N : Nat, 1 + (r : Int) = (N : Int) := ⟨1 + r, by omega⟩
  have hN3 : N ≤ 300 := by omega
  have cN := new_in N w (by omega) (by omega)
  have HA : Hid (ActsAt w p l) := hat
  unfold NewPost at cN
  clear hat hm hm2
  go_enter Try.func3, Try.ntmps3
  go_wp2_with fail
  refine cN.mono ?_
  rintro e w1 ⟨rb, pb, rfl, hrg, hb1, hrb, hpb⟩
  clear cN
  obtain ⟨hr1, hp1⟩ := hrg.lt
  have HLo : Hid (w.heap.size ≤ rb ∧ w.heap.size ≤ pb) := ⟨hrb, hpb⟩
  have HHi : Hid (rb < w1.heap.size ∧ pb < w1.heap.size) := ⟨hr1, hp1⟩
  have hw1 : w.heap.size ≤ w1.heap.size := hb1.size
  have HI0 : Hid (AI w rb pb N w1.heap.size [] (.slice (some ⟨w1.heap.size, 0, none⟩) 0 0) (w1.alloc (.cells #[] 5))) :=
    ⟨hrg.on (on_alloc _ _), .inr ⟨_, 0, 0, rfl, Nat.le_refl _, .inl rfl⟩, on_trans hb1 (on_alloc _ _), (on_alloc _ _).size⟩
  clear hrg hb1 hr1 hp1 hrb hpb
  go_wp2
  obtain ⟨hi, hhi⟩ : ∃ hi, w1.heap.size = hi := ⟨_, rfl⟩
  generalize (w1.alloc (.cells #[] 5)) = w1a at *
  rw [hhi] at HHi hw1 HI0 ⊢
  clear hhi
  go_loopw [7, 8] (fun bv kv wr => ∃ (k : Nat) (B : List UInt8), k ≤ 100 ∧ k ≤ l.length ∧ kv = .int .i64 (k : Int) ∧ Hid (AI w rb pb N hi B bv wr)) (fun _ kv _ => 100 - (intOf kv).toNat)
  case atStart => exact ⟨0, [], Nat.zero_le _, Nat.zero_le _, rfl, HI0⟩
  case round =>
    clear HI0
    obtain ⟨k, B, hk, hkl, rfl, HI⟩ := hrel
    obtain ⟨bq, bc, rfl, _, _⟩ := HI.out.sl.is
    have hfew := HI.out.ring.few
    by_cases hgo : k < l.length ∧ k < 100
    · obtain ⟨hlt, hlt2⟩ := hgo
      have hltz : (k : Int) < (l.length : Int) := by omega
      obtain ⟨b, off, hp, _, hb, hc⟩ := HA.out.row.place (k := k * 3) (by rw [actsV_len]; omega)
      cases hp
      have hcw : ∀ i, i < 3 → ∀ v, (l[k].cells)[i]? = some v → wr.cell? ⟨b, off + (k * 3 + i), none⟩ = some v := fun i hi v hv => (HI.out.below.cell (p := ⟨b, off + (k * 3 + i), none⟩) hb).trans (hc _ _ ((actsV_get hlt hi).trans hv))
      have x0 := hcw 0 (by omega) _ rfl
      have x1 := hcw 1 (by omega) _ rfl
      have x2 := hcw 2 (by omega) _ rfl
      have ok := HA.out.ok l[k] (by simp)
      clear hc hcw
      generalize l[k] = x at *
      obtain ⟨xk, xa, xp, xc, xB⟩ := x
      simp only [Nat.add_zero, ← Nat.add_assoc] at x0 x1 x2
      have hcap2 := ok.cap
      simp only at hcap2
      have HX : Hid (At w xp (bytesV (xB.take 400))) := by
        show At _ _ _
        have := ok.at_.take 400
        simpa [bytesV] using this
      have hplx : 400 < xB.length → ∃ bb oo, xp = some ⟨bb, oo, none⟩ := fun h7 => by
        obtain ⟨bb, oo, e, _⟩ := ok.at_.place (k := 0) (by simp; omega)
        exact ⟨bb, oo, e⟩
      obtain ⟨X, hX⟩ : ∃ X, xB.take 400 = X := ⟨_, rfl⟩
      have hXl : X.length = min 400 xB.length := by rw [← hX]; simp
      rw [hX] at HX
      clear ok hX
      by_cases hbig : 400 < xB.length
      · have hbz : (400 : Int) < (xB.length : Int) := by omega
        have hcz : (400 : Int) ≤ (xc : Int) := by omega
        obtain ⟨bp, op, rfl⟩ := hplx hbig
        have HXl : Hid (X.length = 400) := show X.length = 400 by omega
        have hX4 : X.length ≤ 400 := by omega
        clear hplx hXl
        have HW : Hid (AI w rb pb N hi B (.slice bq B.length bc) (wr.alloc (.cells #[.int .i64 xk, .int .i64 xa, .slice (some ⟨bp, op, none⟩) 400 xc] 28)) ∧ Blk (wr.alloc (.cells #[.int .i64 xk, .int .i64 xa, .slice (some ⟨bp, op, none⟩) 400 xc] 28)) wr.heap.size 28 [.int .i64 xk, .int .i64 xa, .slice (some ⟨bp, op, none⟩) 400 xc] ∧ hi ≤ wr.heap.size) := ⟨HI.out.on (on_alloc _ _) hw1, Blk.new wr _ [.int .i64 xk, .int .i64 xa, .slice (some ⟨bp, op, none⟩) 400 xc], HI.out.size⟩
        obtain ⟨ab, hab⟩ : ∃ ab, wr.heap.size = ab := ⟨_, rfl⟩
        obtain ⟨WA, hWA⟩ : ∃ WA, (wr.alloc (.cells #[.int .i64 xk, .int .i64 xa, .slice (some ⟨bp, op, none⟩) 400 xc] 28)) = WA := ⟨_, rfl⟩
        rw [hWA, hab] at HW
        have y0 := HW.out.2.1.cell 0 rfl
        have y1 := HW.out.2.1.cell 1 rfl
        have y2 := HW.out.2.1.cell 2 rfl
        by_cases hk1 : xk = 1
        · subst hk1
          have cR := rtake_any HW.out.1.sl xa (by omega)
          obtain ⟨X1, HX1⟩ : ∃ X1, Hid (B.take xa.toNat = X1) := ⟨_, rfl⟩
          obtain ⟨X2, HX2⟩ : ∃ X2, Hid (B.drop xa.toNat = X2) := ⟨_, rfl⟩
          have hX2l : X2.length ≤ N := by rw [← HX2.out, List.length_drop]; omega
          rw [HX1.out, HX2.out] at cR
          go_wp2_with fail
          refine cR.mono ?_
          rintro e w3 ⟨v1, v2, rfl, s1, s2, hb3⟩
          clear cR
          obtain ⟨q1, c1, rfl, _, _⟩ := s1.is
          obtain ⟨q2, c2, rfl, _, _⟩ := s2.is
          have hI3 := HW.out.1.on hb3 hw1
          have HB3 : Hid (Blk w3 ab 28 [.int .i64 1, .int .i64 xa, .slice (some ⟨bp, op, none⟩) 400 xc]) := HW.out.2.1.on hb3
          have HCall : Hid (∀ W, RingAt W rb pb N B → Calls Try.prog 9 #[.pointer (some ⟨rb, 0, none⟩), .int .i64 xa] W fun e W' => ∃ v, e = .returned v ∧ OwnV 0 5 W' v (bytesV X1) ∧ RingAt W' rb pb N X2 ∧ Two rb pb W W') := fun W h => (take_any h xa).mono fun e W' ⟨v, h1, h2, h3, h4⟩ => ⟨v, h1, by
            rw [HX1.out] at h2
            exact ownV_less h2 (Nat.zero_le _), by rw [← HX2.out]; exact h3, h4⟩
          obtain ⟨AA, hAA⟩ : ∃ AA : World → Prop, AA = fun W => (SlAt hi W (.slice q1 X1.length c1) X1 ∧ SlAt hi W (.slice q2 X2.length c2) X2) ∧ Blk W ab 28 [.int .i64 1, .int .i64 xa, .slice (some ⟨bp, op, none⟩) 400 xc] ∧ hi ≤ W.heap.size := ⟨_, rfl⟩
          have HKept : Hid (Kept rb pb AA) := by
            rw [hAA]
            have hh := HW.out.2.2
            exact ((kept_sl HHi.out.1 HHi.out.2).and (kept_sl HHi.out.1 HHi.out.2)).and ((kept_blk (by have := HHi.out.1; omega) (by have := HHi.out.2; omega)).and kept_size)
          have HS0 : Hid (RS w rb pb N B X2 AA true w3.drew) := by
            have hd := on_drew (Below.refl w3.heap.size w3)
            refine ⟨fun _ => hI3.ring.on hd, (fun e => by cases e), on_drew hI3.below, Nat.le_trans hw1 hI3.size, ?_⟩
            rw [hAA]
            exact ⟨⟨s1.on hd, s2.on hd⟩, HB3.out.on hd, hI3.size⟩
          have HSl : Hid (∀ W, AA W → At W q1 (bytesV X1)) := fun W h => by rw [hAA] at h; exact h.1.1.read
          have HCell : Hid (∀ W, AA W → W.cell? ⟨ab, 1, none⟩ = some (.int .i64 xa)) := fun W h => by rw [hAA] at h; exact h.2.1.cell 1 rfl
          clear HW y0 y1 y2 s1 s2 hI3 hb3 HI x0 x1 x2
          go_wp2
          refine wp_region_two (S := RS w rb pb N B X2 AA) (u := 3) (Keep := KeepU 3)
            (g := fun jj vv WW => (([.is (.pointer (some ⟨rb, 0, none⟩)), .is (.pointer (some ⟨ab, 1, none⟩)), .is (.int .i64 xa), .own 5 (bytesV X1), .is (.string ⟨X1.toArray⟩), .is (.slice q1 X1.length c1), .is (.string ⟨X1.toArray⟩), .is (.bool false)] : List (Kd 0)).getD jj Kd.any).ok vv WW)
            (tab := [[(6, none)], [(9, none)], [(76, some 1)], [(75, some 0), (77, some 2)], [(78, some 3)], [(10, none)], [(80, some 5)], [(79, some 4), (81, some 6)]]) (tl := []) (n := 130)
            (by kernel_rfl) rfl (by kernel_rfl) (keep_u ?kR1) (HS0.out) ?stR1 ?enR1
          case kR1 =>
            intro j hj
            match j, hj with
            | 0, _ | 1, _ | 2, _ | 4, _ | 5, _ | 6, _ | 7, _ => exact .inr (pure_is _)
            | 3, hj => exact absurd rfl hj
            | j + 8, _ => exact .inr pure_any
          case stR1 =>
            refine ⟨fun ρ W f hf hr hS hs => ?_, fun ρ W f hf hr hS hs => ?_, fun ρ W f hf hr hS hs => ?_, fun ρ W f hf hr hS hs => ?_, fun ρ W f hf hr hS hs => ?_, fun ρ W f hf hr hS hs => ?_, fun ρ W f hf hr hS hs => ?_, fun ρ W f hf hr hS hs => ?_, trivial⟩
            · have h6 : ρ (.tmp 6) = .pointer (some ⟨rb, 0, none⟩) := hs.1
              exact step_plain rfl (leaves_move (.tmp 6) rfl ⟨h6, by simpa using hS, .inr (Below.refl _ _)⟩)
            · have h9 : ρ (.tmp 9) = .pointer (some ⟨ab, 0, none⟩) := hs.1
              refine step_plain rfl (leaves_value (v := .pointer (some ⟨ab, 1, none⟩)) (w' := W) ?_ ⟨rfl, by simpa using hS, .inr (Below.refl _ _)⟩)
              simp [go_sem, h9]
            · have h76 : ρ (.tmp 76) = .pointer (some ⟨ab, 1, none⟩) := hs.1
              refine step_plain rfl (leaves_value (v := .int .i64 xa) (w' := W) ?_ ⟨rfl, by simpa using hS, .inr (Below.refl _ _)⟩)
              have hce := HCell.out W hS.also
              simp [go_sem, h76, hce]
            · have h75 : ρ (.tmp 75) = .pointer (some ⟨rb, 0, none⟩) := hs.1
              have h77 : ρ (.tmp 77) = .int .i64 xa := hs.2.1
              obtain rfl : f = true := hf (by kernel_rfl)
              refine step_plain rfl (leaves_call2 en_take hr (.tmp 75) (.tmp 77) _ _ rfl h75 h77 ((HCall.out W (hS.one rfl)).mono ?_))
              rintro e W' ⟨v, rfl, ho, hr', ht⟩
              exact ⟨_, rfl, ho, by simpa using hS.did HKept.out ht hr' HLo.out, .inl rfl⟩
            · have h78 := hs.1
              exact step_plain rfl (leaves_textO (.tmp 78) rfl h78 ⟨rfl, by simpa using hS, .inr (Below.refl _ _)⟩)
            · have h10 : ρ (.tmp 10) = .slice q1 X1.length c1 := hs.1
              exact step_plain rfl (leaves_move (.tmp 10) rfl ⟨h10, by simpa using hS, .inr (Below.refl _ _)⟩)
            · have h80 : ρ (.tmp 80) = .slice q1 X1.length c1 := hs.1
              exact step_plain rfl (leaves_text (.tmp 80) rfl h80 (HSl.out W hS.also) ⟨rfl, by simpa using hS, .inr (Below.refl _ _)⟩)
            · have h79 : ρ (.tmp 79) = .string ⟨X1.toArray⟩ := hs.1
              have h81 : ρ (.tmp 81) = .string ⟨X1.toArray⟩ := hs.2.1
              exact step_plain rfl (leaves_neqS (.tmp 79) (.tmp 81) rfl h79 h81 ⟨rfl, by simpa using hS, .inr (Below.refl _ _)⟩)
          case enR1 =>
            intro f W hf hS v0 h0 v1 h1 v2 h2 v3 h3 v4 h4 v5 h5 v6 h6 v7 h7
            obtain rfl : f = false := hf (by decide)
            clear hf
            have e0 : v0 = .pointer (some ⟨rb, 0, none⟩) := h0 rfl
            subst v0
            have e1 : v1 = .pointer (some ⟨ab, 1, none⟩) := h1 rfl
            subst v1
            have e2 : v2 = .int .i64 xa := h2 rfl
            subst v2
            have e4 : v4 = .string ⟨X1.toArray⟩ := h4 rfl
            subst v4
            have e5 : v5 = .slice q1 X1.length c1 := h5 rfl
            subst v5
            have e6 : v6 = .string ⟨X1.toArray⟩ := h6 rfl
            subst v6
            have e7 : v7 = .bool false := h7 rfl
            subst v7
            clear h0 h1 h2 h4 h5 h6 h7
            simp only [ends, Act.put, List.setIfInBounds_toArray, List.set_cons_succ, List.set_cons_zero]
            have HI5 : Hid (AI w rb pb N hi X2 (.slice q2 X2.length c2) W) := by
              have h9 := hS.also
              rw [hAA] at h9
              exact ⟨hS.two rfl, h9.1.2, hS.below, h9.2.2⟩
            clear hS h3 HSl HCell HS0 HKept HCall HX1 HX2 HB3 hAA hWA hab
            have hfw := HI5.out.ring.few
            have cL := len_any HI5.out.ring
            go_wp2_with fail
            refine cL.mono ?_
            rintro e W6 ⟨rfl, rfl⟩
            clear cL
            have cM := room_any HI5.out.ring
            go_wp2_with fail
            refine cM.mono ?_
            rintro e W7 ⟨rfl, q7, rfl⟩
            clear cM
            have HI7 := HI5.out.on (on_drewN (Below.refl _ _) q7) hw1
            clear HI5
            go_wp2
            go_roundw
            case rel => exact ⟨k + 1, _, by omega, by omega, by go_num, HI7⟩
            case measure => simp [intOf]; omega
        by_cases hk2 : xk = 2
        · subst hk2
          have hk1b : ((2 : Int) == 1) = false := rfl
          have cR := rtake_any HW.out.1.sl xa (by omega)
          obtain ⟨X1, HX1⟩ : ∃ X1, Hid (B.take xa.toNat = X1) := ⟨_, rfl⟩
          obtain ⟨X2, HX2⟩ : ∃ X2, Hid (B.drop xa.toNat = X2) := ⟨_, rfl⟩
          rw [HX1.out, HX2.out] at cR
          go_wp2_with fail
          refine cR.mono ?_
          rintro e w3 ⟨v1, v2, rfl, s1, s2, hb3⟩
          clear cR
          obtain ⟨q1, c1, rfl, _, _⟩ := s1.is
          have hI3 := HW.out.1.on hb3 hw1
          have HB3 : Hid (Blk w3 ab 28 [.int .i64 2, .int .i64 xa, .slice (some ⟨bp, op, none⟩) 400 xc]) := HW.out.2.1.on hb3
          have HCall : Hid (∀ W, RingAt W rb pb N B → Calls Try.prog 10 #[.pointer (some ⟨rb, 0, none⟩), .int .i64 xa] W fun e W' => ∃ v, e = .returned v ∧ OwnV 0 5 W' v (bytesV X1) ∧ RingAt W' rb pb N B ∧ Two rb pb W W') := fun W h => (peek_any h xa).mono fun e W' ⟨v, h1, h2, h3⟩ => ⟨v, h1, by
            rw [HX1.out] at h2
            exact ownV_less h2 (Nat.zero_le _), h.on h3, two_on h3⟩
          obtain ⟨AA, hAA⟩ : ∃ AA : World → Prop, AA = fun W => (SlAt hi W (.slice q1 X1.length c1) X1 ∧ SlAt hi W (.slice bq B.length bc) B) ∧ Blk W ab 28 [.int .i64 2, .int .i64 xa, .slice (some ⟨bp, op, none⟩) 400 xc] ∧ hi ≤ W.heap.size := ⟨_, rfl⟩
          have HKept : Hid (Kept rb pb AA) := by
            rw [hAA]
            have hh := HW.out.2.2
            exact ((kept_sl HHi.out.1 HHi.out.2).and (kept_sl HHi.out.1 HHi.out.2)).and ((kept_blk (by have := HHi.out.1; omega) (by have := HHi.out.2; omega)).and kept_size)
          have HS0 : Hid (RS w rb pb N B B AA true w3.drew) := by
            have hd := on_drew (Below.refl w3.heap.size w3)
            refine ⟨fun _ => hI3.ring.on hd, (fun e => by cases e), on_drew hI3.below, Nat.le_trans hw1 hI3.size, ?_⟩
            rw [hAA]
            exact ⟨⟨s1.on hd, hI3.sl.on hd⟩, HB3.out.on hd, hI3.size⟩
          have HSl : Hid (∀ W, AA W → At W q1 (bytesV X1)) := fun W h => by rw [hAA] at h; exact h.1.1.read
          have HCell : Hid (∀ W, AA W → W.cell? ⟨ab, 1, none⟩ = some (.int .i64 xa)) := fun W h => by rw [hAA] at h; exact h.2.1.cell 1 rfl
          clear HW y0 y1 y2 s1 s2 hI3 hb3 HI x0 x1 x2
          go_wp2
          refine wp_region_two (S := RS w rb pb N B B AA) (u := 3) (Keep := KeepU 3)
            (g := fun jj vv WW => (([.is (.pointer (some ⟨rb, 0, none⟩)), .is (.pointer (some ⟨ab, 1, none⟩)), .is (.int .i64 xa), .own 5 (bytesV X1), .is (.string ⟨X1.toArray⟩), .is (.slice q1 X1.length c1), .is (.string ⟨X1.toArray⟩), .is (.bool false)] : List (Kd 0)).getD jj Kd.any).ok vv WW)
            (tab := [[(6, none)], [(9, none)], [(94, some 1)], [(93, some 0), (95, some 2)], [(96, some 3)], [(12, none)], [(98, some 5)], [(97, some 4), (99, some 6)]]) (tl := []) (n := 130)
            (by kernel_rfl) rfl (by kernel_rfl) (keep_u ?kR2) (HS0.out) ?stR2 ?enR2
          case kR2 =>
            intro j hj
            match j, hj with
            | 0, _ | 1, _ | 2, _ | 4, _ | 5, _ | 6, _ | 7, _ => exact .inr (pure_is _)
            | 3, hj => exact absurd rfl hj
            | j + 8, _ => exact .inr pure_any
          case stR2 =>
            refine ⟨fun ρ W f hf hr hS hs => ?_, fun ρ W f hf hr hS hs => ?_, fun ρ W f hf hr hS hs => ?_, fun ρ W f hf hr hS hs => ?_, fun ρ W f hf hr hS hs => ?_, fun ρ W f hf hr hS hs => ?_, fun ρ W f hf hr hS hs => ?_, fun ρ W f hf hr hS hs => ?_, trivial⟩
            · have h6 : ρ (.tmp 6) = .pointer (some ⟨rb, 0, none⟩) := hs.1
              exact step_plain rfl (leaves_move (.tmp 6) rfl ⟨h6, by simpa using hS, .inr (Below.refl _ _)⟩)
            · have h9 : ρ (.tmp 9) = .pointer (some ⟨ab, 0, none⟩) := hs.1
              refine step_plain rfl (leaves_value (v := .pointer (some ⟨ab, 1, none⟩)) (w' := W) ?_ ⟨rfl, by simpa using hS, .inr (Below.refl _ _)⟩)
              simp [go_sem, h9]
            · have h94 : ρ (.tmp 94) = .pointer (some ⟨ab, 1, none⟩) := hs.1
              refine step_plain rfl (leaves_value (v := .int .i64 xa) (w' := W) ?_ ⟨rfl, by simpa using hS, .inr (Below.refl _ _)⟩)
              have hce := HCell.out W hS.also
              simp [go_sem, h94, hce]
            · have h93 : ρ (.tmp 93) = .pointer (some ⟨rb, 0, none⟩) := hs.1
              have h95 : ρ (.tmp 95) = .int .i64 xa := hs.2.1
              obtain rfl : f = true := hf (by kernel_rfl)
              refine step_plain rfl (leaves_call2 en_peek hr (.tmp 93) (.tmp 95) _ _ rfl h93 h95 ((HCall.out W (hS.one rfl)).mono ?_))
              rintro e W' ⟨v, rfl, ho, hr', ht⟩
              exact ⟨_, rfl, ho, by simpa using hS.did HKept.out ht hr' HLo.out, .inl rfl⟩
            · have h96 := hs.1
              exact step_plain rfl (leaves_textO (.tmp 96) rfl h96 ⟨rfl, by simpa using hS, .inr (Below.refl _ _)⟩)
            · have h12 : ρ (.tmp 12) = .slice q1 X1.length c1 := hs.1
              exact step_plain rfl (leaves_move (.tmp 12) rfl ⟨h12, by simpa using hS, .inr (Below.refl _ _)⟩)
            · have h98 : ρ (.tmp 98) = .slice q1 X1.length c1 := hs.1
              exact step_plain rfl (leaves_text (.tmp 98) rfl h98 (HSl.out W hS.also) ⟨rfl, by simpa using hS, .inr (Below.refl _ _)⟩)
            · have h97 : ρ (.tmp 97) = .string ⟨X1.toArray⟩ := hs.1
              have h99 : ρ (.tmp 99) = .string ⟨X1.toArray⟩ := hs.2.1
              exact step_plain rfl (leaves_neqS (.tmp 97) (.tmp 99) rfl h97 h99 ⟨rfl, by simpa using hS, .inr (Below.refl _ _)⟩)
          case enR2 =>
            intro f W hf hS v0 h0 v1 h1 v2 h2 v3 h3 v4 h4 v5 h5 v6 h6 v7 h7
            obtain rfl : f = false := hf (by decide)
            clear hf
            have e0 : v0 = .pointer (some ⟨rb, 0, none⟩) := h0 rfl
            subst v0
            have e1 : v1 = .pointer (some ⟨ab, 1, none⟩) := h1 rfl
            subst v1
            have e2 : v2 = .int .i64 xa := h2 rfl
            subst v2
            have e4 : v4 = .string ⟨X1.toArray⟩ := h4 rfl
            subst v4
            have e5 : v5 = .slice q1 X1.length c1 := h5 rfl
            subst v5
            have e6 : v6 = .string ⟨X1.toArray⟩ := h6 rfl
            subst v6
            have e7 : v7 = .bool false := h7 rfl
            subst v7
            clear h0 h1 h2 h4 h5 h6 h7
            simp only [ends, Act.put, List.setIfInBounds_toArray, List.set_cons_succ, List.set_cons_zero]
            have HI5 : Hid (AI w rb pb N hi B (.slice bq B.length bc) W) := by
              have h9 := hS.also
              rw [hAA] at h9
              exact ⟨hS.two rfl, h9.1.2, hS.below, h9.2.2⟩
            clear hS h3 HSl HCell HS0 HKept HCall HX1 HX2 HB3 hAA hWA hab
            have hfw := HI5.out.ring.few
            have cL := len_any HI5.out.ring
            go_wp2_with fail
            refine cL.mono ?_
            rintro e W6 ⟨rfl, rfl⟩
            clear cL
            have cM := room_any HI5.out.ring
            go_wp2_with fail
            refine cM.mono ?_
            rintro e W7 ⟨rfl, q7, rfl⟩
            clear cM
            have HI7 := HI5.out.on (on_drewN (Below.refl _ _) q7) hw1
            clear HI5
            go_wp2
            go_roundw
            case rel => exact ⟨k + 1, _, by omega, by omega, by go_num, HI7⟩
            case measure => simp [intOf]; omega
        by_cases hk3 : xk = 3
        · subst hk3
          have cC := clear_any HW.out.1.ring
          go_wp2_with fail
          refine cC.mono ?_
          rintro e w3 ⟨rfl, hr3, t3⟩
          have HI5 : Hid (AI w rb pb N hi [] (.slice (some ⟨w3.heap.size, 0, none⟩) 0 0) (w3.alloc (.cells #[] 5))) := by
            have hs3 := HW.out.1.size
            exact ⟨hr3.on (on_alloc _ _), .inr ⟨_, 0, 0, rfl, Nat.le_refl _, .inl rfl⟩, (t3.below HW.out.1.below HLo.out.1 HLo.out.2 (by omega)).trans ((on_alloc _ _).mono (by have := t3.size; omega)), Nat.le_trans hs3 (Nat.le_trans t3.size (on_alloc _ _).size)⟩
          clear cC hr3 t3 HW y0 y1 y2 HI x0 x1 x2 hWA hab
          have hfw := HI5.out.ring.few
          have cL := len_any HI5.out.ring
          simp only [List.length_nil] at cL
          go_wp2_with fail
          refine cL.mono ?_
          rintro e W6 ⟨rfl, rfl⟩
          clear cL
          have cM := room_any HI5.out.ring
          simp only [List.length_nil] at cM
          go_wp2_with fail
          refine cM.mono ?_
          rintro e W7 ⟨rfl, q7, rfl⟩
          clear cM
          have HI7 := HI5.out.on (on_drewN (Below.refl _ _) q7) hw1
          clear HI5
          go_wp2
          go_roundw
          case rel => exact ⟨k + 1, _, by omega, by omega, by go_num, HI7⟩
          case measure => simp [intOf]; omega
        · have hk1b : (xk == 1) = false := by simp [hk1]
          have hk2b : (xk == 2) = false := by simp [hk2]
          have hk3b : (xk == 3) = false := by simp [hk3]
          have cR := rput_any (c2 := xc) HW.out.1.sl (HX.out.below HW.out.1.below (Nat.le_refl _)) (show B.length ≤ N by omega) (by omega) (by omega)
          rw [HXl.out] at cR
          obtain ⟨Y, hY⟩ : ∃ Y, X.take (N - B.length) = Y := ⟨_, rfl⟩
          have hYN : B.length + Y.length ≤ N := by rw [← hY, List.length_take]; omega
          rw [hY] at cR
          go_wp2_with fail
          refine cR.mono ?_
          rintro e w3 ⟨v3, rfl, ho3, hb3⟩
          clear cR
          have hI3 := HW.out.1.on hb3 hw1
          have z2 := ((HW.out.2.1.on hb3).alloc (.cells #[] 5)).cell 2 rfl
          have s3 : SlAt hi w3 v3 (B ++ Y) := SlAt.of_own (ownV_less ho3 HW.out.1.size)
          obtain ⟨q3, c3, rfl, _, _⟩ := s3.is
          obtain ⟨v4, w4, hrun, hb4, ho4⟩ := append_copy elemByte w3.heap.size w3.heap.size (some ⟨bp, op, none⟩) xc (bytesV X) (w3.alloc (.cells #[] 5)) (by simp; omega) (one_bytes _) (ownV_empty w3 w3.heap.size _ (Nat.le_refl _)) (by simp) ((HX.out.below hI3.below (Nat.le_refl _)).alloc _)
          have hb34 : Below w3.heap.size w3 w4 := on_trans (on_alloc _ _) hb4
          have hI4 := hI3.on hb34 hw1
          obtain ⟨q4, c4, rfl, hat4, _⟩ := ownV_at ho4
          simp only [bytesV, List.length_map] at hrun
          have hrun2 : (Builtin.append_ #[26, 26] 26 #[.slice (some ⟨w3.heap.size, 0, none⟩) 0 0, .slice (some ⟨bp, op, none⟩) 400 xc]).run Try.prog (w3.alloc (.cells #[] 5)) = .ok (.slice q4 X.length c4) w4 := by
            rw [← HXl.out]; exact hrun
          have cP := put_any hI4.ring q4 c4 X HHi.out.1 HHi.out.2 (hat4.less hI3.size) (by omega)
          unfold PutPost at cP
          rw [hY] at cP
          have HI4 : Hid (AI w rb pb N hi B (.slice bq B.length bc) w4) := hI4
          have HS3 : Hid (SlAt hi w4 (.slice q3 (B ++ Y).length c3) (B ++ Y)) := s3.on hb34
          have hlen : (B ++ Y).length = B.length + Y.length := List.length_append
          rw [hlen]
          have hsub : ((B.length + Y.length : Nat) : Int) - (B.length : Int) = (Y.length : Int) := by omega
          have hsub2 : (B.length : Int) + (Y.length : Int) - (B.length : Int) = (Y.length : Int) := by omega
          clear HW y0 y1 y2 HI x0 x1 x2 hrun hI3 hI4 ho3 ho4 hb3 hb4 hb34 s3 hat4 hlen hY
          go_wp2_with (at_builtin; refine wpList_run_append (by rfl) _ _ _ (by rfl) _ _ (by rfl) (by rfl) hrun2 ?_)
          refine cP.mono ?_
          rintro e w5 ⟨rfl, hr5, t5⟩
          have HI5 : Hid (AI w rb pb N hi (B ++ Y) (.slice q3 (B ++ Y).length c3) w5) := by
            have hs3 := HI4.out.size
            exact ⟨hr5, HS3.out.two t5 HHi.out.1 HHi.out.2, t5.below HI4.out.below HLo.out.1 HLo.out.2 (by omega), Nat.le_trans hs3 t5.size⟩
          clear cP hrun2 hr5 t5 HI4 HS3 z2 hWA hab
          have hfw := HI5.out.ring.few
          simp only [List.length_append] at HI5 hfw
          have cL := len_any HI5.out.ring
          simp only [List.length_append] at cL
          go_wp2_with fail
          refine cL.mono ?_
          rintro e W6 ⟨rfl, rfl⟩
          clear cL
          have cM := room_any HI5.out.ring
          simp only [List.length_append] at cM
          go_wp2_with fail
          refine cM.mono ?_
          rintro e W7 ⟨rfl, q7, rfl⟩
          clear cM
          have HI7 := HI5.out.on (on_drewN (Below.refl _ _) q7) hw1
          clear HI5
          go_wp2
          go_roundw
          case rel => exact ⟨k + 1, _, by omega, by omega, by go_num, HI7⟩
          case measure => simp [intOf]; omega
      · have hbz : ¬ (400 : Int) < (xB.length : Int) := by omega
        have HXl : Hid (X.length = xB.length) := show X.length = xB.length by omega
        have hX4 : X.length ≤ 400 := by omega
        clear hplx hXl
        have HW : Hid (AI w rb pb N hi B (.slice bq B.length bc) (wr.alloc (.cells #[.int .i64 xk, .int .i64 xa, .slice xp xB.length xc] 28)) ∧ Blk (wr.alloc (.cells #[.int .i64 xk, .int .i64 xa, .slice xp xB.length xc] 28)) wr.heap.size 28 [.int .i64 xk, .int .i64 xa, .slice xp xB.length xc] ∧ hi ≤ wr.heap.size) := ⟨HI.out.on (on_alloc _ _) hw1, Blk.new wr _ [.int .i64 xk, .int .i64 xa, .slice xp xB.length xc], HI.out.size⟩
        obtain ⟨ab, hab⟩ : ∃ ab, wr.heap.size = ab := ⟨_, rfl⟩
        obtain ⟨WA, hWA⟩ : ∃ WA, (wr.alloc (.cells #[.int .i64 xk, .int .i64 xa, .slice xp xB.length xc] 28)) = WA := ⟨_, rfl⟩
        rw [hWA, hab] at HW
        have y0 := HW.out.2.1.cell 0 rfl
        have y1 := HW.out.2.1.cell 1 rfl
        have y2 := HW.out.2.1.cell 2 rfl
        by_cases hk1 : xk = 1
        · subst hk1
          have cR := rtake_any HW.out.1.sl xa (by omega)
          obtain ⟨X1, HX1⟩ : ∃ X1, Hid (B.take xa.toNat = X1) := ⟨_, rfl⟩
          obtain ⟨X2, HX2⟩ : ∃ X2, Hid (B.drop xa.toNat = X2) := ⟨_, rfl⟩
          have hX2l : X2.length ≤ N := by rw [← HX2.out, List.length_drop]; omega
          rw [HX1.out, HX2.out] at cR
          go_wp2_with fail
          refine cR.mono ?_
          rintro e w3 ⟨v1, v2, rfl, s1, s2, hb3⟩
          clear cR
          obtain ⟨q1, c1, rfl, _, _⟩ := s1.is
          obtain ⟨q2, c2, rfl, _, _⟩ := s2.is
          have hI3 := HW.out.1.on hb3 hw1
          have HB3 : Hid (Blk w3 ab 28 [.int .i64 1, .int .i64 xa, .slice xp xB.length xc]) := HW.out.2.1.on hb3
          have HCall : Hid (∀ W, RingAt W rb pb N B → Calls Try.prog 9 #[.pointer (some ⟨rb, 0, none⟩), .int .i64 xa] W fun e W' => ∃ v, e = .returned v ∧ OwnV 0 5 W' v (bytesV X1) ∧ RingAt W' rb pb N X2 ∧ Two rb pb W W') := fun W h => (take_any h xa).mono fun e W' ⟨v, h1, h2, h3, h4⟩ => ⟨v, h1, by
            rw [HX1.out] at h2
            exact ownV_less h2 (Nat.zero_le _), by rw [← HX2.out]; exact h3, h4⟩
          obtain ⟨AA, hAA⟩ : ∃ AA : World → Prop, AA = fun W => (SlAt hi W (.slice q1 X1.length c1) X1 ∧ SlAt hi W (.slice q2 X2.length c2) X2) ∧ Blk W ab 28 [.int .i64 1, .int .i64 xa, .slice xp xB.length xc] ∧ hi ≤ W.heap.size := ⟨_, rfl⟩
          have HKept : Hid (Kept rb pb AA) := by
            rw [hAA]
            have hh := HW.out.2.2
            exact ((kept_sl HHi.out.1 HHi.out.2).and (kept_sl HHi.out.1 HHi.out.2)).and ((kept_blk (by have := HHi.out.1; omega) (by have := HHi.out.2; omega)).and kept_size)
          have HS0 : Hid (RS w rb pb N B X2 AA true w3.drew) := by
            have hd := on_drew (Below.refl w3.heap.size w3)
            refine ⟨fun _ => hI3.ring.on hd, (fun e => by cases e), on_drew hI3.below, Nat.le_trans hw1 hI3.size, ?_⟩
            rw [hAA]
            exact ⟨⟨s1.on hd, s2.on hd⟩, HB3.out.on hd, hI3.size⟩
          have HSl : Hid (∀ W, AA W → At W q1 (bytesV X1)) := fun W h => by rw [hAA] at h; exact h.1.1.read
          have HCell : Hid (∀ W, AA W → W.cell? ⟨ab, 1, none⟩ = some (.int .i64 xa)) := fun W h => by rw [hAA] at h; exact h.2.1.cell 1 rfl
          clear HW y0 y1 y2 s1 s2 hI3 hb3 HI x0 x1 x2
          go_wp2
          refine wp_region_two (S := RS w rb pb N B X2 AA) (u := 3) (Keep := KeepU 3)
            (g := fun jj vv WW => (([.is (.pointer (some ⟨rb, 0, none⟩)), .is (.pointer (some ⟨ab, 1, none⟩)), .is (.int .i64 xa), .own 5 (bytesV X1), .is (.string ⟨X1.toArray⟩), .is (.slice q1 X1.length c1), .is (.string ⟨X1.toArray⟩), .is (.bool false)] : List (Kd 0)).getD jj Kd.any).ok vv WW)
            (tab := [[(6, none)], [(9, none)], [(76, some 1)], [(75, some 0), (77, some 2)], [(78, some 3)], [(10, none)], [(80, some 5)], [(79, some 4), (81, some 6)]]) (tl := []) (n := 130)
            (by kernel_rfl) rfl (by kernel_rfl) (keep_u ?kR3) (HS0.out) ?stR3 ?enR3
          case kR3 =>
            intro j hj
            match j, hj with
            | 0, _ | 1, _ | 2, _ | 4, _ | 5, _ | 6, _ | 7, _ => exact .inr (pure_is _)
            | 3, hj => exact absurd rfl hj
            | j + 8, _ => exact .inr pure_any
          case stR3 =>
            refine ⟨fun ρ W f hf hr hS hs => ?_, fun ρ W f hf hr hS hs => ?_, fun ρ W f hf hr hS hs => ?_, fun ρ W f hf hr hS hs => ?_, fun ρ W f hf hr hS hs => ?_, fun ρ W f hf hr hS hs => ?_, fun ρ W f hf hr hS hs => ?_, fun ρ W f hf hr hS hs => ?_, trivial⟩
            · have h6 : ρ (.tmp 6) = .pointer (some ⟨rb, 0, none⟩) := hs.1
              exact step_plain rfl (leaves_move (.tmp 6) rfl ⟨h6, by simpa using hS, .inr (Below.refl _ _)⟩)
            · have h9 : ρ (.tmp 9) = .pointer (some ⟨ab, 0, none⟩) := hs.1
              refine step_plain rfl (leaves_value (v := .pointer (some ⟨ab, 1, none⟩)) (w' := W) ?_ ⟨rfl, by simpa using hS, .inr (Below.refl _ _)⟩)
              simp [go_sem, h9]
            · have h76 : ρ (.tmp 76) = .pointer (some ⟨ab, 1, none⟩) := hs.1
              refine step_plain rfl (leaves_value (v := .int .i64 xa) (w' := W) ?_ ⟨rfl, by simpa using hS, .inr (Below.refl _ _)⟩)
              have hce := HCell.out W hS.also
              simp [go_sem, h76, hce]
            · have h75 : ρ (.tmp 75) = .pointer (some ⟨rb, 0, none⟩) := hs.1
              have h77 : ρ (.tmp 77) = .int .i64 xa := hs.2.1
              obtain rfl : f = true := hf (by kernel_rfl)
              refine step_plain rfl (leaves_call2 en_take hr (.tmp 75) (.tmp 77) _ _ rfl h75 h77 ((HCall.out W (hS.one rfl)).mono ?_))
              rintro e W' ⟨v, rfl, ho, hr', ht⟩
              exact ⟨_, rfl, ho, by simpa using hS.did HKept.out ht hr' HLo.out, .inl rfl⟩
            · have h78 := hs.1
              exact step_plain rfl (leaves_textO (.tmp 78) rfl h78 ⟨rfl, by simpa using hS, .inr (Below.refl _ _)⟩)
            · have h10 : ρ (.tmp 10) = .slice q1 X1.length c1 := hs.1
              exact step_plain rfl (leaves_move (.tmp 10) rfl ⟨h10, by simpa using hS, .inr (Below.refl _ _)⟩)
            · have h80 : ρ (.tmp 80) = .slice q1 X1.length c1 := hs.1
              exact step_plain rfl (leaves_text (.tmp 80) rfl h80 (HSl.out W hS.also) ⟨rfl, by simpa using hS, .inr (Below.refl _ _)⟩)
            · have h79 : ρ (.tmp 79) = .string ⟨X1.toArray⟩ := hs.1
              have h81 : ρ (.tmp 81) = .string ⟨X1.toArray⟩ := hs.2.1
              exact step_plain rfl (leaves_neqS (.tmp 79) (.tmp 81) rfl h79 h81 ⟨rfl, by simpa using hS, .inr (Below.refl _ _)⟩)
          case enR3 =>
            intro f W hf hS v0 h0 v1 h1 v2 h2 v3 h3 v4 h4 v5 h5 v6 h6 v7 h7
            obtain rfl : f = false := hf (by decide)
            clear hf
            have e0 : v0 = .pointer (some ⟨rb, 0, none⟩) := h0 rfl
            subst v0
            have e1 : v1 = .pointer (some ⟨ab, 1, none⟩) := h1 rfl
            subst v1
            have e2 : v2 = .int .i64 xa := h2 rfl
            subst v2
            have e4 : v4 = .string ⟨X1.toArray⟩ := h4 rfl
            subst v4
            have e5 : v5 = .slice q1 X1.length c1 := h5 rfl
            subst v5
            have e6 : v6 = .string ⟨X1.toArray⟩ := h6 rfl
            subst v6
            have e7 : v7 = .bool false := h7 rfl
            subst v7
            clear h0 h1 h2 h4 h5 h6 h7
            simp only [ends, Act.put, List.setIfInBounds_toArray, List.set_cons_succ, List.set_cons_zero]
            have HI5 : Hid (AI w rb pb N hi X2 (.slice q2 X2.length c2) W) := by
              have h9 := hS.also
              rw [hAA] at h9
              exact ⟨hS.two rfl, h9.1.2, hS.below, h9.2.2⟩
            clear hS h3 HSl HCell HS0 HKept HCall HX1 HX2 HB3 hAA hWA hab
            have hfw := HI5.out.ring.few
            have cL := len_any HI5.out.ring
            go_wp2_with fail
            refine cL.mono ?_
            rintro e W6 ⟨rfl, rfl⟩
            clear cL
            have cM := room_any HI5.out.ring
            go_wp2_with fail
            refine cM.mono ?_
            rintro e W7 ⟨rfl, q7, rfl⟩
            clear cM
            have HI7 := HI5.out.on (on_drewN (Below.refl _ _) q7) hw1
            clear HI5
            go_wp2
            go_roundw
            case rel => exact ⟨k + 1, _, by omega, by omega, by go_num, HI7⟩
            case measure => simp [intOf]; omega
        by_cases hk2 : xk = 2
        · subst hk2
          have hk1b : ((2 : Int) == 1) = false := rfl
          have cR := rtake_any HW.out.1.sl xa (by omega)
          obtain ⟨X1, HX1⟩ : ∃ X1, Hid (B.take xa.toNat = X1) := ⟨_, rfl⟩
          obtain ⟨X2, HX2⟩ : ∃ X2, Hid (B.drop xa.toNat = X2) := ⟨_, rfl⟩
          rw [HX1.out, HX2.out] at cR
          go_wp2_with fail
          refine cR.mono ?_
          rintro e w3 ⟨v1, v2, rfl, s1, s2, hb3⟩
          clear cR
          obtain ⟨q1, c1, rfl, _, _⟩ := s1.is
          have hI3 := HW.out.1.on hb3 hw1
          have HB3 : Hid (Blk w3 ab 28 [.int .i64 2, .int .i64 xa, .slice xp xB.length xc]) := HW.out.2.1.on hb3
          have HCall : Hid (∀ W, RingAt W rb pb N B → Calls Try.prog 10 #[.pointer (some ⟨rb, 0, none⟩), .int .i64 xa] W fun e W' => ∃ v, e = .returned v ∧ OwnV 0 5 W' v (bytesV X1) ∧ RingAt W' rb pb N B ∧ Two rb pb W W') := fun W h => (peek_any h xa).mono fun e W' ⟨v, h1, h2, h3⟩ => ⟨v, h1, by
            rw [HX1.out] at h2
            exact ownV_less h2 (Nat.zero_le _), h.on h3, two_on h3⟩
          obtain ⟨AA, hAA⟩ : ∃ AA : World → Prop, AA = fun W => (SlAt hi W (.slice q1 X1.length c1) X1 ∧ SlAt hi W (.slice bq B.length bc) B) ∧ Blk W ab 28 [.int .i64 2, .int .i64 xa, .slice xp xB.length xc] ∧ hi ≤ W.heap.size := ⟨_, rfl⟩
          have HKept : Hid (Kept rb pb AA) := by
            rw [hAA]
            have hh := HW.out.2.2
            exact ((kept_sl HHi.out.1 HHi.out.2).and (kept_sl HHi.out.1 HHi.out.2)).and ((kept_blk (by have := HHi.out.1; omega) (by have := HHi.out.2; omega)).and kept_size)
          have HS0 : Hid (RS w rb pb N B B AA true w3.drew) := by
            have hd := on_drew (Below.refl w3.heap.size w3)
            refine ⟨fun _ => hI3.ring.on hd, (fun e => by cases e), on_drew hI3.below, Nat.le_trans hw1 hI3.size, ?_⟩
            rw [hAA]
            exact ⟨⟨s1.on hd, hI3.sl.on hd⟩, HB3.out.on hd, hI3.size⟩
          have HSl : Hid (∀ W, AA W → At W q1 (bytesV X1)) := fun W h => by rw [hAA] at h; exact h.1.1.read
          have HCell : Hid (∀ W, AA W → W.cell? ⟨ab, 1, none⟩ = some (.int .i64 xa)) := fun W h => by rw [hAA] at h; exact h.2.1.cell 1 rfl
          clear HW y0 y1 y2 s1 s2 hI3 hb3 HI x0 x1 x2
          go_wp2
          refine wp_region_two (S := RS w rb pb N B B AA) (u := 3) (Keep := KeepU 3)
            (g := fun jj vv WW => (([.is (.pointer (some ⟨rb, 0, none⟩)), .is (.pointer (some ⟨ab, 1, none⟩)), .is (.int .i64 xa), .own 5 (bytesV X1), .is (.string ⟨X1.toArray⟩), .is (.slice q1 X1.length c1), .is (.string ⟨X1.toArray⟩), .is (.bool false)] : List (Kd 0)).getD jj Kd.any).ok vv WW)
            (tab := [[(6, none)], [(9, none)], [(94, some 1)], [(93, some 0), (95, some 2)], [(96, some 3)], [(12, none)], [(98, some 5)], [(97, some 4), (99, some 6)]]) (tl := []) (n := 130)
            (by kernel_rfl) rfl (by kernel_rfl) (keep_u ?kR4) (HS0.out) ?stR4 ?enR4
          case kR4 =>
            intro j hj
            match j, hj with
            | 0, _ | 1, _ | 2, _ | 4, _ | 5, _ | 6, _ | 7, _ => exact .inr (pure_is _)
            | 3, hj => exact absurd rfl hj
            | j + 8, _ => exact .inr pure_any
          case stR4 =>
            refine ⟨fun ρ W f hf hr hS hs => ?_, fun ρ W f hf hr hS hs => ?_, fun ρ W f hf hr hS hs => ?_, fun ρ W f hf hr hS hs => ?_, fun ρ W f hf hr hS hs => ?_, fun ρ W f hf hr hS hs => ?_, fun ρ W f hf hr hS hs => ?_, fun ρ W f hf hr hS hs => ?_, trivial⟩
            · have h6 : ρ (.tmp 6) = .pointer (some ⟨rb, 0, none⟩) := hs.1
              exact step_plain rfl (leaves_move (.tmp 6) rfl ⟨h6, by simpa using hS, .inr (Below.refl _ _)⟩)
            · have h9 : ρ (.tmp 9) = .pointer (some ⟨ab, 0, none⟩) := hs.1
              refine step_plain rfl (leaves_value (v := .pointer (some ⟨ab, 1, none⟩)) (w' := W) ?_ ⟨rfl, by simpa using hS, .inr (Below.refl _ _)⟩)
              simp [go_sem, h9]
            · have h94 : ρ (.tmp 94) = .pointer (some ⟨ab, 1, none⟩) := hs.1
              refine step_plain rfl (leaves_value (v := .int .i64 xa) (w' := W) ?_ ⟨rfl, by simpa using hS, .inr (Below.refl _ _)⟩)
              have hce := HCell.out W hS.also
              simp [go_sem, h94, hce]
            · have h93 : ρ (.tmp 93) = .pointer (some ⟨rb, 0, none⟩) := hs.1
              have h95 : ρ (.tmp 95) = .int .i64 xa := hs.2.1
              obtain rfl : f = true := hf (by kernel_rfl)
              refine step_plain rfl (leaves_call2 en_peek hr (.tmp 93) (.tmp 95) _ _ rfl h93 h95 ((HCall.out W (hS.one rfl)).mono ?_))
              rintro e W' ⟨v, rfl, ho, hr', ht⟩
              exact ⟨_, rfl, ho, by simpa using hS.did HKept.out ht hr' HLo.out, .inl rfl⟩
            · have h96 := hs.1
              exact step_plain rfl (leaves_textO (.tmp 96) rfl h96 ⟨rfl, by simpa using hS, .inr (Below.refl _ _)⟩)
            · have h12 : ρ (.tmp 12) = .slice q1 X1.length c1 := hs.1
              exact step_plain rfl (leaves_move (.tmp 12) rfl ⟨h12, by simpa using hS, .inr (Below.refl _ _)⟩)
            · have h98 : ρ (.tmp 98) = .slice q1 X1.length c1 := hs.1
              exact step_plain rfl (leaves_text (.tmp 98) rfl h98 (HSl.out W hS.also) ⟨rfl, by simpa using hS, .inr (Below.refl _ _)⟩)
            · have h97 : ρ (.tmp 97) = .string ⟨X1.toArray⟩ := hs.1
              have h99 : ρ (.tmp 99) = .string ⟨X1.toArray⟩ := hs.2.1
              exact step_plain rfl (leaves_neqS (.tmp 97) (.tmp 99) rfl h97 h99 ⟨rfl, by simpa using hS, .inr (Below.refl _ _)⟩)
          case enR4 =>
            intro f W hf hS v0 h0 v1 h1 v2 h2 v3 h3 v4 h4 v5 h5 v6 h6 v7 h7
            obtain rfl : f = false := hf (by decide)
            clear hf
            have e0 : v0 = .pointer (some ⟨rb, 0, none⟩) := h0 rfl
            subst v0
            have e1 : v1 = .pointer (some ⟨ab, 1, none⟩) := h1 rfl
            subst v1
            have e2 : v2 = .int .i64 xa := h2 rfl
            subst v2
            have e4 : v4 = .string ⟨X1.toArray⟩ := h4 rfl
            subst v4
            have e5 : v5 = .slice q1 X1.length c1 := h5 rfl
            subst v5
            have e6 : v6 = .string ⟨X1.toArray⟩ := h6 rfl
            subst v6
            have e7 : v7 = .bool false := h7 rfl
            subst v7
            clear h0 h1 h2 h4 h5 h6 h7
            simp only [ends, Act.put, List.setIfInBounds_toArray, List.set_cons_succ, List.set_cons_zero]
            have HI5 : Hid (AI w rb pb N hi B (.slice bq B.length bc) W) := by
              have h9 := hS.also
              rw [hAA] at h9
              exact ⟨hS.two rfl, h9.1.2, hS.below, h9.2.2⟩
            clear hS h3 HSl HCell HS0 HKept HCall HX1 HX2 HB3 hAA hWA hab
            have hfw := HI5.out.ring.few
            have cL := len_any HI5.out.ring
            go_wp2_with fail
            refine cL.mono ?_
            rintro e W6 ⟨rfl, rfl⟩
            clear cL
            have cM := room_any HI5.out.ring
            go_wp2_with fail
            refine cM.mono ?_
            rintro e W7 ⟨rfl, q7, rfl⟩
            clear cM
            have HI7 := HI5.out.on (on_drewN (Below.refl _ _) q7) hw1
            clear HI5
            go_wp2
            go_roundw
            case rel => exact ⟨k + 1, _, by omega, by omega, by go_num, HI7⟩
            case measure => simp [intOf]; omega
        by_cases hk3 : xk = 3
        · subst hk3
          have cC := clear_any HW.out.1.ring
          go_wp2_with fail
          refine cC.mono ?_
          rintro e w3 ⟨rfl, hr3, t3⟩
          have HI5 : Hid (AI w rb pb N hi [] (.slice (some ⟨w3.heap.size, 0, none⟩) 0 0) (w3.alloc (.cells #[] 5))) := by
            have hs3 := HW.out.1.size
            exact ⟨hr3.on (on_alloc _ _), .inr ⟨_, 0, 0, rfl, Nat.le_refl _, .inl rfl⟩, (t3.below HW.out.1.below HLo.out.1 HLo.out.2 (by omega)).trans ((on_alloc _ _).mono (by have := t3.size; omega)), Nat.le_trans hs3 (Nat.le_trans t3.size (on_alloc _ _).size)⟩
          clear cC hr3 t3 HW y0 y1 y2 HI x0 x1 x2 hWA hab
          have hfw := HI5.out.ring.few
          have cL := len_any HI5.out.ring
          simp only [List.length_nil] at cL
          go_wp2_with fail
          refine cL.mono ?_
          rintro e W6 ⟨rfl, rfl⟩
          clear cL
          have cM := room_any HI5.out.ring
          simp only [List.length_nil] at cM
          go_wp2_with fail
          refine cM.mono ?_
          rintro e W7 ⟨rfl, q7, rfl⟩
          clear cM
          have HI7 := HI5.out.on (on_drewN (Below.refl _ _) q7) hw1
          clear HI5
          go_wp2
          go_roundw
          case rel => exact ⟨k + 1, _, by omega, by omega, by go_num, HI7⟩
          case measure => simp [intOf]; omega
        · have hk1b : (xk == 1) = false := by simp [hk1]
          have hk2b : (xk == 2) = false := by simp [hk2]
          have hk3b : (xk == 3) = false := by simp [hk3]
          have cR := rput_any (c2 := xc) HW.out.1.sl (HX.out.below HW.out.1.below (Nat.le_refl _)) (show B.length ≤ N by omega) (by omega) (by omega)
          rw [HXl.out] at cR
          obtain ⟨Y, hY⟩ : ∃ Y, X.take (N - B.length) = Y := ⟨_, rfl⟩
          have hYN : B.length + Y.length ≤ N := by rw [← hY, List.length_take]; omega
          rw [hY] at cR
          go_wp2_with fail
          refine cR.mono ?_
          rintro e w3 ⟨v3, rfl, ho3, hb3⟩
          clear cR
          have hI3 := HW.out.1.on hb3 hw1
          have z2 := ((HW.out.2.1.on hb3).alloc (.cells #[] 5)).cell 2 rfl
          have s3 : SlAt hi w3 v3 (B ++ Y) := SlAt.of_own (ownV_less ho3 HW.out.1.size)
          obtain ⟨q3, c3, rfl, _, _⟩ := s3.is
          obtain ⟨v4, w4, hrun, hb4, ho4⟩ := append_copy elemByte w3.heap.size w3.heap.size xp xc (bytesV X) (w3.alloc (.cells #[] 5)) (by simp; omega) (one_bytes _) (ownV_empty w3 w3.heap.size _ (Nat.le_refl _)) (by simp) ((HX.out.below hI3.below (Nat.le_refl _)).alloc _)
          have hb34 : Below w3.heap.size w3 w4 := on_trans (on_alloc _ _) hb4
          have hI4 := hI3.on hb34 hw1
          obtain ⟨q4, c4, rfl, hat4, _⟩ := ownV_at ho4
          simp only [bytesV, List.length_map] at hrun
          have hrun2 : (Builtin.append_ #[26, 26] 26 #[.slice (some ⟨w3.heap.size, 0, none⟩) 0 0, .slice xp xB.length xc]).run Try.prog (w3.alloc (.cells #[] 5)) = .ok (.slice q4 X.length c4) w4 := by
            rw [← HXl.out]; exact hrun
          have cP := put_any hI4.ring q4 c4 X HHi.out.1 HHi.out.2 (hat4.less hI3.size) (by omega)
          unfold PutPost at cP
          rw [hY] at cP
          have HI4 : Hid (AI w rb pb N hi B (.slice bq B.length bc) w4) := hI4
          have HS3 : Hid (SlAt hi w4 (.slice q3 (B ++ Y).length c3) (B ++ Y)) := s3.on hb34
          have hlen : (B ++ Y).length = B.length + Y.length := List.length_append
          rw [hlen]
          have hsub : ((B.length + Y.length : Nat) : Int) - (B.length : Int) = (Y.length : Int) := by omega
          have hsub2 : (B.length : Int) + (Y.length : Int) - (B.length : Int) = (Y.length : Int) := by omega
          clear HW y0 y1 y2 HI x0 x1 x2 hrun hI3 hI4 ho3 ho4 hb3 hb4 hb34 s3 hat4 hlen hY
          go_wp2_with (at_builtin; refine wpList_run_append (by rfl) _ _ _ (by rfl) _ _ (by rfl) (by rfl) hrun2 ?_)
          refine cP.mono ?_
          rintro e w5 ⟨rfl, hr5, t5⟩
          have HI5 : Hid (AI w rb pb N hi (B ++ Y) (.slice q3 (B ++ Y).length c3) w5) := by
            have hs3 := HI4.out.size
            exact ⟨hr5, HS3.out.two t5 HHi.out.1 HHi.out.2, t5.below HI4.out.below HLo.out.1 HLo.out.2 (by omega), Nat.le_trans hs3 t5.size⟩
          clear cP hrun2 hr5 t5 HI4 HS3 z2 hWA hab
          have hfw := HI5.out.ring.few
          simp only [List.length_append] at HI5 hfw
          have cL := len_any HI5.out.ring
          simp only [List.length_append] at cL
          go_wp2_with fail
          refine cL.mono ?_
          rintro e W6 ⟨rfl, rfl⟩
          clear cL
          have cM := room_any HI5.out.ring
          simp only [List.length_append] at cM
          go_wp2_with fail
          refine cM.mono ?_
          rintro e W7 ⟨rfl, q7, rfl⟩
          clear cM
          have HI7 := HI5.out.on (on_drewN (Below.refl _ _) q7) hw1
          clear HI5
          go_wp2
          go_roundw
          case rel => exact ⟨k + 1, _, by omega, by omega, by go_num, HI7⟩
          case measure => simp [intOf]; omega
    · have hno : ¬ ((k : Int) < (l.length : Int) ∧ (k : Int) < 100) := by omega
      have e9 : B.take ((N : Int)).toNat = B := List.take_of_length_le (by simp; omega)
      have HCall : Hid (∀ W, RingAt W rb pb N B → Calls Try.prog 10 #[.pointer (some ⟨rb, 0, none⟩), .int .i64 (N : Int)] W fun e W' => ∃ v, e = .returned v ∧ OwnV 0 5 W' v (bytesV B) ∧ RingAt W' rb pb N B ∧ Two rb pb W W') := fun W h => (peek_any h (N : Int)).mono fun e W' ⟨v, h1, h2, h3⟩ => ⟨v, h1, by
        rw [e9] at h2
        exact ownV_less h2 (Nat.zero_le _), h.on h3, two_on h3⟩
      obtain ⟨AA, hAA⟩ : ∃ AA : World → Prop, AA = fun W => SlAt hi W (.slice bq B.length bc) B := ⟨_, rfl⟩
      have HKept : Hid (Kept rb pb AA) := by
        rw [hAA]
        exact kept_sl HHi.out.1 HHi.out.2
      have HS0 : Hid (RS w rb pb N B B AA true wr.drew) := by
        have hd := on_drew (Below.refl wr.heap.size wr)
        refine ⟨fun _ => HI.out.ring.on hd, (fun e => by cases e), on_drew HI.out.below, Nat.le_trans hw1 HI.out.size, ?_⟩
        rw [hAA]
        exact HI.out.sl.on hd
      have HSl : Hid (∀ W, AA W → At W bq (bytesV B)) := fun W h => by rw [hAA] at h; exact h.read
      clear HI e9
      by_cases hlt : k < l.length
      · have hltz : (k : Int) < (l.length : Int) := by omega
        have h100 : ¬ (k : Int) < 100 := by omega
        have h100n : ¬ k < 100 := by omega
        go_wp2
        refine wp_region_two (S := RS w rb pb N B B AA) (u := 2) (Keep := KeepU 2)
          (g := fun jj vv WW => (([.is (.pointer (some ⟨rb, 0, none⟩)), .is (.int .i64 (N : Int)), .own 5 (bytesV B), .is (.string ⟨B.toArray⟩), .is (.slice bq B.length bc), .is (.string ⟨B.toArray⟩), .is (.bool true), .is (.bool true), .is (.bool true), .is (.bool true), .is (.bool true)] : List (Kd 0)).getD jj Kd.any).ok vv WW)
          (tab := [[(6, none)], [(5, none)], [(120, some 0), (121, some 1)], [(122, some 2)], [(7, none)], [(124, some 4)], [(123, some 3), (125, some 5)], [(126, some 6)], [(127, some 7)], [(127, some 7), (128, some 8)], [(129, some 9)]]) (tl := []) (n := 130)
          (by kernel_rfl) rfl (by kernel_rfl) (keep_u ?kR5) (HS0.out) ?stR5 ?enR5
        case kR5 =>
          intro j hj
          match j, hj with
          | 0, _ | 1, _ | 3, _ | 4, _ | 5, _ | 6, _ | 7, _ | 8, _ | 9, _ | 10, _ => exact .inr (pure_is _)
          | 2, hj => exact absurd rfl hj
          | j + 11, _ => exact .inr pure_any
        case stR5 =>
          refine ⟨fun ρ W f hf hr hS hs => ?_, fun ρ W f hf hr hS hs => ?_, fun ρ W f hf hr hS hs => ?_, fun ρ W f hf hr hS hs => ?_, fun ρ W f hf hr hS hs => ?_, fun ρ W f hf hr hS hs => ?_, fun ρ W f hf hr hS hs => ?_, fun ρ W f hf hr hS hs => ?_, fun ρ W f hf hr hS hs => ?_, fun ρ W f hf hr hS hs => ?_, fun ρ W f hf hr hS hs => ?_, trivial⟩
          · have h6 : ρ (.tmp 6) = .pointer (some ⟨rb, 0, none⟩) := hs.1
            exact step_plain rfl (leaves_move (.tmp 6) rfl ⟨h6, by simpa using hS, .inr (Below.refl _ _)⟩)
          · have h5 : ρ (.tmp 5) = .int .i64 (N : Int) := hs.1
            exact step_plain rfl (leaves_move (.tmp 5) rfl ⟨h5, by simpa using hS, .inr (Below.refl _ _)⟩)
          · have h120 : ρ (.tmp 120) = .pointer (some ⟨rb, 0, none⟩) := hs.1
            have h121 : ρ (.tmp 121) = .int .i64 (N : Int) := hs.2.1
            obtain rfl : f = true := hf (by kernel_rfl)
            refine step_plain rfl (leaves_call2 en_peek hr (.tmp 120) (.tmp 121) _ _ rfl h120 h121 ((HCall.out W (hS.one rfl)).mono ?_))
            rintro e W' ⟨v, rfl, ho, hr', ht⟩
            exact ⟨_, rfl, ho, by simpa using hS.did HKept.out ht hr' HLo.out, .inl rfl⟩
          · have h122 := hs.1
            exact step_plain rfl (leaves_textO (.tmp 122) rfl h122 ⟨rfl, by simpa using hS, .inr (Below.refl _ _)⟩)
          · have h7 : ρ (.tmp 7) = .slice bq B.length bc := hs.1
            exact step_plain rfl (leaves_move (.tmp 7) rfl ⟨h7, by simpa using hS, .inr (Below.refl _ _)⟩)
          · have h124 : ρ (.tmp 124) = .slice bq B.length bc := hs.1
            exact step_plain rfl (leaves_text (.tmp 124) rfl h124 (HSl.out W hS.also) ⟨rfl, by simpa using hS, .inr (Below.refl _ _)⟩)
          · have h123 : ρ (.tmp 123) = .string ⟨B.toArray⟩ := hs.1
            have h125 : ρ (.tmp 125) = .string ⟨B.toArray⟩ := hs.2.1
            exact step_plain rfl (leaves_eqlS (.tmp 123) (.tmp 125) rfl h123 h125 ⟨rfl, by simpa using hS, .inr (Below.refl _ _)⟩)
          · have h126 : ρ (.tmp 126) = .bool true := hs.1
            exact step_plain rfl (leaves_move (.tmp 126) rfl ⟨h126, by simpa using hS, .inr (Below.refl _ _)⟩)
          · have h127 : ρ (.tmp 127) = .bool true := hs.1
            refine step_want rfl rfl h127 (leaves_call0 en_lives hr rfl ((lives_any W).mono ?_))
            rintro e W' ⟨rfl, hb'⟩
            have hS2 := hS.on HKept.out hb'
            exact ⟨_, rfl, rfl, by simpa using hS2, .inr hb'⟩
          · have h127 : ρ (.tmp 127) = .bool true := hs.1
            have h128 : ρ (.tmp 128) = .bool true := hs.2.1
            exact step_plain rfl (leaves_pick (.tmp 127) (.tmp 128) _ rfl true h127 ⟨h128, by simpa using hS, .inr (Below.refl _ _)⟩)
          · have h129 : ρ (.tmp 129) = .bool true := hs.1
            exact step_plain rfl (leaves_assign (.tmp 129) rfl ⟨h129, by simpa using hS, .inr (Below.refl _ _)⟩)
        case enR5 =>
          intro f W hf hS v0 h0 v1 h1 v2 h2 v3 h3 v4 h4 v5 h5 v6 h6 v7 h7 v8 h8 v9 h9 v10 h10
          obtain rfl : f = false := hf (by decide)
          clear hf
          have e0 : v0 = .pointer (some ⟨rb, 0, none⟩) := h0 rfl
          subst v0
          have e1 : v1 = .int .i64 (N : Int) := h1 rfl
          subst v1
          have e3 : v3 = .string ⟨B.toArray⟩ := h3 rfl
          subst v3
          have e4 : v4 = .slice bq B.length bc := h4 rfl
          subst v4
          have e5 : v5 = .string ⟨B.toArray⟩ := h5 rfl
          subst v5
          have e6 : v6 = .bool true := h6 rfl
          subst v6
          have e7 : v7 = .bool true := h7 rfl
          subst v7
          have e8 : v8 = .bool true := h8 rfl
          subst v8
          have e9 : v9 = .bool true := h9 rfl
          subst v9
          have e10 : v10 = .bool true := h10 rfl
          subst v10
          clear h0 h1 h3 h4 h5 h6 h7 h8 h9 h10
          simp only [ends, Act.put, List.setIfInBounds_toArray, List.set_cons_succ, List.set_cons_zero]
          have HB : Hid (Below w.heap.size w W) := hS.below
          clear hS h2
          go_wp2
          go_ret
          exact ⟨rfl, HB.out⟩
      · have hltz : ¬ (k : Int) < (l.length : Int) := by omega
        go_wp2
        refine wp_region_two (S := RS w rb pb N B B AA) (u := 2) (Keep := KeepU 2)
          (g := fun jj vv WW => (([.is (.pointer (some ⟨rb, 0, none⟩)), .is (.int .i64 (N : Int)), .own 5 (bytesV B), .is (.string ⟨B.toArray⟩), .is (.slice bq B.length bc), .is (.string ⟨B.toArray⟩), .is (.bool true), .is (.bool true), .is (.bool true), .is (.bool true), .is (.bool true)] : List (Kd 0)).getD jj Kd.any).ok vv WW)
          (tab := [[(6, none)], [(5, none)], [(120, some 0), (121, some 1)], [(122, some 2)], [(7, none)], [(124, some 4)], [(123, some 3), (125, some 5)], [(126, some 6)], [(127, some 7)], [(127, some 7), (128, some 8)], [(129, some 9)]]) (tl := []) (n := 130)
          (by kernel_rfl) rfl (by kernel_rfl) (keep_u ?kR6) (HS0.out) ?stR6 ?enR6
        case kR6 =>
          intro j hj
          match j, hj with
          | 0, _ | 1, _ | 3, _ | 4, _ | 5, _ | 6, _ | 7, _ | 8, _ | 9, _ | 10, _ => exact .inr (pure_is _)
          | 2, hj => exact absurd rfl hj
          | j + 11, _ => exact .inr pure_any
        case stR6 =>
          refine ⟨fun ρ W f hf hr hS hs => ?_, fun ρ W f hf hr hS hs => ?_, fun ρ W f hf hr hS hs => ?_, fun ρ W f hf hr hS hs => ?_, fun ρ W f hf hr hS hs => ?_, fun ρ W f hf hr hS hs => ?_, fun ρ W f hf hr hS hs => ?_, fun ρ W f hf hr hS hs => ?_, fun ρ W f hf hr hS hs => ?_, fun ρ W f hf hr hS hs => ?_, fun ρ W f hf hr hS hs => ?_, trivial⟩
          · have h6 : ρ (.tmp 6) = .pointer (some ⟨rb, 0, none⟩) := hs.1
            exact step_plain rfl (leaves_move (.tmp 6) rfl ⟨h6, by simpa using hS, .inr (Below.refl _ _)⟩)
          · have h5 : ρ (.tmp 5) = .int .i64 (N : Int) := hs.1
            exact step_plain rfl (leaves_move (.tmp 5) rfl ⟨h5, by simpa using hS, .inr (Below.refl _ _)⟩)
          · have h120 : ρ (.tmp 120) = .pointer (some ⟨rb, 0, none⟩) := hs.1
            have h121 : ρ (.tmp 121) = .int .i64 (N : Int) := hs.2.1
            obtain rfl : f = true := hf (by kernel_rfl)
            refine step_plain rfl (leaves_call2 en_peek hr (.tmp 120) (.tmp 121) _ _ rfl h120 h121 ((HCall.out W (hS.one rfl)).mono ?_))
            rintro e W' ⟨v, rfl, ho, hr', ht⟩
            exact ⟨_, rfl, ho, by simpa using hS.did HKept.out ht hr' HLo.out, .inl rfl⟩
          · have h122 := hs.1
            exact step_plain rfl (leaves_textO (.tmp 122) rfl h122 ⟨rfl, by simpa using hS, .inr (Below.refl _ _)⟩)
          · have h7 : ρ (.tmp 7) = .slice bq B.length bc := hs.1
            exact step_plain rfl (leaves_move (.tmp 7) rfl ⟨h7, by simpa using hS, .inr (Below.refl _ _)⟩)
          · have h124 : ρ (.tmp 124) = .slice bq B.length bc := hs.1
            exact step_plain rfl (leaves_text (.tmp 124) rfl h124 (HSl.out W hS.also) ⟨rfl, by simpa using hS, .inr (Below.refl _ _)⟩)
          · have h123 : ρ (.tmp 123) = .string ⟨B.toArray⟩ := hs.1
            have h125 : ρ (.tmp 125) = .string ⟨B.toArray⟩ := hs.2.1
            exact step_plain rfl (leaves_eqlS (.tmp 123) (.tmp 125) rfl h123 h125 ⟨rfl, by simpa using hS, .inr (Below.refl _ _)⟩)
          · have h126 : ρ (.tmp 126) = .bool true := hs.1
            exact step_plain rfl (leaves_move (.tmp 126) rfl ⟨h126, by simpa using hS, .inr (Below.refl _ _)⟩)
          · have h127 : ρ (.tmp 127) = .bool true := hs.1
            refine step_want rfl rfl h127 (leaves_call0 en_lives hr rfl ((lives_any W).mono ?_))
            rintro e W' ⟨rfl, hb'⟩
            have hS2 := hS.on HKept.out hb'
            exact ⟨_, rfl, rfl, by simpa using hS2, .inr hb'⟩
          · have h127 : ρ (.tmp 127) = .bool true := hs.1
            have h128 : ρ (.tmp 128) = .bool true := hs.2.1
            exact step_plain rfl (leaves_pick (.tmp 127) (.tmp 128) _ rfl true h127 ⟨h128, by simpa using hS, .inr (Below.refl _ _)⟩)
          · have h129 : ρ (.tmp 129) = .bool true := hs.1
            exact step_plain rfl (leaves_assign (.tmp 129) rfl ⟨h129, by simpa using hS, .inr (Below.refl _ _)⟩)
        case enR6 =>
          intro f W hf hS v0 h0 v1 h1 v2 h2 v3 h3 v4 h4 v5 h5 v6 h6 v7 h7 v8 h8 v9 h9 v10 h10
          obtain rfl : f = false := hf (by decide)
          clear hf
          have e0 : v0 = .pointer (some ⟨rb, 0, none⟩) := h0 rfl
          subst v0
          have e1 : v1 = .int .i64 (N : Int) := h1 rfl
          subst v1
          have e3 : v3 = .string ⟨B.toArray⟩ := h3 rfl
          subst v3
          have e4 : v4 = .slice bq B.length bc := h4 rfl
          subst v4
          have e5 : v5 = .string ⟨B.toArray⟩ := h5 rfl
          subst v5
          have e6 : v6 = .bool true := h6 rfl
          subst v6
          have e7 : v7 = .bool true := h7 rfl
          subst v7
          have e8 : v8 = .bool true := h8 rfl
          subst v8
          have e9 : v9 = .bool true := h9 rfl
          subst v9
          have e10 : v10 = .bool true := h10 rfl
          subst v10
          clear h0 h1 h3 h4 h5 h6 h7 h8 h9 h10
          simp only [ends, Act.put, List.setIfInBounds_toArray, List.set_cons_succ, List.set_cons_zero]
          have HB : Hid (Below w.heap.size w W) := hS.below
          clear hS h2
          go_wp2
          go_ret
          exact ⟨rfl, HB.out⟩

end Go.Proofs.Ytfdpiinkjgepkaa.B
