/- The law RingApart answers true at every input. -/
import Derived.Test.YtfdpiinkjgepkaaBLaw
namespace Go.Proofs.Ytfdpiinkjgepkaa.B
open Go Go.RowKit

abbrev u8V (l : List Int) : List Value := l.map (Value.int .u8)
/-- A row of one's own that is written over, and a buffer beside it. -/
def LoopI (w : World) (rb pb hi m : Nat) (X : List UInt8) (v : Value) (W : World) : Prop := ∃ l : List Int, l.length = m ∧ OwnV hi 5 W v (u8V l) ∧ RingAt W rb pb 64 X ∧ Below w.heap.size w W ∧ hi ≤ W.heap.size
theorem LoopI.place {w W : World} {rb pb hi m i : Nat} {X : List UInt8} {v : Value} (h : LoopI w rb pb hi m X v W) (hi' : i < m) (hr : rb < hi) (hp : pb < hi) (hw : w.heap.size ≤ hi) :
    ∃ g cap x, v = .slice (some ⟨g, 0, none⟩) m cap ∧ W.cell? ⟨g, i, none⟩ = some (.int .u8 x) ∧ W.frozen? ⟨g, i, none⟩ = false ∧ ∀ y, LoopI w rb pb hi m X v (W.setCell ⟨g, i, none⟩ (.int .u8 y)) := by
  obtain ⟨l, hl, ho, hR, hb, hs⟩ := h
  obtain ⟨g, cap, hv, hg, hlt⟩ := ownV_place ho (k := i) (by simp; omega)
  subst hv
  obtain ⟨cur, hcur⟩ := ownV_row ho
  obtain ⟨p, c, e, hat, _⟩ := ownV_at ho
  have hil : i < l.length := by omega
  obtain ⟨g', off, e2, _, _, hc⟩ := hat.place (k := i) (by simp; omega)
  subst e2
  cases e
  refine ⟨g, cap, l[i], by simp [hl], by have := hc i (.int .u8 l[i]) (by simp [hil]); simpa using this, by simp [World.frozen?, hcur], fun y => ?_⟩
  have hbut := but_set W g i (.int .u8 y)
  refine ⟨l.set i y, by simp [hl], ?_, hR.but hbut (by omega) (by omega), below_but hb hbut (by omega), by rw [hbut.size]; exact hs⟩
  have := ownV_set ho i (.int .u8 y)
  simpa [u8V, List.map_set] using this

set_option maxRecDepth 100000 in
set_option maxHeartbeats 1000000 in
theorem apart_walk (p : Option Addr) (cap : Nat) (b : List UInt8) (n : Int) (w : World) (hcap : b.length ≤ cap) (hat : At w p (bytesV b)) :
    Calls Try.prog 6 #[.slice p b.length cap, .int .i64 n] w fun e w' => e = .returned (.bool true) ∧ Below w.heap.size w w' := by
  have cN := new_in 64 w (by omega) (by omega)
  obtain ⟨X, hX⟩ : ∃ X, b.take 64 = X := ⟨_, rfl⟩
  have hX64 : X.length ≤ 64 := by rw [← hX]; simp; omega
  have HA : Hid (At w p (bytesV X)) := by
    show At w p (bytesV X)
    have := hat.take 64
    rw [← hX]
    simpa [bytesV] using this
  have hpl : 64 < b.length → ∃ bb off, p = some ⟨bb, off, none⟩ := fun h7 => by
    obtain ⟨bb, off, e, _⟩ := hat.place (k := 0) (by simp; omega)
    exact ⟨bb, off, e⟩
  have hXl : X.length = min 64 b.length := by rw [← hX]; simp
  unfold NewPost at cN
  clear hat hX
  go_enter Try.func6, Try.ntmps6
  go_wp2_with fail
  refine cN.mono ?_
  rintro e w1 ⟨rb, pb, rfl, hr, hb1, hrb, hpb⟩
  clear cN
  obtain ⟨hr1, hp1⟩ := hr.lt
  obtain ⟨v', w2, hrun, hb2, ho2⟩ := append_copy elemByte w1.heap.size w1.heap.size p cap (bytesV X) (w1.alloc (.cells #[] 5)) (by simp; omega) (one_bytes _) (ownV_empty w1 w1.heap.size _ (Nat.le_refl _)) (by simp) ((HA.out.on hb1).alloc _)
  have hb12 : Below w1.heap.size w1 w2 := on_trans (on_alloc _ _) hb2
  obtain ⟨q, c2, rfl, hat2, _⟩ := ownV_at ho2
  simp only [bytesV, List.length_map] at hrun
  have cP := put_any (hr.on hb12) q c2 X hr1 hp1 hat2 (by omega)
  have eX : ([] : List UInt8) ++ X.take (64 - ([] : List UInt8).length) = X := List.take_of_length_le (by simp; omega)
  unfold PutPost at cP
  rw [eX] at cP
  obtain ⟨ml, hml⟩ : ∃ ml, (X.take (64 - ([] : List UInt8).length)).length = ml := ⟨_, rfl⟩
  rw [hml] at cP
  have HI : Hid (OwnV w1.heap.size 5 w2 (.slice q X.length c2) (bytesV X) ∧ Below w.heap.size w w2 ∧ w1.heap.size ≤ w2.heap.size) := ⟨by simpa using ho2, hb1.trans (hb12.mono hb1.size), hb12.size⟩
  have hw1 : w.heap.size ≤ w1.heap.size := hb1.size
  clear hr hb1 hb2 hb12 ho2 hat2 eX hml
  obtain ⟨hi, hhi⟩ : ∃ hi, w1.heap.size = hi := ⟨_, rfl⟩
  rw [hhi] at hr1 hp1 HI hw1
  clear hhi
  by_cases hbig : 64 < b.length
  · have hbz : (64 : Int) < (b.length : Int) := by omega
    have hcz : (64 : Int) ≤ (cap : Int) := by omega
    obtain ⟨bp, op, rfl⟩ := hpl hbig
    have HXl : Hid (X.length = 64) := show X.length = 64 by omega
    have hrun2 : (Builtin.append_ #[26, 26] 26 #[.slice (some ⟨w1.heap.size, 0, none⟩) 0 0, .slice (some ⟨bp, op, none⟩) 64 cap]).run Try.prog (w1.alloc (.cells #[] 5)) = .ok (.slice q X.length c2) w2 := by
      rw [← HXl.out]; exact hrun
    clear hpl hXl hrun
    have HXm : Hid (X.length ≤ 64) := hX64
    obtain ⟨xl, hxl⟩ : ∃ xl, X.length = xl := ⟨_, rfl⟩
    have HXx : Hid (X.length = xl) := hxl
    rw [hxl] at hrun2 cP hX64 HI
    clear hxl
    go_wp2_with (at_builtin; refine wpList_run_append (by rfl) _ _ _ (by rfl) _ _ (by rfl) (by rfl) hrun2 ?_)
    refine cP.mono ?_
    rintro e w3 ⟨rfl, hr3, t3⟩
    have HL : Hid (LoopI w rb pb hi xl X (.slice q xl c2) w3) := by
      obtain ⟨h1, h2, h3⟩ := HI.out
      refine ⟨X.map fun c => (c.toNat : Int), by simp [HXx.out], ?_, hr3, t3.below h2 hrb hpb (Nat.le_trans hw1 h3), Nat.le_trans h3 t3.size⟩
      have h7 := t3.own h1 hr1 hp1
      have e7 : u8V (X.map fun c => (c.toNat : Int)) = bytesV X := by simp [u8V, bytesV, byteV]
      rw [e7]
      exact h7
    clear hr3 t3 HI cP hrun2
    go_wp2
    go_loopw [7] (fun iv wr => ∃ i : Nat, i ≤ xl ∧ iv = .int .i64 (i : Int) ∧ Hid (LoopI w rb pb hi xl X (.slice q xl c2) wr)) (fun iv _ => xl - (intOf iv).toNat)
    case atStart => exact ⟨0, Nat.zero_le _, rfl, HL⟩
    case round =>
      clear HL
      obtain ⟨i, hi0, rfl, HL⟩ := hrel
      by_cases hil : i < xl
      · have hilz : (i : Int) < (xl : Int) := by omega
        obtain ⟨g, cc, x, hv, hcell, hfr, hnx⟩ := HL.out.place hil hr1 hp1 hw1
        cases hv
        have HN : Hid (∀ y, LoopI w rb pb hi xl X (.slice (some ⟨g, 0, none⟩) xl c2) (wr.setCell ⟨g, i, none⟩ (.int .u8 y))) := hnx
        clear HL hnx
        go_wp2
        go_roundw
        case rel => exact ⟨i + 1, by omega, by go_num, HN.out _⟩
        case measure => simp [intOf]; omega
      · obtain rfl : i = xl := by omega
        have hltz : ¬ (i : Int) < (i : Int) := by omega
        have HR : Hid (RingAt wr rb pb 64 X ∧ Below w.heap.size w wr ∧ hi ≤ wr.heap.size) := by
          obtain ⟨l, _, _, h3, h4, h5⟩ := HL.out
          exact ⟨h3, h4, h5⟩
        have cK := peek_any HR.out.1 n
        unfold PeekPost at cK
        clear HL
        go_wp2_with fail
        refine cK.mono ?_
        rintro e w5 ⟨v5, rfl, ho5, hb5⟩
        clear cK
        obtain ⟨q5, c5, rfl, _, _⟩ := ownV_at ho5
        obtain ⟨m5, hm5⟩ : ∃ m, (bytesV (X.take n.toNat)).length = m := ⟨_, rfl⟩
        rw [hm5] at ho5 ⊢
        have hm64 : m5 ≤ 64 := by have := HXm.out; rw [← hm5]; simp; omega
        have HL5 : Hid (LoopI w rb pb hi m5 X (.slice q5 m5 c5) w5) := by
          obtain ⟨h1, h2, h3⟩ := HR.out
          refine ⟨(X.take n.toNat).map fun c => (c.toNat : Int), by simpa using hm5, ?_, h1.on hb5, h2.trans (hb5.mono (Nat.le_trans hw1 h3)), Nat.le_trans h3 hb5.size⟩
          have e7 : u8V ((X.take n.toNat).map fun c => (c.toNat : Int)) = bytesV (X.take n.toNat) := by simp only [u8V, bytesV, List.map_map]; rfl
          rw [e7]
          exact ownV_less ho5 h3
        clear ho5 hb5 hm5 HR
        go_wp2
        go_loopw [9] (fun iv wr => ∃ j : Nat, j ≤ m5 ∧ iv = .int .i64 (j : Int) ∧ Hid (LoopI w rb pb hi m5 X (.slice q5 m5 c5) wr)) (fun iv _ => m5 - (intOf iv).toNat)
        case atStart => exact ⟨0, Nat.zero_le _, rfl, HL5⟩
        case round =>
          clear HL5
          obtain ⟨j, hj0, rfl, HL⟩ := hrel
          by_cases hjl : j < m5
          · have hjlz : (j : Int) < (m5 : Int) := by omega
            obtain ⟨g, cc, x, hv, hcell, hfr, hnx⟩ := HL.out.place hjl hr1 hp1 hw1
            cases hv
            have HN : Hid (∀ y, LoopI w rb pb hi m5 X (.slice (some ⟨g, 0, none⟩) m5 c5) (wr.setCell ⟨g, j, none⟩ (.int .u8 y))) := hnx
            clear HL hnx
            go_wp2
            go_roundw
            case rel => exact ⟨j + 1, by omega, by go_num, HN.out _⟩
            case measure => simp [intOf]; omega
          · obtain rfl : j = m5 := by omega
            have hltz2 : ¬ (j : Int) < (j : Int) := by omega
            obtain ⟨X2, HX2⟩ : ∃ X2, Hid (X2 = X.drop 64) := ⟨_, rfl⟩
            have HCall : Hid (∀ W, RingAt W rb pb 64 X → Calls Try.prog 9 #[.pointer (some ⟨rb, 0, none⟩), .int .i64 64] W fun e W' => ∃ v, e = .returned v ∧ OwnV 0 5 W' v (bytesV X) ∧ RingAt W' rb pb 64 X2 ∧ Two rb pb W W') := fun W h => (take_any h 64).mono fun e W' ⟨v, h1, h2, h3, h4⟩ => ⟨v, h1, by
              have e8 : X.take (64 : Int).toNat = X := List.take_of_length_le (by have := HXm.out; have := HXx.out; simp; omega)
              rw [e8] at h2
              exact ownV_less h2 (Nat.zero_le _), by rw [HX2.out]; exact h3, h4⟩
            have HKept : Hid (Kept rb pb fun _ => True) := kept_true
            have HLo : Hid (w.heap.size ≤ rb ∧ w.heap.size ≤ pb) := ⟨hrb, hpb⟩
            have HS0 : Hid (RS w rb pb 64 X X2 (fun _ => True) true wr.drew) := by
              obtain ⟨l, _, _, h3, h4, h5⟩ := HL.out
              exact ⟨fun _ => h3.on (on_drew (Below.refl _ _)), (fun e => by cases e), on_drew h4, Nat.le_trans hw1 h5, trivial⟩
            clear HL
            go_wp2
            refine wp_region_two (S := RS w rb pb 64 X X2 (fun _ => True)) (u := 1) (Keep := KeepU 1)
              (g := fun jj vv WW => (([.is (.pointer (some ⟨rb, 0, none⟩)), .own 5 (bytesV X), .is (.string ⟨X.toArray⟩), .is (.slice (some ⟨bp, op, none⟩) 64 cap), .is (.string ⟨X.toArray⟩), .is (.bool true), .is (.bool true), .is (.bool true), .is (.bool true), .is (.bool true)] : List (Kd 0)).getD jj Kd.any).ok vv WW)
              (tab := [[(5, none)], [(55, some 0)], [(56, some 1)], [(0, none)], [(58, some 3)], [(57, some 2), (59, some 4)], [(60, some 5)], [(61, some 6)], [(61, some 6), (62, some 7)], [(63, some 8)]]) (tl := []) (n := 64)
              (by kernel_rfl) rfl (by kernel_rfl) (keep_u ?kR1) (HS0.out) ?stR1 ?enR1
            case kR1 =>
              intro j hj
              match j, hj with
              | 0, _ | 2, _ | 3, _ | 4, _ | 5, _ | 6, _ | 7, _ | 8, _ | 9, _ => exact .inr (pure_is _)
              | 1, hj => exact absurd rfl hj
              | j + 10, _ => exact .inr pure_any
            case stR1 =>
              refine ⟨fun ρ W f hf hr hS hs => ?_, fun ρ W f hf hr hS hs => ?_, fun ρ W f hf hr hS hs => ?_, fun ρ W f hf hr hS hs => ?_, fun ρ W f hf hr hS hs => ?_, fun ρ W f hf hr hS hs => ?_, fun ρ W f hf hr hS hs => ?_, fun ρ W f hf hr hS hs => ?_, fun ρ W f hf hr hS hs => ?_, fun ρ W f hf hr hS hs => ?_, trivial⟩
              · have h5 : ρ (.tmp 5) = .pointer (some ⟨rb, 0, none⟩) := hs.1
                exact step_plain rfl (leaves_move (.tmp 5) rfl ⟨h5, by simpa using hS, .inr (Below.refl _ _)⟩)
              · have h55 : ρ (.tmp 55) = .pointer (some ⟨rb, 0, none⟩) := hs.1
                obtain rfl : f = true := hf (by kernel_rfl)
                refine step_plain rfl (leaves_call2 en_take hr (.tmp 55) _ _ _ rfl h55 (hr.const _) ((HCall.out W (hS.one rfl)).mono ?_))
                rintro e W' ⟨v, rfl, ho, hr', ht⟩
                exact ⟨_, rfl, ho, by simpa using hS.did HKept.out ht hr' HLo.out, .inl rfl⟩
              · have h56 := hs.1
                exact step_plain rfl (leaves_textO (.tmp 56) rfl h56 ⟨rfl, by simpa using hS, .inr (Below.refl _ _)⟩)
              · have h0 : ρ (.tmp 0) = .slice (some ⟨bp, op, none⟩) 64 cap := hs.1
                exact step_plain rfl (leaves_move (.tmp 0) rfl ⟨h0, by simpa using hS, .inr (Below.refl _ _)⟩)
              · have h58 : ρ (.tmp 58) = .slice (some ⟨bp, op, none⟩) 64 cap := hs.1
                exact step_plain rfl (leaves_text (.tmp 58) rfl (h58.trans (by rw [HXl.out])) (HA.out.below hS.below (Nat.le_refl _)) ⟨rfl, by simpa using hS, .inr (Below.refl _ _)⟩)
              · have h57 : ρ (.tmp 57) = .string ⟨X.toArray⟩ := hs.1
                have h59 : ρ (.tmp 59) = .string ⟨X.toArray⟩ := hs.2.1
                exact step_plain rfl (leaves_eqlS (.tmp 57) (.tmp 59) rfl h57 h59 ⟨rfl, by simpa using hS, .inr (Below.refl _ _)⟩)
              · have h60 : ρ (.tmp 60) = .bool true := hs.1
                exact step_plain rfl (leaves_move (.tmp 60) rfl ⟨h60, by simpa using hS, .inr (Below.refl _ _)⟩)
              · have h61 : ρ (.tmp 61) = .bool true := hs.1
                refine step_want rfl rfl h61 (leaves_call0 en_lives hr rfl ((lives_any W).mono ?_))
                rintro e W' ⟨rfl, hb'⟩
                have hS2 := hS.on HKept.out hb'
                exact ⟨_, rfl, rfl, by simpa using hS2, .inr hb'⟩
              · have h61 : ρ (.tmp 61) = .bool true := hs.1
                have h62 : ρ (.tmp 62) = .bool true := hs.2.1
                exact step_plain rfl (leaves_pick (.tmp 61) (.tmp 62) _ rfl true h61 ⟨h62, by simpa using hS, .inr (Below.refl _ _)⟩)
              · have h63 : ρ (.tmp 63) = .bool true := hs.1
                exact step_plain rfl (leaves_assign (.tmp 63) rfl ⟨h63, by simpa using hS, .inr (Below.refl _ _)⟩)
            case enR1 =>
              intro f W hf hS v0 h0 v1 h1 v2 h2 v3 h3 v4 h4 v5 h5 v6 h6 v7 h7 v8 h8 v9 h9
              obtain rfl : f = false := hf (by decide)
              clear hf
              have e0 : v0 = .pointer (some ⟨rb, 0, none⟩) := h0 rfl
              subst v0
              have e2 : v2 = .string ⟨X.toArray⟩ := h2 rfl
              subst v2
              have e3 : v3 = .slice (some ⟨bp, op, none⟩) 64 cap := h3 rfl
              subst v3
              have e4 : v4 = .string ⟨X.toArray⟩ := h4 rfl
              subst v4
              have e5 : v5 = .bool true := h5 rfl
              subst v5
              have e6 : v6 = .bool true := h6 rfl
              subst v6
              have e7 : v7 = .bool true := h7 rfl
              subst v7
              have e8 : v8 = .bool true := h8 rfl
              subst v8
              have e9 : v9 = .bool true := h9 rfl
              subst v9
              clear h0 h2 h3 h4 h5 h6 h7 h8 h9
              simp only [ends, Act.put, List.setIfInBounds_toArray, List.set_cons_succ, List.set_cons_zero]
              have HB : Hid (Below w.heap.size w W) := hS.below
              clear hS h1
              go_wp2
              go_ret
              exact ⟨rfl, HB.out⟩
  · have hbz : ¬ (64 : Int) < (b.length : Int) := by omega
    have HXl : Hid (X.length = b.length) := show X.length = b.length by omega
    have hrun2 : (Builtin.append_ #[26, 26] 26 #[.slice (some ⟨w1.heap.size, 0, none⟩) 0 0, .slice (p) b.length cap]).run Try.prog (w1.alloc (.cells #[] 5)) = .ok (.slice q X.length c2) w2 := by
      rw [← HXl.out]; exact hrun
    clear hpl hXl hrun
    have HXm : Hid (X.length ≤ 64) := hX64
    obtain ⟨xl, hxl⟩ : ∃ xl, X.length = xl := ⟨_, rfl⟩
    have HXx : Hid (X.length = xl) := hxl
    rw [hxl] at hrun2 cP hX64 HI
    clear hxl
    go_wp2_with (at_builtin; refine wpList_run_append (by rfl) _ _ _ (by rfl) _ _ (by rfl) (by rfl) hrun2 ?_)
    refine cP.mono ?_
    rintro e w3 ⟨rfl, hr3, t3⟩
    have HL : Hid (LoopI w rb pb hi xl X (.slice q xl c2) w3) := by
      obtain ⟨h1, h2, h3⟩ := HI.out
      refine ⟨X.map fun c => (c.toNat : Int), by simp [HXx.out], ?_, hr3, t3.below h2 hrb hpb (Nat.le_trans hw1 h3), Nat.le_trans h3 t3.size⟩
      have h7 := t3.own h1 hr1 hp1
      have e7 : u8V (X.map fun c => (c.toNat : Int)) = bytesV X := by simp [u8V, bytesV, byteV]
      rw [e7]
      exact h7
    clear hr3 t3 HI cP hrun2
    go_wp2
    go_loopw [7] (fun iv wr => ∃ i : Nat, i ≤ xl ∧ iv = .int .i64 (i : Int) ∧ Hid (LoopI w rb pb hi xl X (.slice q xl c2) wr)) (fun iv _ => xl - (intOf iv).toNat)
    case atStart => exact ⟨0, Nat.zero_le _, rfl, HL⟩
    case round =>
      clear HL
      obtain ⟨i, hi0, rfl, HL⟩ := hrel
      by_cases hil : i < xl
      · have hilz : (i : Int) < (xl : Int) := by omega
        obtain ⟨g, cc, x, hv, hcell, hfr, hnx⟩ := HL.out.place hil hr1 hp1 hw1
        cases hv
        have HN : Hid (∀ y, LoopI w rb pb hi xl X (.slice (some ⟨g, 0, none⟩) xl c2) (wr.setCell ⟨g, i, none⟩ (.int .u8 y))) := hnx
        clear HL hnx
        go_wp2
        go_roundw
        case rel => exact ⟨i + 1, by omega, by go_num, HN.out _⟩
        case measure => simp [intOf]; omega
      · obtain rfl : i = xl := by omega
        have hltz : ¬ (i : Int) < (i : Int) := by omega
        have HR : Hid (RingAt wr rb pb 64 X ∧ Below w.heap.size w wr ∧ hi ≤ wr.heap.size) := by
          obtain ⟨l, _, _, h3, h4, h5⟩ := HL.out
          exact ⟨h3, h4, h5⟩
        have cK := peek_any HR.out.1 n
        unfold PeekPost at cK
        clear HL
        go_wp2_with fail
        refine cK.mono ?_
        rintro e w5 ⟨v5, rfl, ho5, hb5⟩
        clear cK
        obtain ⟨q5, c5, rfl, _, _⟩ := ownV_at ho5
        obtain ⟨m5, hm5⟩ : ∃ m, (bytesV (X.take n.toNat)).length = m := ⟨_, rfl⟩
        rw [hm5] at ho5 ⊢
        have hm64 : m5 ≤ 64 := by have := HXm.out; rw [← hm5]; simp; omega
        have HL5 : Hid (LoopI w rb pb hi m5 X (.slice q5 m5 c5) w5) := by
          obtain ⟨h1, h2, h3⟩ := HR.out
          refine ⟨(X.take n.toNat).map fun c => (c.toNat : Int), by simpa using hm5, ?_, h1.on hb5, h2.trans (hb5.mono (Nat.le_trans hw1 h3)), Nat.le_trans h3 hb5.size⟩
          have e7 : u8V ((X.take n.toNat).map fun c => (c.toNat : Int)) = bytesV (X.take n.toNat) := by simp only [u8V, bytesV, List.map_map]; rfl
          rw [e7]
          exact ownV_less ho5 h3
        clear ho5 hb5 hm5 HR
        go_wp2
        go_loopw [9] (fun iv wr => ∃ j : Nat, j ≤ m5 ∧ iv = .int .i64 (j : Int) ∧ Hid (LoopI w rb pb hi m5 X (.slice q5 m5 c5) wr)) (fun iv _ => m5 - (intOf iv).toNat)
        case atStart => exact ⟨0, Nat.zero_le _, rfl, HL5⟩
        case round =>
          clear HL5
          obtain ⟨j, hj0, rfl, HL⟩ := hrel
          by_cases hjl : j < m5
          · have hjlz : (j : Int) < (m5 : Int) := by omega
            obtain ⟨g, cc, x, hv, hcell, hfr, hnx⟩ := HL.out.place hjl hr1 hp1 hw1
            cases hv
            have HN : Hid (∀ y, LoopI w rb pb hi m5 X (.slice (some ⟨g, 0, none⟩) m5 c5) (wr.setCell ⟨g, j, none⟩ (.int .u8 y))) := hnx
            clear HL hnx
            go_wp2
            go_roundw
            case rel => exact ⟨j + 1, by omega, by go_num, HN.out _⟩
            case measure => simp [intOf]; omega
          · obtain rfl : j = m5 := by omega
            have hltz2 : ¬ (j : Int) < (j : Int) := by omega
            obtain ⟨X2, HX2⟩ : ∃ X2, Hid (X2 = X.drop 64) := ⟨_, rfl⟩
            have HCall : Hid (∀ W, RingAt W rb pb 64 X → Calls Try.prog 9 #[.pointer (some ⟨rb, 0, none⟩), .int .i64 64] W fun e W' => ∃ v, e = .returned v ∧ OwnV 0 5 W' v (bytesV X) ∧ RingAt W' rb pb 64 X2 ∧ Two rb pb W W') := fun W h => (take_any h 64).mono fun e W' ⟨v, h1, h2, h3, h4⟩ => ⟨v, h1, by
              have e8 : X.take (64 : Int).toNat = X := List.take_of_length_le (by have := HXm.out; have := HXx.out; simp; omega)
              rw [e8] at h2
              exact ownV_less h2 (Nat.zero_le _), by rw [HX2.out]; exact h3, h4⟩
            have HKept : Hid (Kept rb pb fun _ => True) := kept_true
            have HLo : Hid (w.heap.size ≤ rb ∧ w.heap.size ≤ pb) := ⟨hrb, hpb⟩
            have HS0 : Hid (RS w rb pb 64 X X2 (fun _ => True) true wr.drew) := by
              obtain ⟨l, _, _, h3, h4, h5⟩ := HL.out
              exact ⟨fun _ => h3.on (on_drew (Below.refl _ _)), (fun e => by cases e), on_drew h4, Nat.le_trans hw1 h5, trivial⟩
            clear HL
            go_wp2
            refine wp_region_two (S := RS w rb pb 64 X X2 (fun _ => True)) (u := 1) (Keep := KeepU 1)
              (g := fun jj vv WW => (([.is (.pointer (some ⟨rb, 0, none⟩)), .own 5 (bytesV X), .is (.string ⟨X.toArray⟩), .is (.slice p b.length cap), .is (.string ⟨X.toArray⟩), .is (.bool true), .is (.bool true), .is (.bool true), .is (.bool true), .is (.bool true)] : List (Kd 0)).getD jj Kd.any).ok vv WW)
              (tab := [[(5, none)], [(55, some 0)], [(56, some 1)], [(0, none)], [(58, some 3)], [(57, some 2), (59, some 4)], [(60, some 5)], [(61, some 6)], [(61, some 6), (62, some 7)], [(63, some 8)]]) (tl := []) (n := 64)
              (by kernel_rfl) rfl (by kernel_rfl) (keep_u ?kR2) (HS0.out) ?stR2 ?enR2
            case kR2 =>
              intro j hj
              match j, hj with
              | 0, _ | 2, _ | 3, _ | 4, _ | 5, _ | 6, _ | 7, _ | 8, _ | 9, _ => exact .inr (pure_is _)
              | 1, hj => exact absurd rfl hj
              | j + 10, _ => exact .inr pure_any
            case stR2 =>
              refine ⟨fun ρ W f hf hr hS hs => ?_, fun ρ W f hf hr hS hs => ?_, fun ρ W f hf hr hS hs => ?_, fun ρ W f hf hr hS hs => ?_, fun ρ W f hf hr hS hs => ?_, fun ρ W f hf hr hS hs => ?_, fun ρ W f hf hr hS hs => ?_, fun ρ W f hf hr hS hs => ?_, fun ρ W f hf hr hS hs => ?_, fun ρ W f hf hr hS hs => ?_, trivial⟩
              · have h5 : ρ (.tmp 5) = .pointer (some ⟨rb, 0, none⟩) := hs.1
                exact step_plain rfl (leaves_move (.tmp 5) rfl ⟨h5, by simpa using hS, .inr (Below.refl _ _)⟩)
              · have h55 : ρ (.tmp 55) = .pointer (some ⟨rb, 0, none⟩) := hs.1
                obtain rfl : f = true := hf (by kernel_rfl)
                refine step_plain rfl (leaves_call2 en_take hr (.tmp 55) _ _ _ rfl h55 (hr.const _) ((HCall.out W (hS.one rfl)).mono ?_))
                rintro e W' ⟨v, rfl, ho, hr', ht⟩
                exact ⟨_, rfl, ho, by simpa using hS.did HKept.out ht hr' HLo.out, .inl rfl⟩
              · have h56 := hs.1
                exact step_plain rfl (leaves_textO (.tmp 56) rfl h56 ⟨rfl, by simpa using hS, .inr (Below.refl _ _)⟩)
              · have h0 : ρ (.tmp 0) = .slice p b.length cap := hs.1
                exact step_plain rfl (leaves_move (.tmp 0) rfl ⟨h0, by simpa using hS, .inr (Below.refl _ _)⟩)
              · have h58 : ρ (.tmp 58) = .slice p b.length cap := hs.1
                exact step_plain rfl (leaves_text (.tmp 58) rfl (h58.trans (by rw [HXl.out])) (HA.out.below hS.below (Nat.le_refl _)) ⟨rfl, by simpa using hS, .inr (Below.refl _ _)⟩)
              · have h57 : ρ (.tmp 57) = .string ⟨X.toArray⟩ := hs.1
                have h59 : ρ (.tmp 59) = .string ⟨X.toArray⟩ := hs.2.1
                exact step_plain rfl (leaves_eqlS (.tmp 57) (.tmp 59) rfl h57 h59 ⟨rfl, by simpa using hS, .inr (Below.refl _ _)⟩)
              · have h60 : ρ (.tmp 60) = .bool true := hs.1
                exact step_plain rfl (leaves_move (.tmp 60) rfl ⟨h60, by simpa using hS, .inr (Below.refl _ _)⟩)
              · have h61 : ρ (.tmp 61) = .bool true := hs.1
                refine step_want rfl rfl h61 (leaves_call0 en_lives hr rfl ((lives_any W).mono ?_))
                rintro e W' ⟨rfl, hb'⟩
                have hS2 := hS.on HKept.out hb'
                exact ⟨_, rfl, rfl, by simpa using hS2, .inr hb'⟩
              · have h61 : ρ (.tmp 61) = .bool true := hs.1
                have h62 : ρ (.tmp 62) = .bool true := hs.2.1
                exact step_plain rfl (leaves_pick (.tmp 61) (.tmp 62) _ rfl true h61 ⟨h62, by simpa using hS, .inr (Below.refl _ _)⟩)
              · have h63 : ρ (.tmp 63) = .bool true := hs.1
                exact step_plain rfl (leaves_assign (.tmp 63) rfl ⟨h63, by simpa using hS, .inr (Below.refl _ _)⟩)
            case enR2 =>
              intro f W hf hS v0 h0 v1 h1 v2 h2 v3 h3 v4 h4 v5 h5 v6 h6 v7 h7 v8 h8 v9 h9
              obtain rfl : f = false := hf (by decide)
              clear hf
              have e0 : v0 = .pointer (some ⟨rb, 0, none⟩) := h0 rfl
              subst v0
              have e2 : v2 = .string ⟨X.toArray⟩ := h2 rfl
              subst v2
              have e3 : v3 = .slice p b.length cap := h3 rfl
              subst v3
              have e4 : v4 = .string ⟨X.toArray⟩ := h4 rfl
              subst v4
              have e5 : v5 = .bool true := h5 rfl
              subst v5
              have e6 : v6 = .bool true := h6 rfl
              subst v6
              have e7 : v7 = .bool true := h7 rfl
              subst v7
              have e8 : v8 = .bool true := h8 rfl
              subst v8
              have e9 : v9 = .bool true := h9 rfl
              subst v9
              clear h0 h2 h3 h4 h5 h6 h7 h8 h9
              simp only [ends, Act.put, List.setIfInBounds_toArray, List.set_cons_succ, List.set_cons_zero]
              have HB : Hid (Below w.heap.size w W) := hS.below
              clear hS h1
              go_wp2
              go_ret
              exact ⟨rfl, HB.out⟩

end Go.Proofs.Ytfdpiinkjgepkaa.B
