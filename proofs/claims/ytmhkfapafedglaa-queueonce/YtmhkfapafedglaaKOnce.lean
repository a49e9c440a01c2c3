/- The law QueueOnce answers true at every input. -/
import Derived.Test.YtmhkfapafedglaaKOnceM
namespace Go.Proofs.Ytmhkfapafedglaa.K
open Go Go.RowKit

set_option maxRecDepth 100000 in
set_option maxHeartbeats 4000000 in
theorem once_walk (m : Int) (p : Option Addr) (cap : Nat) (l : List ActV) (w : World) (hm : (Lit.int .u8 m).wf = true) (_hcap : l.length ≤ cap) (_hl : l.length ≤ 9223372036854775807) (hat : ActsAt w p l) :
    Calls Try.prog 5 #[.int .u8 m, .slice p l.length cap] w fun e w' => e = .returned (.bool true) ∧ Below w.heap.size w w' := by
  have hm2 : 0 ≤ m ∧ m ≤ 255 := by
    simp [Lit.wf, IntKind.min, IntKind.max, IntKind.signed, IntKind.bits] at hm
    omega
  obtain ⟨r, hr0⟩ : ∃ r : Nat, m % 200 = (r : Int) := ⟨(m % 200).toNat, by omega⟩
  have hm0 : 0 ≤ m := hm2.1
  have hrt : Int.tmod m 200 = (r : Int) := by rw [Int.tmod_eq_emod_of_nonneg hm0]; exact hr0
  have hr3 : r < 200 := by omega
  obtain ⟨N, hN⟩ : ∃ N : Nat, 1 + (r : Int) = (N : Int) := ⟨1 + r, by omega⟩
  have hN3 : N ≤ 200 := by omega
  have cN := new_in N w (by omega) (by omega)
  have HA : Hid (ActsAt w p l) := hat
  obtain ⟨Post, hPost⟩ : ∃ Post : Ending → World → Prop, (fun e w' => e = .returned (.bool true) ∧ Below w.heap.size w w') = Post := ⟨_, rfl⟩
  have HP : Hid (∀ W, Below w.heap.size w W → Post (.returned (.bool true)) W) := fun W hb => by subst hPost; exact ⟨rfl, hb⟩
  rw [hPost]
  clear hPost hat hm hm2
  go_enter Try.func5, Try.ntmps5
  go_wp2_with fail
  refine cN.mono ?_
  intro e w1 hn
  obtain ⟨qb, F, G, rfl, hqs⟩ := QS.new hn
  clear cN hn
  have hbb : Below w1.heap.size w1 ((w1.alloc (.cells #[] 64)).alloc (.cells #[] 64)) := on_trans (on_alloc _ _) (on_alloc _ _)
  have hws : w.heap.size ≤ w1.heap.size := hqs.below.size
  have HI0 : Hid (CI w F G ((w1.alloc (.cells #[] 64)).alloc (.cells #[] 64)) qb N [] (.slice (some ⟨w1.heap.size, 0, none⟩) 0 0) (.slice (some ⟨w1.heap.size + 1, 0, none⟩) 0 0) [] []) := by
    have h2 := rowS_empty (w1.alloc (.cells #[] 64)) w.heap.size 64 5 (by simp; omega)
    rw [World.size_alloc] at h2
    have hlF := hqs.q.lt
    have hlG := hqs.q.ltG
    refine ⟨[], [], rfl, rfl, ⟨hqs.on hbb, rowS_on (rowS_empty w1 w.heap.size 64 5 hws) (on_alloc _ _), h2, (fun g e => by simp [Value.ownBlock] at e ⊢; omega), fun g e => ?_⟩, (fun x hx => by simp at hx), fun x hx => by simp at hx⟩
    have hg : w1.heap.size ≤ g := by
      rcases e with e | e
      · simp [Value.ownBlock] at e; omega
      · simp [Value.ownBlock] at e; omega
    exact ⟨fun h7 => by have := hlF g h7; omega, fun h7 => by have := hlG g h7; omega⟩
  clear hqs hbb
  go_wp2
  generalize ((w1.alloc (.cells #[] 64)).alloc (.cells #[] 64)) = w1a at *
  go_loopw [7, 8, 9] (fun iv ov kv wr => ∃ (k : Nat) (F G : Nat → Prop) (ps : List Pt) (I Oo : List Ps), k ≤ 60 ∧ k ≤ l.length ∧ kv = .int .i64 (k : Int) ∧ I.length ≤ 6 * k ∧ Hid (CI w F G wr qb N ps iv ov I Oo ∧ I = Oo ++ allF ps ∧ ∀ y ∈ I, y.ints.length ≤ 100)) (fun _ _ kv _ => 60 - (intOf kv).toNat)
  case atStart => exact ⟨0, F, G, [], [], [], Nat.zero_le _, Nat.zero_le _, rfl, Nat.zero_le _, HI0.out, rfl, fun y hy => by simp at hy⟩
  case round =>
    clear HI0 F G
    obtain ⟨k, F, G, ps, I, Oo, hk, hkl, rfl, hIl, HI⟩ := hrel
    have hwr := HI.out.1.qs.below
    by_cases hgo : k < l.length ∧ k < 60
    · obtain ⟨hlt, hlt2⟩ := hgo
      have hltz : (k : Int) < (l.length : Int) := by omega
      have hlt2z : (k : Int) < 60 := by omega
      obtain ⟨b, off, hp, _, hb, hc⟩ := HA.out.row.place (k := k * 4) (by rw [actsV_len]; omega)
      cases hp
      have hcw : ∀ i, i < 4 → ∀ v, (l[k].cells)[i]? = some v → wr.cell? ⟨b, off + (k * 4 + i), none⟩ = some v := fun i hi v hv => (hwr.cell (p := ⟨b, off + (k * 4 + i), none⟩) hb).trans (hc _ _ ((actsV_get hlt hi).trans hv))
      have x0 := hcw 0 (by omega) _ rfl
      have x1 := hcw 1 (by omega) _ rfl
      have x2 := hcw 2 (by omega) _ rfl
      have x3 := hcw 3 (by omega) _ rfl
      have ok := HA.out.ok l[k] (by simp)
      clear hc hcw
      generalize l[k] = x at *
      obtain ⟨xk, xp, xc, xB, xn, xm⟩ := x
      simp only [← Nat.add_assoc, Nat.add_zero] at x0 x1 x2 x3
      have hcap2 := ok.cap
      simp only at hcap2
      have hxn := wf_le ok.nw
      simp only at hxn
      have HX : Hid (At w xp (bytesV (xB.take 200))) := by
        show At _ _ _
        have := ok.at_.take 200
        simpa [bytesV] using this
      have hplx : 200 < xB.length → ∃ bb oo, xp = some ⟨bb, oo, none⟩ := fun h7 => by
        obtain ⟨bb, oo, e, _⟩ := ok.at_.place (k := 0) (by simp; omega)
        exact ⟨bb, oo, e⟩
      obtain ⟨X, hX⟩ : ∃ X, xB.take 200 = X := ⟨_, rfl⟩
      have hXl : X.length = min 200 xB.length := by rw [← hX]; simp
      rw [hX] at HX
      clear ok hX
      have HOl : Hid (Oo.length ≤ 360 ∧ I.length ≤ 360) := ⟨by have := HI.out.2.1; rw [this] at hIl; simp at hIl; omega, by omega⟩
      by_cases hbig : 200 < xB.length
      · have hbz : (200 : Int) < (xB.length : Int) := by omega
        have hcz : (200 : Int) ≤ (xc : Int) := by omega
        obtain ⟨bp, op, rfl⟩ := hplx hbig
        clear hplx
        by_cases hk0 : xk = 0
        · subst hk0
          have HXl : Hid (X.length = 200) := show X.length = 200 by omega
          have hblz : 200 ≤ 200 := by omega
          have hal := on_alloc wr (.cells #[.int .i64 0, .slice (some ⟨bp, op, none⟩) 200 xc, .int .i64 xn, .int .i64 xm] 31)
          have hbx := Blk.new wr 31 [.int .i64 0, .slice (some ⟨bp, op, none⟩) 200 xc, .int .i64 xn, .int .i64 xm]
          have hIo := HI.out.1.on hal
          have HEq : Hid (I = Oo ++ allF ps) := HI.out.2.1
          have HIs : Hid (∀ y ∈ I, y.ints.length ≤ 100) := HI.out.2.2
          have HIo : Hid _ := hIo
          have HFl : Hid (∀ k, F k → k < wr.heap.size) := HI.out.1.qs.q.lt
          have HBx : Hid _ := hbx
          have HWs : Hid (wr.heap.size < (wr.alloc (.cells #[.int .i64 0, .slice (some ⟨bp, op, none⟩) 200 xc, .int .i64 xn, .int .i64 xm] 31)).heap.size) := by show _ < _; simp
          have cPs := fun W => passed_any xn (10 * (k : Int)) W (by omega) (by omega)
          have hmul : IntKind.i64.wrap (10 * (k : Int)) = 10 * (k : Int) := by rw [IntKind.wrap_i64] <;> omega
          clear hIo hbx hal HI hXl hwr
          go_wp2_with fail
          refine (cPs _).mono ?_
          rintro e w2 ⟨pv, rfl, hpas, hb2⟩
          have hI2 := HIo.out.on hb2
          have hB2 := HBx.out.on hb2
          clear cPs HIo HBx x0 x1 x2 x3
          have hfew := passed_few xn (10 * (k : Int))
          obtain ⟨M, eM, hM⟩ := hpas
          rw [← eM] at hfew
          rw [List.length_map] at hfew
          obtain ⟨pp, pc, ev, _, _⟩ := hM.row
          subst ev
          -- bytes in a row of their own
          obtain ⟨v4, w4, hr4, hb4, ho4⟩ := append_copy elemByte w2.heap.size w2.heap.size (some ⟨bp, op, none⟩) xc (bytesV X) (w2.alloc (.cells #[] 5)) (by have := HXl.out; simp; omega) (one_bytes _) (ownV_empty w2 w2.heap.size _ (Nat.le_refl _)) (by simp) ((HX.out.below hI2.qs.below (Nat.le_refl _)).alloc _)
          rw [List.length_map, HXl.out] at hr4
          have hb24 : Below w2.heap.size w2 w4 := on_trans (on_alloc _ _) hb4
          have hM4 := hM.keep (keep_on hb24)
          -- what is passed in a row of its own
          obtain ⟨v6, w6, hr6, hM6, hb6⟩ := pas_copy hM4 (by omega) (fun _ h => h) (Nat.le_trans hb2.size hb24.size)
          have hrA := hr4
          have hrB := hr6 26
          have hb26 := on_trans hb24 hb6
          have hI6 := hI2.on hb26
          have HPM : Hid _ := hM.keep (keep_on hb26)
          have hws := HWs.out
          have hw2s := hb2.size
          have hby : BytO (fun k => ¬ F k) w6 v4 X := ((BytO.of_own ho4).keep (keep_on hb6)).mono fun j _ h7 h8 => by have := HFl.out j h8; omega
          have hpa : PasO (fun k => ¬ F k) w6 v6 (M.map Prod.fst) := ⟨M, rfl, hM6.mono fun j _ h7 h8 => by have := HFl.out j h8; omega⟩
          have cP := put_any hI6.qs.q v4 v6 X (M.map Prod.fst) hby hpa (by have := HXl.out; omega) hfew.2
          unfold PutPost at cP
          have hpal := put_all N ps X (M.map Prod.fst)
          obtain ⟨ps', hps'⟩ : ∃ ps', (putF N ps X (M.map Prod.fst)).1 = ps' := ⟨_, rfl⟩
          obtain ⟨pk, hpk⟩ : ∃ pk, (putF N ps X (M.map Prod.fst)).2.1 = pk := ⟨_, rfl⟩
          obtain ⟨pe, hpe⟩ : ∃ pe, (putF N ps X (M.map Prod.fst)).2.2 = pe := ⟨_, rfl⟩
          rw [hps', hpk, hpe] at cP
          rw [hps', hpe] at hpal
          clear hps' hpk hpe
          obtain ⟨q4, c4, e4, _, _⟩ := hby
          subst e4
          obtain ⟨M6, em6, hM6b⟩ := hpa
          obtain ⟨q6, c6, e6, _, _⟩ := hM6.row
          subst e6
          have y1 : (w2.alloc (.cells #[] 5)).cell? ⟨wr.heap.size, 1, none⟩ = some (.slice (some ⟨bp, op, none⟩) 200 xc) := (hB2.on (on_alloc _ _)).cell 1 rfl
          have HI6 : Hid _ := hI6
          have HML : Hid (M.length ≤ 6) := hfew.1
          have HMi : Hid (∀ y ∈ M.map Prod.fst, y.ints.length ≤ 100) := hfew.2
          have HPal : Hid _ := hpal
          have HWs6 : Hid (wr.heap.size ≤ w6.heap.size) := Nat.le_trans (Nat.le_of_lt hws) (Nat.le_trans hw2s hb26.size)
          clear hI2 hB2 hM hb4 ho4 hb24 hM4 hr6 hM6 hb6 hb26 hI6 hb2 hM6b em6 hfew hpal hws hw2s eM
          generalize hml : M.length = ml at *
          have HMl : Hid (M.length = ml) := hml
          clear hml
          generalize hxl : X.length = xl at *
          have hxl2 : xl = 200 := HXl.out
          subst hxl2
          go_wp2_with (first | (at_builtin; refine wpList_run_append (by rfl) _ _ _ (by rfl) _ _ (by rfl) (by rfl) hrA ?_) | (at_builtin; refine wpList_run_append (by rfl) _ _ _ (by rfl) _ _ (by rfl) (by rfl) hrB ?_))
          refine cP.mono ?_
          rintro e w7 ⟨F', G', rfl, q1, g1⟩
          have hI7 := HI6.out.goes q1 g1
          clear cP hrA hrB y1 HI6
          by_cases hpe : pe = 0
          · subst hpe
            have hpm7 := HPM.out.keep (g1.keep.mono fun j _ h7 h8 => by have := HFl.out j h8; have := HWs.out; omega)
            rw [← HMl.out] at hpm7
            obtain ⟨v8, w8, hr8, hI8, _, _⟩ := hI7.swap.more hpm7 (by have := HML.out; have := HMl.out; omega) (by have := HOl.out.2; omega)
            have hrC := hr8 26
            have HI9 : Hid (CI w F' G' w8 qb N ps' v8 u8 (I ++ M.map Prod.fst) Oo ∧ I ++ M.map Prod.fst = Oo ++ allF ps' ∧ ∀ y ∈ I ++ M.map Prod.fst, y.ints.length ≤ 100) := ⟨hI8.swap, by rw [HPal.out, HEq.out]; simp, fun y hy => by
              rcases List.mem_append.1 hy with hy | hy
              · exact HIs.out y hy
              · exact HMi.out y hy⟩
            have hIl2 : (I ++ M.map Prod.fst).length ≤ 6 * (k + 1) := by have := HML.out; have := HMl.out; simp; omega
            rw [HMl.out] at hrC
            clear hI7 hI8 hr8 hpm7 q1 g1 HPM HEq HIs HPal HMi HFl
            go_wp2_with (at_builtin; refine wpList_run_append (by rfl) _ _ _ (by rfl) _ _ (by rfl) (by rfl) hrC ?_)
            go_roundw
            case rel => exact ⟨k + 1, _, _, _, _, _, by omega, by omega, by go_num, hIl2, HI9⟩
            case measure => simp [intOf]; omega
          · have HI9 : Hid (CI w F' G' w7 qb N ps' u7 u8 I Oo ∧ I = Oo ++ allF ps' ∧ ∀ y ∈ I, y.ints.length ≤ 100) := ⟨hI7, by rw [HPal.out, HEq.out, if_neg hpe, List.append_nil], HIs.out⟩
            clear hI7 q1 g1 HPM HEq HIs HPal HMi HFl
            go_wp2
            go_roundw
            case rel => exact ⟨k + 1, _, _, _, _, _, by omega, by omega, by go_num, by omega, HI9⟩
            case measure => simp [intOf]; omega
        · by_cases hk2 : xk = 2
          · subst hk2
            have HXl : Hid (X.length = 200) := show X.length = 200 by omega
            have hblz : 200 ≤ 200 := by omega
            have hal := on_alloc wr (.cells #[.int .i64 2, .slice (some ⟨bp, op, none⟩) 200 xc, .int .i64 xn, .int .i64 xm] 31)
            have hbx := Blk.new wr 31 [.int .i64 2, .slice (some ⟨bp, op, none⟩) 200 xc, .int .i64 xn, .int .i64 xm]
            have hIo := HI.out.1.on hal
            have HEq : Hid (I = Oo ++ allF ps) := HI.out.2.1
            have HIs : Hid (∀ y ∈ I, y.ints.length ≤ 100) := HI.out.2.2
            have HIo : Hid _ := hIo
            have HFl : Hid (∀ k, F k → k < wr.heap.size) := HI.out.1.qs.q.lt
            have cC := clear_any hIo.qs.q
            unfold ClearPost at cC
            have HAl : Hid ((allF ps).length ≤ 360) := by
              have h8 := HOl.out.2
              rw [HEq.out] at h8
              simp at h8
              show (allF ps).length ≤ 360
              omega
            clear hIo hbx hal HI hXl hwr
            go_wp2_with fail
            refine cC.mono ?_
            rintro e w3 ⟨F', v1, rfl, q1, g1, hp2⟩
            have hI3 := HIo.out.goes q1 g1
            clear cC HIo
            obtain ⟨M2, e2, hM2⟩ := hp2
            have hTl : M2.length ≤ 360 := by have h7 := congrArg List.length e2; rw [List.length_map] at h7; rw [h7]; exact HAl.out
            obtain ⟨p2, c2, ev2, _, _⟩ := hM2.row
            subst ev2
            obtain ⟨v4, w4, hr4, hI4, _, _⟩ := hI3.more hM2 (by omega) (by have := HOl.out.1; omega)
            have hrA := hr4 26
            have HI6 : Hid (CI w F' G w4 qb N [] u7 v4 I (Oo ++ M2.map Prod.fst) ∧ I = Oo ++ M2.map Prod.fst ++ allF [] ∧ ∀ y ∈ I, y.ints.length ≤ 100) := ⟨hI4, by rw [HEq.out, e2]; simp [allF], HIs.out⟩
            clear hI3 hI4 hr4 hM2 q1 g1 e2 HEq HIs x0 x1 x2 x3 HFl
            generalize M2.length = m2 at *
            go_wp2_with (at_builtin; refine wpList_run_append (by rfl) _ _ _ (by rfl) _ _ (by rfl) (by rfl) hrA ?_)
            go_roundw
            case rel => exact ⟨k + 1, _, _, _, _, _, by omega, by omega, by go_num, by omega, HI6⟩
            case measure => simp [intOf]; omega
          · have HXl : Hid (X.length = 200) := show X.length = 200 by omega
            have hblz : 200 ≤ 200 := by omega
            have hal := on_alloc wr (.cells #[.int .i64 xk, .slice (some ⟨bp, op, none⟩) 200 xc, .int .i64 xn, .int .i64 xm] 31)
            have hbx := Blk.new wr 31 [.int .i64 xk, .slice (some ⟨bp, op, none⟩) 200 xc, .int .i64 xn, .int .i64 xm]
            have hIo := HI.out.1.on hal
            have HEq : Hid (I = Oo ++ allF ps) := HI.out.2.1
            have HIs : Hid (∀ y ∈ I, y.ints.length ≤ 100) := HI.out.2.2
            have HIo : Hid _ := hIo
            have HFl : Hid (∀ k, F k → k < wr.heap.size) := HI.out.1.qs.q.lt
            have cT := take_any hIo.qs.q xn xm hxn
            unfold TakePost at cT
            clear hIo hbx hal HI hXl hwr
            go_wp2_with fail
            refine cT.mono ?_
            rintro e w3 ⟨F', v1, v2, v3, rfl, q1, g1, _, hp2, hp3⟩
            have hI3 := HIo.out.goes q1 g1
            clear cT HIo
            have hta := take_all ps xn xm
            obtain ⟨M2, e2, hM2⟩ := hp2
            obtain ⟨M3, e3, hM3⟩ := hp3
            rw [← e2, ← e3] at hta
            have hTl : M2.length ≤ 360 ∧ M3.length ≤ 360 := by
              have h7 := congrArg List.length hta
              have h8 := HOl.out.2
              rw [HEq.out] at h8
              simp at h7 h8
              omega
            obtain ⟨p2, c2, ev2, _, _⟩ := hM2.row
            obtain ⟨p3, c3, ev3, _, _⟩ := hM3.row
            subst ev2
            subst ev3
            obtain ⟨v4, w4, hr4, hI4, hk4, hl4⟩ := hI3.more hM2 (by omega) (by have := HOl.out.1; omega)
            have hM3' := hM3.keep (hk4.mono fun j _ h7 e => (hI3.free j (.inr e)).2 h7)
            obtain ⟨v5, w5, hr5, hI5, _, _⟩ := hI4.more hM3' (by omega) (by have := HOl.out.1; simp; omega)
            have hrA := hr4 26
            have hrB := hr5 26
            have HI6 : Hid (CI w F' G w5 qb N (takeF ps xn xm).1 u7 v5 I (Oo ++ M2.map Prod.fst ++ M3.map Prod.fst) ∧ I = Oo ++ M2.map Prod.fst ++ M3.map Prod.fst ++ allF (takeF ps xn xm).1 ∧ ∀ y ∈ I, y.ints.length ≤ 100) := ⟨hI5, by rw [HEq.out, ← hta]; simp [List.append_assoc], HIs.out⟩
            clear hI3 hI4 hI5 hr4 hr5 hk4 hl4 hM2 hM3 hM3' q1 g1 hta e2 e3 HEq HIs x0 x1 x2 x3 HFl
            generalize M2.length = m2 at *
            generalize M3.length = m3 at *
            go_wp2_with (first | (at_builtin; refine wpList_run_append (by rfl) _ _ _ (by rfl) _ _ (by rfl) (by rfl) hrA ?_) | (at_builtin; refine wpList_run_append (by rfl) _ _ _ (by rfl) _ _ (by rfl) (by rfl) hrB ?_))
            go_roundw
            case rel => exact ⟨k + 1, _, _, _, _, _, by omega, by omega, by go_num, by omega, HI6⟩
            case measure => simp [intOf]; omega
      · have hbz : ¬ (200 : Int) < (xB.length : Int) := by omega
        clear hplx
        by_cases hk0 : xk = 0
        · subst hk0
          have HXl : Hid (X.length = xB.length) := show X.length = xB.length by omega
          have hblz : xB.length ≤ 200 := by omega
          have hal := on_alloc wr (.cells #[.int .i64 0, .slice xp xB.length xc, .int .i64 xn, .int .i64 xm] 31)
          have hbx := Blk.new wr 31 [.int .i64 0, .slice xp xB.length xc, .int .i64 xn, .int .i64 xm]
          have hIo := HI.out.1.on hal
          have HEq : Hid (I = Oo ++ allF ps) := HI.out.2.1
          have HIs : Hid (∀ y ∈ I, y.ints.length ≤ 100) := HI.out.2.2
          have HIo : Hid _ := hIo
          have HFl : Hid (∀ k, F k → k < wr.heap.size) := HI.out.1.qs.q.lt
          have HBx : Hid _ := hbx
          have HWs : Hid (wr.heap.size < (wr.alloc (.cells #[.int .i64 0, .slice xp xB.length xc, .int .i64 xn, .int .i64 xm] 31)).heap.size) := by show _ < _; simp
          have cPs := fun W => passed_any xn (10 * (k : Int)) W (by omega) (by omega)
          have hmul : IntKind.i64.wrap (10 * (k : Int)) = 10 * (k : Int) := by rw [IntKind.wrap_i64] <;> omega
          clear hIo hbx hal HI hXl hwr
          go_wp2_with fail
          refine (cPs _).mono ?_
          rintro e w2 ⟨pv, rfl, hpas, hb2⟩
          have hI2 := HIo.out.on hb2
          have hB2 := HBx.out.on hb2
          clear cPs HIo HBx x0 x1 x2 x3
          have hfew := passed_few xn (10 * (k : Int))
          obtain ⟨M, eM, hM⟩ := hpas
          rw [← eM] at hfew
          rw [List.length_map] at hfew
          obtain ⟨pp, pc, ev, _, _⟩ := hM.row
          subst ev
          -- bytes in a row of their own
          obtain ⟨v4, w4, hr4, hb4, ho4⟩ := append_copy elemByte w2.heap.size w2.heap.size xp xc (bytesV X) (w2.alloc (.cells #[] 5)) (by have := HXl.out; simp; omega) (one_bytes _) (ownV_empty w2 w2.heap.size _ (Nat.le_refl _)) (by simp) ((HX.out.below hI2.qs.below (Nat.le_refl _)).alloc _)
          rw [List.length_map, HXl.out] at hr4
          have hb24 : Below w2.heap.size w2 w4 := on_trans (on_alloc _ _) hb4
          have hM4 := hM.keep (keep_on hb24)
          -- what is passed in a row of its own
          obtain ⟨v6, w6, hr6, hM6, hb6⟩ := pas_copy hM4 (by omega) (fun _ h => h) (Nat.le_trans hb2.size hb24.size)
          have hrA := hr4
          have hrB := hr6 26
          have hb26 := on_trans hb24 hb6
          have hI6 := hI2.on hb26
          have HPM : Hid _ := hM.keep (keep_on hb26)
          have hws := HWs.out
          have hw2s := hb2.size
          have hby : BytO (fun k => ¬ F k) w6 v4 X := ((BytO.of_own ho4).keep (keep_on hb6)).mono fun j _ h7 h8 => by have := HFl.out j h8; omega
          have hpa : PasO (fun k => ¬ F k) w6 v6 (M.map Prod.fst) := ⟨M, rfl, hM6.mono fun j _ h7 h8 => by have := HFl.out j h8; omega⟩
          have cP := put_any hI6.qs.q v4 v6 X (M.map Prod.fst) hby hpa (by have := HXl.out; omega) hfew.2
          unfold PutPost at cP
          have hpal := put_all N ps X (M.map Prod.fst)
          obtain ⟨ps', hps'⟩ : ∃ ps', (putF N ps X (M.map Prod.fst)).1 = ps' := ⟨_, rfl⟩
          obtain ⟨pk, hpk⟩ : ∃ pk, (putF N ps X (M.map Prod.fst)).2.1 = pk := ⟨_, rfl⟩
          obtain ⟨pe, hpe⟩ : ∃ pe, (putF N ps X (M.map Prod.fst)).2.2 = pe := ⟨_, rfl⟩
          rw [hps', hpk, hpe] at cP
          rw [hps', hpe] at hpal
          clear hps' hpk hpe
          obtain ⟨q4, c4, e4, _, _⟩ := hby
          subst e4
          obtain ⟨M6, em6, hM6b⟩ := hpa
          obtain ⟨q6, c6, e6, _, _⟩ := hM6.row
          subst e6
          have y1 : (w2.alloc (.cells #[] 5)).cell? ⟨wr.heap.size, 1, none⟩ = some (.slice xp xB.length xc) := (hB2.on (on_alloc _ _)).cell 1 rfl
          have HI6 : Hid _ := hI6
          have HML : Hid (M.length ≤ 6) := hfew.1
          have HMi : Hid (∀ y ∈ M.map Prod.fst, y.ints.length ≤ 100) := hfew.2
          have HPal : Hid _ := hpal
          have HWs6 : Hid (wr.heap.size ≤ w6.heap.size) := Nat.le_trans (Nat.le_of_lt hws) (Nat.le_trans hw2s hb26.size)
          clear hI2 hB2 hM hb4 ho4 hb24 hM4 hr6 hM6 hb6 hb26 hI6 hb2 hM6b em6 hfew hpal hws hw2s eM
          generalize hml : M.length = ml at *
          have HMl : Hid (M.length = ml) := hml
          clear hml
          generalize hxl : X.length = xl at *
          have hxl2 : xl = xB.length := HXl.out
          subst hxl2
          go_wp2_with (first | (at_builtin; refine wpList_run_append (by rfl) _ _ _ (by rfl) _ _ (by rfl) (by rfl) hrA ?_) | (at_builtin; refine wpList_run_append (by rfl) _ _ _ (by rfl) _ _ (by rfl) (by rfl) hrB ?_))
          refine cP.mono ?_
          rintro e w7 ⟨F', G', rfl, q1, g1⟩
          have hI7 := HI6.out.goes q1 g1
          clear cP hrA hrB y1 HI6
          by_cases hpe : pe = 0
          · subst hpe
            have hpm7 := HPM.out.keep (g1.keep.mono fun j _ h7 h8 => by have := HFl.out j h8; have := HWs.out; omega)
            rw [← HMl.out] at hpm7
            obtain ⟨v8, w8, hr8, hI8, _, _⟩ := hI7.swap.more hpm7 (by have := HML.out; have := HMl.out; omega) (by have := HOl.out.2; omega)
            have hrC := hr8 26
            have HI9 : Hid (CI w F' G' w8 qb N ps' v8 u8 (I ++ M.map Prod.fst) Oo ∧ I ++ M.map Prod.fst = Oo ++ allF ps' ∧ ∀ y ∈ I ++ M.map Prod.fst, y.ints.length ≤ 100) := ⟨hI8.swap, by rw [HPal.out, HEq.out]; simp, fun y hy => by
              rcases List.mem_append.1 hy with hy | hy
              · exact HIs.out y hy
              · exact HMi.out y hy⟩
            have hIl2 : (I ++ M.map Prod.fst).length ≤ 6 * (k + 1) := by have := HML.out; have := HMl.out; simp; omega
            rw [HMl.out] at hrC
            clear hI7 hI8 hr8 hpm7 q1 g1 HPM HEq HIs HPal HMi HFl
            go_wp2_with (at_builtin; refine wpList_run_append (by rfl) _ _ _ (by rfl) _ _ (by rfl) (by rfl) hrC ?_)
            go_roundw
            case rel => exact ⟨k + 1, _, _, _, _, _, by omega, by omega, by go_num, hIl2, HI9⟩
            case measure => simp [intOf]; omega
          · have HI9 : Hid (CI w F' G' w7 qb N ps' u7 u8 I Oo ∧ I = Oo ++ allF ps' ∧ ∀ y ∈ I, y.ints.length ≤ 100) := ⟨hI7, by rw [HPal.out, HEq.out, if_neg hpe, List.append_nil], HIs.out⟩
            clear hI7 q1 g1 HPM HEq HIs HPal HMi HFl
            go_wp2
            go_roundw
            case rel => exact ⟨k + 1, _, _, _, _, _, by omega, by omega, by go_num, by omega, HI9⟩
            case measure => simp [intOf]; omega
        · by_cases hk2 : xk = 2
          · subst hk2
            have HXl : Hid (X.length = xB.length) := show X.length = xB.length by omega
            have hblz : xB.length ≤ 200 := by omega
            have hal := on_alloc wr (.cells #[.int .i64 2, .slice xp xB.length xc, .int .i64 xn, .int .i64 xm] 31)
            have hbx := Blk.new wr 31 [.int .i64 2, .slice xp xB.length xc, .int .i64 xn, .int .i64 xm]
            have hIo := HI.out.1.on hal
            have HEq : Hid (I = Oo ++ allF ps) := HI.out.2.1
            have HIs : Hid (∀ y ∈ I, y.ints.length ≤ 100) := HI.out.2.2
            have HIo : Hid _ := hIo
            have HFl : Hid (∀ k, F k → k < wr.heap.size) := HI.out.1.qs.q.lt
            have cC := clear_any hIo.qs.q
            unfold ClearPost at cC
            have HAl : Hid ((allF ps).length ≤ 360) := by
              have h8 := HOl.out.2
              rw [HEq.out] at h8
              simp at h8
              show (allF ps).length ≤ 360
              omega
            clear hIo hbx hal HI hXl hwr
            go_wp2_with fail
            refine cC.mono ?_
            rintro e w3 ⟨F', v1, rfl, q1, g1, hp2⟩
            have hI3 := HIo.out.goes q1 g1
            clear cC HIo
            obtain ⟨M2, e2, hM2⟩ := hp2
            have hTl : M2.length ≤ 360 := by have h7 := congrArg List.length e2; rw [List.length_map] at h7; rw [h7]; exact HAl.out
            obtain ⟨p2, c2, ev2, _, _⟩ := hM2.row
            subst ev2
            obtain ⟨v4, w4, hr4, hI4, _, _⟩ := hI3.more hM2 (by omega) (by have := HOl.out.1; omega)
            have hrA := hr4 26
            have HI6 : Hid (CI w F' G w4 qb N [] u7 v4 I (Oo ++ M2.map Prod.fst) ∧ I = Oo ++ M2.map Prod.fst ++ allF [] ∧ ∀ y ∈ I, y.ints.length ≤ 100) := ⟨hI4, by rw [HEq.out, e2]; simp [allF], HIs.out⟩
            clear hI3 hI4 hr4 hM2 q1 g1 e2 HEq HIs x0 x1 x2 x3 HFl
            generalize M2.length = m2 at *
            go_wp2_with (at_builtin; refine wpList_run_append (by rfl) _ _ _ (by rfl) _ _ (by rfl) (by rfl) hrA ?_)
            go_roundw
            case rel => exact ⟨k + 1, _, _, _, _, _, by omega, by omega, by go_num, by omega, HI6⟩
            case measure => simp [intOf]; omega
          · have HXl : Hid (X.length = xB.length) := show X.length = xB.length by omega
            have hblz : xB.length ≤ 200 := by omega
            have hal := on_alloc wr (.cells #[.int .i64 xk, .slice xp xB.length xc, .int .i64 xn, .int .i64 xm] 31)
            have hbx := Blk.new wr 31 [.int .i64 xk, .slice xp xB.length xc, .int .i64 xn, .int .i64 xm]
            have hIo := HI.out.1.on hal
            have HEq : Hid (I = Oo ++ allF ps) := HI.out.2.1
            have HIs : Hid (∀ y ∈ I, y.ints.length ≤ 100) := HI.out.2.2
            have HIo : Hid _ := hIo
            have HFl : Hid (∀ k, F k → k < wr.heap.size) := HI.out.1.qs.q.lt
            have cT := take_any hIo.qs.q xn xm hxn
            unfold TakePost at cT
            clear hIo hbx hal HI hXl hwr
            go_wp2_with fail
            refine cT.mono ?_
            rintro e w3 ⟨F', v1, v2, v3, rfl, q1, g1, _, hp2, hp3⟩
            have hI3 := HIo.out.goes q1 g1
            clear cT HIo
            have hta := take_all ps xn xm
            obtain ⟨M2, e2, hM2⟩ := hp2
            obtain ⟨M3, e3, hM3⟩ := hp3
            rw [← e2, ← e3] at hta
            have hTl : M2.length ≤ 360 ∧ M3.length ≤ 360 := by
              have h7 := congrArg List.length hta
              have h8 := HOl.out.2
              rw [HEq.out] at h8
              simp at h7 h8
              omega
            obtain ⟨p2, c2, ev2, _, _⟩ := hM2.row
            obtain ⟨p3, c3, ev3, _, _⟩ := hM3.row
            subst ev2
            subst ev3
            obtain ⟨v4, w4, hr4, hI4, hk4, hl4⟩ := hI3.more hM2 (by omega) (by have := HOl.out.1; omega)
            have hM3' := hM3.keep (hk4.mono fun j _ h7 e => (hI3.free j (.inr e)).2 h7)
            obtain ⟨v5, w5, hr5, hI5, _, _⟩ := hI4.more hM3' (by omega) (by have := HOl.out.1; simp; omega)
            have hrA := hr4 26
            have hrB := hr5 26
            have HI6 : Hid (CI w F' G w5 qb N (takeF ps xn xm).1 u7 v5 I (Oo ++ M2.map Prod.fst ++ M3.map Prod.fst) ∧ I = Oo ++ M2.map Prod.fst ++ M3.map Prod.fst ++ allF (takeF ps xn xm).1 ∧ ∀ y ∈ I, y.ints.length ≤ 100) := ⟨hI5, by rw [HEq.out, ← hta]; simp [List.append_assoc], HIs.out⟩
            clear hI3 hI4 hI5 hr4 hr5 hk4 hl4 hM2 hM3 hM3' q1 g1 hta e2 e3 HEq HIs x0 x1 x2 x3 HFl
            generalize M2.length = m2 at *
            generalize M3.length = m3 at *
            go_wp2_with (first | (at_builtin; refine wpList_run_append (by rfl) _ _ _ (by rfl) _ _ (by rfl) (by rfl) hrA ?_) | (at_builtin; refine wpList_run_append (by rfl) _ _ _ (by rfl) _ _ (by rfl) (by rfl) hrB ?_))
            go_roundw
            case rel => exact ⟨k + 1, _, _, _, _, _, by omega, by omega, by go_num, by omega, HI6⟩
            case measure => simp [intOf]; omega
    · by_cases hlt : k < l.length
      · have hltz : (k : Int) < (l.length : Int) := by omega
        have h60 : ¬ (k : Int) < 60 := by omega
        have h60n : ¬ k < 60 := by omega
        have hIo := HI.out.1
        have cD := dump_any hIo.qs.q
        unfold DumpPost at cD
        have HEq : Hid (I = Oo ++ allF ps) := HI.out.2.1
        have HIs : Hid (∀ y ∈ I, y.ints.length ≤ 100) := HI.out.2.2
        have HOl : Hid (Oo.length ≤ 360 ∧ I.length ≤ 360) := ⟨by have := HI.out.2.1; rw [this] at hIl; simp at hIl; omega, by omega⟩
        have hok := hIo.qs.q.ok
        have HIo : Hid _ := hIo
        clear hIo HI
        go_wp2_with fail
        refine cD.mono ?_
        rintro e w5 ⟨dv, rfl, hpar, hb5⟩
        clear cD
        have cA := rall_any hpar (by have := hok.few; omega) (fun x hx => by have := (hok.pass x hx).1; omega)
        unfold AllPost at cA
        have HI5 : Hid _ := HIo.out.on hb5
        clear hpar hb5 HIo hok
        go_wp2_with fail
        refine cA.mono ?_
        rintro e w6 ⟨av, rfl, hav, hb6⟩
        clear cA
        have hI6 := HI5.out.on hb6
        obtain ⟨M, eM, hM⟩ := hav
        have hMl : M.length ≤ 360 := by
          have h7 := congrArg List.length eM
          have h8 := HOl.out.2
          rw [HEq.out] at h8
          simp at h7 h8
          omega
        obtain ⟨p2, c2, ev2, _, _⟩ := hM.row
        subst ev2
        obtain ⟨v7, w7, hr7, hI7, _, _⟩ := hI6.more hM (by omega) (by have := HOl.out.1; omega)
        have hrA := hr7 26
        rw [eM, ← HEq.out] at hI7
        have cG := given_eq hI7.outP hI7.swap.outP (by have := HOl.out.2; omega) (fun y hy => by have := HIs.out y hy; omega)
        have HB7 : Hid (Below w.heap.size w w7) := hI7.qs.below
        clear hI6 hI7 hr7 hM hb6 eM HI5 HEq HIs
        generalize M.length = ml at *
        go_wp2_with (at_builtin; refine wpList_run_append (by rfl) _ _ _ (by rfl) _ _ (by rfl) (by rfl) hrA ?_)
        refine cG.mono ?_
        rintro e w8 ⟨rfl, hb8⟩
        have HB8 : Hid (Below w.heap.size w w8) := on_trans HB7.out hb8
        clear cG hb8 hrA HB7
        have cV := lives_any w8
        go_wp2_with fail
        refine cV.mono ?_
        rintro e w9 ⟨rfl, hb9⟩
        have HE := HP.out w9 (on_trans HB8.out hb9)
        clear cV hb9
        go_wp2
        exact HE
      · have hltz : ¬ (k : Int) < (l.length : Int) := by omega
        have hIo := HI.out.1
        have cD := dump_any hIo.qs.q
        unfold DumpPost at cD
        have HEq : Hid (I = Oo ++ allF ps) := HI.out.2.1
        have HIs : Hid (∀ y ∈ I, y.ints.length ≤ 100) := HI.out.2.2
        have HOl : Hid (Oo.length ≤ 360 ∧ I.length ≤ 360) := ⟨by have := HI.out.2.1; rw [this] at hIl; simp at hIl; omega, by omega⟩
        have hok := hIo.qs.q.ok
        have HIo : Hid _ := hIo
        clear hIo HI
        go_wp2_with fail
        refine cD.mono ?_
        rintro e w5 ⟨dv, rfl, hpar, hb5⟩
        clear cD
        have cA := rall_any hpar (by have := hok.few; omega) (fun x hx => by have := (hok.pass x hx).1; omega)
        unfold AllPost at cA
        have HI5 : Hid _ := HIo.out.on hb5
        clear hpar hb5 HIo hok
        go_wp2_with fail
        refine cA.mono ?_
        rintro e w6 ⟨av, rfl, hav, hb6⟩
        clear cA
        have hI6 := HI5.out.on hb6
        obtain ⟨M, eM, hM⟩ := hav
        have hMl : M.length ≤ 360 := by
          have h7 := congrArg List.length eM
          have h8 := HOl.out.2
          rw [HEq.out] at h8
          simp at h7 h8
          omega
        obtain ⟨p2, c2, ev2, _, _⟩ := hM.row
        subst ev2
        obtain ⟨v7, w7, hr7, hI7, _, _⟩ := hI6.more hM (by omega) (by have := HOl.out.1; omega)
        have hrA := hr7 26
        rw [eM, ← HEq.out] at hI7
        have cG := given_eq hI7.outP hI7.swap.outP (by have := HOl.out.2; omega) (fun y hy => by have := HIs.out y hy; omega)
        have HB7 : Hid (Below w.heap.size w w7) := hI7.qs.below
        clear hI6 hI7 hr7 hM hb6 eM HI5 HEq HIs
        generalize M.length = ml at *
        go_wp2_with (at_builtin; refine wpList_run_append (by rfl) _ _ _ (by rfl) _ _ (by rfl) (by rfl) hrA ?_)
        refine cG.mono ?_
        rintro e w8 ⟨rfl, hb8⟩
        have HB8 : Hid (Below w.heap.size w w8) := on_trans HB7.out hb8
        clear cG hb8 hrA HB7
        have cV := lives_any w8
        go_wp2_with fail
        refine cV.mono ?_
        rintro e w9 ⟨rfl, hb9⟩
        have HE := HP.out w9 (on_trans HB8.out hb9)
        clear cV hb9
        go_wp2
        exact HE

end Go.Proofs.Ytmhkfapafedglaa.K
