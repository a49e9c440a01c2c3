/- InodesReads: its walk. -/
import Derived.Test.YtpokdcimpplneaaE1
import Derived.BigQuiet
import Derived.Laws.IdiomStrings
import Derived.Laws.BytesArg
namespace Go.Proofs.Ytpokdcimpplneaa
open Go Go.RowKit

/-- A slice of bytes as a text. -/
theorem text_of6 {w : World} {p : Option Addr} {c : Nat} {l : List UInt8} (h : At w p (bytesV l)) : (convert 35 9 (.slice p l.length c)).run Try.prog w = .ok (.string ⟨l.toArray⟩) w := by
  cases p with
  | none =>
    obtain rfl : l = [] := by
      rcases h with e | ⟨b, off, e, _⟩
      · simpa using e
      · cases e
    exact run_convert_bytes_nil w 35 5 Try.underlying35 Try.underlying5 _ _ _ Try.underlying9
  | some a =>
    refine run_convert_bytes_back w 35 9 5 a c l Try.underlying35 Try.underlying5 Try.underlying9 fun j hj => ?_
    refine at_news h j _ ?_
    rw [bytesV_get hj]
    simp [List.getD, hj]
theorem StoreAt.hasS_eq {hi sb : Nat} {w : World} {s : SS} (h : StoreAt hi w sb s) {x : Int} {i : Nat} {n : Nd} (hx : look s x = some (i, n)) (k : Int) : hasS s x k = hasZ n.f.h k := by
  obtain ⟨mb, D, Fs, h⟩ := h
  obtain ⟨hi', rfl, _, _⟩ := look_some hx
  unfold hasS
  rw [hx]
  obtain ⟨fp, dp, _, hbd⟩ := h.node _ (List.getElem_mem hi')
  rcases hbd with ⟨h1, _⟩ | ⟨h1, _, h3, _⟩ | ⟨h1, _, _, _, h3, _⟩
  · simp [h1]
  · simp [h1, h3, hasZ, St.no]
  · simp [h3, hasZ, St.no]

set_option maxRecDepth 100000 in
set_option maxHeartbeats 8000000 in
theorem reads_walk (a b : Int) (pa : Option Addr) (ca : Nat) (l : List Act6) (x off m : Int) (w : World) (ha : 0 ≤ a ∧ a ≤ 255) (hb : 0 ≤ b ∧ b ≤ 255) (_hca : l.length ≤ ca) (_hla : l.length ≤ 9223372036854775807) (hat : At w pa (actsV6 l)) (hok : ∀ x ∈ l, Act6Ok x) (hxw : (Lit.int .i64 x).wf = true) (hkw : (Lit.int .i64 off).wf = true) (_hmw : (Lit.int .i64 m).wf = true) :
    Calls Try.prog 4 #[.agg #[.int .u8 a, .int .u8 b], .slice pa l.length ca, .agg #[.int .i64 x, .int .i64 off, .int .i64 m]] w fun e w' => e = .returned (.bool true) ∧ Below w.heap.size w w' := by
  have hA := Blk.new w 22 [.int .u8 a, .int .u8 b]
  have hB := Blk.new (w.alloc (.cells #[.int .u8 a, .int .u8 b] 22)) 34 [.int .i64 x, .int .i64 off, .int .i64 m]
  have hal := on_alloc (w.alloc (.cells #[.int .u8 a, .int .u8 b] 22)) (.cells #[.int .i64 x, .int .i64 off, .int .i64 m] 34)
  rw [show (w.alloc (.cells #[.int .u8 a, .int .u8 b] 22)).heap.size = w.heap.size + 1 by simp] at hB
  have hA2 := hA.on hal
  have x0 := hA2.cell 0 rfl
  have x1 := hA2.cell 1 rfl
  have HX3 : Hid (Blk ((w.alloc (.cells #[.int .u8 a, .int .u8 b] 22)).alloc (.cells #[.int .i64 x, .int .i64 off, .int .i64 m] 34)) (w.heap.size + 1) 34 [.int .i64 x, .int .i64 off, .int .i64 m]) := hB
  have HB0 : Hid (Below w.heap.size w ((w.alloc (.cells #[.int .u8 a, .int .u8 b] 22)).alloc (.cells #[.int .i64 x, .int .i64 off, .int .i64 m] 34))) := on_trans (on_alloc w _) hal
  have HAT : Hid (At w pa (actsV6 l)) := hat
  have HOK : Hid (∀ x ∈ l, Act6Ok x) := hok
  have HQ : Hid (∀ w', Below w.heap.size w w' → (fun e w' => e = Ending.returned (.bool true) ∧ Below w.heap.size w w') (Ending.returned (.bool true)) w') := fun w' h => ⟨rfl, h⟩
  generalize (fun e w' => e = Ending.returned (.bool true) ∧ Below w.heap.size w w') = Post at *
  have cB := fun w => begins_any a b w ha hb
  clear hat hok hA hB hal hA2
  go_enter Try.func4, Try.ntmps4
  go_wp2_with fail
  generalize (w.alloc (.cells #[.int .u8 a, .int .u8 b] 22)).alloc (.cells #[.int .i64 x, .int .i64 off, .int .i64 m] 34) = w0 at *
  refine (cB _).mono ?_
  rintro e w1 ⟨sb, rb, rfl, hS1, hR1, hB1⟩
  have HI1 : Hid (∃ s, StoreAt w0.heap.size w1 sb s ∧ RefAt6 w0.heap.size w1 rb s ∧ Wf s 0 ∧ Below w0.heap.size w0 w1) := ⟨_, hS1, hR1, bg_wf a b, hB1⟩
  generalize hb3 : w.heap.size + 1 = b3 at *
  clear hS1 hR1 hB1 x0 x1 cB
  go_wp2
  go_loopw [9] (fun i wr => ∃ k : Nat, k ≤ l.length ∧ k ≤ 60 ∧ i = .int .i64 (k : Int) ∧ Hid (∃ s, StoreAt w0.heap.size wr sb s ∧ RefAt6 w0.heap.size wr rb s ∧ Wf s k ∧ Below w0.heap.size w0 wr)) (fun i _ => 60 - (intOf i).toNat)
  case atStart => exact ⟨0, Nat.zero_le _, by omega, rfl, HI1⟩
  case round =>
    clear HI1
    obtain ⟨k, hk, hk60, rfl, HI⟩ := hrel
    obtain ⟨s, hS, hR, hf, hB⟩ := HI.out
    have HS : Hid (StoreAt w0.heap.size wr sb s) := hS
    have HR : Hid (RefAt6 w0.heap.size wr rb s) := hR
    have HB : Hid (Below w0.heap.size w0 wr) := hB
    have HF : Hid (Wf s k) := hf
    clear HI hS hR hf hB
    by_cases hlt : k < l.length ∧ k < 60
    · have hltz : (k : Int) < (l.length : Int) := by omega
      have hkz : (k : Int) < 60 := by omega
      have hkl : k < l.length := hlt.1
      have hBw := HB0.out.trans (HB.out.mono HB0.out.size)
      have hokk := HOK.out _ (List.getElem_mem hkl)
      obtain ⟨g, off, rfl, a0, a1, a2, a3⟩ := act_cells HAT.out hBw hkl
      have cD := does_any l[k].k l[k].i l[k].a l[k].t _ HS.out HR.out HF.out HF.out (by omega) (by omega) hokk.kw hokk.iw hokk.aw hokk.tw
      generalize l[k].k = ak at *
      generalize l[k].i = ai at *
      generalize l[k].a = aa at *
      generalize l[k].t = tt at *
      clear hBw
      go_wp2_with fail
      refine cD.mono ?_
      rintro e w7 ⟨bb, s', m', rfl, hS7, hR7, hf7, _, heq, _, ht7⟩
      obtain ⟨rfl, rfl⟩ := heq rfl
      have HI7 : Hid (∃ s, StoreAt w0.heap.size w7 sb s ∧ RefAt6 w0.heap.size w7 rb s ∧ Wf s (k + 1) ∧ Below w0.heap.size w0 w7) := ⟨s', hS7, hR7, hf7, ht7.below HB.out (Nat.le_refl _) HB.out.size⟩
      clear hS7 hR7 hf7 ht7 cD a0 a1 a2 a3 heq
      go_wp2
      go_roundw
      case rel => exact ⟨k + 1, by omega, by omega, by go_num, HI7⟩
      case measure => simp [intOf]; omega
    · have hL : s.L.length ≤ 256 := by have := HF.out.room; have := HF.out.most; omega
      have hex : ((k : Int) < (l.length : Int) ∧ ¬ (k : Int) < 60) ∨ (¬ (k : Int) < (l.length : Int) ∧ True) := by
        by_cases h : k < l.length
        · exact .inl (by omega)
        · exact .inr ⟨by omega, trivial⟩
      have HX : Hid _ := HX3.out.on HB.out
      have g0 := HX.out.cell 0 rfl
      have g1 := HX.out.cell 1 rfl
      have g2 := HX.out.cell 2 rfl
      have cA := read_any6 HS.out HF.out x off m hxw
      have cR := fun w5 (h : Below wr.heap.size wr w5) => rread_any (HR.out.on h) x off m (by omega)
      have cT := fun w5 (h : Below wr.heap.size wr w5) => stat_any (HS.out.on6 h) HF.out (by omega) x hxw
      have cH := fun w5 (h : Below wr.heap.size wr w5) => has_any6 (HS.out.on6 h) x off hxw hkw
      have cX := fun w5 (h : Below wr.heap.size wr w5) => rat_any (HR.out.on h) x (by omega)
      obtain ⟨z0, z1, z2, z3, z4, hst⟩ : ∃ z0 z1 z2 z3 z4 : Int, statS s x = [.int .i64 z0, .int .i64 z1, .int .i64 z2, .int .i64 z3, .int .i64 z4] := by
        unfold statS
        cases look s x with
        | none => exact ⟨_, _, _, _, _, rfl⟩
        | some y => exact ⟨_, _, _, _, _, rfl⟩
      rw [hst] at cT
      rcases hex with ⟨hltz, hkz⟩ | ⟨hltz, hkz⟩
      all_goals
        go_wp2_with fail
        refine cA.mono ?_
        rintro e w5 ⟨p5, c5, rfl, hat5, hb5⟩
        have HT5 : Hid (At w5 p5 (bytesV (readS s x off m))) := hat5.at
        have HB5 : Hid (Below wr.heap.size wr w5) := hb5
        have HX5 : Hid _ := HX.out.on hb5
        have t0 := HX5.out.cell 0 rfl
        have t1 := HX5.out.cell 1 rfl
        have t2 := HX5.out.cell 2 rfl
        clear hat5 hb5 cA g0 g1 g2 HX
        go_wp2_with fail
        refine (cR _ HB5.out).mono ?_
        rintro e w6 ⟨p6, c6, rfl, hat6, hb6⟩
        have HT6 : Hid (At w6 p6 (bytesV (readS s x off m)) ∧ At w6 p5 (bytesV (readS s x off m))) := ⟨hat6.at, HT5.out.on hb6⟩
        have HB6 : Hid (Below wr.heap.size wr w6) := on_trans HB5.out hb6
        have HX6 : Hid _ := HX5.out.on hb6
        have u0 := HX6.out.cell 0 rfl
        clear hat6 hb6 cR t0 t1 t2 HX5 HB5 HT5
        go_wp2_with fail
        refine (cT _ HB6.out).mono ?_
        rintro e w7 ⟨rfl, hb7⟩
        have hb8 := on_trans hb7 (on_alloc w7 (.cells #[.int .i64 z0, .int .i64 z1, .int .i64 z2, .int .i64 z3, .int .i64 z4] 40))
        have HT8 : Hid (At (w7.alloc (.cells #[.int .i64 z0, .int .i64 z1, .int .i64 z2, .int .i64 z3, .int .i64 z4] 40)) p6 (bytesV (readS s x off m)) ∧ At (w7.alloc (.cells #[.int .i64 z0, .int .i64 z1, .int .i64 z2, .int .i64 z3, .int .i64 z4] 40)) p5 (bytesV (readS s x off m))) := ⟨HT6.out.1.on hb8, HT6.out.2.on hb8⟩
        have HB8 : Hid (Below wr.heap.size wr (w7.alloc (.cells #[.int .i64 z0, .int .i64 z1, .int .i64 z2, .int .i64 z3, .int .i64 z4] 40))) := on_trans HB6.out hb8
        have HX8 : Hid _ := HX6.out.on hb8
        have u0 := HX8.out.cell 0 rfl
        have u1 := HX8.out.cell 1 rfl
        clear hb7 hb8 cT HX6 HB6 HT6
        go_wp2_with fail
        generalize w7.alloc (.cells #[.int .i64 z0, .int .i64 z1, .int .i64 z2, .int .i64 z3, .int .i64 z4] 40) = w8 at *
        have cH8 := fun q => cH (w8.drewN q) (on_drewN HB8.out q)
        have cX8 := fun q => cX (w8.drewN q) (on_drewN HB8.out q)
        clear cH cX
        go_quiet (first | (go_at_call 14; refine Calls.quiet_of_same (cH8 _)) | (go_at_call 15; refine Calls.quiet_of_same (cX8 _)))
        have hd := on_drewN (Below.refl w8.heap.size w8) nq
        have HT9 : Hid (At (w8.drewN nq) p6 (bytesV (readS s x off m)) ∧ At (w8.drewN nq) p5 (bytesV (readS s x off m))) := ⟨HT8.out.1.on hd, HT8.out.2.on hd⟩
        have HB9 : Hid (Below wr.heap.size wr (w8.drewN nq)) := on_drewN HB8.out nq
        have v1 := (HX8.out.on hd).cell 1 rfl
        generalize w8.drewN nq = w9 at *
        have cv5 := text_of6 (c := c5) HT9.out.2
        have cv6 := text_of6 (c := c6) HT9.out.1
        have HBZ : Hid (Below w.heap.size w w9) := (HB0.out.trans (HB.out.mono HB0.out.size)).trans (HB9.out.mono (Nat.le_trans HB0.out.size HB.out.size))
        have cL := lives_any w9
        have HZ : Hid (∀ w', Below w9.heap.size w9 w' → Post (.returned (.bool true)) w') := fun w' h => HQ.out w' (on_trans HBZ.out h)
        generalize readS s x off m = RD at *
        generalize ((fileE s x : Nat) : Int) = fe at *
        clear hd HT8 HT9 HB8 HX8 u0 u1 cH8 cX8 HQ HBZ HX3 hst HAT HOK
        cases hx : look s x with
        | none =>
          rw [ixZ_look_none hx, show hasS s x off = false by unfold hasS; rw [hx], show statE s x = 2 by unfold statE; rw [hx]]
          clear hx
          go_wp2_with fail
          refine cL.mono ?_
          rintro e w10 ⟨rfl, hb10⟩
          have HY : Hid _ := HZ.out w10 hb10
          clear HZ cL hb10
          go_wp2
          exact HY.out
        | some y =>
          obtain ⟨i, n⟩ := y
          obtain ⟨hi', rfl, hxe, _⟩ := look_some hx
          rw [ixZ_look_some hx, HS.out.hasS_eq hx off, show statE s x = 0 by unfold statE; rw [hx]]
          obtain ⟨rv, Q, eQ, hM⟩ := HR.out.on HB9.out
          have hQ := ix_map eQ
          have e3 : (Q[i]'(by omega)).n = s.L[i] := map_get eQ (by omega) hi'
          obtain ⟨g, cap, rfl, _, _, _, hcell⟩ := hM.place (k := i) (by omega)
          have y0 := hM.box.cell 0 rfl
          obtain ⟨pB, cB, pH, cH, BB, HH, _, eH, hRel, _, haH⟩ := (hM.node _ (List.getElem_mem (l := Q) (n := i) (by omega))).slices
          have k6 : w9.cell? ⟨g, i * 9 + 5 + 1, none⟩ = some (Q[i]'(by omega)).vH := hcell 6 (by omega) _ rfl
          rw [eH] at k6
          rw [hQ] at y0
          have hiz : (i : Int) < (s.L.length : Int) := by omega
          have hiz0 : 0 ≤ (i : Int) := by omega
          have hz : hasZ s.L[i].f.h off = (decide (0 ≤ off) && HH.getD off.toNat false) := by rw [← e3, hasZ, hRel.has]
          rw [hz]
          have hlh := hRel.lenH
          clear hcell hM e3 eQ hxe hx hz hRel eH
          by_cases ho : 0 ≤ off
          · obtain ⟨j, rfl⟩ : ∃ j : Nat, off = (j : Int) := ⟨off.toNat, by omega⟩
            rw [decide_eq_true ho, Bool.true_and, Int.toNat_natCast]
            by_cases hj : j < HH.length
            · have hjz : (j : Int) < (HH.length : Int) := by omega
              obtain ⟨bh, oh, rfl, _, _, hch⟩ := haH.place (k := j) (by simpa using hj)
              have hb1 := hch j (.bool (HH.getD j false)) (by simp [List.getD, hj])
              generalize HH.getD j false = hv at *
              clear hch
              go_wp2_with fail
              refine cL.mono ?_
              rintro e w10 ⟨rfl, hb10⟩
              have HY : Hid _ := HZ.out w10 hb10
              clear HZ cL hb10
              go_wp2
              exact HY.out
            · have hjz : ¬ (j : Int) < (HH.length : Int) := by omega
              rw [show HH.getD j false = false by simp [List.getD, hj]]
              go_wp2_with fail
              refine cL.mono ?_
              rintro e w10 ⟨rfl, hb10⟩
              have HY : Hid _ := HZ.out w10 hb10
              clear HZ cL hb10
              go_wp2
              exact HY.out
          · rw [decide_eq_false ho, Bool.false_and]
            go_wp2_with fail
            refine cL.mono ?_
            rintro e w10 ⟨rfl, hb10⟩
            have HY : Hid _ := HZ.out w10 hb10
            clear HZ cL hb10
            go_wp2
            exact HY.out

end Go.Proofs.Ytpokdcimpplneaa
