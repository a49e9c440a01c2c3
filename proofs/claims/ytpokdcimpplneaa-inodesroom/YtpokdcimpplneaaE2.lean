/- InodesRoom: its walk. -/
import Derived.Test.YtpokdcimpplneaaE1
namespace Go.Proofs.Ytpokdcimpplneaa
open Go Go.RowKit

set_option maxRecDepth 100000 in
set_option maxHeartbeats 8000000 in
theorem room_walk (a b : Int) (pa : Option Addr) (ca : Nat) (l : List Act6) (w : World) (ha : 0 ≤ a ∧ a ≤ 255) (hb : 0 ≤ b ∧ b ≤ 255) (_hca : l.length ≤ ca) (_hla : l.length ≤ 9223372036854775807) (hat : At w pa (actsV6 l)) (hok : ∀ x ∈ l, Act6Ok x) :
    Calls Try.prog 5 #[.agg #[.int .u8 a, .int .u8 b], .slice pa l.length ca] w fun e w' => e = .returned (.bool true) ∧ Below w.heap.size w w' := by
  have HX0 : Hid (Blk (w.alloc (.cells #[.int .u8 a, .int .u8 b] 22)) w.heap.size 22 [.int .u8 a, .int .u8 b]) := Blk.new w 22 [.int .u8 a, .int .u8 b]
  have HB0 : Hid (Below w.heap.size w (w.alloc (.cells #[.int .u8 a, .int .u8 b] 22))) := on_alloc w _
  have x0 := HX0.out.cell 0 rfl
  have x1 := HX0.out.cell 1 rfl
  have HAT : Hid (At w pa (actsV6 l)) := hat
  have HOK : Hid (∀ x ∈ l, Act6Ok x) := hok
  have HQ : Hid (∀ w', Below w.heap.size w w' → (fun e w' => e = Ending.returned (.bool true) ∧ Below w.heap.size w w') (Ending.returned (.bool true)) w') := fun w' h => ⟨rfl, h⟩
  generalize (fun e w' => e = Ending.returned (.bool true) ∧ Below w.heap.size w w') = Post at *
  have cB := fun w => begins_any a b w ha hb
  have cR := fun w => rnew_any 1 0 w
  rw [show newOk 1 0 = true from rfl] at cR
  have HRF : Hid (∀ (w2 : World) hi, hi ≤ w2.heap.size → RefAt6 hi (w2.alloc (.cells #[.slice none 0 0, .int .i64 1, .int .i64 1, .int .i64 0] 53)) w2.heap.size (newS 1 0)) := fun w2 hi hl => refM_new (n := 1) (b := 0) (Blk.new w2 _ [.slice none 0 0, .int .i64 1, .int .i64 1, .int .i64 0]) hl
  have hN : bgN a ≤ 256 ∧ bgB b ≤ 4096 := by unfold bgN bgB; omega
  clear hat hok
  go_enter Try.func5, Try.ntmps5
  go_wp2_with fail
  generalize w.alloc (.cells #[.int .u8 a, .int .u8 b] 22) = w0 at *
  refine (cB _).mono ?_
  rintro e w1 ⟨sb, rb, rfl, hS1, _, hB1⟩
  have HS1 : Hid (StoreAt w0.heap.size w1 sb (newS (bgN a) (bgB b))) := hS1
  have HB1 : Hid (Below w0.heap.size w0 w1) := hB1
  have cRm := room_any hS1 (bg_wf a b)
  have e1 : ((newS (bgN a) (bgB b)).most : Int) - ((newS (bgN a) (bgB b)).L.length : Int) = (bgN a : Int) := by simp [newS]
  have e2 : (newS (bgN a) (bgB b)).bl = (bgB b : Int) := by simp [SS.bl, newS, sumB]
  rw [e1, e2] at cRm
  have HX1 : Hid _ := HX0.out.on hB1
  clear hS1 hB1 e1 e2
  go_wp2_with fail
  refine cRm.mono ?_
  rintro e w2 ⟨rfl, q, rfl⟩
  have hd := on_drewN (Below.refl w1.heap.size w1) q
  have HB2 : Hid (Below w0.heap.size w0 (w1.drewN q)) := on_drewN HB1.out q
  have HS2 : Hid (StoreAt w0.heap.size (w1.drewN q) sb (newS (bgN a) (bgB b))) := HS1.out.on6 hd
  have y0 := (HX1.out.on hd).cell 0 rfl
  have y1 := (HX1.out.on hd).cell 1 rfl
  generalize w1.drewN q = w2 at *
  clear cRm hd HS1 HB1 HX1 x0 x1
  go_wp2_with fail
  refine (cB _).mono ?_
  rintro e w3 ⟨sb2, rb2, rfl, _, _, hB3⟩
  have HI3 : Hid (∃ s, StoreAt w0.heap.size w3 sb s ∧ Wf s 0 ∧ (s.most = bgN a ∧ s.tot = bgB b) ∧ Below w0.heap.size w0 w3) := ⟨_, HS2.out.on6 hB3, bg_wf a b, ⟨rfl, rfl⟩, on_trans HB2.out hB3⟩
  clear hB3 HS2 HB2 cB y0 y1
  go_wp2
  go_loopw [11] (fun i wr => ∃ k : Nat, k ≤ l.length ∧ k ≤ 60 ∧ i = .int .i64 (k : Int) ∧ Hid (∃ s, StoreAt w0.heap.size wr sb s ∧ Wf s k ∧ (s.most = bgN a ∧ s.tot = bgB b) ∧ Below w0.heap.size w0 wr)) (fun i _ => 60 - (intOf i).toNat)
  case atStart => exact ⟨0, Nat.zero_le _, by omega, rfl, HI3⟩
  case round =>
    clear HI3
    obtain ⟨k, hk, hk60, rfl, HI⟩ := hrel
    obtain ⟨s, hS, hf, hmt, hB⟩ := HI.out
    have HS : Hid (StoreAt w0.heap.size wr sb s) := hS
    have HB : Hid (Below w0.heap.size w0 wr) := hB
    have HF : Hid (Wf s k) := hf
    clear HI hS hf hB
    by_cases hlt : k < l.length ∧ k < 60
    · have hltz : (k : Int) < (l.length : Int) := by omega
      have hkz : (k : Int) < 60 := by omega
      have hkl : k < l.length := hlt.1
      have hBw := HB0.out.trans (HB.out.mono HB0.out.size)
      have HBW : Hid (Below w.heap.size w wr) := hBw
      have hokk := HOK.out _ (List.getElem_mem hkl)
      go_wp2_with fail
      refine (cR _).mono ?_
      rintro e w5 ⟨rfl, hb5⟩
      have hb6 := on_trans hb5 (on_alloc w5 (.cells #[.slice none 0 0, .int .i64 1, .int .i64 1, .int .i64 0] 53))
      have hB5 := HB.out.trans (hb5.mono HB.out.size)
      have hB6 := HB.out.trans (hb6.mono HB.out.size)
      have hBw6 := HBW.out.trans (hb6.mono HBW.out.size)
      have HR6 : Hid _ := HRF.out w5 w0.heap.size hB5.size
      have HS6 : Hid _ := HS.out.on6 hb6
      have HB6 : Hid _ := hB6
      obtain ⟨g, off, rfl, a0, a1, a2, a3⟩ := act_cells HAT.out hBw6 hkl
      clear hb5 hb6 hB5 hB6 hBw6 hBw HBW
      have cD := does_any l[k].k l[k].i l[k].a l[k].t _ HS6.out HR6.out HF.out (wf_new (most := 1) (tot := 0) (by omega) (by omega)) (by omega) (by omega) hokk.kw hokk.iw hokk.aw hokk.tw
      generalize l[k].k = ak at *
      generalize l[k].i = ai at *
      generalize l[k].a = aa at *
      generalize l[k].t = tt at *
      go_wp2_with fail
      generalize w5.alloc (.cells #[.slice none 0 0, .int .i64 1, .int .i64 1, .int .i64 0] 53) = w6 at *
      refine cD.mono ?_
      rintro e w7 ⟨bb, s', m', rfl, hS7, _, hf7, _, _, hmt7, ht7⟩
      have HI7 : Hid (∃ s, StoreAt w0.heap.size w7 sb s ∧ Wf s (k + 1) ∧ (s.most = bgN a ∧ s.tot = bgB b) ∧ Below w0.heap.size w0 w7) := ⟨s', hS7, hf7, ⟨hmt7.1.trans hmt.1, hmt7.2.trans hmt.2⟩, ht7.below HB6.out (Nat.le_refl _) HB6.out.size⟩
      clear hS7 hf7 hmt7 ht7 cD a0 a1 a2 a3
      go_wp2
      go_roundw
      case rel => exact ⟨k + 1, by omega, by omega, by go_num, HI7⟩
      case measure => simp [intOf]; omega
    · have cA := all_any HS.out HF.out
      have hL : s.L.length ≤ 256 := by have := HF.out.room; have := HF.out.most; omega
      have hsum : sumB s.L ≤ 4096 := by have := HF.out.sum; have := HF.out.tot; omega
      have hex : ((k : Int) < (l.length : Int) ∧ ¬ (k : Int) < 60) ∨ (¬ (k : Int) < (l.length : Int) ∧ True) := by
        by_cases h : k < l.length
        · exact .inl (by omega)
        · exact .inr ⟨by omega, trivial⟩
      rcases hex with ⟨hltz, hkz⟩ | ⟨hltz, hkz⟩
      all_goals
        go_wp2_with fail
        refine cA.mono ?_
        rintro e w5 ⟨p5, c5, rfl, hat5, hb5⟩
        have HS5 : Hid (StoreAt w0.heap.size w5 sb s) := HS.out.on6 hb5
        have HB5 : Hid (Below w0.heap.size w0 w5) := HB.out.trans (hb5.mono HB.out.size)
        have HA5 : Hid (At w5 p5 (intsV (keysL s.L))) := hat5.at
        clear cA hat5 hb5 cR HRF
        go_wp2
        go_loopw [15, 16] (fun mm jv wr2 => ∃ j : Nat, j ≤ s.L.length ∧ mm = .int .i64 (sumB (s.L.take j) : Int) ∧ jv = .int .i64 (j : Int) ∧ Hid (Below w5.heap.size w5 wr2)) (fun _ jv _ => s.L.length - (intOf jv).toNat)
        case atStart => exact ⟨0, Nat.zero_le _, rfl, rfl, Below.refl _ _⟩
        case round =>
          obtain ⟨j, hj, rfl, rfl, HJ⟩ := hrel
          have HS6 : Hid (StoreAt w0.heap.size wr sb s) := HS5.out.on6 HJ.out
          have HB6 : Hid (Below w0.heap.size w0 wr) := HB5.out.trans (HJ.out.mono HB5.out.size)
          by_cases hjl : j < s.L.length
          · have hjz : (j : Int) < (s.L.length : Int) := by omega
            obtain ⟨g, off, rfl, _, _, hc⟩ := (HA5.out.on HJ.out).place (k := j) (by simp [keysL]; omega)
            have g0 := hc j (.int .i64 (s.L[j].ino : Nat)) (by simp [keysL, hjl])
            have hm := List.getElem_mem hjl
            have hn := HF.out.num _ hm
            have hnx := HF.out.next
            have cT := stat_any HS6.out HF.out (by omega) (s.L[j].ino : Nat) (by simp [Lit.wf, IntKind.min, IntKind.max, IntKind.signed, IntKind.bits]; omega)
            have hlk := look_at HF.out hjl
            unfold statS statE at cT
            rw [hlk] at cT
            have h1 := HF.out.alive _ hm
            have h2 := HF.out.links _ hm
            have h3 := HF.out.holds _ hm
            have h4 := sumB_mem hm
            have h5 := sumB_take hjl
            have h6 := sumB_take_le s.L (j + 1)
            have HT : Hid (sumB (s.L.take (j + 1)) = sumB (s.L.take j) + s.L[j].f.blocks) := h5
            rw [h5] at h6
            clear hc hlk hm h5
            simp only [statC, List.toArray] at cT
            generalize s.L[j] = nd at *
            generalize sumB (s.L.take j) = sj at *
            obtain ⟨kd, hkd⟩ : ∃ kd : Int, (nd.kind : Int) = kd := ⟨_, rfl⟩
            obtain ⟨sz, hsz⟩ : ∃ sz : Int, (nd.size : Int) = sz := ⟨_, rfl⟩
            obtain ⟨li, hli⟩ : ∃ li : Int, (nd.links : Int) = li := ⟨_, rfl⟩
            obtain ⟨ho, hho⟩ : ∃ ho : Int, (nd.holds : Int) = ho := ⟨_, rfl⟩
            obtain ⟨bk, hbk⟩ : ∃ bk : Int, (nd.f.blocks : Int) = bk := ⟨_, rfl⟩
            rw [hkd, hsz, hli, hho, hbk] at cT
            have k1 : ¬ li + ho < 1 := by omega
            have k2 : 0 ≤ li ∧ li ≤ 32 := by omega
            have k3 : 0 ≤ ho ∧ ho ≤ 61 := by omega
            have k4 : 0 ≤ bk ∧ bk + (sj : Int) ≤ 4096 := by omega
            go_wp2_with fail
            refine cT.mono ?_
            rintro e w7 ⟨rfl, hb7⟩
            have hZ := Blk.new w7 40 [.int .i64 kd, .int .i64 sz, .int .i64 li, .int .i64 ho, .int .i64 bk]
            have z2 := hZ.cell 2 rfl
            have z3 := hZ.cell 3 rfl
            have z4 := hZ.cell 4 rfl
            have HJ8 : Hid (Below w5.heap.size w5 (w7.alloc (.cells #[.int .i64 kd, .int .i64 sz, .int .i64 li, .int .i64 ho, .int .i64 bk] 40))) := on_trans (HJ.out.trans (hb7.mono HJ.out.size)) (on_alloc w7 _)
            clear hZ hb7 cT
            go_wp2_with fail
            go_roundw
            case rel => exact ⟨j + 1, by omega, by rw [HT.out]; go_num, by go_num, HJ8⟩
            case measure => simp [intOf]; omega
          · obtain rfl : j = s.L.length := by omega
            have cRm := room_any HS6.out HF.out
            have hjz : ¬ ((s.L.length : Nat) : Int) < (s.L.length : Int) := by omega
            have e2 : s.bl = (bgB b : Int) - (sumB (s.L.take s.L.length) : Int) := by rw [List.take_length, SS.bl, hmt.2]
            rw [hmt.1, e2] at cRm
            have q1 : sumB (s.L.take s.L.length) ≤ bgB b := by rw [List.take_length]; have := HF.out.sum; omega
            have q2 : s.L.length ≤ bgN a := by have := HF.out.room; omega
            generalize sumB (s.L.take s.L.length) = sj at *
            generalize s.L.length = sl at *
            generalize bgN a = na at *
            generalize bgB b = nb at *
            clear e2
            go_wp2_with fail
            refine cRm.mono ?_
            rintro e w7 ⟨rfl, q, rfl⟩
            have HB7 : Hid (Below w0.heap.size w0 (wr.drewN q)) := on_drewN HB6.out q
            generalize wr.drewN q = w7 at *
            have cL := lives_any w7
            have r1 : 0 ≤ (na : Int) - (sl : Int) := by omega
            have r2 : 0 ≤ (nb : Int) - (sj : Int) := by omega
            clear cRm
            go_wp2_with fail
            refine cL.mono ?_
            rintro e w8 ⟨rfl, hb8⟩
            have HZ : Hid _ := HQ.out w8 (HB0.out.trans ((HB7.out.trans (hb8.mono HB7.out.size)).mono HB0.out.size))
            clear HQ hb8 cL
            go_wp2
            exact HZ.out

end Go.Proofs.Ytpokdcimpplneaa
