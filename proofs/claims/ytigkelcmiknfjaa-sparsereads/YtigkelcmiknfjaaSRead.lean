/- Package sparse: Read. -/
import Derived.Test.YtigkelcmiknfjaaSLay
namespace Go.Proofs.Ytigkelcmiknfjaa
open Go Go.RowKit Go.Maps

/-- What is read. -/
def readF (sz : Nat) (C : Nat → UInt8) (off n : Int) : List UInt8 :=
  if off < 0 ∨ n < 0 ∨ (sz : Int) ≤ off then [] else (List.range (min n (sz - off)).toNat).map fun i => C (off.toNat + i)
/-- What is read so far. -/
def outR (C : Nat → UInt8) (o m t : Nat) : List UInt8 := (List.range m).map fun i => if o + i < t then C (o + i) else 0
theorem outR_len (C : Nat → UInt8) (o m t : Nat) : (outR C o m t).length = m := by simp [outR]
theorem outR_get {C : Nat → UInt8} {o m t j : Nat} (h : j < m) : (outR C o m t)[j]? = some (if o + j < t then C (o + j) else 0) := by simp [outR, h]
theorem outR_start (C : Nat → UInt8) (o m : Nat) : outR C o m o = List.replicate m 0 := by
  refine List.ext_getElem? fun j => ?_
  by_cases hj : j < m
  · rw [outR_get hj, List.getElem?_replicate, if_pos hj, if_neg (by omega)]
  · rw [List.getElem?_eq_none (by rw [outR_len]; omega), List.getElem?_eq_none (by simp; omega)]
theorem outR_end {C : Nat → UInt8} {o m t : Nat} (h : o + m ≤ t) : outR C o m t = (List.range m).map fun i => C (o + i) := by
  unfold outR
  refine List.map_congr_left fun i hi => ?_
  have := List.mem_range.1 hi
  rw [if_pos (by omega)]
theorem outR_none {C : Nat → UInt8} {o m t k : Nat} (hk : t / 64 = k) (hz : ∀ i, i / 64 = k → C i = 0) : outR C o m ((k + 1) * 64) = outR C o m t := by
  unfold outR
  refine List.map_congr_left fun i _ => ?_
  by_cases h1 : o + i < t
  · rw [if_pos h1, if_pos (by omega)]
  · rw [if_neg h1]
    by_cases h2 : o + i < (k + 1) * 64
    · rw [if_pos h2, hz _ (by omega)]
    · rw [if_neg h2]
theorem outR_some {C : Nat → UInt8} {o m t k r n : Nat} (hk : t / 64 = k) (hr : t % 64 = r) (ho : o ≤ t) (hm : t < o + m) (hn : n = Nat.min (64 - r) (m - (t - o))) :
    outR C o m ((k + 1) * 64) = (outR C o m t).take (t - o) ++ ((blkB C k).drop r).take n ++ (outR C o m t).drop (t - o + n) := by
  have hle1 : n ≤ 64 - r := by rw [hn]; exact Nat.min_le_left _ _
  have hle2 : n ≤ m - (t - o) := by rw [hn]; exact Nat.min_le_right _ _
  have hge : n = 64 - r ∨ n = m - (t - o) := by
    rcases Nat.le_total (64 - r) (m - (t - o)) with h | h
    · exact .inl (by rw [hn]; exact Nat.min_eq_left h)
    · exact .inr (by rw [hn]; exact Nat.min_eq_right h)
  have hl1 : ((outR C o m t).take (t - o)).length = t - o := by rw [List.length_take, outR_len]; omega
  have hl2 : (((blkB C k).drop r).take n).length = n := by rw [List.length_take, List.length_drop, blkB_len]; omega
  refine List.ext_getElem? fun j => ?_
  by_cases hj : j < m
  · rw [outR_get hj, List.append_assoc]
    by_cases h1 : j < t - o
    · rw [List.getElem?_append_left (by omega), List.getElem?_take_of_lt h1, outR_get hj, if_pos (by omega), if_pos (by omega)]
    · rw [List.getElem?_append_right (by omega), hl1]
      by_cases h2 : j - (t - o) < n
      · rw [List.getElem?_append_left (by omega), List.getElem?_take_of_lt h2, List.getElem?_drop, blkB_get (by omega), if_pos (by omega)]
        congr 2
        omega
      · rw [List.getElem?_append_right (by omega), hl2, List.getElem?_drop, show t - o + n + (j - (t - o) - n) = j by omega, outR_get hj, if_neg (by omega), if_neg (by omega)]
  · rw [List.getElem?_eq_none (by rw [outR_len]; omega), List.getElem?_eq_none]
    simp [blkB_len, outR_len]; omega

set_option maxRecDepth 100000 in
set_option maxHeartbeats 1000000 in
theorem read_none (v : Value) (sz : Nat) (C : Nat → UInt8) (h : Nat → Bool) (off n : Int) (w : World) (f : Hs w v sz C h) (hb : off < 0 ∨ n < 0 ∨ (sz : Int) ≤ off) :
    Calls Try.prog 11 #[v, .int .i64 off, .int .i64 n] w fun e w' => e = .returned (.slice none 0 0) ∧ w' = w := by
  have hcall := size_any v sz C h w f
  clear f
  by_cases h1 : off < 0
  · clear hb
    go_enter Try.func11, Try.ntmps11
    go_wp2
    go_ret
    exact ⟨rfl, rfl⟩
  by_cases h2 : n < 0
  · clear hb
    go_enter Try.func11, Try.ntmps11
    go_wp2
    go_ret
    exact ⟨rfl, rfl⟩
  · have h3 : (sz : Int) ≤ off := by omega
    clear hb
    go_enter Try.func11, Try.ntmps11
    go_wp2_with fail
    refine hcall.mono ?_
    rintro e w2 ⟨rfl, rfl⟩
    go_wp2
    go_ret
    exact ⟨rfl, rfl⟩

set_option maxRecDepth 100000 in
set_option maxHeartbeats 1000000 in
theorem read_in (fb sz o m : Nat) (F : Nat → Prop) (C : Nat → UInt8) (h : Nat → Bool) (n : Int) (w : World) (f : FileAt w fb F sz C h) (hsz : sz ≤ 65536) (ho : o < sz) (hn : 0 ≤ n) (hm : min n ((sz : Int) - o) = m) :
    Calls Try.prog 11 #[.pointer (some ⟨fb, 0, none⟩), .int .i64 o, .int .i64 n] w fun e w' => e = .returned (.slice (some ⟨w.heap.size, 0, none⟩) m m) ∧ Blk w' w.heap.size 5 (bytesV ((List.range m).map fun i => C (o + i))) ∧ Below w.heap.size w w' := by
  have hcall := size_any (.pointer (some ⟨fb, 0, none⟩)) sz C h w (.inr ⟨fb, F, rfl, f⟩)
  have HF : Hid (FileAt w fb F sz C h) := f
  obtain ⟨mv, hbx⟩ := f.box
  have x1 := hbx.cell 1 rfl
  clear f hbx
  have h1 : ¬ (o : Int) < 0 := by omega
  have h2 : ¬ n < 0 := by omega
  have h3 : ¬ (sz : Int) ≤ (o : Int) := by omega
  have h3n : ¬ sz ≤ o := by omega
  have hmz : m ≤ sz - o := by omega
  obtain ⟨RR, HRR⟩ : ∃ RR, Hid (((List.range m).map fun i => C (o + i)) = RR) := ⟨_, rfl⟩
  have hRR : ((List.range m).map fun i => C (o + i)) = RR := HRR.out
  rw [hRR]
  clear hRR
  have hif : (if (sz : Int) - (o : Int) < n then (sz : Int) - (o : Int) else n) = (m : Int) := by split <;> omega
  obtain ⟨w0, hmk, hB0, hb0, hs0⟩ := make_row elemByte rfl m (by omega) w
  have HB : Hid (Blk w0 w.heap.size 5 (bytesV (outR C o m o)) ∧ Below w.heap.size w w0) := ⟨by simpa [bytesV, outR_start, byteV] using hB0, hb0⟩
  clear hB0 hb0
  go_enter Try.func11, Try.ntmps11
  go_wp2_with fail
  refine hcall.mono ?_
  rintro e w2 ⟨rfl, rfl⟩
  clear hcall
  go_wp2
  go_loopw [9] (fun av wr => ∃ t : Nat, av = .int .i64 t ∧ Hid (o ≤ t ∧ t ≤ 70000) ∧ Hid (Blk wr w2.heap.size 5 (bytesV (outR C o m t)) ∧ Below w2.heap.size w2 wr)) (fun av _ => 140000 - (intOf av).toNat)
  case atStart => exact ⟨o, rfl, ⟨Nat.le_refl _, by omega⟩, HB⟩
  case round =>
    clear HB
    obtain ⟨t, rfl, HT, HB⟩ := hrel
    by_cases hlt : t < o + m
    · have hltz : (t : Int) < (o : Int) + (m : Int) := by omega
      obtain ⟨k, HK⟩ : ∃ k, Hid (t / 64 = k) := ⟨_, rfl⟩
      obtain ⟨r, HR⟩ : ∃ r, Hid (t % 64 = r) := ⟨_, rfl⟩
      have hkl : k < 1024 := by have := HK.out; omega
      have hrl : r < 64 := by have := HR.out; omega
      have hkz : (t : Int) / 64 = (k : Int) := by have := HK.out; omega
      have htl : t ≤ 65536 := by omega
      obtain ⟨mv', D, fm, _⟩ := HF.out.on HB.out.2
      have x0 := fm.box.cell 0 rfl
      have hca := fun w => after_any t w (by omega)
      rw [HK.out] at hca
      have hmore : t < (k + 1) * 64 := by have := HK.out; omega
      cases hh : h k with
      | false =>
        have hlk := fm.look_no (x := (k : Int)) (ky_wf (k := k) (by omega)) (fun j e => by rw [← Int.ofNat_inj.1 e]; exact hh)
        have HB2 : Hid (Blk wr w2.heap.size 5 (bytesV (outR C o m ((k + 1) * 64))) ∧ Below w2.heap.size w2 wr) := by
          rw [outR_none HK.out (fun i hi => fm.zero i (by rw [hi]; exact hh))]; exact HB
        clear fm
        go_wp2_with fail
        refine (hca _).mono ?_
        rintro e w4 ⟨rfl, rfl⟩
        go_wp2
        go_roundw
        case rel => exact ⟨(k + 1) * 64, rfl, ⟨by have := HT.out; omega, by omega⟩, HB2⟩
        case measure => simp [intOf]; omega
      | true =>
        have hlk := fm.look_yes hh
        obtain ⟨n0, HMin⟩ : ∃ n0, Hid (n0 = Nat.min (64 - r) (m - (t - o))) := ⟨_, rfl⟩
        have hbl := fm.blk k hh
        have hne : gOf D k ≠ w2.heap.size := fun e => by
          have h7 := hbl.row
          rw [e, HB.out.1.row] at h7
          simp at h7
        have hot : o ≤ t := HT.out.1
        have hn1 : n0 ≤ 64 - r := by rw [HMin.out]; exact Nat.min_le_left _ _
        obtain ⟨x, hsx, hx⟩ := slice_from elemByte w2.heap.size 0 m m (t - o) (by omega)
        obtain rfl := hx (by omega)
        have HBL : Hid (Blk wr (gOf D k) 63 (bytesV (blkB C k))) := hbl
        have HSX : Hid (∀ w, (Instr.slice 25 (.slice (some ⟨w2.heap.size, 0, none⟩) m m) (some (.int .i64 ((t - o : Nat) : Int))) none none).run Try.prog w = .ok (.slice (some ⟨w2.heap.size, 0 + (t - o), none⟩) (m - (t - o)) (m - (t - o))) w) := hsx
        have hgl := HB.out.1.lt
        have hgl2 := hbl.lt
        clear fm hbl hsx hx
        go_wp2
        refine wp_region_two (S := fun f W => (f = true → Blk W w2.heap.size 5 (bytesV (outR C o m t))) ∧ (f = false → Blk W w2.heap.size 5 (bytesV (outR C o m ((k + 1) * 64)))) ∧ Blk W (gOf D k) 63 (bytesV (blkB C k)) ∧ Below w2.heap.size w2 W) (u := 10)
          (Keep := KeepK [(10, w2.heap.size)])
          (g := fun i v W => ([Kd.is (.slice (some ⟨w2.heap.size, 0, none⟩) m m), .is (.int .i64 t), .is (.int .i64 o), .is (.int .i64 ((t - o : Nat) : Int)), .is (.slice (some ⟨w2.heap.size, 0 + (t - o), none⟩) (m - (t - o)) (m - (t - o))),
            .is (.pointer (some ⟨gOf D k, 0, none⟩)), .is (.pointer (some ⟨gOf D k, 0, none⟩)), .is (.int .i64 t), .is (.int .i64 r), .is (.slice (some ⟨gOf D k, r, none⟩) (64 - r) (64 - r)), .any].getD i (Kd.any (hi := w2.heap.size + 1))).ok v W)
          (tab := [[(7, none)], [(9, none)], [(1, none)], [(52, some 1), (53, some 2)], [(51, some 0), (54, some 3)], [(10, none)], [(56, some 5)], [(9, none)], [(58, some 7)], [(57, some 6), (59, some 8)], [(55, some 4), (60, some 9)]]) (tl := []) (n := 63)
          (by kernel_rfl) rfl (by kernel_rfl) (keep_one (by omega) ?k) ⟨fun _ => HB.out.1.drew, (fun e => by cases e), HBL.out.drew, on_drew HB.out.2⟩ ?st ?en
        case k =>
          intro j hj
          match j, hj with
          | 0, _ | 1, _ | 2, _ | 3, _ | 4, _ | 5, _ | 6, _ | 7, _ | 8, _ | 9, _ | 10, _ => rfl
          | j + 11, _ => rfl
        case st =>
          refine ⟨fun ρ W f hf hr hS hs => ?_, fun ρ W f hf hr hS hs => ?_, fun ρ W f hf hr hS hs => ?_, fun ρ W f hf hr hS hs => ?_, fun ρ W f hf hr hS hs => ?_, fun ρ W f hf hr hS hs => ?_, fun ρ W f hf hr hS hs => ?_, fun ρ W f hf hr hS hs => ?_, fun ρ W f hf hr hS hs => ?_, fun ρ W f hf hr hS hs => ?_, fun ρ W f hf hr hS hs => ?_, trivial⟩
          · exact step_plain rfl (leaves_move (.tmp 7) rfl ⟨hs.1, by simpa using hS, Below.refl _ _⟩)
          · exact step_plain rfl (leaves_move (.tmp 9) rfl ⟨hs.1, by simpa using hS, Below.refl _ _⟩)
          · exact step_plain rfl (leaves_move (.tmp 1) rfl ⟨hs.1, by simpa using hS, Below.refl _ _⟩)
          · have h52 : ρ (.tmp 52) = .int .i64 t := hs.1
            have h53 : ρ (.tmp 53) = .int .i64 o := hs.2.1
            refine step_plain rfl (leaves_value (v := .int .i64 ((t - o : Nat) : Int)) (w' := W) ?_ ⟨rfl, by simpa using hS, Below.refl _ _⟩)
            simp [go_sem, h52, h53]
            rw [IntKind.wrap_i64]
            omega
          · have h51 : ρ (.tmp 51) = .slice (some ⟨w2.heap.size, 0, none⟩) m m := hs.1
            have h54 : ρ (.tmp 54) = .int .i64 ((t - o : Nat) : Int) := hs.2.1
            refine step_plain rfl (leaves_slice (.tmp 51) (.tmp 54) 25 rfl ?_ ⟨rfl, by simpa using hS, Below.refl _ _⟩)
            rw [h51, h54, run_sliceAt_slice W 25 _ _ _ _ (by kernel_rfl)]
            exact HSX.out W
          · exact step_plain rfl (leaves_move (.tmp 10) rfl ⟨hs.1, by simpa using hS, Below.refl _ _⟩)
          · have h56 : ρ (.tmp 56) = .pointer (some ⟨gOf D k, 0, none⟩) := hs.1
            refine step_plain rfl (leaves_value (v := .pointer (some ⟨gOf D k, 0, none⟩)) (w' := W) ?_ ⟨rfl, by simpa using hS, Below.refl _ _⟩)
            simp [go_sem, h56]
          · exact step_plain rfl (leaves_move (.tmp 9) rfl ⟨hs.1, by simpa using hS, Below.refl _ _⟩)
          · have h58 : ρ (.tmp 58) = .int .i64 t := hs.1
            refine step_plain rfl (leaves_value (v := .int .i64 r) (w' := W) ?_ ⟨rfl, by simpa using hS, Below.refl _ _⟩)
            have hw : (t : Int) % 64 = (r : Int) := by have := HR.out; omega
            simp [go_sem, h58, hr.const]
            rw [Int.tmod_eq_emod_of_nonneg (by omega), hw]
          · have h57 : ρ (.tmp 57) = .pointer (some ⟨gOf D k, 0, none⟩) := hs.1
            have h59 : ρ (.tmp 59) = .int .i64 r := hs.2.1
            refine step_plain rfl (leaves_slice (.tmp 57) (.tmp 59) 63 rfl ?_ ⟨rfl, by simpa using hS, Below.refl _ _⟩)
            rw [h57, h59]
            exact slice_arr (gOf D k) r hrl W
          · obtain rfl : f = true := hf (by kernel_rfl)
            obtain ⟨hS1, _, hS3, hS4⟩ := hS
            have h55 : ρ (.tmp 55) = .slice (some ⟨w2.heap.size, 0 + (t - o), none⟩) (m - (t - o)) (m - (t - o)) := hs.1
            have h60 : ρ (.tmp 60) = .slice (some ⟨gOf D k, r, none⟩) (64 - r) (64 - r) := hs.2.1
            obtain ⟨w5, hcp, hbut, hB5⟩ := copy_into elemByte (hS1 rfl) (0 + (t - o)) (m - (t - o)) (m - (t - o)) (64 - r) (64 - r) ⟨gOf D k, r, none⟩ (bytesV (((blkB C k).drop r).take n0)) (by simp [blkB_len]; have := HMin.out; omega) (by simp [outR_len]; omega) (fun j v hj => by
              have hjn : j < n0 := by have := (List.getElem?_eq_some_iff.1 hj).1; simp [blkB_len] at this; omega
              have e : (⟨gOf D k, r, none⟩ : Addr).add j = ⟨gOf D k, r + j, none⟩ := by unfold Addr.add; split <;> simp_all
              rw [e]
              refine hS3.cell (r + j) ?_
              rw [← hj]
              simp [List.getElem?_take_of_lt hjn]) (one_bytes _)
            have hB6 : Blk w5 w2.heap.size 5 (bytesV (outR C o m ((k + 1) * 64))) := by
              rw [outR_some HK.out HR.out hot (by omega) HMin.out]
              have hll : (bytesV (((blkB C k).drop r).take n0)).length = n0 := by simp [blkB_len]; omega
              rw [hll, Nat.zero_add] at hB5
              simpa [bytesV, List.map_take, List.map_drop] using hB5
            refine step_plain rfl (leaves_copy (v := _) (w' := w5) (.tmp 55) (.tmp 60) 25 25 rfl (by rw [h55, h60]; exact hcp _) ⟨trivial, ⟨(fun e => by cases e), fun _ => hB6, hS3.but hbut hne, below_but hS4 hbut (Nat.le_refl _)⟩, hbut⟩)
        case en =>
          intro f W hf hS v0 h0 v1 h1 v2 h2 v3 h3 v4 h4 v5 h5 v6 h6 v7 h7 v8 h8 v9 h9 v10 h10
          obtain rfl : f = false := hf (by decide)
          have HB2 : Hid (Blk W w2.heap.size 5 (bytesV (outR C o m ((k + 1) * 64))) ∧ Below w2.heap.size w2 W) := ⟨hS.2.1 rfl, hS.2.2.2⟩
          clear h0 h1 h2 h3 h4 h5 h6 h7 h8 h9 h10 hf hS
          simp only [ends, Act.put, List.setIfInBounds_toArray, List.set_cons_succ, List.set_cons_zero]
          go_wp2_with fail
          refine (hca _).mono ?_
          rintro e w4 ⟨rfl, rfl⟩
          go_wp2
          go_roundw
          case rel => exact ⟨(k + 1) * 64, rfl, ⟨by have := HT.out; omega, by omega⟩, HB2⟩
          case measure => simp [intOf]; omega
    · have hltz : ¬ (t : Int) < (o : Int) + (m : Int) := by omega
      go_wp2
      go_ret
      have hB1 := HB.out.1
      rw [outR_end (C := C) (by omega : o + m ≤ t), HRR.out] at hB1
      exact ⟨rfl, hB1, HB.out.2⟩

theorem read_any (v : Value) (sz : Nat) (C : Nat → UInt8) (h : Nat → Bool) (off n : Int) (w : World) (f : Hs w v sz C h) (hsz : sz ≤ 65536) :
    Calls Try.prog 11 #[v, .int .i64 off, .int .i64 n] w fun e w' => ∃ p c, e = .returned (.slice p (readF sz C off n).length c) ∧ AtF w.heap.size w' p (bytesV (readF sz C off n)) ∧ (readF sz C off n).length ≤ c ∧ Below w.heap.size w w' := by
  by_cases hb : off < 0 ∨ n < 0 ∨ (sz : Int) ≤ off
  · refine (read_none v sz C h off n w f hb).mono ?_
    rintro e w' ⟨rfl, rfl⟩
    have e : readF sz C off n = [] := if_pos hb
    rw [e]
    exact ⟨none, 0, rfl, .nil _ _ _, Nat.le_refl _, Below.refl _ _⟩
  · rcases f with ⟨_, rfl, _⟩ | ⟨fb, F, rfl, f⟩
    · omega
    · have hr := read_in fb sz off.toNat (min n ((sz : Int) - off)).toNat F C h n w f hsz (by omega) (by omega) (by omega)
      rw [show ((off.toNat : Nat) : Int) = off by omega] at hr
      refine hr.mono ?_
      rintro e w' ⟨rfl, hB, hb2⟩
      have e : readF sz C off n = (List.range (min n ((sz : Int) - off)).toNat).map fun i => C (off.toNat + i) := if_neg hb
      rw [e]
      refine ⟨_, _, by rw [List.length_map, List.length_range], .inr ⟨w.heap.size, 0, rfl, Nat.le_refl _, hB.lt, fun j v hj => ?_⟩, by simp, hb2⟩
      rw [Nat.zero_add]
      exact hB.cell j hj

end Go.Proofs.Ytigkelcmiknfjaa
