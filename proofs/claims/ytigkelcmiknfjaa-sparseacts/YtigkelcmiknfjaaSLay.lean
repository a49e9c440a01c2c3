/- Package sparse: lay. -/
import Derived.Test.YtigkelcmiknfjaaSBlock
import Derived.Test.YtigkelcmiknfjaaGCopy
import Derived.Test.YtigkelcmiknfjaaSOwn
namespace Go.Proofs.Ytigkelcmiknfjaa
open Go Go.RowKit Go.Maps

/-- Bytes laid from a place on; the blocks that they lie in. -/
def putC (C : Nat → UInt8) (o : Nat) (L : List UInt8) (d : Nat) : Nat → UInt8 := fun i => if o ≤ i ∧ i < o + d then L.getD (i - o) 0 else C i
def layH (h : Nat → Bool) (o d : Nat) : Nat → Bool := fun k => h k || decide (0 < d ∧ o / 64 ≤ k ∧ 64 * k < o + d)
theorem putC_zero (C : Nat → UInt8) (o : Nat) (L : List UInt8) : putC C o L 0 = C := by
  funext i
  simp [putC]; omega
theorem layH_zero (h : Nat → Bool) (o : Nat) : layH h o 0 = h := by
  funext k
  simp [layH]
section
variable {C : Nat → UInt8} {h : Nat → Bool} {o d n k r : Nat} {L : List UInt8}
theorem layH_step (hk : (o + d) / 64 = k) (hn : 0 < n) (hr : o + d + n ≤ 64 * k + 64) : upd (layH h o d) k true = layH h o (d + n) := by
  funext j
  by_cases e : j = k
  · subst e
    rw [upd_same]
    simp only [layH]
    rw [decide_eq_true (by omega)]
    simp
  · rw [upd_other true e]
    simp only [layH]
    congr 1
    rw [decide_eq_decide]
    omega
theorem putC_other (hk : (o + d) / 64 = k) (hr : o + d + n ≤ 64 * k + 64) {i : Nat} (hi : i / 64 ≠ k) : putC C o L (d + n) i = putC C o L d i := by
  simp only [putC]
  by_cases h1 : o ≤ i ∧ i < o + d
  · rw [if_pos h1, if_pos (by omega)]
  · rw [if_neg h1, if_neg (by omega)]
theorem putC_blk (hk : (o + d) / 64 = k) (hm : (o + d) % 64 = r) (hr : r + n ≤ 64) (hL : d + n ≤ L.length) :
    blkB (putC C o L (d + n)) k = (blkB (putC C o L d) k).take r ++ (L.drop d).take n ++ (blkB (putC C o L d) k).drop (r + n) := by
  have hl1 : ((blkB (putC C o L d) k).take r).length = r := by rw [List.length_take, blkB_len]; omega
  have hl2 : ((L.drop d).take n).length = n := by simp; omega
  refine List.ext_getElem? fun j => ?_
  by_cases hj : j < 64
  · rw [blkB_get hj, List.append_assoc]
    by_cases h1 : j < r
    · rw [List.getElem?_append_left (by omega), List.getElem?_take_of_lt h1, blkB_get hj]
      simp only [putC]
      congr 1
      by_cases h2 : o ≤ 64 * k + j ∧ 64 * k + j < o + d
      · rw [if_pos h2, if_pos (by omega)]
      · rw [if_neg h2, if_neg (by omega)]
    · rw [List.getElem?_append_right (by omega), hl1]
      by_cases h2 : j - r < n
      · rw [List.getElem?_append_left (by omega), List.getElem?_take_of_lt h2, List.getElem?_drop]
        simp only [putC]
        rw [if_pos (by omega), List.getD_eq_getElem?_getD, show 64 * k + j - o = d + (j - r) by omega, List.getElem?_eq_getElem (by omega)]
        rfl
      · rw [List.getElem?_append_right (by omega), hl2, List.getElem?_drop, show r + n + (j - r - n) = j by omega, blkB_get hj]
        simp only [putC]
        rw [if_neg (by omega), if_neg (by omega)]
  · rw [List.getElem?_eq_none (by rw [blkB_len]; omega), List.getElem?_eq_none]
    simp [blkB_len]; omega
end

theorem goes_wrote {w w' : World} {fb k : Nat} {mv : Value} {D : DataW Nat} {h : Nat → Bool} (hk : h k = true) (hb : But (gOf D k) w w') : Goes (foot fb mv D h) (foot fb mv D h) w w' :=
  ⟨.of_but hb (.inr (.inr ⟨k, hk, rfl⟩)), fun _ h => .inl h⟩
/-- What is copied into a block. -/
theorem FileM.copied {w : World} {fb sz k r d n o sb so m sc : Nat} {mv : Value} {D : DataW Nat} {C : Nat → UInt8} {h : Nat → Bool} {L : List UInt8} (f : FileM w fb mv D sz (putC C o L d) h) (hk : (o + d) / 64 = k) (hm : (o + d) % 64 = r) (hh : h k = true) (hn : n = Nat.min m (64 - r)) (hL : d + m = L.length)
    (hsrc : ∀ (j : Nat) v, (bytesV L)[j]? = some v → w.cell? ⟨sb, so + j, none⟩ = some v) (dCap : Nat) :
    ∃ w', (∀ ty, (Builtin.copy_ #[25, 25] ty #[.slice (some ⟨gOf D k, r, none⟩) (64 - r) dCap, .slice (some ⟨sb, so + d, none⟩) m sc]).run Try.prog w = .ok (.int .i64 (n : Nat)) w') ∧ FileM w' fb mv D sz (putC C o L (d + n)) h ∧ Goes (foot fb mv D h) (foot fb mv D h) w w' := by
  have hle1 : n ≤ m := by rw [hn]; exact Nat.min_le_left _ _
  have hle2 : n ≤ 64 - r := by rw [hn]; exact Nat.min_le_right _ _
  have hbl := f.blk k hh
  have hll : (bytesV ((L.drop d).take n)).length = n := by simp; omega
  obtain ⟨w', h1, h2, h3⟩ := copy_into elemByte hbl r (64 - r) dCap m sc ⟨sb, so + d, none⟩ (bytesV ((L.drop d).take n)) (by rw [hll, hn]) (by simp [blkB_len]; omega) (fun j v hj => by
      have hjn : j < n := by have := (List.getElem?_eq_some_iff.1 hj).1; omega
      have e : (⟨sb, so + d, none⟩ : Addr).add j = ⟨sb, so + (d + j), none⟩ := by unfold Addr.add; split <;> simp_all; omega
      rw [e]
      refine hsrc (d + j) v ?_
      rw [← hj]
      simp [List.getElem?_take_of_lt hjn]) (one_bytes _)
  rw [hll] at h1 h3
  refine ⟨w', h1, f.wrote hh h2 ?_ fun i hi => putC_other hk (by omega) hi, goes_wrote hh h2⟩
  rw [putC_blk hk hm (by omega) (by omega)]
  have e : bytesV (List.take r (blkB (putC C o L d) k) ++ List.take n (List.drop d L) ++ List.drop (r + n) (blkB (putC C o L d) k)) = (bytesV (blkB (putC C o L d) k)).take r ++ bytesV ((L.drop d).take n) ++ (bytesV (blkB (putC C o L d) k)).drop (r + n) := by
    simp [bytesV, List.map_take, List.map_drop]
  rw [e]
  exact h3

/-- What is not the file's stays. -/
theorem Goes.cell {F F' : Nat → Prop} {w w' : World} (h : Goes F F' w w') {a : Addr} (h1 : a.block < w.heap.size) (h2 : ¬ F a.block) : w'.cell? a = w.cell? a := by
  simp only [World.cell?, h.foot.block _ h1 h2]

set_option maxRecDepth 100000 in
set_option maxHeartbeats 1000000 in
theorem lay_any (fb sb so c sz o : Nat) (F : Nat → Prop) (C : Nat → UInt8) (h : Nat → Bool) (L : List UInt8) (w : World) (f : FileAt w fb F sz C h) (hsb : sb < w.heap.size) (hnF : ¬ F sb)
    (hsrc : ∀ (j : Nat) v, (bytesV L)[j]? = some v → w.cell? ⟨sb, so + j, none⟩ = some v) (hoL : o + L.length ≤ 65536) (hc : L.length ≤ c) :
    Calls Try.prog 27 #[.pointer (some ⟨fb, 0, none⟩), .int .i64 o, .slice (some ⟨sb, so, none⟩) L.length c] w fun e w' => e = .returned (.tuple #[]) ∧ ∃ F', FileAt w' fb F' sz (putC C o L L.length) (layH h o L.length) ∧ Goes F F' w w' := by
  have HS : Hid (∀ w' F', Goes F F' w w' → ¬ F' sb ∧ sb < w'.heap.size ∧ ∀ (j : Nat) v, (bytesV L)[j]? = some v → w'.cell? ⟨sb, so + j, none⟩ = some v) := fun w' F' hg => by
    refine ⟨fun e => ?_, Nat.lt_of_lt_of_le hsb hg.foot.size, fun j v hj => (hg.cell (a := ⟨sb, so + j, none⟩) hsb hnF).trans (hsrc j v hj)⟩
    rcases hg.new sb e with h1 | h1
    · exact hnF h1
    · omega
  have HF : Hid (FileAt w fb F sz C h) := f
  clear f hsrc hnF
  generalize hN : L.length = N at *
  have HN : Hid (L.length = N) := hN
  clear hN
  go_enter Try.func27, Try.ntmps27
  go_wp2
  go_loopw [1, 2] (fun ov bv wr => ∃ (d x : Nat) (F' : Nat → Prop), d ≤ N ∧ ov = .int .i64 (o + d : Nat) ∧ bv = .slice (some ⟨sb, x, none⟩) (N - d) (c - d) ∧ Hid (d < N → x = so + d) ∧ Hid (FileAt wr fb F' sz (putC C o L d) (layH h o d) ∧ Goes F F' w wr)) (fun _ bv _ => match bv with | .slice _ n _ => n | _ => 0)
  case atStart => exact ⟨0, so, F, Nat.zero_le _, by simp, by simp, fun _ => rfl, by rw [putC_zero, layH_zero]; exact HF.out, .refl _ _⟩
  case round =>
    clear HF
    obtain ⟨d, x, F', hd, rfl, rfl, HX, HI⟩ := hrel
    by_cases hlt : d < N
    · have hz : (0 : Int) < ((N - d : Nat) : Int) := by omega
      obtain rfl := HX.out hlt
      clear HX
      obtain ⟨k, HK⟩ : ∃ k, Hid ((o + d) / 64 = k) := ⟨_, rfl⟩
      obtain ⟨r, HR⟩ : ∃ r, Hid ((o + d) % 64 = r) := ⟨_, rfl⟩
      obtain ⟨n, HMin⟩ : ∃ n, Hid (n = Nat.min (N - d) (64 - r)) := ⟨_, rfl⟩
      obtain ⟨⟨mv, D, fm, rfl⟩, hg⟩ := HI.out
      have hkl : k < 1024 := by have := HK.out; omega
      have hrl : r < 64 := by have := HR.out; omega
      have hcall := block_any fb sz k mv D _ _ wr hkl fm
      have hkz : ((o + d : Nat) : Int) / 64 = (k : Int) := by have := HK.out; omega
      have hrz : ((o + d : Nat) : Int) % 64 = (r : Int) := by have := HR.out; omega
      have hsl := fun g w => slice_arr g r hrl w
      have hnd : n ≤ N - d := by rw [HMin.out]; exact Nat.min_le_left _ _
      have hn6 : n ≤ 64 - r := by rw [HMin.out]; exact Nat.min_le_right _ _
      have hn0 : 0 < n := by rw [HMin.out]; exact Nat.lt_min.2 ⟨by omega, by omega⟩
      obtain ⟨x', hsx, HX⟩ : ∃ x', _ ∧ Hid (n < c - d → x' = so + d + n) := slice_from elemByte sb (so + d) (N - d) (c - d) n hnd
      have HG : Hid _ := hg
      clear fm HI hg
      obtain ⟨od, HOD⟩ : ∃ od, Hid (o + d = od) := ⟨_, rfl⟩
      have hod : o + d = od := HOD.out
      have hol : od ≤ 65536 := by omega
      rw [hod] at hkz hrz ⊢
      clear hod
      go_wp2_with fail
      refine hcall.mono ?_
      rintro e w2 ⟨mv', D', rfl, fm, hg2⟩
      have HG2 : Hid _ := HG.out.trans hg2
      obtain ⟨w3, hcp, fm2, hg3⟩ := fm.copied (n := n) (m := N - d) (sc := c - d) HK.out HR.out (upd_same _ _ _) HMin.out (by have := HN.out; omega) (HS.out w2 _ HG2.out).2.2 (64 - r)
      have HF3 : Hid (∃ F', FileAt w3 fb F' sz (putC C o L (d + n)) (layH h o (d + n)) ∧ Goes F F' w w3) := by
        rw [layH_step HK.out hn0 (by have := HK.out; have := HR.out; omega)] at fm2 hg3 HG2
        exact ⟨_, ⟨_, _, fm2, rfl⟩, HG2.out.trans hg3⟩
      clear fm fm2 hg3 hg2 HG2 HG hcall
      go_wp2
      go_quiet (fail)
      go_wp2
      obtain ⟨F3, f3, g3⟩ := HF3.out
      refine ⟨⟨d + n, x', F3, by omega, ?_, ?_, ?_, f3.drewN nq, g3.drewN nq⟩, ?_⟩
      · have := HOD.out
        congr 1
        omega
      · rw [Nat.sub_sub, Nat.sub_sub]
      · exact fun h => by rw [HX.out (by omega)]; omega
      · show N - d - n < N - d
        omega
    · obtain rfl : d = N := by omega
      have hz : ¬ (0 : Int) < ((d - d : Nat) : Int) := by omega
      go_wp2
      go_end0
      obtain ⟨h1, h2⟩ := HI.out
      exact ⟨rfl, F', h1, h2⟩

end Go.Proofs.Ytigkelcmiknfjaa
