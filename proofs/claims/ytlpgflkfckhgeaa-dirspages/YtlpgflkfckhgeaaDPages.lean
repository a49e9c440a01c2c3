/- DirsPages: whatever acts, any part of the names. -/
import Derived.Test.YtlpgflkfckhgeaaDBoth
namespace Go.Proofs.Ytlpgflkfckhgeaa
open Go Go.RowKit

set_option maxRecDepth 100000 in
set_option maxHeartbeats 4000000 in
theorem pages_walk5 (pa : Option Addr) (ca : Nat) (l : List ActV) (fr n : Int) (w : World) (_hca : l.length ≤ ca) (_hla : l.length ≤ 9223372036854775807) (hat : At w pa (actsV l)) (hok : ∀ x ∈ l, x.nm.size ≤ 9223372036854775807) (hfr : fr ≤ 9223372036854775807) :
    Calls Try.prog 4 #[.slice pa l.length ca, .int .i64 fr, .int .i64 n] w fun e w' => e = .returned (.bool true) ∧ Below w.heap.size w w' := by
  have cN := new_any w
  have HI : Hid (BothE w (.slice (some ⟨w.heap.size + 1, 0, none⟩) 0 0) ((w.alloc (.cells #[.slice none 0 0] 54)).alloc (.cells #[] 63))) := both_start w
  have HAT : Hid (∀ wr, Below w.heap.size w wr → At wr pa (actsV l)) := fun wr hb => hat.on hb
  have HOK : Hid (∀ x ∈ l, x.nm.size ≤ 9223372036854775807) := hok
  have HFR : Hid (fr ≤ 9223372036854775807) := hfr
  clear hat hok
  go_enter Try.func4, Try.ntmps4
  go_wp2_with fail
  refine cN.mono ?_
  rintro e w1 ⟨rfl, hw1⟩
  subst hw1
  go_wp2
  go_loopw [8, 9] (fun o i wr => ∃ k : Nat, k ≤ l.length ∧ k ≤ 100 ∧ i = .int .i64 (k : Int) ∧ Hid (BothE w o wr)) (fun _ i _ => 100 - (intOf i).toNat)
  case atStart => exact ⟨0, Nat.zero_le _, by omega, rfl, HI⟩
  case round =>
    clear HI cN
    obtain ⟨k, hk, hk100, rfl, HI⟩ := hrel
    obtain ⟨S, L, hBoth⟩ := HI.out
    have HBT : Hid (Both w S L u8 wr) := hBoth
    clear hBoth HI
    by_cases hlt : k < l.length ∧ k < 100
    · have hltz : (k : Int) < (l.length : Int) := by omega
      have hkz : (k : Int) < 100 := by omega
      have hkl : k < l.length := hlt.1
      obtain ⟨b, off, rfl, _, _, hc⟩ := (HAT.out wr HBT.out.below).place (k := k * 3) (by rw [actsV_len]; omega)
      have x0 := hc (k * 3 + 0) (.int .i64 l[k].k) (by rw [actsV_get l k hkl 0 (by decide)]; rfl)
      have x1 := hc (k * 3 + 1) (.string l[k].nm) (by rw [actsV_get l k hkl 1 (by decide)]; rfl)
      have x2 := hc (k * 3 + 2) (.int .i64 l[k].ino) (by rw [actsV_get l k hkl 2 (by decide)]; rfl)
      rw [Nat.add_zero] at x0
      rw [← Nat.add_assoc] at x1 x2
      have cD := does_any w.heap.size w.heap.size S L u8 l[k].k l[k].nm l[k].ino wr HBT.out.below.size HBT.out.rel HBT.out.dir HBT.out.row (HOK.out _ (List.getElem_mem hkl))
      generalize l[k].k = kd at *
      generalize l[k].nm = anm at *
      generalize l[k].ino = aino at *
      clear hc
      go_wp2_with fail
      refine cD.mono ?_
      rintro e w3 ⟨v3, S3, L3, rfl, ⟨vd, hd3⟩, hrow3, hrel3, ht3⟩
      have hB3 := ht3.below HBT.out.below (Nat.le_refl _) HBT.out.below.size
      obtain ⟨p3, cap3, rfl⟩ := row_slice hrow3
      have HBT3 : Hid (BothE w (.slice p3 L3.length cap3) w3) := ⟨S3, L3, ⟨vd, hd3⟩, hrow3, hrel3, hB3⟩
      clear cD hd3 hrow3 hrel3 ht3 hB3
      go_wp2
      go_roundw
      case rel => exact ⟨k + 1, by omega, by omega, by go_num, HBT3⟩
      case measure => simp [intOf]; omega
    · obtain ⟨vd, hd⟩ := HBT.out.dir
      have hrel := HBT.out.rel
      have hrow := HBT.out.row
      have hB := HBT.out.below
      have hS := hrel.few'
      by_cases hkl : k < l.length
      · have hltz : (k : Int) < (l.length : Int) := by omega
        obtain rfl : k = 100 := by omega
        have cF := page_any w.heap.size w.heap.size vd S fr n wr (by omega) hd
        have HX : Hid (∀ w2, Below wr.heap.size wr w2 → Calls Try.prog 17 #[u8, .int .i64 fr, .int .i64 n] w2 (RetNames w2 (pageL S fr n))) := fun w2 hb => rpage_any u8 S L fr n w2 hrel (rowS_on hrow hb) HFR.out
        have HB : Hid (Below w.heap.size w wr) := hB
        have HNL : Hid ((pageL S fr n).length ≤ 9223372036854775807) := by
          show (pageL S fr n).length ≤ _
          unfold pageL
          split
          · simp
          · rw [List.length_take, List.length_drop, names_len]; omega
        generalize pageL S fr n = M at *
        clear hd hrow hrel HBT hB
        go_wp2_with fail
        refine cF.mono ?_
        rintro e w4 ⟨p4, c4, rfl, hat4, hb4⟩
        have cM2 := HX.out w4 hb4
        clear cF
        go_wp2_with fail
        refine cM2.mono ?_
        rintro e w5 ⟨p5, c5, rfl, hat5, hb5⟩
        have cT := names_two p4 p5 c4 c5 M w5 HNL.out (hat4.at.on hb5) hat5.at
        have HB5 : Hid (Below w.heap.size w w5) := HB.out.trans ((on_trans hb4 hb5).mono HB.out.size)
        clear cM2 hat4 hat5 hb4 hb5
        go_wp2_with fail
        refine cT.mono ?_
        rintro e w6 ⟨rfl, hb6⟩
        go_wp2_with fail
        refine (lives_any w6).mono ?_
        rintro e w7 ⟨rfl, hb7⟩
        have HB7 : Hid (Below w.heap.size w w7) := HB5.out.trans ((on_trans hb6 hb7).mono HB5.out.size)
        go_wp2
        go_ret
        exact ⟨rfl, HB7.out⟩
      · obtain rfl : k = l.length := by omega
        have hltz : ¬ (l.length : Int) < (l.length : Int) := by omega
        have cF := page_any w.heap.size w.heap.size vd S fr n wr (by omega) hd
        have HX : Hid (∀ w2, Below wr.heap.size wr w2 → Calls Try.prog 17 #[u8, .int .i64 fr, .int .i64 n] w2 (RetNames w2 (pageL S fr n))) := fun w2 hb => rpage_any u8 S L fr n w2 hrel (rowS_on hrow hb) HFR.out
        have HB : Hid (Below w.heap.size w wr) := hB
        have HNL : Hid ((pageL S fr n).length ≤ 9223372036854775807) := by
          show (pageL S fr n).length ≤ _
          unfold pageL
          split
          · simp
          · rw [List.length_take, List.length_drop, names_len]; omega
        generalize pageL S fr n = M at *
        clear hd hrow hrel HBT hB
        go_wp2_with fail
        refine cF.mono ?_
        rintro e w4 ⟨p4, c4, rfl, hat4, hb4⟩
        have cM2 := HX.out w4 hb4
        clear cF
        go_wp2_with fail
        refine cM2.mono ?_
        rintro e w5 ⟨p5, c5, rfl, hat5, hb5⟩
        have cT := names_two p4 p5 c4 c5 M w5 HNL.out (hat4.at.on hb5) hat5.at
        have HB5 : Hid (Below w.heap.size w w5) := HB.out.trans ((on_trans hb4 hb5).mono HB.out.size)
        clear cM2 hat4 hat5 hb4 hb5
        go_wp2_with fail
        refine cT.mono ?_
        rintro e w6 ⟨rfl, hb6⟩
        go_wp2_with fail
        refine (lives_any w6).mono ?_
        rintro e w7 ⟨rfl, hb7⟩
        have HB7 : Hid (Below w.heap.size w w7) := HB5.out.trans ((on_trans hb6 hb7).mono HB5.out.size)
        go_wp2
        go_ret
        exact ⟨rfl, HB7.out⟩

end Go.Proofs.Ytlpgflkfckhgeaa
