/- DirsFull: sixty four entries at most, whatever their names. -/
import Derived.Test.YtlpgflkfckhgeaaDLives
import Derived.Laws.BytesArg
namespace Go.Proofs.Ytlpgflkfckhgeaa
open Go Go.RowKit

/-- The name of a number. -/
def tlF (k : Nat) : ByteArray := strOfNums [97 + (k : Int) / 26, 97 + (k : Int) % 26]
def nmF (s : ByteArray) (k : Nat) : ByteArray := s ++ ⟨#[45]⟩ ++ tlF k
theorem nmF_list (s : ByteArray) (k : Nat) : (nmF s k).data.toList = s.data.toList ++ [45] ++ [UInt8.ofNat (97 + (k : Int) / 26).toNat, UInt8.ofNat (97 + (k : Int) % 26).toNat] := by
  unfold nmF tlF
  rw [ByteArray.data_append, ByteArray.data_append, Array.toList_append, Array.toList_append, strOfNums_data]
  rfl
theorem nmF_size (s : ByteArray) (k : Nat) : (nmF s k).size = s.size + 3 := by
  rw [← size_list, nmF_list]
  simp
theorem nmF_inj {s : ByteArray} {j k : Nat} (hj : j < 256) (hk : k < 256) (h : nmF s j = nmF s k) : j = k := by
  have h1 : (nmF s j).data.toList = (nmF s k).data.toList := by rw [h]
  rw [nmF_list, nmF_list] at h1
  have h2 := List.append_cancel_left h1
  simp only [List.cons.injEq, and_true] at h2
  have e1 := congrArg UInt8.toNat h2.1
  have e2 := congrArg UInt8.toNat h2.2
  rw [UInt8.toNat_ofNat_of_lt' (by show _ < 256; omega), UInt8.toNat_ofNat_of_lt' (by show _ < 256; omega)] at e1 e2
  omega
theorem name_parts {s : ByteArray} (h : nameE s = 0) : s.size ≠ 0 ∧ badB s = false := by
  unfold nameE at h
  split at h
  · cases h
  · split at h
    · cases h
    · split at h
      · cases h
      · rename_i h1 _ h3
        simp only [Bool.or_eq_true, not_or, Bool.not_eq_true] at h3
        exact ⟨h1, h3.2⟩
theorem nmF_ok {s : ByteArray} (h : nameE s = 0) (hs : s.size ≤ 20) {k : Nat} (hk : k < 256) : nameE (nmF s k) = 0 := by
  obtain ⟨h0, hb⟩ := name_parts h
  have hz := nmF_size s k
  have hl : (nmF s k).toList.length = s.size + 3 := by rw [ByteArray.toList_eq, size_list, hz]
  have e1 : ((nmF s k).toList == [46]) = false := beq_eq_false_iff_ne.2 fun e => by rw [e] at hl; simp at hl
  have e2 : ((nmF s k).toList == [46, 46]) = false := beq_eq_false_iff_ne.2 fun e => by rw [e] at hl; simp at hl
  have e3 : badB (nmF s k) = false := by
    unfold badB at hb ⊢
    rw [nmF_list, List.any_append, List.any_append, hb]
    have f1 : ∀ n : Nat, 97 ≤ n → n < 256 → badC (UInt8.ofNat n) = false := fun n h1 h2 => by
      unfold badC
      have : (UInt8.ofNat n).toNat = n := UInt8.toNat_ofNat_of_lt' h2
      rw [Bool.or_eq_false_iff, beq_eq_false_iff_ne, beq_eq_false_iff_ne]
      constructor
      · intro e; rw [e] at this; simp at this; omega
      · intro e; rw [e] at this; simp at this; omega
    simp only [List.any_cons, List.any_nil, f1 (97 + (k : Int) / 26).toNat (by omega) (by omega), f1 (97 + (k : Int) % 26).toNat (by omega) (by omega)]
    decide
  unfold nameE
  rw [if_neg (by omega), if_neg (by omega), e1, e2, e3]
  rfl
/-- What there is behind k entries. -/
def lF (s : ByteArray) (k : Nat) : List Ent := (List.range k).map fun j => (nmF s j, (j : Int) + 1)
theorem lF_len (s : ByteArray) (k : Nat) : (lF s k).length = k := by simp [lF]
theorem lF_none {s : ByteArray} {k m : Nat} (hk : k < 256) (hm : m ≤ k) : has (nmF s k) (lF s m) = false := by
  refine List.any_eq_false.2 fun x hx hs => ?_
  obtain ⟨j, hj, rfl⟩ := List.mem_map.1 hx
  have := nmF_inj (by have := List.mem_range.1 hj; omega) hk (same_iff.1 hs)
  have := List.mem_range.1 hj
  omega
theorem addF {s : ByteArray} (h : nameE s = 0) (hs : s.size ≤ 20) {k : Nat} (hk : k < 256) : rAddE (nmF s k) ((k : Int) + 1) (lF s (min k 64)) = (if 64 ≤ k then 28 else 0) ∧ rAdd (nmF s k) ((k : Int) + 1) (lF s (min k 64)) = lF s (min (k + 1) 64) := by
  have e : rAddE (nmF s k) ((k : Int) + 1) (lF s (min k 64)) = if 64 ≤ k then 28 else 0 := by
    unfold rAddE
    rw [nmF_ok h hs hk, if_neg (by simp), if_neg (by omega), find_none (lF_none hk (Nat.min_le_left _ _)), if_neg (by decide), lF_len]
    by_cases h64 : 64 ≤ k
    · rw [if_pos h64, if_pos (by omega)]
    · rw [if_neg h64, if_neg (by omega)]
  refine ⟨e, ?_⟩
  unfold rAdd
  rw [e]
  by_cases h64 : 64 ≤ k
  · rw [if_pos h64, if_neg (by decide), Nat.min_eq_right h64, Nat.min_eq_right (by omega)]
  · rw [if_neg h64, if_pos rfl, Nat.min_eq_left (by omega), Nat.min_eq_left (by omega)]
    unfold lF
    rw [List.range_succ, List.map_append]
    rfl
/-- The directory, behind k entries. -/
def FullS (w : World) (s : ByteArray) (k : Nat) (wr : World) : Prop := ∃ S, Dir w.heap.size wr w.heap.size S ∧ Rel S (lF s (min k 64)) ∧ Below w.heap.size w wr
theorem full_step {w wr : World} {s : ByteArray} {k : Nat} (h : nameE s = 0) (hs : s.size ≤ 20) (hk : k < 256) (hf : FullS w s k wr) (w2 : World) (hb : Below wr.heap.size wr w2) :
    Calls Try.prog 19 #[.pointer (some ⟨w.heap.size, 0, none⟩), .string (nmF s k), .int .i64 ((k : Int) + 1)] w2 fun e w' => e = .returned (.int .i64 (if 64 ≤ k then 28 else 0)) ∧ FullS w s (k + 1) w' := by
  obtain ⟨S, ⟨v, hd⟩, hR, hB⟩ := hf
  have hB2 : Below w.heap.size w w2 := hB.trans (hb.mono hB.size)
  obtain ⟨h1, h2⟩ := addF h hs hk
  refine (add_any w.heap.size w.heap.size v S (nmF s k) ((k : Int) + 1) w2 (by rw [nmF_size]; omega) hR.few' hR.sorted hB2.size (hd.on hb)).mono ?_
  rintro e w' ⟨rfl, hd', ht⟩
  have hR' := hR.add (nm := nmF s k) (ino := (k : Int) + 1)
  rw [h2] at hR'
  exact ⟨by rw [hR.addE, h1], _, hd', hR', ht.below hB2 (Nat.le_refl _) hB2.size⟩

set_option maxRecDepth 100000 in
set_option maxHeartbeats 4000000 in
theorem full_walk (s : ByteArray) (many : Int) (w : World) (hs : s.size ≤ 9223372036854775807) (hm0 : 0 ≤ many) (hm1 : many ≤ 255) :
    Calls Try.prog 5 #[.string s, .int .u8 many] w fun e w' => e = .returned (.bool true) ∧ Below w.heap.size w w' := by
  have cN := new_any w
  have hb0 := on_alloc w (.cells #[.slice none 0 0] 54)
  have HB0 : Hid (Below w.heap.size w (w.alloc (.cells #[.slice none 0 0] 54))) := hb0
  by_cases h20 : 20 < s.size
  · have hc : (20 : Int) < (s.size : Int) := by omega
    clear hb0
    go_enter Try.func5, Try.ntmps5
    go_wp2_with fail
    refine cN.mono ?_
    rintro e w1 ⟨rfl, hw1⟩
    subst hw1
    go_wp2_with fail
    refine (lives_any _).mono ?_
    rintro e w2 ⟨rfl, hb2⟩
    go_wp2
    go_ret
    exact ⟨rfl, on_trans HB0.out hb2⟩
  have hc : ¬ (20 : Int) < (s.size : Int) := by omega
  have cR := fun W => refName_any s W (by omega)
  by_cases hne : nameE s ≠ 0
  · generalize nameE s = ne at *
    have hq : (ne != 0) = true := by simpa using hne
    clear hb0 hne
    go_enter Try.func5, Try.ntmps5
    go_wp2_with fail
    refine cN.mono ?_
    rintro e w1 ⟨rfl, hw1⟩
    subst hw1
    go_wp2_with fail
    refine (cR _).mono ?_
    rintro e w1 ⟨rfl, hw1⟩
    subst hw1
    go_wp2_with fail
    refine (lives_any _).mono ?_
    rintro e w2 ⟨rfl, hb2⟩
    go_wp2
    go_ret
    exact ⟨rfl, on_trans HB0.out hb2⟩
  have h0 : nameE s = 0 := by omega
  rw [h0] at cR
  have hsz : s.size ≤ 20 := by omega
  have HI : Hid (FullS w s 0 (w.alloc (.cells #[.slice none 0 0] 54))) := ⟨[], ⟨_, new_dir w w.heap.size (Nat.le_refl _)⟩, Rel.nil, hb0⟩
  have HS : Hid (∀ k wr, k < 256 → FullS w s k wr → ∀ w2, Below wr.heap.size wr w2 → Calls Try.prog 19 #[.pointer (some ⟨w.heap.size, 0, none⟩), .string (nmF s k), .int .i64 ((k : Int) + 1)] w2 fun e w' => e = .returned (.int .i64 (if 64 ≤ k then 28 else 0)) ∧ FullS w s (k + 1) w') := fun k wr hk hf w2 hb => full_step h0 hsz hk hf w2 hb
  clear hb0 hne h0
  obtain ⟨m, rfl⟩ : ∃ m : Nat, many = (m : Int) := ⟨many.toNat, by omega⟩
  go_enter Try.func5, Try.ntmps5
  go_wp2_with fail
  refine cN.mono ?_
  rintro e w1 ⟨rfl, hw1⟩
  subst hw1
  go_wp2_with fail
  refine (cR _).mono ?_
  rintro e w1 ⟨rfl, hw1⟩
  subst hw1
  go_wp2
  go_loopw [6] (fun i wr => ∃ k : Nat, k ≤ m ∧ i = .int .i64 (k : Int) ∧ Hid (FullS w s k wr)) (fun i _ => m - (intOf i).toNat)
  case atStart => exact ⟨0, Nat.zero_le _, rfl, HI⟩
  case round =>
    clear HI cN cR
    obtain ⟨k, hk, rfl, HI⟩ := hrel
    by_cases hlt : k < m
    · have hltz : (k : Int) < (m : Int) := by omega
      have hb1 := on_alloc wr (.cells #[.int .u8 (97 + (k : Int) / 26), .int .u8 (97 + (k : Int) % 26)] 5)
      have cA := HS.out k wr (by omega) HI.out _ hb1
      have hblk := Blk.new wr 5 [.int .u8 (97 + (k : Int) / 26), .int .u8 (97 + (k : Int) % 26)]
      have hcv : (convert 46 9 (.slice (some ⟨wr.heap.size, 0, none⟩) 2 2)).run Try.prog (wr.alloc (.cells #[.int .u8 (97 + (k : Int) / 26), .int .u8 (97 + (k : Int) % 26)] 5)) = .ok (.string (tlF k)) (wr.alloc (.cells #[.int .u8 (97 + (k : Int) / 26), .int .u8 (97 + (k : Int) % 26)] 5)) :=
        run_convert_bytes_arg _ 46 5 Try.underlying46 Try.underlying5 wr.heap.size 0 2 2 [97 + (k : Int) / 26, 97 + (k : Int) % 26] rfl (fun i hi => by
          rw [Nat.zero_add]
          match i, hi with
          | 0, _ => exact hblk.cell 0 rfl
          | 1, _ => exact hblk.cell 1 rfl) 9 Try.underlying9
      have htl : (tlF k).size = 2 := by unfold tlF; rw [strOfNums_size]; rfl
      have h1s : (s ++ (⟨#[45]⟩ : ByteArray)).size = s.size + 1 := by rw [ByteArray.size_append]; rfl
      unfold nmF at cA
      clear hblk hb1
      generalize tlF k = tl at *
      by_cases h64 : 64 ≤ k
      · have hz1 : ¬ (k : Int) < 64 := by omega
        have hz2 : (63 : Int) < (k : Int) := by omega
        rw [if_pos h64] at cA
        go_wp2_with fail
        refine cA.mono ?_
        rintro e w3 ⟨rfl, hf3⟩
        have HI3 : Hid (FullS w s (k + 1) w3) := hf3
        clear cA hf3 hcv
        go_wp2
        go_roundw
        case rel => exact ⟨k + 1, by omega, by go_num, HI3⟩
        case measure => simp [intOf]; omega
      · have hz1 : (k : Int) < 64 := by omega
        have hz2 : ¬ (63 : Int) < (k : Int) := by omega
        rw [if_neg h64] at cA
        go_wp2_with fail
        refine cA.mono ?_
        rintro e w3 ⟨rfl, hf3⟩
        have HI3 : Hid (FullS w s (k + 1) w3) := hf3
        clear cA hf3 hcv
        go_wp2
        go_roundw
        case rel => exact ⟨k + 1, by omega, by go_num, HI3⟩
        case measure => simp [intOf]; omega
    · obtain rfl : k = m := by omega
      have hltz : ¬ (k : Int) < (k : Int) := by omega
      obtain ⟨S, ⟨v, hd⟩, hR, hB⟩ := HI.out
      have cL := len_any w.heap.size w.heap.size v S wr hd
      rw [hR.len, lF_len] at cL
      have HB : Hid (Below w.heap.size w wr) := hB
      clear hd hR hB HI HS
      by_cases h64 : 64 < k
      · have hz : (64 : Int) < (k : Int) := by omega
        rw [show min k 64 = 64 by omega] at cL
        go_wp2_with fail
        refine cL.mono ?_
        rintro e w3 ⟨rfl, hw3⟩
        subst hw3
        go_wp2_with fail
        refine (lives_any _).mono ?_
        rintro e w2 ⟨rfl, hb2⟩
        go_wp2
        go_ret
        exact ⟨rfl, HB.out.trans (hb2.mono HB.out.size)⟩
      · have hz : ¬ (64 : Int) < (k : Int) := by omega
        rw [show min k 64 = k by omega] at cL
        go_wp2_with fail
        refine cL.mono ?_
        rintro e w3 ⟨rfl, hw3⟩
        subst hw3
        go_wp2_with fail
        refine (lives_any _).mono ?_
        rintro e w2 ⟨rfl, hb2⟩
        go_wp2
        go_ret
        exact ⟨rfl, HB.out.trans (hb2.mono HB.out.size)⟩

end Go.Proofs.Ytlpgflkfckhgeaa
