/- What the reference's Parse answers, for every text. -/
import Derived.Test.YtndnpcegofbbaaaDoorRefBit
import Derived.Test.YtndnpcegofbbaaaDoorPlainc
import Derived.Lib.IndexBytes
namespace Go.Proofs.YtndnpcegofbbaaaDoor
open Go Go.RowKit Go.Shelf

def freeFrom (s : ByteArray) (f k : Nat) : Prop := ∀ j, f ≤ j → j < k → s.data.toList.getD j 0 ≠ 44
theorem freeFrom_mem {s : ByteArray} {f k : Nat} (h : freeFrom s f k) (hk : k ≤ s.size) : (44 : UInt8) ∉ (s.extract f k).data.toList := by
  rw [Lib.extract_data]
  intro hm
  obtain ⟨j, hj, e⟩ := List.getElem_of_mem hm
  rw [List.length_take, List.length_drop] at hj
  have hs : s.data.toList.length = s.size := by rw [Array.length_toList]; rfl
  refine h (f + j) (by omega) (by omega) ?_
  rw [List.getElem_take, List.getElem_drop] at e
  simp only [List.getD, List.getElem?_eq_getElem (show f + j < s.data.toList.length by omega), Option.getD_some]
  exact e
theorem pieces_end {s : ByteArray} {f : Nat} (h : freeFrom s f s.size) : pieces (s.extract f s.size) = [s.extract f s.size] := pieces_free _ (freeFrom_mem h (Nat.le_refl _))
theorem pieces_cut {s : ByteArray} {f k : Nat} (hfk : f ≤ k) (hk : k < s.size) (h : freeFrom s f k) (hc : s.data.toList.getD k 0 = 44) :
    pieces (s.extract f s.size) = s.extract f k :: pieces (s.extract (k + 1) s.size) := by
  have hs : s.data.toList.length = s.size := by rw [Array.length_toList]; rfl
  have hfree := freeFrom_mem h (by omega)
  have e : (s.extract f s.size).data.toList = (s.extract f k).data.toList ++ 44 :: (s.extract (k + 1) s.size).data.toList := by
    rw [Lib.extract_to_end, Lib.extract_to_end, Lib.extract_data]
    have hd : s.data.toList.drop f = (s.data.toList.drop f).take (k - f) ++ (s.data.toList.drop f).drop (k - f) := (List.take_append_drop _ _).symm
    rw [hd, List.take_append_of_le_length (by rw [List.length_take, List.length_drop]; omega), List.take_take, Nat.min_self, List.drop_drop, show f + (k - f) = k by omega]
    congr 1
    rw [List.drop_eq_getElem_cons (by omega)]
    congr 1
    simp only [List.getD, List.getElem?_eq_getElem (show k < s.data.toList.length by omega), Option.getD_some] at hc
    exact hc
  unfold pieces
  rw [e, piecesL_sep _ _ hfree, List.map_cons]

/-- Where the scan stands: k letters seen, the piece begins at f, the pieces pre are read. -/
def scan (s : ByteArray) (k f : Nat) (pre : List ByteArray) : Prop :=
  (k ≤ s.size ∧ f ≤ k ∧ pieces s = pre ++ pieces (s.extract f s.size) ∧ freeFrom s f k) ∨ (k = s.size + 1 ∧ f = k ∧ pre = pieces s)
theorem scan_zero (s : ByteArray) : scan s 0 0 [] :=
  .inl ⟨Nat.zero_le _, Nat.le_refl _, by rw [show s.extract 0 s.size = s by apply bytes_eq; rw [Lib.extract_to_end]; simp]; rfl, fun j h1 h2 => by omega⟩
theorem scan_plain {s : ByteArray} {k f : Nat} {pre : List ByteArray} (h : scan s k f pre) (hk : k < s.size) (hc : s.data.toList.getD k 0 ≠ 44) : scan s (k + 1) f pre := by
  rcases h with ⟨h1, h2, h3, h4⟩ | ⟨h1, h2, h3⟩
  · refine .inl ⟨by omega, by omega, h3, fun j hj1 hj2 => ?_⟩
    by_cases e : j = k
    · subst e; exact hc
    · exact h4 j hj1 (by omega)
  · omega
theorem scan_comma {s : ByteArray} {k f : Nat} {pre : List ByteArray} (h : scan s k f pre) (hk : k < s.size) (hc : s.data.toList.getD k 0 = 44) :
    s.extract f k ∈ pieces s ∧ scan s (k + 1) (k + 1) (pre ++ [s.extract f k]) := by
  rcases h with ⟨h1, h2, h3, h4⟩ | ⟨h1, h2, h3⟩
  · have e := pieces_cut h2 hk h4 hc
    rw [e] at h3
    exact ⟨by rw [h3]; simp, .inl ⟨by omega, Nat.le_refl _, by rw [h3]; simp, fun j hj1 hj2 => by omega⟩⟩
  · omega
theorem scan_end {s : ByteArray} {f : Nat} {pre : List ByteArray} (h : scan s s.size f pre) :
    s.extract f s.size ∈ pieces s ∧ scan s (s.size + 1) (s.size + 1) (pre ++ [s.extract f s.size]) := by
  rcases h with ⟨h1, h2, h3, h4⟩ | ⟨h1, h2, h3⟩
  · rw [pieces_end h4] at h3
    exact ⟨by rw [h3]; simp, .inr ⟨rfl, rfl, h3.symm⟩⟩
  · omega
theorem scan_last {s : ByteArray} {k f : Nat} {pre : List ByteArray} (h : scan s k f pre) (hk : k = s.size + 1) : pre = pieces s := by
  rcases h with ⟨h1, _⟩ | ⟨_, _, h3⟩
  · omega
  · exact h3
theorem scan_le {s : ByteArray} {k f : Nat} {pre : List ByteArray} (h : scan s k f pre) : k ≤ s.size + 1 ∧ f ≤ k := by
  rcases h with ⟨h1, h2, _⟩ | ⟨h1, h2, _⟩ <;> omega

theorem idx_str (s : ByteArray) (k : Nat) (hk : k < s.size) (w : World) : (Instr.index 9 (.string s) (.int .i64 (k : Int))).run Tryd.prog w = .ok (.int .u8 ((s.data.toList.getD k 0).toNat : Int)) w := by
  rw [run_index_string w 9 s .i64 (k : Int) Tryd.underlying9]
  have e : s.data.toList.getD k 0 = s[k] := by
    simp [List.getD, hk]
    rfl
  rw [e]
  simp [hk]

theorem refParse_none (w : World) : Calls Tryd.prog 25 #[.string noneB] w fun e w' => e = .returned (.tuple #[.int .u32 0, .int .i64 0]) ∧ w' = w := by
  unfold noneB
  go_enter Tryd.func25, Tryd.ntmps25
  go_wp2
  go_ret2
  exact ⟨rfl, rfl⟩
theorem refParse_all (w : World) : Calls Tryd.prog 25 #[.string allB] w fun e w' => e = .returned (.tuple #[.int .u32 4294967295, .int .i64 0]) ∧ w' = w := by
  unfold allB
  go_enter Tryd.func25, Tryd.ntmps25
  go_wp2
  go_ret2
  exact ⟨rfl, rfl⟩

set_option maxRecDepth 100000 in
set_option maxHeartbeats 2000000 in
theorem refParse_other (s : ByteArray) (hs : s.size ≤ 600) (h1 : s ≠ noneB) (h2 : s ≠ allB) (w : World) :
    Calls Tryd.prog 25 #[.string s] w fun e w' => e = .returned (.tuple #[.int .u32 (parsePairs s).1, .int .i64 (parsePairs s).2]) ∧ Below w.heap.size w w' := by
  have hb1 : (s.toList == [110, 111, 110, 101]) = false := by rw [beq_eq_false_iff_ne, ByteArray.toList_eq]; exact fun e => h1 (bytes_eq e)
  have hb2 : (s.toList == [97, 108, 108]) = false := by rw [beq_eq_false_iff_ne, ByteArray.toList_eq]; exact fun e => h2 (bytes_eq e)
  have HB : Hid (∀ x, x ∈ pieces s → bitOk x = false → parsePairs s = (0, 22)) := fun x hx h => parse_bad h1 h2 hx h
  have HS : Hid (showB (orP (pieces s)) = s → parsePairs s = (orP (pieces s), 0)) := fun h => parse_same h
  have HD : Hid (showB (orP (pieces s)) ≠ s → parsePairs s = (0, 22)) := fun h => parse_differs h1 h2 h
  clear h1 h2
  go_enter Tryd.func25, Tryd.ntmps25
  go_wp2
  clear hb1 hb2
  go_loopw [4, 5, 6] (fun sa sf si wr => ∃ (k f : Nat) (pre : List ByteArray), si = .int .i64 k ∧ sf = .int .i64 f ∧ sa = .int .u32 (orP pre) ∧ Hid (scan s k f pre) ∧ Below w.heap.size w wr) (fun _ _ i _ => s.size + 1 - (intOf i).toNat)
  case atStart => exact ⟨0, 0, [], rfl, rfl, rfl, scan_zero s, Below.refl _ _⟩
  case round =>
    obtain ⟨k, f, pre, rfl, rfl, rfl, hsc, hB⟩ := hrel
    have hle := scan_le hsc
    have hor := orP_lt pre
    by_cases hk : k < s.size
    · have hix := idx_str s k hk
      have hne : ((k : Int) == (s.size : Int)) = false := by rw [beq_eq_false_iff_ne]; omega
      by_cases hc : s.data.toList.getD k 0 = 44
      · obtain ⟨hmem, HN⟩ : s.extract f k ∈ pieces s ∧ Hid (scan s (k + 1) (k + 1) (pre ++ [s.extract f k])) := scan_comma hsc hk hc
        have hcq : (((s.data.toList.getD k 0).toNat : Int) == 44) = true := by rw [hc]; rfl
        generalize (s.data.toList.getD k 0).toNat = c at *
        clear hc hsc
        have c1 := fun w1 => refBit_any (s.extract f k) w1
        cases hok : bitOk (s.extract f k) with
        | false =>
          have HV : Hid (parsePairs s = (0, 22)) := HB _ hmem hok
          rw [hok] at c1
          clear hok hmem HN HB HS HD
          generalize orP pre = a at *
          generalize bitVal (s.extract f k) = bv at *
          go_wp2_with (go_at_call 20; refine (c1 _).mono ?_; rintro e w' ⟨rfl, hb'⟩)
          go_ret2
          exact ⟨by rw [HV.out]; rfl, hB.trans (hb'.mono hB.size)⟩
        | true =>
          have c2 := fun w1 => refEach1 (orP pre) (bitNat (s.extract f k)) hor (bitNat_lt _) w1
          rw [each1 hor (bitNat_lt _), ← orP_snoc] at c2
          rw [hok, bitVal_nat] at c1
          clear hok hmem HB HS HD
          generalize HA : orP (pre ++ [s.extract f k]) = a2 at *
          have HA2 : Hid (orP (pre ++ [s.extract f k]) = a2) := HA
          clear HA
          generalize orP pre = a at *
          generalize bitNat (s.extract f k) = bn at *
          go_wp2_with (first
            | (go_at_call 20; refine (c1 _).mono ?_; rintro e w1 ⟨rfl, hb1⟩)
            | (go_at_call 10; refine (c2 _).mono ?_; rintro e w2 ⟨rfl, hb2⟩))
          exact ⟨⟨k + 1, k + 1, pre ++ [s.extract f k], by go_num, by go_num, by rw [HA2.out], HN, hB.trans ((hb1.trans (hb2.mono hb1.size)).mono hB.size)⟩, by simp [intOf]; omega⟩
      · have HN : Hid (scan s (k + 1) f pre) := scan_plain hsc hk hc
        have hcq : (((s.data.toList.getD k 0).toNat : Int) == 44) = false := by
          rw [beq_eq_false_iff_ne]; intro e; apply hc; apply UInt8.toNat_inj.1; exact Int.ofNat.inj e
        generalize (s.data.toList.getD k 0).toNat = c at *
        clear hc hsc
        generalize HA : orP pre = a at *
        have HA2 : Hid (orP pre = a) := HA
        clear HA
        go_wp2
        exact ⟨⟨k + 1, f, pre, by go_num, rfl, by rw [HA2.out], HN, hB⟩, by simp [intOf]; omega⟩
    · by_cases hk2 : k = s.size
      · subst hk2
        obtain ⟨hmem, HN⟩ : s.extract f s.size ∈ pieces s ∧ Hid (scan s (s.size + 1) (s.size + 1) (pre ++ [s.extract f s.size])) := scan_end hsc
        have heq : (((s.size : Nat) : Int) == (s.size : Int)) = true := beq_self_eq_true _
        clear hsc
        have c1 := fun w1 => refBit_any (s.extract f s.size) w1
        cases hok : bitOk (s.extract f s.size) with
        | false =>
          have HV : Hid (parsePairs s = (0, 22)) := HB _ hmem hok
          rw [hok] at c1
          clear hok hmem HN HB HS HD
          generalize orP pre = a at *
          generalize bitVal (s.extract f s.size) = bv at *
          go_wp2_with (go_at_call 20; refine (c1 _).mono ?_; rintro e w' ⟨rfl, hb'⟩)
          go_ret2
          exact ⟨by rw [HV.out]; rfl, hB.trans (hb'.mono hB.size)⟩
        | true =>
          have c2 := fun w1 => refEach1 (orP pre) (bitNat (s.extract f s.size)) hor (bitNat_lt _) w1
          rw [each1 hor (bitNat_lt _), ← orP_snoc] at c2
          rw [hok, bitVal_nat] at c1
          clear hok hmem HB HS HD
          generalize HA : orP (pre ++ [s.extract f s.size]) = a2 at *
          have HA2 : Hid (orP (pre ++ [s.extract f s.size]) = a2) := HA
          clear HA
          generalize orP pre = a at *
          generalize bitNat (s.extract f s.size) = bn at *
          go_wp2_with (first
            | (go_at_call 20; refine (c1 _).mono ?_; rintro e w1 ⟨rfl, hb1⟩)
            | (go_at_call 10; refine (c2 _).mono ?_; rintro e w2 ⟨rfl, hb2⟩))
          exact ⟨⟨s.size + 1, s.size + 1, pre ++ [s.extract f s.size], by go_num, by go_num, by rw [HA2.out], HN, hB.trans ((hb1.trans (hb2.mono hb1.size)).mono hB.size)⟩, by simp [intOf]⟩
      · obtain rfl : pre = pieces s := scan_last hsc (by omega)
        have hkk : (s.size : Int) < (k : Int) := by omega
        have c1 := refShow_any (orP (pieces s)) hor
        by_cases hsh : showB (orP (pieces s)) = s
        · have HV : Hid (parsePairs s = (orP (pieces s), 0)) := HS hsh
          rw [hsh] at c1
          have hq : (s.toList == s.toList) = true := beq_self_eq_true _
          clear hsh HB HS HD hsc
          generalize orP (pieces s) = a at *
          go_wp2_with (go_at_call 24; refine (c1 _).mono ?_; rintro e w' ⟨rfl, hb'⟩)
          go_ret2
          exact ⟨by rw [HV.out]; rfl, hB.trans (hb'.mono hB.size)⟩
        · have HV : Hid (parsePairs s = (0, 22)) := HD hsh
          have hq : ((showB (orP (pieces s))).toList == s.toList) = false := by
            rw [beq_eq_false_iff_ne, ByteArray.toList_eq, ByteArray.toList_eq]; exact fun e => hsh (bytes_eq e)
          clear hsh HB HS HD hsc
          generalize showB (orP (pieces s)) = S at *
          generalize orP (pieces s) = a at *
          go_wp2_with (go_at_call 24; refine (c1 _).mono ?_; rintro e w' ⟨rfl, hb'⟩)
          go_ret2
          exact ⟨by rw [HV.out]; rfl, hB.trans (hb'.mono hB.size)⟩

theorem refParse_any (s : ByteArray) (hs : s.size ≤ 600) (w : World) :
    Calls Tryd.prog 25 #[.string s] w fun e w' => e = .returned (.tuple #[.int .u32 (parsePairs s).1, .int .i64 (parsePairs s).2]) ∧ Below w.heap.size w w' := by
  by_cases h1 : s = noneB
  · subst h1
    refine (refParse_none w).mono ?_
    rintro e w' ⟨rfl, rfl⟩
    exact ⟨rfl, Below.refl _ _⟩
  · by_cases h2 : s = allB
    · subst h2
      refine (refParse_all w).mono ?_
      rintro e w' ⟨rfl, rfl⟩
      exact ⟨rfl, Below.refl _ _⟩
    · exact refParse_other s hs h1 h2 w

end Go.Proofs.YtndnpcegofbbaaaDoor
