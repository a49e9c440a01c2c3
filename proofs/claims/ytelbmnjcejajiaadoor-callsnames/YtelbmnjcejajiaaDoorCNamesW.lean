/- CallsNames, walked. -/
import Derived.Test.YtelbmnjcejajiaaDoorCLives
import Derived.Test.YtelbmnjcejajiaaDoorCRefFind
namespace Go.Proofs.YtelbmnjcejajiaaDoor.C
open Go Go.RowKit

theorem find_at (k : Fin 64) (w : World) : Calls Tryd.prog 13 #[.string (byt (cname k))] w fun e W => e = .returned (.tuple #[.int .i64 ((k.val : Int) + 1), .bool true]) ∧ Below w.heap.size w W := by
  refine (find_any _ w).mono ?_
  rintro e W ⟨hB, (⟨j, hj, h⟩ | ⟨hn, _⟩)⟩
  · obtain rfl : j = k := row_names j k (byt_inj hj)
    exact ⟨h, hB⟩
  · exact absurd rfl (hn k)
/-- The program's Find and the reference's tell the same. -/
theorem find_both (s : ByteArray) : ∃ (n : Int) (ok : Bool),
    (∀ w, Calls Tryd.prog 13 #[.string s] w fun e W => e = .returned (.tuple #[.int .i64 n, .bool ok]) ∧ Below w.heap.size w W) ∧
    (∀ w, Calls Tryd.prog 14 #[.string s] w fun e W => e = .returned (.tuple #[.int .i64 n, .bool ok]) ∧ Below w.heap.size w W) := by
  by_cases h : ∃ k : Fin 64, byt (cname k) = s
  · obtain ⟨k, rfl⟩ := h
    refine ⟨(k.val : Int) + 1, true, find_at k, fun w => (rfind_any _ w).mono ?_⟩
    rintro e W ⟨hB, (⟨j, hj, h⟩ | ⟨hn, _⟩)⟩
    · obtain rfl : j = k := row_names j k (byt_inj hj)
      exact ⟨h, hB⟩
    · exact absurd rfl (hn k)
  · refine ⟨0, false, fun w => (find_any s w).mono ?_, fun w => (rfind_any s w).mono ?_⟩
    · rintro e W ⟨hB, (⟨j, hj, _⟩ | ⟨_, h'⟩)⟩
      · exact absurd ⟨j, hj⟩ h
      · exact ⟨h', hB⟩
    · rintro e W ⟨hB, (⟨j, hj, _⟩ | ⟨_, h'⟩)⟩
      · exact absurd ⟨j, hj⟩ h
      · exact ⟨h', hB⟩
/-- What Get tells of a number, and Find of the name that it tells. -/
theorem get_find (no : Int) : ∃ (a b : ByteArray) (c d e : Int) (ok : Bool) (m : Int) (ok2 : Bool), (ok = true → m = no ∧ ok2 = true) ∧
    (∀ w, Nm w ∧ Sp w → Calls Tryd.prog 8 #[.int .i64 no] w fun r W => r = .returned (.tuple #[.agg #[.string a, .string b, .int .i64 c, .int .u32 d, .int .u32 e], .bool ok]) ∧ Below w.heap.size w W) ∧
    (∀ w, Calls Tryd.prog 13 #[.string a] w fun r W => r = .returned (.tuple #[.int .i64 m, .bool ok2]) ∧ Below w.heap.size w W) := by
  by_cases h : ∃ k : Fin 64, (k.val : Int) + 1 = no
  · obtain ⟨k, rfl⟩ := h
    exact ⟨byt (cname k), byt (cshape k), cgate k, cneed0 k, cneed1 k, true, (k.val : Int) + 1, true, fun _ => ⟨rfl, rfl⟩, fun w ht => get_at k w ht.2 ht.1, find_at k⟩
  · obtain ⟨m, ok2, c1, _⟩ := find_both ⟨#[]⟩
    exact ⟨⟨#[]⟩, ⟨#[]⟩, 0, 0, 0, false, m, ok2, (fun e => by cases e), fun w ht => get_no no (fun k hk => h ⟨k, hk⟩) w ht.2, c1⟩

/-- From the text as it is looked up. -/
theorem names_tail (s t : ByteArray) (hs : s.size ≤ maxLen) (hcut : (200 < s.size → t = s.extract 0 200) ∧ (s.size ≤ 200 → t = s)) (no : Int) (_ : -9223372036854775808 ≤ no) (_ : no ≤ 9223372036854775807) (w : World) (ht : Nm w ∧ Sp w) :
    Calls Tryd.prog 4 #[.string s, .int .i64 no] w fun e W => e = .returned (.bool true) ∧ Below w.heap.size w W := by
  obtain ⟨n, ok, c1, c2⟩ := find_both t
  obtain ⟨a, b, c, d, z, there, m, ok2, hmm, c3, c4⟩ := get_find no
  have HT : Hid (∀ W, Below w.heap.size w W → Nm W ∧ Sp W) := fun W h => ⟨ht.1.below h, ht.2.below h⟩
  have q3 := fun W (h : Below w.heap.size w W) => c3 W (HT.out W h)
  have cL := fun W (h : Below w.heap.size w W) => lives_any W (HT.out W h).2 (HT.out W h).1
  have HM : Hid (there = true → m = no ∧ ok2 = true) := hmm
  have HC : Hid ((200 < s.size → t = s.extract 0 200) ∧ (s.size ≤ 200 → t = s)) := hcut
  have q1 := c1 w
  clear c3 hmm hcut c1
  unfold maxLen at hs
  have two : Calls Tryd.prog 4 #[.string s, .int .i64 no] w fun e W => e = .returned (.bool true) ∧ Below w.heap.size w W := by
    cases there
    case' true => obtain ⟨rfl, rfl⟩ := HM.out rfl
    all_goals
      clear HM
      by_cases hl : 200 < s.size
      · have hlz : (200 : Int) < (s.size : Int) := by omega
        have hx : t = s.extract 0 200 := HC.out.1 hl
        rw [hx] at q1 c2
        clear hx HC
        go_enter Tryd.func4, Tryd.ntmps4
        go_wp2_with (first | (go_at_call 13; refine q1.mono ?_; clear q1; rintro e W1 ⟨rfl, hb1⟩) | (go_at_call 14; refine (c2 _).mono ?_; rintro e W2 ⟨rfl, hb2⟩; have hb3 := hb1.trans (hb2.mono hb1.size)) | (go_at_call 8; refine (q3 _ hb3).mono ?_; rintro e W4 ⟨rfl, hb4⟩; have hb5 := (hb3.trans (hb4.mono hb3.size)).alloc (Nat.le_trans hb3.size hb4.size) (.cells #[.string a, .string b, .int .i64 c, .int .u32 d, .int .u32 z] 26)) | (go_at_call 13; refine (c4 _).mono ?_; rintro e W6 ⟨rfl, hb6⟩; have hb7 := hb5.trans (hb6.mono hb5.size)) | (go_at_call 12; refine (cL _ hb7).mono ?_; rintro e W8 ⟨rfl, hb8⟩))
        go_ret
        exact ⟨rfl, hb7.trans (hb8.mono hb7.size)⟩
      · have hlz : ¬ (200 : Int) < (s.size : Int) := by omega
        obtain rfl : t = s := HC.out.2 (by omega)
        clear HC
        go_enter Tryd.func4, Tryd.ntmps4
        go_wp2_with (first | (go_at_call 13; refine q1.mono ?_; clear q1; rintro e W1 ⟨rfl, hb1⟩) | (go_at_call 14; refine (c2 _).mono ?_; rintro e W2 ⟨rfl, hb2⟩; have hb3 := hb1.trans (hb2.mono hb1.size)) | (go_at_call 8; refine (q3 _ hb3).mono ?_; rintro e W4 ⟨rfl, hb4⟩; have hb5 := (hb3.trans (hb4.mono hb3.size)).alloc (Nat.le_trans hb3.size hb4.size) (.cells #[.string a, .string b, .int .i64 c, .int .u32 d, .int .u32 z] 26)) | (go_at_call 13; refine (c4 _).mono ?_; rintro e W6 ⟨rfl, hb6⟩; have hb7 := hb5.trans (hb6.mono hb5.size)) | (go_at_call 12; refine (cL _ hb7).mono ?_; rintro e W8 ⟨rfl, hb8⟩))
        go_ret
        exact ⟨rfl, hb7.trans (hb8.mono hb7.size)⟩
  exact two

theorem callnames_walk (s : ByteArray) (hs : s.size ≤ maxLen) (no : Int) (h0 : -9223372036854775808 ≤ no) (h1 : no ≤ 9223372036854775807) (w : World) (ht : Nm w ∧ Sp w) :
    Calls Tryd.prog 4 #[.string s, .int .i64 no] w fun e W => e = .returned (.bool true) ∧ Below w.heap.size w W := by
  by_cases hl : 200 < s.size
  · exact names_tail s (s.extract 0 200) hs ⟨fun _ => rfl, fun h => by omega⟩ no h0 h1 w ht
  · exact names_tail s s hs ⟨fun h => by omega, fun _ => rfl⟩ no h0 h1 w ht

end Go.Proofs.YtelbmnjcejajiaaDoor.C
