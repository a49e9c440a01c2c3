/- The law PathParses answers true at every text. -/
import Derived.Test.YtidcfbjefemhdaaPLives
import Derived.Test.YtidcfbjefemhdaaPRefParse
import Derived.Test.YtidcfbjefemhdaaPShow
namespace Go.Proofs.Ytidcfbjefemhdaa
open Go Go.RowKit

theorem mid_le_show (a d : Bool) (l : List ByteArray) : (midB l).size ≤ (showB a d l).size := by
  rw [← size_list (showB a d l), showB_data, midB_size]
  unfold showL
  simp only [List.length_append]
  omega
theorem pE_cases (s : ByteArray) : pE s = 2 ∨ pE s = 63 ∨ pE s = 22 ∨ pE s = 0 := by
  unfold pE
  split
  · exact .inl rfl
  · split
    · exact .inr (.inl rfl)
    · split
      · exact .inr (.inr (.inl rfl))
      · split
        · exact .inr (.inl rfl)
        · exact .inr (.inr (.inr rfl))
theorem pL_len (s : ByteArray) : (pL s).length ≤ 10000 := by
  unfold pL
  split
  · rename_i h
    have := (pE_ok h).2.1
    have := parts_len s
    omega
  · simp

set_option maxRecDepth 100000 in
set_option maxHeartbeats 4000000 in
theorem parses_walk (s : ByteArray) (w : World) (hs : s.size ≤ 9223372036854775807) : Calls Try.prog 3 #[.string s] w fun e w' => e = .returned (.bool true) ∧ Below w.heap.size w w' := by
  have cL := lives_any
  have cP := fun W => parse_any s W hs
  by_cases hbig : 3000 < s.size
  · have hbz : (3000 : Int) < (s.size : Int) := by omega
    have h63 : pE s = 63 := pE_big (by omega)
    rw [h63] at cP
    generalize pA s = a at *
    generalize pD s = d at *
    generalize pL s = l at *
    clear h63 hbig
    go_enter Try.func3, Try.ntmps3
    go_wp2_with fail
    refine (cP _).mono ?_
    rintro e w1 ⟨hb1, p, c, rfl, hat, _⟩
    have HB : Hid (Below w.heap.size w (w1.alloc (.cells #[.bool a, .bool d, .slice p l.length c] 24))) := on_trans hb1 (on_alloc _ _)
    clear cP hat hb1
    go_wp2_with fail
    refine (cL _).mono ?_
    rintro e w2 ⟨rfl, hb2⟩
    go_wp2
    go_ret
    exact ⟨rfl, on_trans HB.out hb2⟩
  · have hbz : ¬ (3000 : Int) < (s.size : Int) := by omega
    have cR := fun W => refParse_any s W hs
    have hll := pL_len s
    by_cases hok : pE s = 0
    · obtain ⟨e1, e2, e3, e4⟩ := show_again hok
      have hsz := (pE_ok e1).2.1
      have hmid : (midB (pL s)).size ≤ 20000 := by have := mid_le_show (pA s) (pD s) (pL s); omega
      have cP2 := fun W => parse_any (showB (pA s) (pD s) (pL s)) W (by omega)
      rw [e1, e2, e3, e4] at cP2
      have cSh := fun p c W (hc : (pL s).length ≤ c) h => show_any (pA s) (pD s) p c (pL s) W hc hll hmid h
      have cSa := fun p q c d W h h' => same_any (pA s) (pD s) p q c d (pL s) W (by omega) h h'
      rw [hok] at cP cR
      clear e1 e2 e3 e4 hsz hok hbig hmid
      generalize showB (pA s) (pD s) (pL s) = t at *
      generalize pA s = a at *
      generalize pD s = d at *
      generalize pL s = l at *
      go_enter Try.func3, Try.ntmps3
      go_wp2_with fail
      refine (cP _).mono ?_
      rintro e w1 ⟨hb1, p, c, rfl, hat, hcc⟩
      have HB1 : Hid (Below w.heap.size w (w1.alloc (.cells #[.bool a, .bool d, .slice p l.length c] 24))) := on_trans hb1 (on_alloc _ _)
      have HA1 : Hid (At (w1.alloc (.cells #[.bool a, .bool d, .slice p l.length c] 24)) p l) := hat.at.alloc _
      have HX1 : Hid (Box (w1.alloc (.cells #[.bool a, .bool d, .slice p l.length c] 24)) w1.heap.size (.bool a) (.bool d) (.slice p l.length c)) := Box.new w1 _ _ _
      clear cP hat hb1
      go_wp2_with fail
      refine (cR _).mono ?_
      rintro e w2 ⟨hb2, q, c2, rfl, hat2, hcc2⟩
      have HB2 : Hid (Below w.heap.size w (w2.alloc (.cells #[.bool a, .bool d, .slice q l.length c2] 24))) := on_trans (on_trans HB1.out hb2) (on_alloc _ _)
      have HA2 : Hid (At (w2.alloc (.cells #[.bool a, .bool d, .slice q l.length c2] 24)) p l) := (HA1.out.on hb2).alloc _
      have HQ2 : Hid (At (w2.alloc (.cells #[.bool a, .bool d, .slice q l.length c2] 24)) q l) := hat2.at.alloc _
      have HX2 : Hid (Box (w2.alloc (.cells #[.bool a, .bool d, .slice q l.length c2] 24)) w1.heap.size (.bool a) (.bool d) (.slice p l.length c)) := (HX1.out.on hb2).alloc _
      have cS1 := cSa p q c c2 _ HA2.out HQ2.out
      have x0 := HX2.out.fst
      have x1 := HX2.out.snd
      have x2 := HX2.out.thd
      clear cR hat2 hb2 HX1 HA1 HB1 hcc2 HQ2
      go_wp2_with fail
      refine cS1.mono ?_
      rintro e w3 ⟨rfl, hb3⟩
      have HB3 : Hid (Below w.heap.size w w3) := on_trans HB2.out hb3
      have HA3 : Hid (At w3 p l) := HA2.out.on hb3
      have HX3 : Hid (Box w3 w1.heap.size (.bool a) (.bool d) (.slice p l.length c)) := HX2.out.on hb3
      clear cS1 x0 x1 x2 hb3 HX2 HA2 HB2
      have x0 := HX3.out.fst
      have x1 := HX3.out.snd
      have x2 := HX3.out.thd
      have cSh1 := cSh p c w3 hcc HA3.out
      go_wp2_with fail
      refine cSh1.mono ?_
      rintro e w4 ⟨rfl, hb4⟩
      have HB4 : Hid (Below w.heap.size w w4) := on_trans HB3.out hb4
      have HA4 : Hid (At w4 p l) := HA3.out.on hb4
      have HX4 : Hid (Box w4 w1.heap.size (.bool a) (.bool d) (.slice p l.length c)) := HX3.out.on hb4
      clear cSh1 cSh x0 x1 x2 hb4 HX3 HA3 HB3
      go_wp2_with fail
      refine (cP2 _).mono ?_
      rintro e w5 ⟨hb5, r, c5, rfl, hat5, _⟩
      have HB5 : Hid (Below w.heap.size w (w5.alloc (.cells #[.bool a, .bool d, .slice r l.length c5] 24))) := on_trans (on_trans HB4.out hb5) (on_alloc _ _)
      have HA5 : Hid (At (w5.alloc (.cells #[.bool a, .bool d, .slice r l.length c5] 24)) p l) := (HA4.out.on hb5).alloc _
      have HX5 : Hid (Box (w5.alloc (.cells #[.bool a, .bool d, .slice r l.length c5] 24)) w1.heap.size (.bool a) (.bool d) (.slice p l.length c)) := (HX4.out.on hb5).alloc _
      have cS2 := cSa r p c5 c _ (hat5.at.alloc _) HA5.out
      clear cP2 cSa hat5 hb5 HX4 HA4 HB4
      have x0 := HX5.out.fst
      have x1 := HX5.out.snd
      have x2 := HX5.out.thd
      go_wp2_with fail
      refine cS2.mono ?_
      rintro e w6 ⟨rfl, hb6⟩
      have HB6 : Hid (Below w.heap.size w w6) := on_trans HB5.out hb6
      clear cS2 x0 x1 x2 hb6 HX5 HA5 HB5
      go_wp2_with fail
      refine (cL _).mono ?_
      rintro e w7 ⟨rfl, hb7⟩
      go_wp2
      go_ret
      exact ⟨rfl, on_trans HB6.out hb7⟩
    · have cSa := fun p q c d W h h' => same_any (pA s) (pD s) p q c d (pL s) W (by omega) h h'
      have hq1 : (pE s == 0) = false := beq_eq_false_iff_ne.2 hok
      have hq2 : (pE s != 0) = true := by simp [bne, hq1]
      have hq3 : (pE s == pE s) = true := by simp
      have hq4 : (pE s != pE s) = false := by simp
      clear hok hbig
      generalize pE s = n at *
      generalize pA s = a at *
      generalize pD s = d at *
      generalize pL s = l at *
      go_enter Try.func3, Try.ntmps3
      go_wp2_with fail
      refine (cP _).mono ?_
      rintro e w1 ⟨hb1, p, c, rfl, hat, hcc⟩
      have HB1 : Hid (Below w.heap.size w (w1.alloc (.cells #[.bool a, .bool d, .slice p l.length c] 24))) := on_trans hb1 (on_alloc _ _)
      have HA1 : Hid (At (w1.alloc (.cells #[.bool a, .bool d, .slice p l.length c] 24)) p l) := hat.at.alloc _
      have HX1 : Hid (Box (w1.alloc (.cells #[.bool a, .bool d, .slice p l.length c] 24)) w1.heap.size (.bool a) (.bool d) (.slice p l.length c)) := Box.new w1 _ _ _
      clear cP hat hb1
      go_wp2_with fail
      refine (cR _).mono ?_
      rintro e w2 ⟨hb2, q, c2, rfl, hat2, hcc2⟩
      have HB2 : Hid (Below w.heap.size w (w2.alloc (.cells #[.bool a, .bool d, .slice q l.length c2] 24))) := on_trans (on_trans HB1.out hb2) (on_alloc _ _)
      have HX2 : Hid (Box (w2.alloc (.cells #[.bool a, .bool d, .slice q l.length c2] 24)) w1.heap.size (.bool a) (.bool d) (.slice p l.length c)) := (HX1.out.on hb2).alloc _
      have cS1 := cSa p q c c2 (w2.alloc (.cells #[.bool a, .bool d, .slice q l.length c2] 24)) ((HA1.out.on hb2).alloc _) (hat2.at.alloc _)
      have x0 := HX2.out.fst
      have x1 := HX2.out.snd
      have x2 := HX2.out.thd
      clear cR cSa hat2 hb2 HX1 HA1 HB1 hcc2
      go_wp2_with fail
      refine cS1.mono ?_
      rintro e w3 ⟨rfl, hb3⟩
      have HB3 : Hid (Below w.heap.size w w3) := on_trans HB2.out hb3
      clear cS1 x0 x1 x2 hb3 HX2 HB2
      go_wp2_with fail
      refine (cL _).mono ?_
      rintro e w4 ⟨rfl, hb4⟩
      go_wp2
      go_ret
      exact ⟨rfl, on_trans HB3.out hb4⟩

end Go.Proofs.Ytidcfbjefemhdaa
