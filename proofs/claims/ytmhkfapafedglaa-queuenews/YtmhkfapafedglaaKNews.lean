/- The law QueueNews answers true at every input. -/
import Derived.Test.YtmhkfapafedglaaKLives
namespace Go.Proofs.Ytmhkfapafedglaa.K
open Go Go.RowKit

set_option maxRecDepth 100000 in
set_option maxHeartbeats 2000000 in
theorem news_in (m : Nat) (k : Int) (p : Option Addr) (l c : Nat) (n t : Int) (w : World) (h1 : 1 ≤ m) (h2 : m ≤ 4096) :
    Calls Try.prog 6 #[.int .i64 (m : Int), .agg #[.int .i64 k, .slice p l c, .int .i64 n, .int .i64 t]] w fun e w' => e = .returned (.bool true) ∧ Below w.heap.size w w' := by
  have a0 := on_alloc w (.cells #[.int .i64 k, .slice p l c, .int .i64 n, .int .i64 t] 31)
  have cN := new_in m (w.alloc (.cells #[.int .i64 k, .slice p l c, .int .i64 n, .int .i64 t] 31)) h1 h2
  have h1z : (1 : Int) ≤ (m : Int) := by omega
  have h2z : (m : Int) ≤ 4096 := by omega
  have HA : Hid _ := a0
  clear a0
  go_enter Try.func6, Try.ntmps6
  go_wp2_with fail
  refine cN.mono ?_
  intro e w1 hn
  obtain ⟨qb, F, G, rfl, h3⟩ := QS.new hn
  have H1 : Hid (QAt F G w1 qb m [] ∧ Below w.heap.size w w1) := ⟨h3.q, on_trans HA.out h3.below⟩
  clear cN hn h3 HA
  have cL := len_any H1.out.1
  have e0 : total [] = 0 := rfl
  rw [e0] at cL
  go_wp2_with fail
  refine cL.mono ?_
  rintro e w2 ⟨rfl, hb2⟩
  have H2 : Hid (QAt F G w2 qb m [] ∧ Below w.heap.size w w2) := ⟨H1.out.1.on hb2, on_trans H1.out.2 hb2⟩
  clear cL hb2 H1
  have cR := room_any H2.out.1
  rw [e0] at cR
  have e1 : (m : Int) - ((0 : Nat) : Int) = (m : Int) := by omega
  rw [e1] at cR
  go_wp2_with fail
  refine cR.mono ?_
  rintro e w3 ⟨rfl, hb2⟩
  have H3 : Hid (QAt F G w3 qb m [] ∧ Below w.heap.size w w3) := ⟨H2.out.1.on hb2, on_trans H2.out.2 hb2⟩
  clear cR hb2 H2
  have cX := next_any H3.out.1
  have e2 : nextF [] = 0 := rfl
  rw [e2] at cX
  go_wp2_with fail
  refine cX.mono ?_
  rintro e w4 ⟨rfl, hb2⟩
  have H4 : Hid (Below w.heap.size w w4) := on_trans H3.out.2 hb2
  clear cX hb2 H3
  have cV := lives_any w4
  go_wp2_with fail
  refine cV.mono ?_
  rintro e w5 ⟨rfl, hb2⟩
  have HE : Hid (Below w.heap.size w w5) := on_trans H4.out hb2
  clear cV hb2 H4
  go_wp2
  go_ret
  exact ⟨rfl, HE.out⟩

set_option maxRecDepth 100000 in
set_option maxHeartbeats 2000000 in
theorem news_no (m : Int) (k : Int) (p : Option Addr) (l c : Nat) (n t : Int) (w : World) (h : m < 1 ∨ 4096 < m) :
    Calls Try.prog 6 #[.int .i64 m, .agg #[.int .i64 k, .slice p l c, .int .i64 n, .int .i64 t]] w fun e w' => e = .returned (.bool true) ∧ Below w.heap.size w w' := by
  have a0 := on_alloc w (.cells #[.int .i64 k, .slice p l c, .int .i64 n, .int .i64 t] 31)
  have hB := Blk.new w 31 [.int .i64 k, .slice p l c, .int .i64 n, .int .i64 t]
  have cN := fun W => new_no m W h
  have cP := fun q a b W => put_nil q a b (.slice none 0 0) W
  have cT := fun W => take_nil n t W
  have hcv := fun (w : World) (C : Array Value) (n c : Nat) => Lib.run_convert_bytes_const (P := Try.prog) w 29 5 C n c Try.underlying29 Try.underlying5
  have HA : Hid (∀ w1, w1 = w.alloc (.cells #[.int .i64 k, .slice p l c, .int .i64 n, .int .i64 t] 31) → (w1.alloc (.cells #[.int .u8 120] 5 (1, 2))).cell? ⟨w.heap.size, 2, none⟩ = some (.int .i64 n) ∧ (w1.alloc (.cells #[.int .u8 120] 5 (1, 2))).cell? ⟨w.heap.size, 3, none⟩ = some (.int .i64 t) ∧ Below w.heap.size w (w1.alloc (.cells #[.int .u8 120] 5 (1, 2)))) := fun w1 e => by
    subst e
    have h7 := hB.on (on_alloc _ (.cells #[.int .u8 120] 5 (1, 2)))
    exact ⟨h7.cell 2 rfl, h7.cell 3 rfl, on_trans a0 (on_alloc _ _)⟩
  clear hB a0
  have walk : (1 ≤ m → ¬ m ≤ 4096) → Calls Try.prog 6 #[.int .i64 m, .agg #[.int .i64 k, .slice p l c, .int .i64 n, .int .i64 t]] w fun e w' => e = .returned (.bool true) ∧ Below w.heap.size w w' := fun hcond => by
    by_cases h1 : 1 ≤ m
    · have h2 := hcond h1
      clear hcond h
      go_enter Try.func6, Try.ntmps6
      go_wp2_with fail
      refine (cN _).mono ?_
      rintro e w1 ⟨rfl, hw1⟩
      obtain ⟨y2, y3, hbb⟩ := HA.out w1 hw1
      have HB : Hid _ := hbb
      clear HA hw1 hbb
      go_wp2_with fail
      refine (cP _ _ _ _).mono ?_
      rintro e w2 ⟨rfl, rfl⟩
      go_wp2_with fail
      refine (cT _).mono ?_
      rintro e w3 ⟨rfl, rfl⟩
      go_wp2_with fail
      refine (len_nil _).mono ?_
      rintro e w4 ⟨rfl, rfl⟩
      go_wp2_with fail
      refine (room_nil _).mono ?_
      rintro e w5 ⟨rfl, rfl⟩
      go_wp2_with fail
      refine (next_nil _).mono ?_
      rintro e w6 ⟨rfl, rfl⟩
      go_wp2_with fail
      refine (clear_nil _).mono ?_
      rintro e w7 ⟨rfl, rfl⟩
      go_wp2_with fail
      refine (dump_nil _).mono ?_
      rintro e w8 ⟨rfl, rfl⟩
      go_wp2_with fail
      refine (lives_any _).mono ?_
      rintro e w9 ⟨rfl, hb9⟩
      have HE : Hid (Below w.heap.size w w9) := on_trans HB.out hb9
      clear hb9 HB
      go_wp2
      go_ret
      exact ⟨rfl, HE.out⟩
    · clear hcond h
      go_enter Try.func6, Try.ntmps6
      go_wp2_with fail
      refine (cN _).mono ?_
      rintro e w1 ⟨rfl, hw1⟩
      obtain ⟨y2, y3, hbb⟩ := HA.out w1 hw1
      have HB : Hid _ := hbb
      clear HA hw1 hbb
      go_wp2_with fail
      refine (cP _ _ _ _).mono ?_
      rintro e w2 ⟨rfl, rfl⟩
      go_wp2_with fail
      refine (cT _).mono ?_
      rintro e w3 ⟨rfl, rfl⟩
      go_wp2_with fail
      refine (len_nil _).mono ?_
      rintro e w4 ⟨rfl, rfl⟩
      go_wp2_with fail
      refine (room_nil _).mono ?_
      rintro e w5 ⟨rfl, rfl⟩
      go_wp2_with fail
      refine (next_nil _).mono ?_
      rintro e w6 ⟨rfl, rfl⟩
      go_wp2_with fail
      refine (clear_nil _).mono ?_
      rintro e w7 ⟨rfl, rfl⟩
      go_wp2_with fail
      refine (dump_nil _).mono ?_
      rintro e w8 ⟨rfl, rfl⟩
      go_wp2_with fail
      refine (lives_any _).mono ?_
      rintro e w9 ⟨rfl, hb9⟩
      have HE : Hid (Below w.heap.size w w9) := on_trans HB.out hb9
      clear hb9 HB
      go_wp2
      go_ret
      exact ⟨rfl, HE.out⟩
  exact walk (by omega)

/-- The law. -/
theorem news_walk (m : Int) (k : Int) (p : Option Addr) (l c : Nat) (n t : Int) (w : World) :
    Calls Try.prog 6 #[.int .i64 m, .agg #[.int .i64 k, .slice p l c, .int .i64 n, .int .i64 t]] w fun e w' => e = .returned (.bool true) ∧ Below w.heap.size w w' := by
  by_cases h : m < 1 ∨ 4096 < m
  · exact news_no m k p l c n t w h
  · obtain ⟨mn, rfl⟩ : ∃ mn : Nat, m = (mn : Int) := ⟨m.toNat, by omega⟩
    exact news_in mn k p l c n t w (by omega) (by omega)

end Go.Proofs.Ytmhkfapafedglaa.K
