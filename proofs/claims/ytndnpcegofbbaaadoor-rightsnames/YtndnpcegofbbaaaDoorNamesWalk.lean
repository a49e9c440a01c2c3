/- The law RightsNames answers true at every number and every text. -/
import Derived.Test.YtndnpcegofbbaaaDoorRefBit
namespace Go.Proofs.YtndnpcegofbbaaaDoor
open Go Go.RowKit Go.Shelf

theorem Nm.cell {w : World} (h : Nm w) (k : Nat) (hk : k < 32) : w.cell? ⟨0, k, none⟩ = some (.string (nmB k)) := by
  obtain ⟨t, fr, hg⟩ := h
  simp only [World.cell?, hg]
  simpa using nm_at k hk

theorem name_in (k : Nat) (hk : k < 32) (w : World) (hn : Nm w) : Calls Tryd.prog 18 #[.int .i64 (k : Int)] w fun e w' => e = .returned (.tuple #[.string (nmB k), .bool true]) ∧ w' = w := by
  have hc := hn.cell k hk
  have h1 : ¬ ((k : Int) < 0) := by omega
  have h2 : ¬ ((32 : Int) ≤ (k : Int)) := by omega
  go_enter Tryd.func18, Tryd.ntmps18
  go_wp2
  go_ret2
  exact ⟨rfl, rfl⟩
theorem name_low (i : Int) (h : i < 0) (w : World) : Calls Tryd.prog 18 #[.int .i64 i] w fun e w' => e = .returned (.tuple #[.string ⟨#[]⟩, .bool false]) ∧ w' = w := by
  go_enter Tryd.func18, Tryd.ntmps18
  go_wp2
  go_ret2
  exact ⟨rfl, rfl⟩
theorem name_high (i : Int) (h : 32 ≤ i) (w : World) : Calls Tryd.prog 18 #[.int .i64 i] w fun e w' => e = .returned (.tuple #[.string ⟨#[]⟩, .bool false]) ∧ w' = w := by
  have h1 : ¬ (i < 0) := by omega
  go_enter Tryd.func18, Tryd.ntmps18
  go_wp2
  go_ret2
  exact ⟨rfl, rfl⟩

set_option maxRecDepth 100000 in
set_option maxHeartbeats 1000000 in
theorem names_out (i : Int) (s : ByteArray) (w : World) (hn : Nm w) (hi : i < 0 ∨ 32 ≤ i) :
    Calls Tryd.prog 5 #[.int .i64 i, .string s] w fun e w' => e = .returned (.bool true) ∧ Below w.heap.size w w' := by
  have c2 := bit_any s w hn
  have c3 := refBit_any s w
  generalize bitVal s = x at *
  generalize bitOk s = y at *
  have e1 : (x != x) = false := by simp
  have e2 : (y != y) = false := by simp
  rcases hi with hi | hi
  · have c1 := name_low i hi w
    go_enter Tryd.func5, Tryd.ntmps5
    go_wp2_with fail
    refine c1.mono ?_
    rintro e w' ⟨rfl, rfl⟩
    go_wp2_with fail
    refine c2.mono ?_
    rintro e w' ⟨rfl, rfl⟩
    go_wp2_with fail
    refine c3.mono ?_
    rintro e w1 ⟨rfl, hb⟩
    go_wp2_with fail
    refine (lives_any _ (hn.below hb)).mono ?_
    rintro e w2 ⟨rfl, hb2⟩
    go_wp2
    go_ret
    exact ⟨rfl, hb.trans (hb2.mono hb.size)⟩
  · have c1 := name_high i hi w
    have hge : ¬ (i < 0) := by omega
    have hgt : 31 < i := by omega
    go_enter Tryd.func5, Tryd.ntmps5
    go_wp2_with fail
    refine c1.mono ?_
    rintro e w' ⟨rfl, rfl⟩
    go_wp2_with fail
    refine c2.mono ?_
    rintro e w' ⟨rfl, rfl⟩
    go_wp2_with fail
    refine c3.mono ?_
    rintro e w1 ⟨rfl, hb⟩
    go_wp2_with fail
    refine (lives_any _ (hn.below hb)).mono ?_
    rintro e w2 ⟨rfl, hb2⟩
    go_wp2
    go_ret
    exact ⟨rfl, hb.trans (hb2.mono hb.size)⟩

set_option maxRecDepth 100000 in
set_option maxHeartbeats 1000000 in
theorem names_in (k : Nat) (s : ByteArray) (w : World) (hn : Nm w) (hk : k < 32) :
    Calls Tryd.prog 5 #[.int .i64 (k : Int), .string s] w fun e w' => e = .returned (.bool true) ∧ Below w.heap.size w w' := by
  have c1 := name_in k hk w hn
  have c2 := bit_any s w hn
  have c3 := refBit_any s w
  have hself : ((nmB k).toList == (nmB k).toList) = true := beq_self_eq_true _
  have hcn := fun (w1 : World) => (NmAt.new w1).cell k hk
  generalize bitVal s = x at *
  generalize bitOk s = y at *
  generalize nmB k = S at *
  have e1 : (x != x) = false := by simp
  have e2 : (y != y) = false := by simp
  have hge : ¬ ((k : Int) < 0) := by omega
  have hgt : ¬ (31 < (k : Int)) := by omega
  go_enter Tryd.func5, Tryd.ntmps5
  go_wp2_with fail
  refine c1.mono ?_
  rintro e w' ⟨rfl, rfl⟩
  go_wp2_with fail
  refine c2.mono ?_
  rintro e w' ⟨rfl, rfl⟩
  go_wp2_with fail
  refine c3.mono ?_
  rintro e w1 ⟨rfl, hb⟩
  go_wp2_with fail
  refine (refNames_any _).mono ?_
  rintro e w2 ⟨rfl, hw2⟩
  subst hw2
  have hB := hb.alloc hb.size (.cells nm 9)
  go_wp2_with fail
  refine (lives_any _ (hn.below hB)).mono ?_
  rintro e w3 ⟨rfl, hb3⟩
  go_wp2
  go_ret
  exact ⟨rfl, hB.trans (hb3.mono hB.size)⟩

theorem names_walk (i : Int) (s : ByteArray) (_h0 : -9223372036854775808 ≤ i) (_h1 : i ≤ 9223372036854775807) (_hs : s.size ≤ maxLen) (w : World) (hn : Nm w) :
    Calls Tryd.prog 5 #[.int .i64 i, .string s] w fun e w' => e = .returned (.bool true) ∧ Below w.heap.size w w' := by
  by_cases h : i < 0 ∨ 32 ≤ i
  · exact names_out i s w hn h
  · obtain ⟨k, rfl⟩ := Int.eq_ofNat_of_zero_le (by omega : 0 ≤ i)
    exact names_in k s w hn (by omega)

end Go.Proofs.YtndnpcegofbbaaaDoor
