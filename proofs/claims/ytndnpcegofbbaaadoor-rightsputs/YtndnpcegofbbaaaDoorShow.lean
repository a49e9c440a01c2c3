/- What rights.Subset and rights.Show answer, for every set. -/
import Derived.Test.YtndnpcegofbbaaaDoorParse
namespace Go.Proofs.YtndnpcegofbbaaaDoor
open Go Go.RowKit Go.Shelf

theorem sub_any (x y : Nat) (hx : x < 4294967296) (hy : y < 4294967296) (w : World) :
    Calls Tryd.prog 16 #[.int .u32 (x : Int), .int .u32 (y : Int)] w fun e w' => e = .returned (.bool (subB x y)) ∧ w' = w := by
  have hb : bits .andNot .u32 (x : Int) (y : Int) = ((x &&& (4294967295 - y) : Nat) : Int) := u32_andNot_nat x y hx hy
  obtain ⟨z, hz⟩ : ∃ z, x &&& (4294967295 - y) = z := ⟨_, rfl⟩
  have HZ : Hid (subB x y = ((z : Int) == 0)) := show _ = _ by
    unfold subB; rw [hz, Bool.eq_iff_iff]; simp
  rw [hz] at hb
  clear hz hx hy
  go_enter Tryd.func16, Tryd.ntmps16
  go_wp2
  go_ret
  exact ⟨by rw [HZ.out]; rfl, rfl⟩
theorem has_any (k a : Nat) (hk : k < 32) (ha : a < 4294967296) (w : World) :
    Calls Tryd.prog 16 #[.int .u32 (2 ^ k), .int .u32 (a : Int)] w fun e w' => e = .returned (.bool (a.testBit k)) ∧ w' = w := by
  have h := sub_any (2 ^ k) a (pow_lt hk) ha w
  rw [subB_pow hk ha] at h
  simpa using h

theorem show_none (w : World) : Calls Tryd.prog 22 #[.int .u32 0] w fun e w' => e = .returned (.string noneB) ∧ w' = w := by
  go_enter Tryd.func22, Tryd.ntmps22
  go_wp2
  go_ret
  exact ⟨rfl, rfl⟩
theorem show_all (w : World) : Calls Tryd.prog 22 #[.int .u32 4294967295] w fun e w' => e = .returned (.string allB) ∧ w' = w := by
  go_enter Tryd.func22, Tryd.ntmps22
  go_wp2
  go_ret
  exact ⟨rfl, rfl⟩

theorem info9 : (Tryd.prog.info? 9).map (fun i => (i.zero, i.size, i.bytes)) = some (some (.string ⟨#[]⟩), 1, 16) := by kernel_rfl

theorem row_base {w : World} {base : Nat} {e : TypeId} {size : Nat} {v : Value} {n : Nat} {xs : List Value} (h : w.ownsRow base e size v n xs) (j : Nat) (ej : v.ownBlock = some j) : base ≤ j := by
  rcases h.2 with ⟨rfl, _⟩ | ⟨g, cap, cur, rfl, hb, _⟩
  · cases ej
  · cases ej; exact hb
theorem row_cells {w : World} {base : Nat} {e : TypeId} {v : Value} {xs : List ByteArray} (h : w.ownsRow base e 1 v xs.length (xs.map Value.string)) (hne : xs ≠ []) :
    ∃ g cap, v = .slice (some ⟨g, 0, none⟩) xs.length cap ∧ xs.length ≤ cap ∧ g < w.heap.size ∧ ∀ (j : Nat) x, xs[j]? = some x → w.cell? ⟨g, 0 + j, none⟩ = some (.string x) := by
  rcases h.2 with ⟨_, h0⟩ | ⟨g, cap, cur, rfl, hb, hg, hc, _, hs, ht⟩
  · exact absurd (List.eq_nil_of_length_eq_zero h0) hne
  · refine ⟨g, cap, rfl, hc, (Array.getElem?_eq_some_iff.1 hg).1, fun j x hx => ?_⟩
    have hj : j < xs.length := (List.getElem?_eq_some_iff.1 hx).1
    have h1 : (xs.map Value.string)[j]? = some (.string x) := by simp [hx]
    rw [← ht, List.getElem?_take_of_lt (by omega)] at h1
    simp only [World.cell?, hg, Nat.zero_add]
    simpa using h1

set_option maxRecDepth 100000 in
set_option maxHeartbeats 1000000 in
theorem show_other (a : Nat) (ha : a < 4294967296) (h0 : a ≠ 0) (h1 : a ≠ 4294967295) (w : World) (hn : Nm w) :
    Calls Tryd.prog 22 #[.int .u32 (a : Int)] w fun e w' => e = .returned (.string ⟨(Lib.join ((heldL a 32).map (·.data.toList)) [44]).toArray⟩) ∧ Below w.heap.size w w' := by
  obtain ⟨i0, hi, hz0, hz1, hz2⟩ := info_parts info9
  obtain ⟨tt, fr, hg⟩ := hn
  have e0 : (((a : Nat) : Int) == 0) = false := by rw [beq_eq_false_iff_ne]; omega
  have e1 : (((a : Nat) : Int) == 4294967295) = false := by rw [beq_eq_false_iff_ne]; omega
  have HL := heldL_some h0 ha
  clear h0 h1
  go_enter Tryd.func22, Tryd.ntmps22
  go_wp2_with (refine wpList_load_row rfl 51 _ rfl 0 rfl tt _ fr _ hg Tryd.underlying51 rfl (by kernel_rfl) ?_)
  clear hg e0 e1
  go_loopw [3, 12] (fun v i wr => ∃ k : Nat, k ≤ 32 ∧ i = .int .i64 k ∧ wr.ownsRow w.heap.size 9 1 v (heldL a k).length ((heldL a k).map Value.string) ∧ Below w.heap.size w wr) (fun _ i _ => 32 - (intOf i).toNat)
  case atStart => exact ⟨0, Nat.zero_le _, rfl, World.ownsRow_nil _ _ _ _, Below.refl _ _⟩
  case round =>
    obtain ⟨k, hk, rfl, hown, hb⟩ := hrel
    by_cases hlt : k < 32
    · have hix := idx_names k hlt
      have hle := heldL_le a k
      cases hbit : a.testBit k with
      | true =>
        have hcall := has_any k a hlt ha
        rw [hbit] at hcall
        go_wp2_with (first
          | (go_at_call 32; refine (right_any k hlt _).mono ?_; rintro e w' ⟨rfl, rfl⟩)
          | (go_at_call 16; refine (hcall _).mono ?_; rintro e w' ⟨rfl, rfl⟩)
          | (at_builtin; refine wpList_append_own _ rfl _ _ 33 rfl w.heap.size 9 i0 (.string ⟨#[]⟩) 1 16 Tryd.underlying33 hi hz0 hz1 hz2 rfl (by decide) _ _ _ rfl (hown.alloc _) ⟨_, 0, none⟩ 1 1 [.string (nmB k)] rfl rfl ?c1 ?c2 ?c3 ?c4 ?c5 ?_))
        case c1 =>
          intro j u hj
          match j, hj with
          | 0, hj => simp at hj; subst hj; simp [Addr.add]
        case c2 => intro u hu; simp at hu; subst hu; rfl
        case c3 => unfold maxLen; omega
        case c4 => omega
        case c5 => have := hb.size; simp; omega
        intro v' w1 hown' hgrow _
        have hB1 := (hb.alloc hb.size (.cells #[.string (nmB k)] 9)).grown hgrow (by have := hb.size; simp; omega) (fun j ej => row_base hown j ej)
        clear hgrow
        have HR : Hid (w1.ownsRow w.heap.size 9 1 v' (heldL a (k + 1)).length ((heldL a (k + 1)).map Value.string)) := by
          show World.ownsRow _ _ _ _ _ _ _
          rw [heldL_yes hbit]; simpa using hown'
        clear hown' hown
        go_wp2
        go_roundw
        case rel => exact ⟨k + 1, by omega, by go_num, HR.out, hB1⟩
        case measure => simp [intOf]; omega
      | false =>
        have hcall := has_any k a hlt ha
        rw [hbit] at hcall
        go_wp2_with (first
          | (go_at_call 32; refine (right_any k hlt _).mono ?_; rintro e w' ⟨rfl, rfl⟩)
          | (go_at_call 16; refine (hcall _).mono ?_; rintro e w' ⟨rfl, rfl⟩))
        go_roundw
        case rel => exact ⟨k + 1, by omega, by go_num, by rw [heldL_no hbit]; exact hown, hb⟩
        case measure => simp [intOf]; omega
    · obtain rfl : k = 32 := by omega
      obtain ⟨g, cap, rfl, hcap, hgs, hcells⟩ := row_cells hown HL
      have hle := heldL_le a 32
      have hjl := join_len (heldL_short a 32)
      have hcall := Tryd.strings_Join g 0 cap (heldL a 32) ⟨#[44]⟩ wr hcells hgs (by omega) hcap (by simp only; omega)
      clear hcells hown hjl hle hcap
      go_wp2_with (go_at_call 33; refine hcall.mono ?_; rintro e w' ⟨rfl, hb2⟩)
      go_ret
      exact ⟨rfl, hb.trans (hb2.mono hb.size)⟩

theorem show_any (a : Nat) (ha : a < 4294967296) (w : World) (hn : Nm w) :
    Calls Tryd.prog 22 #[.int .u32 (a : Int)] w fun e w' => e = .returned (.string (showB a)) ∧ Below w.heap.size w w' := by
  unfold showB
  by_cases h0 : a = 0
  · subst h0
    rw [if_pos rfl]
    refine (show_none w).mono ?_
    rintro e w' ⟨rfl, rfl⟩
    exact ⟨rfl, Below.refl _ _⟩
  · by_cases h1 : a = 4294967295
    · subst h1
      rw [if_neg h0, if_pos rfl]
      refine (show_all w).mono ?_
      rintro e w' ⟨rfl, rfl⟩
      exact ⟨rfl, Below.refl _ _⟩
    · rw [if_neg h0, if_neg h1]
      exact show_other a ha h0 h1 w hn

end Go.Proofs.YtndnpcegofbbaaaDoor
