/- What the shape of a call lets be: its small letters, the bounds of its texts, its list. -/
import Derived.Test.YtgolihipinjfmaaGreatDoorJMod
import Derived.Test.YtgolihipinjfmaaGreatDoorShelf
import Derived.Test.YtgolihipinjfmaaGreatDoorShelfM
import Derived.Test.YtgolihipinjfmaaGreatDoorGMem
import Derived.Deep.DeepCutAuto
import Derived.Deep.LoopGhost
namespace Go.Proofs.YtgolihipinjfmaaGreatDoor.J
open Go Go.RowKit Go.Shelf
open Go.Proofs.YtgolihipinjfmaaGreatDoor.C (cshape byt byt_list byt_size row_size)

/-- The library's tables of UTF-8 are in memory. -/
def Ut (w : World) : Prop := Lib.Utf8Tabs 6 7 w
theorem Ut.below {w w' : World} (h : Ut w) (hb : Below w.heap.size w w') : Ut w' := Utf8Tabs_below h hb

theorem small_any (x : Int) (w : World) : Calls Tryz.prog 50 #[.int .i32 x] w fun e W => e = .returned (.int .i32 (smF x)) ∧ Below w.heap.size w W := by
  cases h0 : decide (97 ≤ x)
  · have ht : smF x = -1 := by unfold smF; rw [if_neg]; intro h; simp at h0; omega
    rw [ht]
    go_enter Tryz.func50, Tryz.ntmps50
    go_wp2
    go_ret
    exact ⟨rfl, Below.refl _ _⟩
  · cases h1 : decide (x ≤ 122)
    · have ht : smF x = -1 := by unfold smF; rw [if_neg]; intro h; simp at h1; omega
      rw [ht]
      go_enter Tryz.func50, Tryz.ntmps50
      go_wp2
      go_ret
      exact ⟨rfl, Below.refl _ _⟩
    · have ht : smF x = x := by unfold smF; rw [if_pos]; simp at h0 h1; exact ⟨h0, h1⟩
      rw [ht]
      go_enter Tryz.func50, Tryz.ntmps50
      go_wp2
      go_ret
      exact ⟨rfl, Below.refl _ _⟩
theorem en_small : ∀ args w, (callFunc 50 args).run Tryz.prog w = .ok (.enter 50 args) w := fun _ _ => by simp [callFunc, Tryz.func50]; rfl
theorem smalls_at (k : Fin 64) (w : World) (hu : Ut w) : Calls Tryz.prog 35 #[.string (byt (cshape k))] w fun e W => e = .returned (.string (byt (sm k))) ∧ Below w.heap.size w W := by
  have cM := Tryz.strings_Map_grows 50 #[] en_small smF (byt (cshape k)) w (by rw [byt_size]; have := (row_size k).2; omega)
    (fun W x _ _ => small_any (x : Int) W) (fun x hx => by unfold smF; split <;> omega) hu
  rw [byt_list, map_sm] at cM
  replace cM : Calls Tryz.prog 49 #[.func (.func 50) #[] #[], .string (byt (cshape k))] w fun e W => e = .returned (.string (byt (sm k))) ∧ Below w.heap.size w W := cM
  generalize byt (cshape k) = s at *
  generalize byt (sm k) = t at *
  go_enter Tryz.func35, Tryz.ntmps35
  go_wp2_with (go_at_call 49; refine cM.mono ?_; rintro e W ⟨rfl, hb⟩)
  go_ret
  exact ⟨rfl, hb⟩

theorem shape_ascii (k : Fin 64) : ∀ (j : Nat) b, (byt (cshape k)).data.toList[j]? = some b → b.toNat < 128 := by
  have h : ∀ k : Fin 64, (cshape k).all (fun b => decide (b.toNat < 128)) = true := by decide +kernel
  intro j b hj
  rw [byt_list] at hj
  simpa using List.all_eq_true.1 (h k) b (List.mem_of_getElem? hj)
theorem any_sy : ∀ k : Fin 64, Lib.containsAny (cshape k) [83, 89] = (has k 83 || has k 89) := by decide +kernel
theorem has_one : ∀ k : Fin 64, decide (0 ≤ Lib.indexByte (cshape k) 66) = has k 66 ∧ decide (0 ≤ Lib.indexByte (cshape k) 84) = has k 84 ∧ decide (0 ≤ Lib.indexByte (cshape k) 76) = has k 76 ∧ decide (0 ≤ Lib.indexByte (cshape k) 82) = has k 82 ∧ decide (0 ≤ Lib.indexByte (cshape k) 73) = has k 73 ∧ decide (0 ≤ Lib.indexByte (cshape k) 80) = has k 80 := by decide +kernel
theorem has_any (k : Fin 64) (c : UInt8) (hc : decide (0 ≤ Lib.indexByte (cshape k) c) = has k c) (w : World) :
    Calls Tryz.prog 37 #[.string (byt (cshape k)), .string ⟨#[c]⟩] w fun e W => e = .returned (.bool (has k c)) ∧ Below w.heap.size w W := by
  refine (Tryz.strings_Contains_one (byt (cshape k)) c w).mono ?_
  rintro e W ⟨rfl, rfl⟩
  rw [byt_list, hc]
  exact ⟨rfl, Below.refl _ _⟩
theorem mostS_at (k : Fin 64) (w : World) : Calls Tryz.prog 23 #[.string (byt (cshape k))] w fun e W => e = .returned (.int .i64 (mostS k : Int)) ∧ Below w.heap.size w W := by
  have cA := Tryz.strings_ContainsAny_laid (byt (cshape k)) ⟨#[83, 89]⟩ w (by rw [byt_size]; have := (row_size k).2; omega) (by decide) (shape_ascii k) (fun j b hj => by have h := List.mem_of_getElem? hj; simp at h; rcases h with rfl | rfl <;> decide)
  rw [byt_list, show (⟨#[83, 89]⟩ : ByteArray).data.toList = [83, 89] from rfl, any_sy] at cA
  have cB := fun w => has_any k 66 (has_one k).1 w
  unfold mostS
  generalize (has k 83 || has k 89) = b at *
  generalize has k 66 = b2 at *
  generalize byt (cshape k) = s at *
  go_enter Tryz.func23, Tryz.ntmps23
  cases b
  · cases b2
    all_goals
      go_wp2_with (first | (go_at_call 36; refine cA.mono ?_; rintro e W ⟨rfl, hb⟩) | (go_at_call 37; refine (cB _).mono ?_; rintro e W2 ⟨rfl, hb2⟩))
      go_ret
      exact ⟨rfl, hb.trans (hb2.mono hb.size)⟩
  · go_wp2_with (go_at_call 36; refine cA.mono ?_; rintro e W ⟨rfl, hb⟩)
    go_ret
    exact ⟨rfl, hb⟩
theorem mostT_at (k : Fin 64) (w : World) : Calls Tryz.prog 24 #[.string (byt (cshape k))] w fun e W => e = .returned (.int .i64 (mostT k : Int)) ∧ Below w.heap.size w W := by
  have cB := has_any k 84 (has_one k).2.1 w
  unfold mostT
  generalize has k 84 = b2 at *
  generalize byt (cshape k) = s at *
  go_enter Tryz.func24, Tryz.ntmps24
  cases b2
  all_goals
    go_wp2_with (go_at_call 37; refine cB.mono ?_; rintro e W ⟨rfl, hb⟩)
    go_ret
    exact ⟨rfl, hb⟩

/-- A list of numbers, as values. -/
def ints (l : List Int) : List Value := l.map fun z => .int .i64 z
theorem ints_len (l : List Int) : (ints l).length = l.length := by simp [ints]
theorem ints_get {l : List Int} {j : Nat} {z : Int} (h : l[j]? = some z) : (ints l)[j]? = some (.int .i64 z) := by simp [ints, h]
theorem rem_two (n : Nat) : Int.tmod (n : Int) 2 = ((n % 2 : Nat) : Int) := (Int.ofNat_tmod n 2).symm
theorem pair_at {l : List Int} {i : Nat} {b : Int} (hi : i % 2 = 1) (h : l[i]? = some b) : pairB (l.drop (i - 1)) = (decide (1 ≤ b) && decide (b ≤ 3) && pairB (l.drop (i + 2 - 1))) := by
  obtain ⟨j, rfl⟩ : ∃ j, i = 2 * j + 1 := ⟨i / 2, by omega⟩
  rw [show 2 * j + 1 - 1 = 2 * j by omega, show 2 * j + 1 + 2 - 1 = 2 * (j + 1) by omega]
  exact pair_step h
theorem pair_done {l : List Int} {i : Nat} (hi : i % 2 = 1) (he : l.length % 2 = 0) (h : l.length ≤ i) : pairB (l.drop (i - 1)) = true := by
  obtain ⟨j, rfl⟩ : ∃ j, i = 2 * j + 1 := ⟨i / 2, by omega⟩
  rw [show 2 * j + 1 - 1 = 2 * j by omega]
  exact pair_end he h

set_option maxRecDepth 100000 in
theorem polled_any (l : List Int) (p : Option Addr) (c : Nat) (w : World) (hat : At w p (ints l)) (hl : l.length ≤ 1000000) :
    Calls Tryz.prog 39 #[.slice p l.length c] w fun e W => e = .returned (.bool (polB l)) ∧ Below w.heap.size w W := by
  obtain ⟨n, hn⟩ : ∃ n, l.length = n := ⟨_, rfl⟩
  have HN : Hid (l.length = n) := hn
  obtain ⟨P, hP⟩ : ∃ b, polB l = b := ⟨_, rfl⟩
  have HP : Hid (polB l = P) := hP
  have HA : Hid (At w p (ints l)) := hat
  rw [hn] at hl ⊢
  rw [hP]
  have hre := rem_two n
  clear hn hP hat
  rcases Nat.mod_two_eq_zero_or_one n with h2 | h2
  · have e2 : (Int.tmod (n : Int) 2 != 0) = false := by rw [hre, h2]; rfl
    by_cases h16 : n ≤ 16
    · have h16z : ¬ (16 : Int) < (n : Int) := by omega
      have HI0 : Hid (pairB (l.drop (1 - 1)) = P) := by
        show _ = _
        rw [← HP.out]
        unfold polB
        rw [HN.out]
        simp [h16]
      clear HP hre
      go_enter Tryz.func39, Tryz.ntmps39
      go_wp2
      go_loopw [3] (fun iv wr => ∃ i : Nat, i ≤ n + 1 ∧ i % 2 = 1 ∧ iv = .int .i64 (i : Int) ∧ Hid (pairB (l.drop (i - 1)) = P ∧ Below w.heap.size w wr)) (fun iv _ => n + 2 - (intOf iv).toNat)
      case atStart => exact ⟨1, by omega, rfl, rfl, HI0.out, by first | exact Below.refl _ _ | exact (Below.refl _ _).drew⟩
      case round =>
        clear HI0
        obtain ⟨i, hi, hodd, rfl, HI⟩ := hrel
        by_cases hlt : i < n
        · have hltz : (i : Int) < (n : Int) := by omega
          obtain ⟨b, off, hp, _, hb, hc⟩ := HA.out.place (k := i) (by rw [ints_len, HN.out]; exact hlt)
          subst hp
          obtain ⟨z, hz⟩ : ∃ z, l[i]? = some z := ⟨l[i]'(by rw [HN.out]; exact hlt), List.getElem?_eq_getElem _⟩
          have hx : wr.cell? ⟨b, off + i, none⟩ = some (.int .i64 z) := (HI.out.2.cell (p := ⟨b, off + i, none⟩) hb).trans (hc _ _ (ints_get hz))
          have HZ : Hid (P = (decide (1 ≤ z) && decide (z ≤ 3) && pairB (l.drop (i + 2 - 1)))) := by show _ = _; rw [← HI.out.1, pair_at hodd hz]
          clear hc hz
          by_cases h1 : z < 1
          · have hPf : P = false := by rw [HZ.out, show decide (1 ≤ z) = false by simpa using h1]; rfl
            subst hPf
            clear HZ
            go_wp2
            go_ret
            exact ⟨rfl, by first | exact HI.out.2 | exact HI.out.2.drew | exact HI.out.2.drew.drew⟩
          · by_cases h3 : 3 < z
            · have hPf : P = false := by rw [HZ.out, show decide (z ≤ 3) = false by simpa using h3]; simp
              subst hPf
              clear HZ
              go_wp2
              go_ret
              exact ⟨rfl, by first | exact HI.out.2 | exact HI.out.2.drew | exact HI.out.2.drew.drew⟩
            · have HZ2 : Hid (pairB (l.drop (i + 2 - 1)) = P) := by
                show _ = _
                rw [HZ.out, show decide (1 ≤ z) = true by simp; omega, show decide (z ≤ 3) = true by simp; omega]
                rfl
              clear HZ
              go_wp2
              refine ⟨⟨i + 2, by omega, by omega, by go_num, HZ2.out, by first | exact HI.out.2 | exact HI.out.2.drew | exact HI.out.2.drew.drew⟩, by simp [intOf]; omega⟩
        · have hge : ¬ (i : Int) < (n : Int) := by omega
          have hPt : P = true := by rw [← HI.out.1]; exact pair_done hodd (by rw [HN.out]; exact h2) (by rw [HN.out]; omega)
          subst hPt
          go_wp2
          go_ret
          exact ⟨rfl, by first | exact HI.out.2 | exact HI.out.2.drew | exact HI.out.2.drew.drew⟩
    · have h16z : (16 : Int) < (n : Int) := by omega
      have hPf : P = false := by rw [← HP.out]; unfold polB; rw [HN.out]; simp [h16]
      subst hPf
      clear HP HN HA
      go_enter Tryz.func39, Tryz.ntmps39
      go_wp2
      go_ret
      exact ⟨rfl, by first | exact Below.refl _ _ | exact (Below.refl _ _).drew⟩
  · have e2 : (Int.tmod (n : Int) 2 != 0) = true := by rw [hre, h2]; rfl
    have hPf : P = false := by rw [← HP.out]; unfold polB; rw [pair_odd l (by rw [HN.out]; exact h2)]; rfl
    subst hPf
    clear HP HN HA
    go_enter Tryz.func39, Tryz.ntmps39
    go_wp2
    go_ret
    exact ⟨rfl, by first | exact Below.refl _ _ | exact (Below.refl _ _).drew⟩

end Go.Proofs.YtgolihipinjfmaaGreatDoor.J
