/- The laws' helper lives answers true. -/
import Derived.Test.YtidcfbjefemhdaaPParse
namespace Go.Proofs.Ytidcfbjefemhdaa
open Go Go.RowKit

def aB : ByteArray := ⟨#[97]⟩
def bB : ByteArray := ⟨#[98]⟩
def liveB : ByteArray := ⟨#[47, 97, 47, 47, 98, 47]⟩
theorem live_parts : partsOf liveB = [aB, bB] := by decide +kernel
theorem live_E : pE liveB = 0 := by decide +kernel
theorem live_A : pA liveB = true := by unfold pA; rw [if_pos live_E]; decide +kernel
theorem live_D : pD liveB = true := by unfold pD; rw [if_pos live_E, live_parts]; decide +kernel
theorem live_L : pL liveB = [aB, bB] := by unfold pL; rw [if_pos live_E, live_parts]

theorem cont_a (w : World) : Calls Try.prog 31 #[.string aB, .string ⟨#[47, 0]⟩] w fun e w' => e = .returned (.bool false) ∧ Below w.heap.size w w' := by
  have c := Try.strings_ContainsAny_laid aB ⟨#[47, 0]⟩ w (by decide) (by decide) (fun j b h => by
    match j, h with
    | 0, h => simp [aB] at h; subst h; decide
    | j + 1, h => simp [aB] at h) (fun j b h => by
    match j, h with
    | 0, h => simp at h; subst h; decide
    | 1, h => simp at h; subst h; decide
    | j + 2, h => simp at h)
  have e : Lib.containsAny aB.data.toList [47, 0] = false := by decide +kernel
  have e2 : Lib.containsAny aB.data.toList (⟨#[47, 0]⟩ : ByteArray).data.toList = false := e
  rw [e2] at c
  exact c

set_option maxRecDepth 100000 in
set_option maxHeartbeats 1000000 in
theorem name_a (w : World) : Calls Try.prog 18 #[.string aB] w fun e w' => e = .returned (.int .i64 0) ∧ Below w.heap.size w w' := by
  have cC := cont_a
  have cT := tooLong_any aB
  have e1 : aB.toList.isEmpty = false := by rw [empty_iff]; rfl
  have e2 : (aB.toList == [46]) = false := by rw [ByteArray.toList_eq]; rfl
  have e3 : (aB.toList == [46, 46]) = false := by rw [ByteArray.toList_eq]; rfl
  have hsz : aB.size ≤ 10000 := by decide
  have cT2 := fun W => cT W hsz
  rw [show decide (32 < aB.size) = false from rfl] at cT2
  clear cT
  generalize aB = s at *
  go_enter Try.func18, Try.ntmps18
  go_wp2_with fail
  refine (cT2 _).mono ?_
  rintro e w1 ⟨rfl, rfl⟩
  go_wp2_with fail
  refine (cC _).mono ?_
  rintro e w2 ⟨rfl, hb⟩
  go_wp2
  go_ret
  exact ⟨rfl, hb⟩

theorem at_row2 (w : World) (x y : ByteArray) : At (w.alloc (.cells #[.string x, .string y] 9)) (some ⟨w.heap.size, 0, none⟩) [x, y] :=
  .inr ⟨w.heap.size, 0, rfl, by simp, fun j hj => by
    have h2 : j < 2 := by simpa using hj
    rw [cell_of_row _ _ _ _ _ _ (World.alloc_heap_new w _)]
    match j, h2 with
    | 0, _ => rfl
    | 1, _ => rfl⟩

set_option maxRecDepth 100000 in
set_option maxHeartbeats 1000000 in
theorem lives_any (w : World) : Calls Try.prog 9 #[] w fun e w' => e = .returned (.bool true) ∧ Below w.heap.size w w' := by
  have c1 := parse_any liveB w (by decide)
  rw [live_A, live_D, live_L, live_E] at c1
  have cN := fun (p : Option Addr) (c : Nat) (W : World) (hat : At W p [aB, bB]) => names_any p (some ⟨W.heap.size + 1, 0, none⟩) c 2 [aB, bB] ((W.alloc (.cells #[.bool true, .bool true, .slice p 2 c] 24)).alloc (.cells #[.string aB, .string bB] 9)) (by decide)
    ((hat.alloc _).alloc _) (by have := at_row2 (W.alloc (.cells #[.bool true, .bool true, .slice p 2 c] 24)) aB bB; rwa [World.size_alloc] at this)
  have cA := name_a
  unfold liveB at c1
  unfold aB bB at cN
  unfold aB at cA
  go_enter Try.func9, Try.ntmps9
  go_wp2_with fail
  refine c1.mono ?_
  rintro e w1 ⟨hb1, p, c, rfl, hat, _⟩
  have HB : Hid (Below w.heap.size w ((w1.alloc (.cells #[.bool true, .bool true, .slice p 2 c] 24)).alloc (.cells #[.string ⟨#[97]⟩, .string ⟨#[98]⟩] 9))) := on_trans (on_trans hb1 (on_alloc _ _)) (on_alloc _ _)
  have cN2 := cN p c w1 hat.at
  clear cN c1 hat hb1
  go_wp2_with fail
  refine cN2.mono ?_
  rintro e w2 ⟨rfl, hb2⟩
  have HB2 : Hid (Below w.heap.size w w2) := on_trans HB.out hb2
  clear cN2 HB hb2
  go_wp2_with fail
  refine (cA _).mono ?_
  rintro e w3 ⟨rfl, hb3⟩
  go_wp2
  go_ret
  exact ⟨rfl, on_trans HB2.out hb3⟩

end Go.Proofs.Ytidcfbjefemhdaa
