/- What 'lives' answers; an act, whatever it is. -/
import Derived.Test.YtlpgflkfckhgeaaDDoes
namespace Go.Proofs.Ytlpgflkfckhgeaa
open Go Go.RowKit

theorem does_any (hi d : Nat) (S l : List Ent) (rv : Value) (kd : Int) (nm : ByteArray) (ino : Int) (w : World) (hhi : hi ≤ w.heap.size) (hR : Rel S l) (h : Dir hi w d S) (hr : RowR 0 w rv l) (hnm : nm.size ≤ 9223372036854775807) :
    Calls Try.prog 8 #[.pointer (some ⟨d, 0, none⟩), rv, .agg #[.int .i64 kd, .string nm, .int .i64 ino]] w (DoesPost hi d w) := by
  obtain ⟨v, h⟩ := h
  by_cases h1 : kd = 1
  · exact does_set hi d v S l rv kd nm ino w hhi hR h hr hnm h1
  by_cases h2 : kd = 2
  · exact does_rem hi d v S l rv kd nm ino w hhi hR h hr hnm h2
  · exact does_add hi d v S l rv kd nm ino w hhi hR h hr hnm (beq_eq_false_iff_ne.2 h1) (beq_eq_false_iff_ne.2 h2)

def aN : ByteArray := ⟨#[97]⟩
def bN : ByteArray := ⟨#[98]⟩
theorem live1 : addE bN 2 [] = 0 := by decide +kernel
theorem live2 : addS bN 2 [] = [(bN, 2)] := by unfold addS; rw [if_pos live1]; rfl
theorem live3 : addE aN 3 [(bN, 2)] = 0 := by decide +kernel
theorem live4 : addS aN 3 [(bN, 2)] = [(aN, 3), (bN, 2)] := by
  have : under aN [(bN, 2)] = 0 := by decide +kernel
  unfold addS; rw [if_pos live3, this]; rfl
theorem at_two (w : World) (x y : ByteArray) : At (w.alloc (.cells #[.string x, .string y] 9)) (some ⟨w.heap.size, 0, none⟩) (strV [x, y]) :=
  .inr ⟨w.heap.size, 0, rfl, Nat.zero_le _, by simp, fun j v hj => by
    rw [Nat.zero_add]
    exact (Blk.new w 9 (strV [x, y])).cell j hj⟩

set_option maxRecDepth 100000 in
set_option maxHeartbeats 1000000 in
theorem lives_any (w : World) : Calls Try.prog 15 #[] w fun e w' => e = .returned (.bool true) ∧ Below w.heap.size w w' := by
  have cN := new_any w
  have hd := new_dir w w.heap.size (Nat.le_refl _)
  have hb0 := on_alloc w (.cells #[.slice none 0 0] 54)
  have c1 := add_any w.heap.size w.heap.size _ [] bN 2 _ (by decide) (by decide) List.Pairwise.nil hb0.size hd
  rw [live1, live2] at c1
  have hs1 : Sorted [(bN, (2 : Int))] := List.pairwise_singleton _ _
  have C2 : Hid (∀ w2 v, w.heap.size ≤ w2.heap.size → DirAt w.heap.size w2 w.heap.size v [(bN, 2)] → Calls Try.prog 19 #[.pointer (some ⟨w.heap.size, 0, none⟩), .string aN, .int .i64 3] w2 (DirPost w.heap.size w.heap.size w2 (.int .i64 0) [(aN, 3), (bN, 2)])) := fun w2 v hw h2 => by
    have := add_any w.heap.size w.heap.size v [(bN, 2)] aN 3 w2 (by decide) (by decide) hs1 hw h2
    rwa [live3, live4] at this
  have HB0 : Hid (Below w.heap.size w (w.alloc (.cells #[.slice none 0 0] 54))) := hb0
  unfold bN at c1
  unfold aN bN at C2
  clear hd hb0 hs1
  go_enter Try.func15, Try.ntmps15
  go_wp2_with fail
  refine cN.mono ?_
  rintro e w1 ⟨rfl, hw1⟩
  subst hw1
  clear cN
  go_wp2_with fail
  refine c1.mono ?_
  rintro e w2 ⟨rfl, ⟨v2, hd2⟩, ht2⟩
  have hB2 := ht2.below HB0.out (Nat.le_refl _) HB0.out.size
  have c2 := C2.out w2 v2 hB2.size hd2
  clear c1 hd2
  go_wp2_with fail
  refine c2.mono ?_
  rintro e w3 ⟨rfl, ⟨v3, hd3⟩, ht3⟩
  have hB3 := ht3.below hB2 (Nat.le_refl _) hB2.size
  have c3 := names_dir w.heap.size w.heap.size v3 _ w3 (by decide) hd3
  clear c2 hd3 C2
  go_wp2_with fail
  refine c3.mono ?_
  rintro e w4 ⟨p, c, rfl, hat, hb4⟩
  have hb5 := on_alloc w4 (.cells #[.string ⟨#[97]⟩, .string ⟨#[98]⟩] 9)
  have c4 := names_two p (some ⟨w4.heap.size, 0, none⟩) c 2 [⟨#[97]⟩, ⟨#[98]⟩] (w4.alloc (.cells #[.string ⟨#[97]⟩, .string ⟨#[98]⟩] 9)) (by decide) (hat.at.on hb5) (at_two w4 ⟨#[97]⟩ ⟨#[98]⟩)
  have hB5 := on_trans (hB3.trans (hb4.mono hB3.size)) hb5
  have HB5 : Hid _ := hB5
  clear c3 hat hb4 hB2 hB3 hB5 ht2 ht3
  simp only [List.length_cons, List.length_nil, names, List.map_cons, List.map_nil] at c4 ⊢
  go_wp2_with fail
  refine c4.mono ?_
  rintro e w6 ⟨rfl, hb6⟩
  have HB6 : Hid _ := HB5.out.trans (hb6.mono HB5.out.size)
  go_wp2
  go_ret
  exact ⟨rfl, HB6.out⟩

set_option maxRecDepth 100000 in
set_option maxHeartbeats 1000000 in
theorem nil_walk (kd : Int) (nm : ByteArray) (ino fr n : Int) (w : World) :
    Calls Try.prog 6 #[.agg #[.int .i64 kd, .string nm, .int .i64 ino], .int .i64 fr, .int .i64 n] w fun e w' => e = .returned (.bool true) ∧ Below w.heap.size w w' := by
  have hb0 := on_alloc w (.cells #[.int .i64 kd, .string nm, .int .i64 ino] 29)
  have hbx := Blk.new w 29 [.int .i64 kd, .string nm, .int .i64 ino]
  have cF := find_nil nm (w.alloc (.cells #[.int .i64 kd, .string nm, .int .i64 ino] 29))
  have HB : Hid (Below w.heap.size w (w.alloc (.cells #[.int .i64 kd, .string nm, .int .i64 ino] 29)) ∧ Blk (w.alloc (.cells #[.int .i64 kd, .string nm, .int .i64 ino] 29)) w.heap.size 29 [.int .i64 kd, .string nm, .int .i64 ino]) := ⟨hb0, hbx⟩
  clear hb0 hbx
  go_enter Try.func6, Try.ntmps6
  go_wp2_with fail
  refine cF.mono ?_
  rintro e w1 ⟨rfl, hb1⟩
  have hB1 := on_trans HB.out.1 hb1
  have x0 := (HB.out.2.on hb1).cell 1 rfl
  have x1 := (HB.out.2.on hb1).cell 2 rfl
  clear cF
  go_wp2_with fail
  refine (set_nil nm ino w1).mono ?_
  rintro e w2 ⟨rfl, hw2⟩
  subst hw2
  go_wp2_with fail
  refine (remove_nil nm w2).mono ?_
  rintro e w3 ⟨rfl, hw3⟩
  subst hw3
  go_wp2_with fail
  refine (len_nil w3).mono ?_
  rintro e w4 ⟨rfl, hw4⟩
  subst hw4
  go_wp2_with fail
  refine (add_nil nm ino w4).mono ?_
  rintro e w5 ⟨rfl, hw5⟩
  subst hw5
  go_wp2_with fail
  refine (names_nil w5).mono ?_
  rintro e w6 ⟨rfl, hw6⟩
  subst hw6
  go_wp2_with fail
  refine (page_nil fr n w6).mono ?_
  rintro e w7 ⟨rfl, hw7⟩
  subst hw7
  go_wp2_with fail
  refine (lives_any w7).mono ?_
  rintro e w8 ⟨rfl, hb8⟩
  go_wp2
  go_ret
  exact ⟨rfl, on_trans hB1 hb8⟩

end Go.Proofs.Ytlpgflkfckhgeaa
