/- What Page and Names answer, whatever is asked; what a nil directory answers. -/
import Derived.Test.YtlpgflkfckhgeaaDPage
namespace Go.Proofs.Ytlpgflkfckhgeaa
open Go Go.RowKit

theorem ret_nil {w w' : World} {l : List ByteArray} (hl : l = []) (hb : Below w.heap.size w w') : RetNames w l (.returned (.slice none 0 0)) w' := by
  subst hl
  exact ⟨none, 0, rfl, .nil _ _ _, hb⟩

set_option maxRecDepth 100000 in
set_option maxHeartbeats 1000000 in
theorem page_any (hi d : Nat) (v : Value) (S : List Ent) (fr n : Int) (w : World) (hlen : S.length ≤ 1000) (h : DirAt hi w d v S) :
    Calls Try.prog 16 #[.pointer (some ⟨d, 0, none⟩), .int .i64 fr, .int .i64 n] w (RetNames w (pageL S fr n)) := by
  by_cases h0 : fr < 0
  · have HP : Hid (∀ w1, Below w.heap.size w w1 → RetNames w (pageL S fr n) (.returned (.slice none 0 0)) w1) := fun w1 hb => ret_nil (by unfold pageL; rw [if_pos (.inl h0)]) hb
    generalize RetNames w (pageL S fr n) = Post at *
    clear h
    go_enter Try.func16, Try.ntmps16
    go_wp2
    exact HP.out _ (Below.refl _ _)
  by_cases h1 : n < 0
  · have HP : Hid (∀ w1, Below w.heap.size w w1 → RetNames w (pageL S fr n) (.returned (.slice none 0 0)) w1) := fun w1 hb => ret_nil (by unfold pageL; rw [if_pos (.inr h1)]) hb
    generalize RetNames w (pageL S fr n) = Post at *
    clear h
    go_enter Try.func16, Try.ntmps16
    go_wp2
    exact HP.out _ (Below.refl _ _)
  by_cases h2 : (S.length : Int) ≤ fr
  · have HP : Hid (∀ w1, Below w.heap.size w w1 → RetNames w (pageL S fr n) (.returned (.slice none 0 0)) w1) := fun w1 hb => ret_nil (by
      unfold pageL
      rw [if_neg (by omega), List.drop_of_length_le (by rw [names_len]; omega), List.take_nil]) hb
    have cL := len_any hi d v S w h
    generalize RetNames w (pageL S fr n) = Post at *
    clear h
    go_enter Try.func16, Try.ntmps16
    go_wp2_with fail
    refine cL.mono ?_
    rintro e w1 ⟨rfl, rfl⟩
    go_wp2
    exact HP.out _ (Below.refl _ _)
  · obtain ⟨k, rfl⟩ : ∃ k : Nat, fr = (k : Int) := ⟨fr.toNat, by omega⟩
    obtain ⟨m, hm⟩ : ∃ m : Nat, min n ((S.length : Int) - (k : Int)) = (m : Int) := ⟨(min n ((S.length : Int) - (k : Int))).toNat, by omega⟩
    have e : pageL S (k : Int) n = ((names S).drop k).take m := by
      unfold pageL
      rw [if_neg (by omega), Int.toNat_natCast]
      by_cases hq : n ≤ (S.length : Int) - (k : Int)
      · rw [show n.toNat = m by omega]
      · rw [List.take_of_length_le (by rw [List.length_drop, names_len]; omega), List.take_of_length_le (by rw [List.length_drop, names_len]; omega)]
    rw [e]
    exact page_some hi d v S k m n w hlen (by omega) (by omega) hm h

set_option maxRecDepth 100000 in
theorem names_dir (hi d : Nat) (v : Value) (S : List Ent) (w : World) (hlen : S.length ≤ 1000) (h : DirAt hi w d v S) :
    Calls Try.prog 13 #[.pointer (some ⟨d, 0, none⟩)] w (RetNames w (names S)) := by
  have cL := len_any hi d v S w h
  have cP := page_any hi d v S 0 S.length w hlen h
  have e : pageL S 0 S.length = names S := by
    unfold pageL
    rw [if_neg (by omega)]
    simp [List.take_of_length_le, names_len]
  rw [e] at cP
  have HP : Hid (∀ (e : Ending) w1, RetNames w (names S) e w1 → ∃ r, e = .returned r ∧ RetNames w (names S) (.returned r) w1) := fun e w1 ⟨p, c, he, h1, h2⟩ => ⟨_, he, p, c, rfl, h1, h2⟩
  generalize RetNames w (names S) = Post at *
  clear h
  go_enter Try.func13, Try.ntmps13
  go_wp2_with fail
  refine cL.mono ?_
  rintro e w1 ⟨rfl, rfl⟩
  go_wp2_with fail
  refine cP.mono ?_
  intro e w2 hp
  obtain ⟨r, rfl, hr⟩ := HP.out e w2 hp
  go_wp2
  exact hr

set_option maxRecDepth 100000 in
theorem len_nil (w : World) : Calls Try.prog 9 #[.pointer none] w fun e w' => e = .returned (.int .i64 0) ∧ w' = w := by
  go_enter Try.func9, Try.ntmps9
  go_wp2
  go_ret
  exact ⟨rfl, rfl⟩
set_option maxRecDepth 100000 in
theorem place_nil (nm : ByteArray) (w : World) : Calls Try.prog 25 #[.pointer none, .string nm] w fun e w' => e = .returned (.tuple #[.int .i64 0, .bool false]) ∧ Below w.heap.size w w' := by
  have cL := fun W => len_nil W
  have B1 := on_trans (on_alloc w (.cells #[.pointer none] 23)) (on_alloc _ (.cells #[.string nm] 9))
  have cF := find_some 30 #[.pointer (some ⟨w.heap.size + 1, 0, none⟩), .pointer (some ⟨w.heap.size, 0, none⟩)] (fun _ => 1)
    (fun _ => True) 0 0 en_place1 (fun _ _ _ _ => trivial) (fun k W hk _ => absurd hk (Nat.not_lt_zero _)) (Nat.le_refl _) (fun k hk => absurd hk (Nat.not_lt_zero _)) ((w.alloc (.cells #[.pointer none] 23)).alloc (.cells #[.string nm] 9)) trivial (by decide)
  have HB : Hid _ := B1
  clear B1
  simp only [Nat.lt_irrefl, decide_false, Bool.false_and, Int.natCast_zero] at cF
  go_enter Try.func25, Try.ntmps25
  go_wp2_with fail
  refine (cL _).mono ?_
  rintro e w1 ⟨rfl, rfl⟩
  go_wp2_with fail
  refine cF.mono ?_
  rintro e w1 ⟨rfl, hb⟩
  go_wp2
  go_ret2
  exact ⟨rfl, on_trans HB.out hb⟩
set_option maxRecDepth 100000 in
theorem find_nil (nm : ByteArray) (w : World) : Calls Try.prog 10 #[.pointer none, .string nm] w fun e w' => e = .returned (.tuple #[.int .i64 0, .bool false]) ∧ Below w.heap.size w w' := by
  have cP := place_nil nm w
  go_enter Try.func10, Try.ntmps10
  go_wp2_with fail
  refine cP.mono ?_
  rintro e w1 ⟨rfl, hb⟩
  go_wp2
  go_ret2
  exact ⟨rfl, hb⟩
set_option maxRecDepth 100000 in
theorem set_nil (nm : ByteArray) (ino : Int) (w : World) : Calls Try.prog 20 #[.pointer none, .string nm, .int .i64 ino] w fun e w' => e = .returned (.tuple #[.int .i64 0, .int .i64 22]) ∧ w' = w := by
  go_enter Try.func20, Try.ntmps20
  go_wp2
  go_ret2
  exact ⟨rfl, rfl⟩
set_option maxRecDepth 100000 in
theorem remove_nil (nm : ByteArray) (w : World) : Calls Try.prog 21 #[.pointer none, .string nm] w fun e w' => e = .returned (.tuple #[.int .i64 0, .int .i64 22]) ∧ w' = w := by
  go_enter Try.func21, Try.ntmps21
  go_wp2
  go_ret2
  exact ⟨rfl, rfl⟩
set_option maxRecDepth 100000 in
theorem add_nil (nm : ByteArray) (ino : Int) (w : World) : Calls Try.prog 19 #[.pointer none, .string nm, .int .i64 ino] w fun e w' => e = .returned (.int .i64 22) ∧ w' = w := by
  go_enter Try.func19, Try.ntmps19
  go_wp2
  go_ret
  exact ⟨rfl, rfl⟩
set_option maxRecDepth 100000 in
theorem page_nil (fr n : Int) (w : World) : Calls Try.prog 16 #[.pointer none, .int .i64 fr, .int .i64 n] w fun e w' => e = .returned (.slice none 0 0) ∧ w' = w := by
  by_cases h0 : fr < 0
  · go_enter Try.func16, Try.ntmps16
    go_wp2
    go_ret
    exact ⟨rfl, rfl⟩
  by_cases h1 : n < 0
  · go_enter Try.func16, Try.ntmps16
    go_wp2
    go_ret
    exact ⟨rfl, rfl⟩
  have h2 : (0 : Int) ≤ fr := by omega
  have cL := len_nil w
  go_enter Try.func16, Try.ntmps16
  go_wp2_with fail
  refine cL.mono ?_
  rintro e w1 ⟨rfl, rfl⟩
  go_wp2
  go_ret
  exact ⟨rfl, rfl⟩
set_option maxRecDepth 100000 in
theorem names_nil (w : World) : Calls Try.prog 13 #[.pointer none] w fun e w' => e = .returned (.slice none 0 0) ∧ w' = w := by
  have cL := len_nil w
  have cP := page_nil 0 0 w
  go_enter Try.func13, Try.ntmps13
  go_wp2_with fail
  refine cL.mono ?_
  rintro e w1 ⟨rfl, rfl⟩
  go_wp2_with fail
  refine cP.mono ?_
  rintro e w2 ⟨rfl, rfl⟩
  go_wp2
  go_ret
  exact ⟨rfl, rfl⟩

end Go.Proofs.Ytlpgflkfckhgeaa
