/- Package socks: stores that there are none of; what is read; Bind, Listen. -/
import Derived.Test.YtfhkdndgiofidaaXSt
namespace Go.Proofs.Ytfhkdndgiofidaa.X
open Go Go.RowKit Go.Maps Go.Proofs.Ytfhkdndgiofidaa.K

theorem numbers_nil (w : World) : Calls Try.prog 13 #[.pointer none] w fun e w' => e = .returned (.int .i64 0) ∧ w' = w := by
  go_enter Try.func13, Try.ntmps13
  go_wp2
  go_ret
  exact ⟨rfl, rfl⟩
theorem get_nil (z : Int) (w : World) : Calls Try.prog 55 #[.pointer none, .int .i64 z] w fun e w' => e = .returned (.pointer none) ∧ w' = w := by
  go_enter Try.func55, Try.ntmps55
  go_wp2
  go_ret
  exact ⟨rfl, rfl⟩
theorem make_nil (w : World) : Calls Try.prog 34 #[.pointer none] w fun e w' => e = .returned (.int .i64 0) ∧ w' = w := by
  go_enter Try.func34, Try.ntmps34
  go_wp2_with fail
  refine (numbers_nil _).mono ?_
  rintro e _ ⟨rfl, rfl⟩
  go_wp2
  go_ret
  exact ⟨rfl, rfl⟩
theorem pair_nil (w : World) : Calls Try.prog 26 #[.pointer none] w fun e w' => e = .returned (.tuple #[.int .i64 0, .int .i64 0]) ∧ w' = w := by
  go_enter Try.func26, Try.ntmps26
  go_wp2_with fail
  refine (make_nil _).mono ?_
  rintro e _ ⟨rfl, rfl⟩
  go_wp2_with fail
  refine (make_nil _).mono ?_
  rintro e _ ⟨rfl, rfl⟩
  go_wp2
  go_ret2
  exact ⟨rfl, rfl⟩
theorem find_nil (z : Int) (w : World) : Calls Try.prog 35 #[.pointer none, .int .i64 z] w fun e w' => e = .returned (.int .i64 0) ∧ w' = w := by
  go_enter Try.func35, Try.ntmps35
  go_wp2
  go_ret
  exact ⟨rfl, rfl⟩
theorem accept_nil (z : Int) (w : World) : Calls Try.prog 33 #[.pointer none, .int .i64 z] w fun e w' => e = .returned (.tuple #[.int .i64 0, .int .i64 22]) ∧ w' = w := by
  go_enter Try.func33, Try.ntmps33
  go_wp2_with fail
  refine (get_nil _ _).mono ?_
  rintro e _ ⟨rfl, rfl⟩
  go_wp2
  go_ret2
  exact ⟨rfl, rfl⟩
theorem joined_nil (z : Int) (w : World) : Calls Try.prog 64 #[.pointer none, .int .i64 z] w fun e w' => e = .returned (.tuple #[.pointer none, .int .i64 22]) ∧ w' = w := by
  go_enter Try.func64, Try.ntmps64
  go_wp2_with fail
  refine (get_nil _ _).mono ?_
  rintro e _ ⟨rfl, rfl⟩
  go_wp2
  go_ret2
  exact ⟨rfl, rfl⟩
theorem shut_nil (z how : Int) (w : World) : Calls Try.prog 28 #[.pointer none, .int .i64 z, .int .i64 how] w fun e w' => e = .returned (.tuple #[.slice none 0 0, .int .i64 22]) ∧ w' = w := by
  go_enter Try.func28, Try.ntmps28
  go_wp2_with fail
  refine (joined_nil _ _).mono ?_
  rintro e _ ⟨rfl, rfl⟩
  go_wp2
  go_ret2
  exact ⟨rfl, rfl⟩
theorem send_nil (z : Int) (v1 v2 : Value) (w : World) : Calls Try.prog 24 #[.pointer none, .int .i64 z, v1, v2] w fun e w' => e = .returned (.tuple #[.int .i64 0, .int .i64 22]) ∧ w' = w := by
  go_enter Try.func24, Try.ntmps24
  go_wp2_with fail
  refine (joined_nil _ _).mono ?_
  rintro e _ ⟨rfl, rfl⟩
  go_wp2
  go_ret2
  exact ⟨rfl, rfl⟩
theorem ready_nil (z : Int) (w : World) : Calls Try.prog 15 #[.pointer none, .int .i64 z] w fun e w' => e = .returned (.tuple #[.bool false, .bool false]) ∧ w' = w := by
  go_enter Try.func15, Try.ntmps15
  go_wp2_with fail
  refine (get_nil _ _).mono ?_
  rintro e _ ⟨rfl, rfl⟩
  go_wp2
  go_ret2
  exact ⟨rfl, rfl⟩
theorem dump_nil (w : World) : Calls Try.prog 12 #[.pointer none] w fun e w' => e = .returned (.slice none 0 0) ∧ w' = w := by
  go_enter Try.func12, Try.ntmps12
  go_wp2
  go_ret
  exact ⟨rfl, rfl⟩
theorem close_nil (z : Int) (w : World) : Calls Try.prog 32 #[.pointer none, .int .i64 z] w fun e w' => e = .returned (.slice none 0 0) ∧ w' = w := by
  go_enter Try.func32, Try.ntmps32
  go_wp2_with fail
  refine (get_nil _ _).mono ?_
  rintro e _ ⟨rfl, rfl⟩
  go_wp2
  go_ret
  exact ⟨rfl, rfl⟩
theorem next_nil (z : Int) (w : World) : Calls Try.prog 18 #[.pointer none, .int .i64 z] w fun e w' => e = .returned (.int .i64 0) ∧ w' = w := by
  go_enter Try.func18, Try.ntmps18
  go_wp2_with fail
  refine (get_nil _ _).mono ?_
  rintro e _ ⟨rfl, rfl⟩
  go_wp2
  go_ret
  exact ⟨rfl, rfl⟩
theorem len_nil (z : Int) (w : World) : Calls Try.prog 20 #[.pointer none, .int .i64 z] w fun e w' => e = .returned (.int .i64 0) ∧ w' = w := by
  go_enter Try.func20, Try.ntmps20
  go_wp2_with fail
  refine (get_nil _ _).mono ?_
  rintro e _ ⟨rfl, rfl⟩
  go_wp2
  go_ret
  exact ⟨rfl, rfl⟩
section
variable {P : Nat → Prop} {w : World} {sb mb n next k : Nat} {g : Nat → Nat} {T : Tb} {x : Sk}
/-- There is no socket of that number. -/
def NoT (T : Tb) (z : Int) : Prop := (Lit.int .i64 z).wf = true ∧ ∀ k : Nat, z = k → T k = none
theorem numbers_any (h : StG P w sb mb n next g T) : Calls Try.prog 13 #[ptr sb] w fun e w' => e = .returned (.int .i64 (next : Int)) ∧ w' = w := by
  have x2 := h.box.cell 2 rfl
  clear h
  go_enter Try.func13, Try.ntmps13
  go_wp2
  go_ret
  exact ⟨rfl, rfl⟩
theorem get_yes (h : StG P w sb mb n next g T) (hk : T k = some x) : Calls Try.prog 55 #[ptr sb, .int .i64 (k : Int)] w fun e w' => e = .returned (ptr (g k)) ∧ w' = w := by
  have x0 := h.box.cell 0 rfl
  have hl := h.look_yes hk
  clear h hk
  go_enter Try.func55, Try.ntmps55
  go_wp2
  go_ret
  exact ⟨rfl, rfl⟩
theorem get_no (h : StG P w sb mb n next g T) {z : Int} (hz : NoT T z) : Calls Try.prog 55 #[ptr sb, .int .i64 z] w fun e w' => e = .returned (.pointer none) ∧ w' = w := by
  have x0 := h.box.cell 0 rfl
  have hl := h.look_no hz.1 hz.2
  clear h hz
  go_enter Try.func55, Try.ntmps55
  go_wp2
  go_ret
  exact ⟨rfl, rfl⟩
theorem joined_no (h : StG P w sb mb n next g T) {z : Int} (hz : NoT T z) : Calls Try.prog 64 #[ptr sb, .int .i64 z] w fun e w' => e = .returned (.tuple #[.pointer none, .int .i64 22]) ∧ w' = w := by
  have cG := get_no h hz
  clear h hz
  go_enter Try.func64, Try.ntmps64
  go_wp2_with fail
  refine cG.mono ?_
  rintro e _ ⟨rfl, rfl⟩
  clear cG
  go_wp2
  go_ret2
  exact ⟨rfl, rfl⟩
theorem joined_un (h : StG P w sb mb n next g T) (hk : T k = some x) (hs : x.st ≠ 2) : Calls Try.prog 64 #[ptr sb, .int .i64 (k : Int)] w fun e w' => e = .returned (.tuple #[.pointer none, .int .i64 57]) ∧ w' = w := by
  have cG := get_yes h hk
  obtain ⟨qb, p, c, hB, hc, hat⟩ := h.at hk
  have y1 := hB.cell 1 rfl
  have hsz : ¬ (x.st : Int) = 2 := by omega
  clear h hk hB hat hs
  go_enter Try.func64, Try.ntmps64
  go_wp2_with fail
  refine cG.mono ?_
  rintro e _ ⟨rfl, rfl⟩
  clear cG
  go_wp2
  go_ret2
  exact ⟨rfl, rfl⟩
theorem joined_yes (h : StG P w sb mb n next g T) (hk : T k = some x) (hs : x.st = 2) : Calls Try.prog 64 #[ptr sb, .int .i64 (k : Int)] w fun e w' => e = .returned (.tuple #[ptr (g k), .int .i64 0]) ∧ w' = w := by
  have cG := get_yes h hk
  obtain ⟨qb, p, c, hB, hc, hat⟩ := h.at hk
  have y1 := hB.cell 1 rfl
  rw [hs] at y1
  clear h hk hB hat hs
  go_enter Try.func64, Try.ntmps64
  go_wp2_with fail
  refine cG.mono ?_
  rintro e _ ⟨rfl, rfl⟩
  clear cG
  go_wp2
  go_ret2
  exact ⟨rfl, rfl⟩
theorem next_no (h : StG P w sb mb n next g T) {z : Int} (hz : NoT T z) : Calls Try.prog 18 #[ptr sb, .int .i64 z] w fun e w' => e = .returned (.int .i64 0) ∧ w' = w := by
  have cG := get_no h hz
  clear h hz
  go_enter Try.func18, Try.ntmps18
  go_wp2_with fail
  refine cG.mono ?_
  rintro e _ ⟨rfl, rfl⟩
  clear cG
  go_wp2
  go_ret
  exact ⟨rfl, rfl⟩
theorem len_no (h : StG P w sb mb n next g T) {z : Int} (hz : NoT T z) : Calls Try.prog 20 #[ptr sb, .int .i64 z] w fun e w' => e = .returned (.int .i64 0) ∧ w' = w := by
  have cG := get_no h hz
  clear h hz
  go_enter Try.func20, Try.ntmps20
  go_wp2_with fail
  refine cG.mono ?_
  rintro e _ ⟨rfl, rfl⟩
  clear cG
  go_wp2
  go_ret
  exact ⟨rfl, rfl⟩
theorem bind_no (h : StG P w sb mb n next g T) {z : Int} (hz : NoT T z) (ino : Int) : Calls Try.prog 29 #[ptr sb, .int .i64 z, .int .i64 ino] w fun e w' => e = .returned (.int .i64 22) ∧ w' = w := by
  have cG := get_no h hz
  clear h hz
  go_enter Try.func29, Try.ntmps29
  go_wp2_with fail
  refine cG.mono ?_
  rintro e _ ⟨rfl, rfl⟩
  clear cG
  go_wp2
  go_ret
  exact ⟨rfl, rfl⟩
theorem listen_no (h : StG P w sb mb n next g T) {z : Int} (hz : NoT T z) (m : Int) : Calls Try.prog 30 #[ptr sb, .int .i64 z, .int .i64 m] w fun e w' => e = .returned (.int .i64 22) ∧ w' = w := by
  have cG := get_no h hz
  clear h hz
  go_enter Try.func30, Try.ntmps30
  go_wp2_with fail
  refine cG.mono ?_
  rintro e _ ⟨rfl, rfl⟩
  clear cG
  go_wp2
  go_ret
  exact ⟨rfl, rfl⟩
theorem close_no (h : StG P w sb mb n next g T) {z : Int} (hz : NoT T z) : Calls Try.prog 32 #[ptr sb, .int .i64 z] w fun e w' => e = .returned (.slice none 0 0) ∧ w' = w := by
  have cG := get_no h hz
  clear h hz
  go_enter Try.func32, Try.ntmps32
  go_wp2_with fail
  refine cG.mono ?_
  rintro e _ ⟨rfl, rfl⟩
  clear cG
  go_wp2
  go_ret
  exact ⟨rfl, rfl⟩
theorem accept_no (h : StG P w sb mb n next g T) {z : Int} (hz : NoT T z) : Calls Try.prog 33 #[ptr sb, .int .i64 z] w fun e w' => e = .returned (.tuple #[.int .i64 0, .int .i64 22]) ∧ w' = w := by
  have cG := get_no h hz
  clear h hz
  go_enter Try.func33, Try.ntmps33
  go_wp2_with fail
  refine cG.mono ?_
  rintro e _ ⟨rfl, rfl⟩
  clear cG
  go_wp2
  go_ret2
  exact ⟨rfl, rfl⟩
theorem connect_no (h : StG P w sb mb n next g T) {z : Int} (hz : NoT T z) {z2 : Int} (c2 : Calls Try.prog 55 #[ptr sb, .int .i64 z2] w fun e w' => (∃ b, e = .returned (.pointer b)) ∧ w' = w) : Calls Try.prog 31 #[ptr sb, .int .i64 z, .int .i64 z2] w fun e w' => e = .returned (.int .i64 22) ∧ w' = w := by
  have cG := get_no h hz
  clear h hz
  go_enter Try.func31, Try.ntmps31
  go_wp2_with fail
  refine cG.mono ?_
  rintro e _ ⟨rfl, rfl⟩
  clear cG
  go_wp2_with fail
  refine c2.mono ?_
  rintro e _ ⟨⟨b, rfl⟩, rfl⟩
  clear c2
  go_wp2
  go_ret
  exact ⟨rfl, rfl⟩
theorem get_some (h : StG P w sb mb n next g T) {z : Int} (hw : (Lit.int .i64 z).wf = true) : Calls Try.prog 55 #[ptr sb, .int .i64 z] w fun e w' => (∃ b, e = .returned (.pointer b)) ∧ w' = w := by
  by_cases hz : ∀ k : Nat, z = k → T k = none
  · exact (get_no h ⟨hw, hz⟩).mono fun e w' ⟨h1, h2⟩ => ⟨⟨_, h1⟩, h2⟩
  · simp only [Classical.not_forall] at hz
    obtain ⟨k, rfl, hk⟩ := hz
    obtain ⟨x, hx⟩ := Option.ne_none_iff_exists'.1 hk
    exact (get_yes h hx).mono fun e w' ⟨h1, h2⟩ => ⟨⟨_, h1⟩, h2⟩
/-- Either there is one, or there is none. -/
theorem some_or {z : Int} (hw : (Lit.int .i64 z).wf = true) (T : Tb) : NoT T z ∨ ∃ (k : Nat) (x : Sk), z = k ∧ T k = some x := by
  by_cases hz : ∀ k : Nat, z = k → T k = none
  · exact .inl ⟨hw, hz⟩
  · simp only [Classical.not_forall] at hz
    obtain ⟨k, rfl, hk⟩ := hz
    obtain ⟨x, hx⟩ := Option.ne_none_iff_exists'.1 hk
    exact .inr ⟨k, x, rfl, hx⟩
end

theorem new_no (m : Int) (w : World) (h : m < 1 ∨ 4096 < m) : Calls Try.prog 8 #[.int .i64 m] w fun e w' => e = .returned (.pointer none) ∧ w' = w := by
  by_cases h1 : m < 1
  · clear h
    go_enter Try.func8, Try.ntmps8
    go_wp2
    go_ret
    exact ⟨rfl, rfl⟩
  · have h2 : 4096 < m := by omega
    clear h
    go_enter Try.func8, Try.ntmps8
    go_wp2
    go_ret
    exact ⟨rfl, rfl⟩

end Go.Proofs.Ytfhkdndgiofidaa.X
