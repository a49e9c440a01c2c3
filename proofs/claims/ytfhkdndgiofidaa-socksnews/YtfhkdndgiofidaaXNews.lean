/- The law SocksNews answers true at every input. -/
import Derived.Test.YtfhkdndgiofidaaXDump
namespace Go.Proofs.Ytfhkdndgiofidaa.X
open Go Go.RowKit Go.Maps Go.Proofs.Ytfhkdndgiofidaa.K

theorem no_any {z : Int} (hw : (Lit.int .i64 z).wf = true) : NoT (fun _ => none) z := ⟨hw, fun _ _ => rfl⟩
theorem keys_none : keysT (fun _ => none) = [] := by
  unfold keysT
  rw [List.filter_eq_nil_iff]
  intro a _
  simp [hasT]
set_option maxRecDepth 100000 in
set_option maxHeartbeats 4000000 in
theorem news_in (m : Nat) (id : Int) (w : World) (h1 : 1 ≤ m) (h2 : m ≤ 4096) (hw : (Lit.int .i64 id).wf = true) :
    Calls Try.prog 7 #[.int .i64 (m : Int), .int .i64 id] w fun e w' => e = .returned (.bool true) ∧ Below w.heap.size w w' := by
  have cN := new_in m w h1 h2
  have h1z : (1 : Int) ≤ (m : Int) := by omega
  have h2z : (m : Int) ≤ 4096 := by omega
  go_enter Try.func7, Try.ntmps7
  go_wp2_with fail
  refine cN.mono ?_
  intro e w1 hn
  obtain ⟨sb, mb, g, P, rfl, h3⟩ := XS.new hn
  have cU := numbers_any h3.st
  have cD := dump_any h3.st (fun k x hx => by cases hx)
  have H1 : Hid (XS w P w1 sb mb m 1 g (fun _ => none)) := h3
  clear cN hn h3
  unfold DumpPost at cD
  rw [keys_none] at cD
  go_wp2_with fail
  refine cU.mono ?_
  rintro e w2 ⟨rfl, hw2⟩
  subst w2
  clear cU
  go_wp2_with fail
  refine cD.mono ?_
  rintro e w3 ⟨p3, c3, Y, rfl, _, _, _, hb3⟩
  have H3 : Hid (XS w P w3 sb mb m 1 g (fun _ => none)) := H1.out.on hb3
  clear cD H1 hb3
  rw [List.length_nil]
  have cB := bind_no H3.out.st (no_any hw) 1
  have cL := listen_no H3.out.st (no_any hw) 1
  have cC := connect_no H3.out.st (no_any hw) (get_some H3.out.st hw)
  have cX := close_no H3.out.st (no_any hw)
  go_wp2_with fail
  refine cB.mono ?_
  rintro e w4 ⟨rfl, hw4⟩
  subst w4
  clear cB
  go_wp2_with fail
  refine cL.mono ?_
  rintro e w4 ⟨rfl, hw4⟩
  subst w4
  clear cL
  go_wp2_with fail
  refine cC.mono ?_
  rintro e w4 ⟨rfl, hw4⟩
  subst w4
  clear cC
  go_wp2_with fail
  refine cX.mono ?_
  rintro e w4 ⟨rfl, hw4⟩
  subst w4
  clear cX
  have cV := lives_any w3
  go_wp2_with fail
  refine cV.mono ?_
  rintro e w5 ⟨rfl, hb5⟩
  have HE : Hid (Below w.heap.size w w5) := on_trans H3.out.below hb5
  clear cV hb5 H3
  go_wp2
  go_ret
  exact ⟨rfl, HE.out⟩

set_option maxRecDepth 100000 in
set_option maxHeartbeats 4000000 in
theorem news_no (m id : Int) (w : World) (h : m < 1 ∨ 4096 < m) :
    Calls Try.prog 7 #[.int .i64 m, .int .i64 id] w fun e w' => e = .returned (.bool true) ∧ Below w.heap.size w w' := by
  have cN := new_no m w h
  have hcv := fun (w : World) (C : Array Value) (n c : Nat) => Lib.run_convert_bytes_const (P := Try.prog) w 28 5 C n c Try.underlying28 Try.underlying5
  have HA : Hid (∀ w1, w1 = w → Below w.heap.size w (w1.alloc (.cells #[.int .u8 120] 5 (1, 2)))) := fun w1 e => by subst e; exact on_alloc _ _
  by_cases h1 : 1 ≤ m
  · have h2 : ¬ m ≤ 4096 := by omega
    clear h
    go_enter Try.func7, Try.ntmps7
    go_wp2_with fail
    refine cN.mono ?_
    rintro e w1 ⟨rfl, hw1⟩
    have HB : Hid _ := HA.out w1 hw1
    clear cN HA hw1
    go_wp2_with fail
    refine (pair_nil _).mono ?_
    rintro e _ ⟨rfl, rfl⟩
    go_wp2_with fail
    refine (send_nil _ _ _ _).mono ?_
    rintro e _ ⟨rfl, rfl⟩
    go_wp2_with fail
    refine (accept_nil _ _).mono ?_
    rintro e _ ⟨rfl, rfl⟩
    go_wp2_with fail
    refine (shut_nil _ _ _).mono ?_
    rintro e _ ⟨rfl, rfl⟩
    go_wp2_with fail
    refine (ready_nil _ _).mono ?_
    rintro e _ ⟨rfl, rfl⟩
    go_wp2_with fail
    refine (make_nil _).mono ?_
    rintro e _ ⟨rfl, rfl⟩
    go_wp2_with fail
    refine (numbers_nil _).mono ?_
    rintro e _ ⟨rfl, rfl⟩
    go_wp2_with fail
    refine (find_nil _ _).mono ?_
    rintro e _ ⟨rfl, rfl⟩
    go_wp2_with fail
    refine (dump_nil _).mono ?_
    rintro e _ ⟨rfl, rfl⟩
    go_wp2_with fail
    refine (close_nil _ _).mono ?_
    rintro e _ ⟨rfl, rfl⟩
    go_wp2_with fail
    refine (next_nil _ _).mono ?_
    rintro e _ ⟨rfl, rfl⟩
    go_wp2_with fail
    refine (len_nil _ _).mono ?_
    rintro e _ ⟨rfl, rfl⟩
    go_wp2_with fail
    refine (lives_any _).mono ?_
    rintro e w9 ⟨rfl, hb9⟩
    have HE : Hid (Below w.heap.size w w9) := on_trans HB.out hb9
    clear hb9 HB
    go_wp2
    go_ret
    exact ⟨rfl, HE.out⟩
  · clear h
    go_enter Try.func7, Try.ntmps7
    go_wp2_with fail
    refine cN.mono ?_
    rintro e w1 ⟨rfl, hw1⟩
    have HB : Hid _ := HA.out w1 hw1
    clear cN HA hw1
    go_wp2_with fail
    refine (pair_nil _).mono ?_
    rintro e _ ⟨rfl, rfl⟩
    go_wp2_with fail
    refine (send_nil _ _ _ _).mono ?_
    rintro e _ ⟨rfl, rfl⟩
    go_wp2_with fail
    refine (accept_nil _ _).mono ?_
    rintro e _ ⟨rfl, rfl⟩
    go_wp2_with fail
    refine (shut_nil _ _ _).mono ?_
    rintro e _ ⟨rfl, rfl⟩
    go_wp2_with fail
    refine (ready_nil _ _).mono ?_
    rintro e _ ⟨rfl, rfl⟩
    go_wp2_with fail
    refine (make_nil _).mono ?_
    rintro e _ ⟨rfl, rfl⟩
    go_wp2_with fail
    refine (numbers_nil _).mono ?_
    rintro e _ ⟨rfl, rfl⟩
    go_wp2_with fail
    refine (find_nil _ _).mono ?_
    rintro e _ ⟨rfl, rfl⟩
    go_wp2_with fail
    refine (dump_nil _).mono ?_
    rintro e _ ⟨rfl, rfl⟩
    go_wp2_with fail
    refine (close_nil _ _).mono ?_
    rintro e _ ⟨rfl, rfl⟩
    go_wp2_with fail
    refine (next_nil _ _).mono ?_
    rintro e _ ⟨rfl, rfl⟩
    go_wp2_with fail
    refine (len_nil _ _).mono ?_
    rintro e _ ⟨rfl, rfl⟩
    go_wp2_with fail
    refine (lives_any _).mono ?_
    rintro e w9 ⟨rfl, hb9⟩
    have HE : Hid (Below w.heap.size w w9) := on_trans HB.out hb9
    clear hb9 HB
    go_wp2
    go_ret
    exact ⟨rfl, HE.out⟩

/-- The law. -/
theorem news_walk (m id : Int) (w : World) (hw : (Lit.int .i64 id).wf = true) : Calls Try.prog 7 #[.int .i64 m, .int .i64 id] w fun e w' => e = .returned (.bool true) ∧ Below w.heap.size w w' := by
  by_cases h : m < 1 ∨ 4096 < m
  · exact news_no m id w h
  · obtain ⟨mn, rfl⟩ : ∃ mn : Nat, m = (mn : Int) := ⟨m.toNat, by omega⟩
    exact news_in mn id w (by omega) (by omega) hw

end Go.Proofs.Ytfhkdndgiofidaa.X
