/- What path.Show and path.Up answer. -/
import Derived.Test.YtidcfbjefemhdaaPShort
import Derived.Test.YtidcfbjefemhdaaShelf
import Derived.Lib.Join
namespace Go.Proofs.Ytidcfbjefemhdaa
open Go Go.RowKit

theorem join_joinL : ∀ ps : List (List UInt8), Lib.join ps [47] = joinL ps
  | [] => rfl
  | [a] => by simp [Lib.join, joinL]
  | a :: b :: r => by
    rw [joinL_cons (by simp), ← join_joinL (b :: r)]
    simp [Lib.join, List.intercalate]
theorem joinL_le {n : Nat} : ∀ ps : List (List UInt8), (∀ p ∈ ps, p.length ≤ n) → (joinL ps).length ≤ ps.length * (n + 1)
  | [], _ => by simp [joinL]
  | [a], h => by
    have := h a (by simp)
    simp [joinL]; omega
  | a :: b :: r, h => by
    have h1 := h a (by simp)
    have h2 := joinL_le (b :: r) (fun p hp => h p (List.mem_cons_of_mem _ hp))
    rw [joinL_cons (by simp), List.length_append, List.length_cons, List.length_cons, Nat.add_mul]
    omega

/-- The parts of a path, a / between. -/
def midB (l : List ByteArray) : ByteArray := ⟨(joinL (l.map (·.data.toList))).toArray⟩
theorem midB_size (l : List ByteArray) : (midB l).size = (joinL (l.map (·.data.toList))).length := by
  show (joinL (l.map (·.data.toList))).toArray.size = _
  simp
theorem mid_short {l : List ByteArray} (h1 : l.length ≤ 100) (h2 : ∀ x ∈ l, x.size ≤ 100) : (midB l).size ≤ 20000 := by
  rw [midB_size]
  have := joinL_le (n := 100) (l.map (·.data.toList)) (fun p hp => by
    obtain ⟨x, hx, rfl⟩ := List.mem_map.1 hp
    have := h2 x hx
    rw [← size_list] at this
    exact this)
  rw [List.length_map] at this
  have : l.length * 101 ≤ 100 * 101 := Nat.mul_le_mul_right _ h1
  omega

theorem app_data (a b : ByteArray) : (a ++ b).data.toList = a.data.toList ++ b.data.toList := by simp [ByteArray.data_append]
theorem show_ff (d : Bool) (l : List ByteArray) (h : d = false ∨ l = []) : showB false d l = midB l := by
  refine bytes_eq ?_
  rw [showB_data]
  show showL false d _ = joinL _
  unfold showL
  rcases h with rfl | rfl <;> simp [tailL]
theorem show_tf (d : Bool) (l : List ByteArray) (h : d = false ∨ l = []) : showB true d l = ⟨#[47]⟩ ++ midB l := by
  refine bytes_eq ?_
  rw [showB_data, app_data]
  show showL true d _ = [47] ++ joinL _
  unfold showL
  rcases h with rfl | rfl <;> simp [tailL]
theorem show_ft {l : List ByteArray} (h : l ≠ []) : showB false true l = midB l ++ ⟨#[47]⟩ := by
  refine bytes_eq ?_
  rw [showB_data, app_data]
  show showL false true _ = joinL _ ++ [47]
  unfold showL
  simp [tailL, h]
theorem show_tt {l : List ByteArray} (h : l ≠ []) : showB true true l = ⟨#[47]⟩ ++ midB l ++ ⟨#[47]⟩ := by
  refine bytes_eq ?_
  rw [showB_data, app_data, app_data]
  show showL true true _ = [47] ++ joinL _ ++ [47]
  unfold showL
  simp [tailL, h]

theorem strJoin_any (p : Option Addr) (cap : Nat) (l : List ByteArray) (w : World) (hcap : l.length ≤ cap) (hl : l.length ≤ 10000) (hm : (midB l).size ≤ 20000) (h : At w p l) :
    Calls Try.prog 29 #[.slice p l.length cap, .string ⟨#[47]⟩] w fun e w' => e = .returned (.string (midB l)) ∧ Below w.heap.size w w' := by
  have e : midB l = ⟨(Lib.join (l.map (·.data.toList)) [47]).toArray⟩ := by unfold midB; rw [join_joinL]
  rcases h with rfl | ⟨b, off, rfl, hlt, hc⟩
  · refine (Try.strings_Join_none p cap ⟨#[47]⟩ w).mono ?_
    rintro e w' ⟨rfl, rfl⟩
    exact ⟨rfl, Below.refl _ _⟩
  · rw [midB_size] at hm
    rw [e]
    refine Try.strings_Join b off cap l ⟨#[47]⟩ w (fun j x hx => ?_) hlt (by omega) hcap (by show (Lib.join _ [47]).length ≤ _; rw [join_joinL]; omega)
    have hj := (List.getElem?_eq_some_iff.1 hx).1
    rw [hc j hj]
    simp [List.getD, hx]

set_option maxRecDepth 100000 in
set_option maxHeartbeats 2000000 in
theorem show_any (a d : Bool) (p : Option Addr) (cap : Nat) (l : List ByteArray) (w : World) (hcap : l.length ≤ cap) (hl : l.length ≤ 10000) (hm : (midB l).size ≤ 20000) (h : At w p l) :
    Calls Try.prog 12 #[.agg #[.bool a, .bool d, .slice p l.length cap]] w fun e w' => e = .returned (.string (showB a d l)) ∧ Below w.heap.size w w' := by
  have HX : Hid (Box (w.alloc (.cells #[.bool a, .bool d, .slice p l.length cap] 24)) w.heap.size (.bool a) (.bool d) (.slice p l.length cap)) := Box.new w _ _ _
  have hB := on_alloc w (.cells #[.bool a, .bool d, .slice p l.length cap] 24)
  have cJ := strJoin_any p cap l (w.alloc (.cells #[.bool a, .bool d, .slice p l.length cap] 24)) hcap hl hm (h.on hB)
  have s1 := fun hh => show_ff d l hh
  have s2 := fun hh => show_tf d l hh
  have s3 := fun hh => show_ft (l := l) hh
  have s4 := fun hh => show_tt (l := l) hh
  have HB : Hid _ := hB
  clear h hB
  have h47 : (⟨#[47]⟩ : ByteArray).size = 1 := rfl
  by_cases hn : l = []
  · have hlz : ¬ (0 : Int) < (l.length : Int) := by rw [hn]; simp
    have hlz2 : ¬ 0 < l.length := by rw [hn]; simp
    have HS : Hid (showB false d l = midB l ∧ showB true d l = ⟨#[47]⟩ ++ midB l) := ⟨s1 (.inr hn), s2 (.inr hn)⟩
    clear s1 s2 s3 s4 hn
    generalize midB l = J at *
    cases a <;> cases d
    all_goals
      go_enter Try.func12, Try.ntmps12
      go_wp2_with fail
      refine cJ.mono ?_
      rintro e w1 ⟨rfl, hb1⟩
      have x0 := (HX.out.on hb1).fst
      have x1 := (HX.out.on hb1).snd
      have x2 := (HX.out.on hb1).thd
      clear cJ HX
      go_wp2
      go_ret
      refine ⟨?_, on_trans HB.out hb1⟩
      first | (rw [HS.out.1]; rfl) | (rw [HS.out.2]; rfl)
  · have hlz : (0 : Int) < (l.length : Int) := by have := List.length_pos_iff.2 hn; omega
    have hlz2 : 0 < l.length := List.length_pos_iff.2 hn
    have HS : Hid ((d = false → showB false d l = midB l ∧ showB true d l = ⟨#[47]⟩ ++ midB l) ∧ showB false true l = midB l ++ ⟨#[47]⟩ ∧ showB true true l = ⟨#[47]⟩ ++ midB l ++ ⟨#[47]⟩) :=
      ⟨fun e => ⟨s1 (.inl e), s2 (.inl e)⟩, s3 hn, s4 hn⟩
    clear s1 s2 s3 s4 hn
    generalize midB l = J at *
    cases a <;> cases d
    all_goals
      go_enter Try.func12, Try.ntmps12
      go_wp2_with fail
      refine cJ.mono ?_
      rintro e w1 ⟨rfl, hb1⟩
      have x0 := (HX.out.on hb1).fst
      have x1 := (HX.out.on hb1).snd
      have x2 := (HX.out.on hb1).thd
      clear cJ HX
      go_wp2
      go_ret
      refine ⟨?_, on_trans HB.out hb1⟩
      first | (rw [HS.out.2.1]; rfl) | (rw [HS.out.2.2]; rfl) | (rw [(HS.out.1 trivial).1]; rfl) | (rw [(HS.out.1 trivial).2]; rfl)

def dotdot : ByteArray := ⟨#[46, 46]⟩
theorem strContains_any (p : Option Addr) (cap : Nat) (l : List ByteArray) (w : World) (hl : l.length ≤ 10000) (h : At w p l) :
    Calls Try.prog 30 #[.slice p l.length cap, .string dotdot] w fun e w' => e = .returned (.bool (Lib.containsS l dotdot)) ∧ w' = w := by
  rcases h with rfl | ⟨b, off, rfl, hlt, hc⟩
  · exact Try.slices_Contains_string_empty p cap dotdot w
  · have c := Try.slices_Contains_string b off l.length cap l dotdot w (Nat.le_refl _) (by omega) hc
    rw [List.take_length] at c
    exact c

set_option maxRecDepth 100000 in
set_option maxHeartbeats 1000000 in
theorem up_any (a d : Bool) (p : Option Addr) (cap : Nat) (l : List ByteArray) (w : World) (hl : l.length ≤ 10000) (h : At w p l) :
    Calls Try.prog 16 #[.agg #[.bool a, .bool d, .slice p l.length cap]] w fun e w' => e = .returned (.bool (Lib.containsS l dotdot)) ∧ Below w.heap.size w w' := by
  have HB : Hid (Below w.heap.size w (w.alloc (.cells #[.bool a, .bool d, .slice p l.length cap] 24))) := on_alloc w _
  have cJ := strContains_any p cap l (w.alloc (.cells #[.bool a, .bool d, .slice p l.length cap] 24)) hl (h.on HB.out)
  generalize Lib.containsS l dotdot = r at *
  unfold dotdot at cJ
  clear h
  go_enter Try.func16, Try.ntmps16
  go_wp2_with fail
  refine cJ.mono ?_
  rintro e w1 ⟨rfl, rfl⟩
  go_wp2
  go_ret
  exact ⟨rfl, HB.out⟩

set_option maxRecDepth 100000 in
set_option maxHeartbeats 1000000 in
theorem refUp_any (a d : Bool) (p : Option Addr) (cap : Nat) (l : List ByteArray) (w : World) (hl : l.length ≤ 10000) (h : At w p l) :
    Calls Try.prog 17 #[.agg #[.bool a, .bool d, .slice p l.length cap]] w fun e w' => e = .returned (.bool (Lib.containsS l dotdot)) ∧ Below w.heap.size w w' := by
  have HB : Hid (Below w.heap.size w (w.alloc (.cells #[.bool a, .bool d, .slice p l.length cap] 24))) := on_alloc w _
  have HX : Hid (Box (w.alloc (.cells #[.bool a, .bool d, .slice p l.length cap] 24)) w.heap.size (.bool a) (.bool d) (.slice p l.length cap)) := Box.new w _ _ _
  have HA : Hid (At (w.alloc (.cells #[.bool a, .bool d, .slice p l.length cap] 24)) p l) := h.on HB.out
  obtain ⟨r, hr⟩ : ∃ r, Lib.containsS l dotdot = r := ⟨_, rfl⟩
  have HR : Hid (Lib.containsS l dotdot = r) := hr
  rw [hr]
  clear h hr
  go_enter Try.func17, Try.ntmps17
  go_wp2
  generalize w.alloc (.cells #[.bool a, .bool d, .slice p l.length cap] 24) = w0 at *
  have x2 := HX.out.thd
  go_loop [3] (fun i => ∃ k : Nat, k ≤ l.length ∧ i = .int .i64 k ∧ Hid (∀ j, j < k → l.getD j ByteArray.empty ≠ dotdot)) (fun i => l.length - (intOf i).toNat)
  case atStart => exact ⟨0, Nat.zero_le _, rfl, fun j hj => absurd hj (Nat.not_lt_zero _)⟩
  case round =>
    obtain ⟨k, hk, rfl, H⟩ := hrel
    by_cases hlt : k < l.length
    · have hltz : (k : Int) < (l.length : Int) := by omega
      obtain ⟨bp, off, hp, hlt2, hcell⟩ := HA.out.resolve_left (fun e => by rw [e] at hlt; simp at hlt)
      subst hp
      have hck := hcell k hlt
      clear hcell
      by_cases hx : l.getD k ByteArray.empty = dotdot
      · have HM : Hid (Lib.containsS l dotdot = true) := by
          show Lib.containsS l dotdot = true
          rw [Lib.containsS_iff, ← hx]; simp [List.getD, hlt]
        rw [hx] at hck
        unfold dotdot at hck
        obtain rfl : r = true := by rw [← HR.out, HM.out]
        clear hx
        go_wp2
        go_ret
        exact ⟨rfl, HB.out⟩
      · have HX' : Hid (l.getD k ByteArray.empty ≠ dotdot) := hx
        have hq : ((l.getD k ByteArray.empty).toList == [46, 46]) = false := by
          rw [beq_eq_false_iff_ne, ByteArray.toList_eq]
          exact fun e => hx (bytes_eq e)
        clear hx
        generalize l.getD k ByteArray.empty = y at hck hq
        go_wp2
        go_round
        case rel => exact ⟨k + 1, by omega, by go_num, fun j hj => by
          by_cases e : j = k
          · subst e; exact HX'.out
          · exact H.out j (by omega)⟩
        case measure => simp [intOf]; omega
    · obtain rfl : k = l.length := by omega
      have hltz : ¬ (l.length : Int) < (l.length : Int) := by omega
      have HM : Hid (Lib.containsS l dotdot = false) := by
        show Lib.containsS l dotdot = false
        cases hc : Lib.containsS l dotdot with
        | false => rfl
        | true =>
          obtain ⟨j, hj, e⟩ := List.getElem_of_mem ((Lib.containsS_iff l dotdot).1 hc)
          exact absurd (by simp [List.getD, hj, e]) (H.out j hj)
      obtain rfl : r = false := by rw [← HR.out, HM.out]
      go_wp2
      go_ret
      exact ⟨rfl, HB.out⟩

end Go.Proofs.Ytidcfbjefemhdaa
