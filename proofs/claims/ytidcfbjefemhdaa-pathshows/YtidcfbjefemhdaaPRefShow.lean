/- What the reference's Show answers. -/
import Derived.Test.YtidcfbjefemhdaaPShow
namespace Go.Proofs.Ytidcfbjefemhdaa
open Go Go.RowKit

def accS (a : Bool) (l : List ByteArray) (k : Nat) : ByteArray := ⟨(tailL a ++ joinL ((l.take k).map (·.data.toList))).toArray⟩
theorem acc_data (a : Bool) (l : List ByteArray) (k : Nat) : (accS a l k).data.toList = tailL a ++ joinL ((l.take k).map (·.data.toList)) := rfl
theorem joinL_snoc : ∀ (ps : List (List UInt8)) (x : List UInt8), ps ≠ [] → joinL (ps ++ [x]) = joinL ps ++ 47 :: x
  | [], _, h => absurd rfl h
  | [a], x, _ => rfl
  | a :: b :: r, x, _ => by
    have := joinL_snoc (b :: r) x (by simp)
    rw [joinL_cons (by simp), List.cons_append, joinL_cons (by simp), this]
    simp
theorem take_snoc {l : List ByteArray} {k : Nat} (h : k < l.length) : (l.take (k + 1)).map (·.data.toList) = (l.take k).map (·.data.toList) ++ [(l.getD k ByteArray.empty).data.toList] := by
  rw [List.take_add_one, List.map_append]
  simp [List.getD, h]
theorem acc_first {a : Bool} {l : List ByteArray} (h : 0 < l.length) : accS a l 1 = accS a l 0 ++ l.getD 0 ByteArray.empty := by
  refine bytes_eq ?_
  rw [app_data, acc_data, acc_data, take_snoc h]
  simp [joinL]
theorem acc_next {a : Bool} {l : List ByteArray} {k : Nat} (h : k < l.length) (hk : k ≠ 0) : accS a l (k + 1) = accS a l k ++ ⟨#[47]⟩ ++ l.getD k ByteArray.empty := by
  refine bytes_eq ?_
  rw [app_data, app_data, acc_data, acc_data, take_snoc h, joinL_snoc _ _ (by
    intro e
    have := congrArg List.length e
    rw [List.length_map, List.length_take, List.length_nil] at this
    omega)]
  simp
theorem acc_zero (a : Bool) (l : List ByteArray) : accS a l 0 = if a then ⟨#[47]⟩ else ⟨#[]⟩ := by
  cases a <;> rfl
theorem acc_size (a : Bool) {l : List ByteArray} (k : Nat) (h1 : l.length ≤ 100) (h2 : ∀ x ∈ l, x.size ≤ 100) : (accS a l k).size ≤ 20000 := by
  have e : (accS a l k).size = (tailL a).length + (midB (l.take k)).size := by rw [← size_list, acc_data, List.length_append, midB_size]
  have := mid_short (l := l.take k) (by simp; omega) (fun x hx => h2 x (List.mem_of_mem_take hx))
  have h3 : (tailL a).length ≤ 1 := by cases a <;> simp [tailL]
  have h4 : (midB (l.take k)).size ≤ 15000 := by
    rw [midB_size]
    have := joinL_le (n := 100) ((l.take k).map (·.data.toList)) (fun p hp => by
      obtain ⟨x, hx, rfl⟩ := List.mem_map.1 hp
      have := h2 x (List.mem_of_mem_take hx)
      rw [← size_list] at this
      exact this)
    have h5 : ((l.take k).map (·.data.toList)).length ≤ 100 := by simp; omega
    have : ((l.take k).map (·.data.toList)).length * 101 ≤ 100 * 101 := Nat.mul_le_mul_right _ h5
    omega
  omega
theorem acc_full (a d : Bool) (l : List ByteArray) (h : d = false ∨ l = []) : showB a d l = accS a l l.length := by
  refine bytes_eq ?_
  rw [showB_data, acc_data, List.take_length]
  unfold showL
  rcases h with rfl | rfl <;> simp [tailL]
theorem acc_fullD (a : Bool) {l : List ByteArray} (h : l ≠ []) : showB a true l = accS a l l.length ++ ⟨#[47]⟩ := by
  refine bytes_eq ?_
  rw [app_data, showB_data, acc_data, List.take_length]
  unfold showL
  simp [tailL, h]

set_option maxRecDepth 100000 in
set_option maxHeartbeats 4000000 in
theorem refShow_any (a d : Bool) (p : Option Addr) (cap : Nat) (l : List ByteArray) (w : World) (hl : l.length ≤ 100) (hs : ∀ x ∈ l, x.size ≤ 100) (h : At w p l) :
    Calls Try.prog 15 #[.agg #[.bool a, .bool d, .slice p l.length cap]] w fun e w' => e = .returned (.string (showB a d l)) ∧ Below w.heap.size w w' := by
  have HB : Hid (Below w.heap.size w (w.alloc (.cells #[.bool a, .bool d, .slice p l.length cap] 24))) := on_alloc w _
  have HX : Hid (Box (w.alloc (.cells #[.bool a, .bool d, .slice p l.length cap] 24)) w.heap.size (.bool a) (.bool d) (.slice p l.length cap)) := Box.new w _ _ _
  have HA : Hid (At (w.alloc (.cells #[.bool a, .bool d, .slice p l.length cap] 24)) p l) := h.on HB.out
  have HSZ : Hid (∀ x ∈ l, x.size ≤ 100) := hs
  have H1 : Hid (d = false ∨ l = [] → showB a d l = accS a l l.length) := acc_full a d l
  have H2 : Hid (l ≠ [] → showB a true l = accS a l l.length ++ ⟨#[47]⟩) := acc_fullD a
  have HZ : Hid (accS a l 0 = if a then ⟨#[47]⟩ else ⟨#[]⟩) := acc_zero a l
  have hz := HZ.out
  obtain ⟨Z, hZ⟩ : ∃ Z, showB a d l = Z := ⟨_, rfl⟩
  have HZZ : Hid (showB a d l = Z) := hZ
  rw [hZ]
  clear h hs hz hZ
  cases a with
  | false =>
    go_enter Try.func15, Try.ntmps15
    go_wp2
    generalize w.alloc (.cells #[.bool false, .bool d, .slice p l.length cap] 24) = w0 at *
    have x0 := HX.out.fst
    have x1 := HX.out.snd
    have x2 := HX.out.thd
    go_loop [3, 4] (fun s i => ∃ k : Nat, k ≤ l.length ∧ i = .int .i64 k ∧ s = .string (accS false l k)) (fun _ i => l.length - (intOf i).toNat)
    case atStart => exact ⟨0, Nat.zero_le _, rfl, by rw [HZ.out]; rfl⟩
    case round =>
      obtain ⟨k, hk, rfl, rfl⟩ := hrel
      by_cases hlt : k < l.length
      · have hltz : (k : Int) < (l.length : Int) := by omega
        obtain ⟨bp, off, hp, hlt2, hcell⟩ := HA.out.resolve_left (fun e => by rw [e] at hlt; simp at hlt)
        subst hp
        have hck := hcell k hlt
        clear hcell
        have hxs : (l.getD k ByteArray.empty).size ≤ 100 := HSZ.out _ (by simp [List.getD, hlt])
        have h47 : (⟨#[47]⟩ : ByteArray).size = 1 := rfl
        have has := acc_size false k hl HSZ.out
        by_cases hk0 : k = 0
        · subst hk0
          rw [Nat.add_zero] at hck
          have HN : Hid (accS false l (0 + 1) = accS false l 0 ++ l.getD 0 ByteArray.empty) := acc_first hlt
          generalize l.getD 0 ByteArray.empty = x at *
          generalize accS false l 0 = A at *
          go_wp2
          go_round
          case rel => exact ⟨0 + 1, by omega, by go_num, by rw [HN.out]⟩
          case measure => simp [intOf]; omega
        · have hk1 : (0 : Int) < (k : Int) := by omega
          have hk2 : 0 < k := by omega
          have HN : Hid (accS false l (k + 1) = accS false l k ++ ⟨#[47]⟩ ++ l.getD k ByteArray.empty) := acc_next hlt hk0
          generalize l.getD k ByteArray.empty = x at *
          generalize accS false l k = A at *
          go_wp2
          go_round
          case rel => exact ⟨k + 1, by omega, by go_num, by rw [HN.out]⟩
          case measure => simp [intOf]; omega
      · obtain rfl : k = l.length := by omega
        have hltz : ¬ (l.length : Int) < (l.length : Int) := by omega
        have has := acc_size false l.length hl HSZ.out
        have h47 : (⟨#[47]⟩ : ByteArray).size = 1 := rfl
        cases d with
        | false =>
          have HN : Hid (accS false l l.length = Z) := (H1.out (.inl rfl)).symm.trans HZZ.out
          generalize accS false l l.length = A at *
          go_wp2
          go_ret
          exact ⟨by rw [← HN.out]; rfl, HB.out⟩
        | true =>
          by_cases hn : l = []
          · have hlz : ¬ (0 : Int) < (l.length : Int) := by rw [hn]; simp
            have hlz2 : ¬ 0 < l.length := by rw [hn]; simp
            have HN : Hid (accS false l l.length = Z) := (H1.out (.inr hn)).symm.trans HZZ.out
            clear hn
            generalize accS false l l.length = A at *
            go_wp2
            go_ret
            exact ⟨by rw [← HN.out]; rfl, HB.out⟩
          · have hlz : (0 : Int) < (l.length : Int) := by have := List.length_pos_iff.2 hn; omega
            have hlz2 : 0 < l.length := List.length_pos_iff.2 hn
            have HN : Hid (accS false l l.length ++ ⟨#[47]⟩ = Z) := (H2.out hn).symm.trans HZZ.out
            clear hn
            generalize accS false l l.length = A at *
            go_wp2
            go_ret
            exact ⟨by rw [← HN.out]; rfl, HB.out⟩
  | true =>
    go_enter Try.func15, Try.ntmps15
    go_wp2
    generalize w.alloc (.cells #[.bool true, .bool d, .slice p l.length cap] 24) = w0 at *
    have x0 := HX.out.fst
    have x1 := HX.out.snd
    have x2 := HX.out.thd
    go_loop [3, 4] (fun s i => ∃ k : Nat, k ≤ l.length ∧ i = .int .i64 k ∧ s = .string (accS true l k)) (fun _ i => l.length - (intOf i).toNat)
    case atStart => exact ⟨0, Nat.zero_le _, rfl, by rw [HZ.out]; rfl⟩
    case round =>
      obtain ⟨k, hk, rfl, rfl⟩ := hrel
      by_cases hlt : k < l.length
      · have hltz : (k : Int) < (l.length : Int) := by omega
        obtain ⟨bp, off, hp, hlt2, hcell⟩ := HA.out.resolve_left (fun e => by rw [e] at hlt; simp at hlt)
        subst hp
        have hck := hcell k hlt
        clear hcell
        have hxs : (l.getD k ByteArray.empty).size ≤ 100 := HSZ.out _ (by simp [List.getD, hlt])
        have h47 : (⟨#[47]⟩ : ByteArray).size = 1 := rfl
        have has := acc_size true k hl HSZ.out
        by_cases hk0 : k = 0
        · subst hk0
          rw [Nat.add_zero] at hck
          have HN : Hid (accS true l (0 + 1) = accS true l 0 ++ l.getD 0 ByteArray.empty) := acc_first hlt
          generalize l.getD 0 ByteArray.empty = x at *
          generalize accS true l 0 = A at *
          go_wp2
          go_round
          case rel => exact ⟨0 + 1, by omega, by go_num, by rw [HN.out]⟩
          case measure => simp [intOf]; omega
        · have hk1 : (0 : Int) < (k : Int) := by omega
          have hk2 : 0 < k := by omega
          have HN : Hid (accS true l (k + 1) = accS true l k ++ ⟨#[47]⟩ ++ l.getD k ByteArray.empty) := acc_next hlt hk0
          generalize l.getD k ByteArray.empty = x at *
          generalize accS true l k = A at *
          go_wp2
          go_round
          case rel => exact ⟨k + 1, by omega, by go_num, by rw [HN.out]⟩
          case measure => simp [intOf]; omega
      · obtain rfl : k = l.length := by omega
        have hltz : ¬ (l.length : Int) < (l.length : Int) := by omega
        have has := acc_size true l.length hl HSZ.out
        have h47 : (⟨#[47]⟩ : ByteArray).size = 1 := rfl
        cases d with
        | false =>
          have HN : Hid (accS true l l.length = Z) := (H1.out (.inl rfl)).symm.trans HZZ.out
          generalize accS true l l.length = A at *
          go_wp2
          go_ret
          exact ⟨by rw [← HN.out]; rfl, HB.out⟩
        | true =>
          by_cases hn : l = []
          · have hlz : ¬ (0 : Int) < (l.length : Int) := by rw [hn]; simp
            have hlz2 : ¬ 0 < l.length := by rw [hn]; simp
            have HN : Hid (accS true l l.length = Z) := (H1.out (.inr hn)).symm.trans HZZ.out
            clear hn
            generalize accS true l l.length = A at *
            go_wp2
            go_ret
            exact ⟨by rw [← HN.out]; rfl, HB.out⟩
          · have hlz : (0 : Int) < (l.length : Int) := by have := List.length_pos_iff.2 hn; omega
            have hlz2 : 0 < l.length := List.length_pos_iff.2 hn
            have HN : Hid (accS true l l.length ++ ⟨#[47]⟩ = Z) := (H2.out hn).symm.trans HZZ.out
            clear hn
            generalize accS true l l.length = A at *
            go_wp2
            go_ret
            exact ⟨by rw [← HN.out]; rfl, HB.out⟩

end Go.Proofs.Ytidcfbjefemhdaa
