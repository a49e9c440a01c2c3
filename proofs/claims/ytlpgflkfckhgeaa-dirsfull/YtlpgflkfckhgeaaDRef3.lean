/- What the reference's Remove answers. -/
import Derived.Test.YtlpgflkfckhgeaaDRef2
namespace Go.Proofs.Ytlpgflkfckhgeaa
open Go Go.RowKit

/-- What stays of the first k. -/
def keepK (nm : ByteArray) (l : List Ent) (k : Nat) : List Ent := (l.take k).filter fun x => !same nm x
theorem keepK_next (nm : ByteArray) (l : List Ent) (k : Nat) (h : k < l.length) : keepK nm l (k + 1) = if same nm l[k] then keepK nm l k else keepK nm l k ++ [l[k]] := by
  unfold keepK
  rw [List.take_add_one, List.getElem?_eq_getElem h, Option.toList_some, List.filter_append]
  cases hs : same nm l[k] <;> simp [hs]
theorem lastK_next (nm : ByteArray) (l : List Ent) (k : Nat) (h : k < l.length) : lastN nm (l.take (k + 1)) = if same nm l[k] then l[k].2 else lastN nm (l.take k) := by
  unfold lastN
  rw [List.take_add_one, List.getElem?_eq_getElem h, Option.toList_some, List.foldl_append]
  rfl

set_option maxRecDepth 100000 in
set_option maxHeartbeats 1000000 in
theorem rrem_any (v : Value) (l : List Ent) (nm : ByteArray) (w : World) (hl : l.length ≤ 1000) (h : RowR 0 w v l) :
    Calls Try.prog 23 #[v, .string nm] w (RefPost w (fun v' => .tuple #[v', .int .i64 (lastN nm l), .int .i64 (rRemE nm l)]) (rRem nm l)) := by
  have hb1 := on_alloc w (.cells #[] 63)
  have HL : Hid (∀ w1, Below w.heap.size w w1 → RowR 0 w1 v l) := fun w1 hb => rowS_on h hb
  have HY : Hid (∀ (e : Ending) w' v1, e = .returned (.tuple #[(if lastN nm l = 0 then v else v1), .int .i64 (lastN nm l), .int .i64 (rRemE nm l)]) → RowR w.heap.size w' v1 (keepK nm l l.length) → Below w.heap.size w w' → RefPost w (fun v' => .tuple #[v', .int .i64 (lastN nm l), .int .i64 (rRemE nm l)]) (rRem nm l) e w') := fun e w' v1 he hr hb => by
    by_cases h0 : lastN nm l = 0
    · rw [if_pos h0] at he
      exact ⟨v, he, by unfold rRem; rw [if_pos h0]; exact rowS_on h hb, hb⟩
    · rw [if_neg h0] at he
      refine ⟨v1, he, ?_, hb⟩
      unfold rRem
      rw [if_neg h0]
      have e : keepK nm l l.length = l.filter fun x => !same nm x := by unfold keepK; rw [List.take_length]
      rw [e] at hr
      exact row_less hr (Nat.zero_le _)
  have HE : Hid (rRemE nm l = if lastN nm l = 0 then 2 else 0) := rfl
  have HI : Hid (RowR w.heap.size (w.alloc (.cells #[] 63)) (.slice (some ⟨w.heap.size, 0, none⟩) 0 0) (keepK nm l 0) ∧ Below w.heap.size w (w.alloc (.cells #[] 63))) := ⟨rowS_empty w w.heap.size _ 2 (Nat.le_refl _), hb1⟩
  obtain ⟨p, cap, rfl⟩ := row_slice h
  generalize RefPost w (fun v' => .tuple #[v', .int .i64 (lastN nm l), .int .i64 (rRemE nm l)]) (rRem nm l) = Post at *
  clear h hb1
  go_enter Try.func23, Try.ntmps23
  go_wp2
  go_loopw [7, 8, 9] (fun o d i wr => ∃ k : Nat, k ≤ l.length ∧ i = .int .i64 k ∧ d = .int .i64 (lastN nm (l.take k)) ∧ Hid (RowR w.heap.size wr o (keepK nm l k) ∧ Below w.heap.size w wr)) (fun _ _ i _ => l.length - (intOf i).toNat)
  case atStart => exact ⟨0, Nat.zero_le _, rfl, rfl, HI⟩
  case round =>
    clear HI
    obtain ⟨k, hk, rfl, rfl, HI⟩ := hrel
    by_cases hlt : k < l.length
    · have hltz : (k : Int) < (l.length : Int) := by omega
      obtain ⟨g, cap', e, hg, _, x0, x1⟩ := row_place (HL.out wr HI.out.2) hlt
      cases e
      have HN : Hid (keepK nm l (k + 1) = if same nm l[k] then keepK nm l k else keepK nm l k ++ [l[k]]) := keepK_next nm l k hlt
      have HM : Hid (lastN nm (l.take (k + 1)) = if same nm l[k] then l[k].2 else lastN nm (l.take k)) := lastK_next nm l k hlt
      have hs : (l[k].1.toList == nm.toList) = same nm l[k] := rfl
      have hkl : (keepK nm l k).length ≤ 1000 := by
        have h1 : (keepK nm l k).length ≤ (l.take k).length := List.length_filter_le _ _
        rw [List.length_take] at h1
        omega
      obtain ⟨v', W', hrun, hrow, hgr⟩ := append_struct elemR w.heap.size u7 (keepK nm l k).length (flat (keepK nm l k)) (entC l[k]) wr (by omega) rfl (flat_cell [l[k]]) HI.out.1 HI.out.2.size
      have HA : Hid (RowR w.heap.size W' v' (keepK nm l k ++ [l[k]]) ∧ Below w.heap.size w W') := ⟨by
        show World.ownsRow _ _ _ 2 _ (keepK nm l k ++ [l[k]]).length _
        rw [List.length_append, flat_append]
        exact hrow, hgr.below HI.out.2 (Nat.le_refl _) HI.out.2.size⟩
      unfold entC at hrun
      clear hrow hgr hkl
      generalize l[k] = y at *
      generalize lastN nm (l.take k) = d at *
      cases hq : same nm y with
      | true =>
        rw [hq] at hs
        have HX : Hid (RowR w.heap.size wr u7 (keepK nm l (k + 1)) ∧ Below w.heap.size w wr) := by rw [HN.out, if_pos hq]; exact HI
        have HMM : Hid (lastN nm (l.take (k + 1)) = y.2) := by have := HM.out; rwa [if_pos hq] at this
        clear HN HM hq HA hrun
        go_wp2
        go_roundw
        case rel => exact ⟨k + 1, by omega, by go_num, by rw [HMM.out], HX⟩
        case measure => simp [intOf]; omega
      | false =>
        rw [hq] at hs
        have HX : Hid (RowR w.heap.size W' v' (keepK nm l (k + 1)) ∧ Below w.heap.size w W') := by rw [HN.out, if_neg (by rw [hq]; simp)]; exact HA
        have HMM : Hid (lastN nm (l.take (k + 1)) = d) := by have := HM.out; rwa [if_neg (by rw [hq]; simp)] at this
        clear HN HM hq HA
        go_wp2_with (at_builtin; refine wpList_run_append rfl _ _ 25 rfl _ _ rfl rfl hrun ?_)
        go_roundw
        case rel => exact ⟨k + 1, by omega, by go_num, by rw [HMM.out], HX⟩
        case measure => simp [intOf]; omega
    · obtain rfl : k = l.length := by omega
      have hltz : ¬ (l.length : Int) < (l.length : Int) := by omega
      rw [List.take_length]
      generalize lastN nm l = d at *
      by_cases h0 : d = 0
      · have HEE : Hid (rRemE nm l = 2) := by have := HE.out; rwa [if_pos h0] at this
        subst h0
        go_wp2
        go_ret3
        refine HY.out _ _ u7 ?_ HI.out.1 HI.out.2
        rw [HEE.out]; rfl
      · have HEE : Hid (rRemE nm l = 0) := by have := HE.out; rwa [if_neg h0] at this
        have hz : (d == 0) = false := beq_eq_false_iff_ne.2 h0
        have H0 : Hid (¬ d = 0) := h0
        clear h0
        go_wp2
        go_ret3
        refine HY.out _ _ u7 ?_ HI.out.1 HI.out.2
        rw [if_neg H0.out, HEE.out]; rfl

end Go.Proofs.Ytlpgflkfckhgeaa
