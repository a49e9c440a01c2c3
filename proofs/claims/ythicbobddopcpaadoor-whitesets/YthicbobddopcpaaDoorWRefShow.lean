/- What the reference's Show answers. -/
import Derived.Test.YthicbobddopcpaaDoorWNum
import Derived.Test.YthicbobddopcpaaDoorWInj
namespace Go.Proofs.YthicbobddopcpaaDoor
open Go Go.RowKit Go.Shelf Go.Sort

def accB (l : List Int) (k : Nat) : ByteArray := ⟨(Lib.join ((l.take k).map Lib.itoa) [44]).toArray⟩
theorem acc_size (l : List Int) (k : Nat) (hl : l.length ≤ 32) (h0 : ∀ x ∈ l, 0 ≤ x) (h1 : ∀ x ∈ l, x ≤ 9223372036854775807) : (accB l k).size ≤ 1000 := by
  show (Lib.join ((l.take k).map Lib.itoa) [44]).toArray.size ≤ 1000
  rw [List.size_toArray]
  refine Nat.le_trans (join_len _ rfl _ fun y hy => ?_) (by simp; omega)
  obtain ⟨x, hx, rfl⟩ := List.mem_map.1 hy
  have hm := List.mem_of_mem_take hx
  have := Lib.itoa_length_le x (by have := h0 x hm; omega) (h1 x hm)
  omega
theorem acc_one {l : List Int} (h : 0 < l.length) : accB l 1 = ⟨#[]⟩ ++ txt (l.getD 0 0) := by
  unfold accB txt
  cases l with
  | nil => simp at h
  | cons x r =>
    apply ByteArray.ext
    simp [Lib.join_one]
theorem acc_succ {l : List Int} {k : Nat} (h : k < l.length) (h0 : k ≠ 0) : accB l (k + 1) = accB l k ++ ⟨#[44]⟩ ++ txt (l.getD k 0) := by
  have e : l.take (k + 1) = l.take k ++ [l.getD k 0] := by rw [List.take_add_one]; simp [List.getD, h]
  unfold accB txt
  rw [e, List.map_append, List.map_cons, List.map_nil, join_snoc _ _ (by simp; exact ⟨h0, fun e => by rw [e] at h; simp at h⟩)]
  apply ByteArray.ext
  simp

set_option maxRecDepth 100000 in
set_option maxHeartbeats 2000000 in
theorem refShow_any (all : Bool) (p : Option Addr) (cap : Nat) (l : List Int) (w : World) (hl : l.length ≤ 9223372036854775807) (hr : ∀ x ∈ l, x ≤ 9223372036854775807) (h : At w p l) :
    Calls Tryd.prog 28 #[.agg #[.bool all, .slice p l.length cap]] w fun e w' => e = .returned (.string ⟨(showB all l).toArray⟩) ∧ Below w.heap.size w w' := by
  have HB : Hid (Below w.heap.size w (w.alloc (.cells #[.bool all, .slice p l.length cap] 24))) := on_alloc w _
  have HX : Hid (Box (w.alloc (.cells #[.bool all, .slice p l.length cap] 24)) w.heap.size (.bool all) (.slice p l.length cap)) := Box.new w _ _
  have cA := fun w1 (hb : Below w.heap.size w w1) => refCan_any all p cap l w1 hl (h.below hb (Nat.le_refl _))
  obtain ⟨cv, hcv⟩ : ∃ cv, canB all l = cv := ⟨_, rfl⟩
  have HV : Hid (canB all l = cv) := hcv
  rw [hcv] at cA
  have HH : Hid (At w p l) := h
  have HR : Hid (∀ x ∈ l, x ≤ 9223372036854775807) := hr
  clear hcv h hr
  obtain ⟨R, hR⟩ : ∃ R, (⟨(showB all l).toArray⟩ : ByteArray) = R := ⟨_, rfl⟩
  have HS : Hid ((⟨(showB all l).toArray⟩ : ByteArray) = R) := hR
  rw [hR]
  clear hR
  cases cv with
  | false =>
    obtain rfl : R = ⟨#[]⟩ := by rw [← HS.out]; unfold showB; rw [HV.out]; rfl
    go_enter Tryd.func28, Tryd.ntmps28
    go_wp2_with fail
    refine (cA _ HB.out).mono ?_
    rintro e w1 ⟨rfl, hb1⟩
    go_wp2
    go_ret
    exact ⟨rfl, on_trans HB.out hb1⟩
  | true =>
    cases all with
    | true =>
      obtain rfl : R = ⟨#[97, 108, 108]⟩ := by rw [← HS.out]; unfold showB; rw [HV.out]; rfl
      go_enter Tryd.func28, Tryd.ntmps28
      go_wp2_with fail
      refine (cA _ HB.out).mono ?_
      rintro e w1 ⟨rfl, hb1⟩
      have hX1 := HX.out.on hb1
      have y0 := hX1.fst
      go_wp2
      go_ret
      exact ⟨rfl, on_trans HB.out hb1⟩
    | false =>
      obtain ⟨h32, hge, _⟩ := canB_rise HV.out
      have HG : Hid (∀ x ∈ l, 0 ≤ x) := hge
      clear hge
      go_enter Tryd.func28, Tryd.ntmps28
      go_wp2_with fail
      refine (cA _ HB.out).mono ?_
      rintro e w1 ⟨rfl, hb1⟩
      have hX1 := HX.out.on hb1
      have hB1 := on_trans HB.out hb1
      have y0 := hX1.fst
      have y1 := hX1.snd
      clear cA hX1
      go_wp2
      go_loop [3, 4] (fun s i => ∃ k : Nat, k ≤ l.length ∧ i = .int .i64 k ∧ s = .string (accB l k)) (fun _ i => l.length - (intOf i).toNat)
      case atStart => exact ⟨0, Nat.zero_le _, rfl, rfl⟩
      case round =>
        obtain ⟨k, hk, rfl, rfl⟩ := hrel
        by_cases hlt : k < l.length
        · have hltz : (k : Int) < (l.length : Int) := by omega
          obtain ⟨b, off, rfl, hbl, hcs⟩ := HH.out.resolve_left (fun e => by rw [e] at hlt; simp at hlt)
          have hck := (hB1.cell (p := ⟨b, off + k, none⟩) hbl).trans (hcs k hlt)
          have hmem : l.getD k 0 ∈ l := by simp [List.getD, hlt]
          have cN := num_int (l.getD k 0) (HG.out _ hmem) (HR.out _ hmem) w1
          have HK1 : Hid (k = 0 → accB l 1 = ⟨#[]⟩ ++ txt (l.getD k 0)) := fun e => by subst e; exact acc_one hlt
          have HK2 : Hid (k ≠ 0 → accB l (k + 1) = accB l k ++ ⟨#[44]⟩ ++ txt (l.getD k 0)) := fun e => acc_succ hlt e
          have hts := txt_size (l.getD k 0) (HG.out _ hmem) (HR.out _ hmem)
          have has := acc_size l k (by omega) HG.out HR.out
          clear hmem hcs
          generalize l.getD k 0 = x at *
          generalize txt x = T at *
          by_cases hk0 : k = 0
          · subst hk0
            have e1 := HK1.out rfl
            have e0 : accB l 0 = ⟨#[]⟩ := rfl
            have HE : Hid (accB l 1 = ⟨#[]⟩ ++ T) := e1
            rw [Nat.add_zero] at hck
            rw [e0]
            clear e1 e0 HK1 HK2
            go_wp2_with fail
            refine cN.mono ?_
            rintro e w2 ⟨rfl, hw2⟩
            subst hw2
            go_wp2
            go_round
            case rel => exact ⟨1, by omega, by go_num, by rw [HE.out]⟩
            case measure => simp [intOf]; omega
          · have hkp : 0 < k := by omega
            have hkz : (0 : Int) < (k : Int) := by omega
            have HE : Hid (accB l (k + 1) = accB l k ++ ⟨#[44]⟩ ++ T) := HK2.out hk0
            clear HK1 HK2
            generalize accB l k = A at *
            go_wp2_with fail
            refine cN.mono ?_
            rintro e w2 ⟨rfl, hw2⟩
            subst hw2
            go_wp2
            go_round
            case rel => exact ⟨k + 1, by omega, by go_num, by rw [HE.out]⟩
            case measure => simp [intOf]; omega
        · obtain rfl : k = l.length := by omega
          have hltz : ¬ (l.length : Int) < (l.length : Int) := by omega
          by_cases hnil : l = []
          · subst hnil
            obtain rfl : R = ⟨#[110, 111, 110, 101]⟩ := by rw [← HS.out]; rfl
            rw [show accB [] ([] : List Int).length = ⟨#[]⟩ from rfl]
            rw [List.length_nil] at y1 hltz ⊢
            go_wp2
            go_ret
            exact ⟨rfl, hB1⟩
          · obtain ⟨b0, t0, he, _⟩ := join_head HG.out hnil
            have hA : accB l l.length = R := by
              rw [← HS.out]
              unfold accB showB
              rw [HV.out, List.take_length]
              simp only [if_true, Bool.false_eq_true, if_false, hnil]
            have hq : R.toList.isEmpty = false := by
              rw [← hA]
              unfold accB
              rw [List.take_length, he, ByteArray.toList_mk]
              rfl
            rw [hA]
            clear HS hA
            go_wp2
            go_ret
            exact ⟨rfl, hB1⟩

end Go.Proofs.YthicbobddopcpaaDoor
