/- Package queue: cut. -/
import Derived.Test.YtfhkdndgiofidaaKMem
import Derived.Laws.IdiomStrings
namespace Go.Proofs.Ytfhkdndgiofidaa.K
open Go Go.RowKit

section
variable {O : Nat → Prop} {w : World} {M : List PV} {b off c k : Nat}
theorem pas_front (h : PasM O w (.slice (some ⟨b, off, none⟩) M.length c) M) (hk : k ≤ M.length) : PasM O w (.slice (some ⟨b, off, none⟩) k k) (M.take k) := by
  obtain ⟨p, cap, e, h2, h3⟩ := h.row
  cases e
  refine ⟨⟨_, k, by rw [List.length_take, Nat.min_eq_left hk], by rw [List.length_take]; omega, ?_⟩, fun x hx => h.ints x (List.mem_of_mem_take hx)⟩
  have := h3.take (k * 5)
  rwa [flatP_take] at this
theorem pas_back (h : PasM O w (.slice (some ⟨b, off, none⟩) M.length c) M) : PasM O w (.slice (some ⟨b, off + k * 5, none⟩) (M.length - k) (M.length - k)) (M.drop k) := by
  obtain ⟨p, cap, e, h2, h3⟩ := h.row
  cases e
  refine ⟨⟨_, M.length - k, by rw [List.length_drop], by rw [List.length_drop]; omega, ?_⟩, fun x hx => h.ints x (List.mem_of_mem_drop hx)⟩
  have := h3.drop (k * 5)
  rwa [flatP_drop] at this
end
theorem PasM.nil (O : Nat → Prop) (w : World) : PasM O w (.slice none 0 0) [] := ⟨⟨none, 0, rfl, Nat.le_refl _, .inl rfl⟩, fun x hx => by simp at hx⟩

set_option maxRecDepth 100000 in
set_option maxHeartbeats 1000000 in
theorem cut_any {O : Nat → Prop} {w : World} {v : Value} {M : List PV} (h : PasM O w v M) (hM : M.length ≤ 1000) (most : Int) :
    Calls Try.prog 84 #[v, .int .i64 most] w fun e w' => ∃ v1 v2, e = .returned (.tuple #[v1, v2]) ∧ w' = w ∧ PasM O w v1 (M.take most.toNat) ∧ PasM O w v2 (M.drop most.toNat) := by
  generalize hPost : (fun (e : Ending) w' => ∃ v1 v2, e = .returned (.tuple #[v1, v2]) ∧ w' = w ∧ PasM O w v1 (M.take most.toNat) ∧ PasM O w v2 (M.drop most.toNat)) = Post
  have HP : Hid (∀ v1 v2, PasM O w v1 (M.take most.toNat) → PasM O w v2 (M.drop most.toNat) → Post (.returned (.tuple #[v1, v2])) w) := fun v1 v2 h1 h2 => by
    subst hPost
    exact ⟨v1, v2, rfl, rfl, h1, h2⟩
  clear hPost
  obtain ⟨k, hk⟩ : ∃ k, min most.toNat M.length = k := ⟨_, rfl⟩
  have ht : M.take most.toNat = M.take k := by rw [← hk, List.take_eq_take_iff]; omega
  have hd : M.drop most.toNat = M.drop k := by
    by_cases hq : most.toNat ≤ M.length
    · rw [show k = most.toNat by omega]
    · rw [List.drop_of_length_le (by omega), List.drop_of_length_le (by omega)]
  rw [ht, hd] at HP
  obtain ⟨p, c, rfl, hc, hat⟩ := h.row
  have hkl : k ≤ M.length := by omega
  have hcc : M.length ≤ c := hc
  have e1 : (if (M.length : Int) < most then (M.length : Int) else most) = min most (M.length : Int) := by split <;> omega
  have e2 : max 0 (min most (M.length : Int)) = (k : Int) := by omega
  have e3 : (if (0 : Int) < min most (M.length : Int) then min most (M.length : Int) else 0) = (k : Int) := by split <;> omega
  have e4 : max (min most (M.length : Int)) 0 = (k : Int) := by omega
  by_cases h0 : M.length = 0
  · obtain rfl : k = 0 := by omega
    have HE : Hid (Post (.returned (.tuple #[.slice none 0 0, .slice none 0 0])) w) := by
      have hM0 := List.eq_nil_of_length_eq_zero h0
      subst hM0
      exact HP.out _ _ (by simpa using PasM.nil O w) (by simpa using PasM.nil O w)
    rw [h0] at *
    clear HP hat h ht hd hk
    go_enter Try.func84, Try.ntmps84
    go_wp2
    exact HE.out
  · have hfl := flatP_len M
    obtain ⟨b, off, rfl, _, _, _⟩ := hat.at.place (k := 0) (by omega)
    have HF : Hid (∀ j, j ≤ M.length → PasM O w (.slice (some ⟨b, off, none⟩) j j) (M.take j)) := fun j hj => pas_front h hj
    have HB : Hid (∀ j, PasM O w (.slice (some ⟨b, off + j * 5, none⟩) (M.length - j) (M.length - j)) (M.drop j)) := fun j => pas_back h
    clear h hat hfl ht hd hk hc
    by_cases hk0 : k = 0
    · subst hk0
      have HE : Hid (Post (.returned (.tuple #[.slice none 0 0, .slice (some ⟨b, off, none⟩) M.length M.length])) w) := HP.out _ _ (PasM.nil O w) (by simpa using HB.out 0)
      clear HP HF HB
      generalize M.length = ml at *
      have hz1 : (0 : Int) < (ml : Int) := by omega
      have hz2 : (ml : Int) ≤ (c : Int) := by omega
      have hz3 : ¬ ml = 0 := by omega
      go_enter Try.func84, Try.ntmps84
      go_wp2
      exact HE.out
    · have hz0 : (0 : Int) < (k : Int) := by omega
      have hz4 : (k : Int) ≤ (c : Int) := by omega
      by_cases hkm : k = M.length
      · have HE : Hid (Post (.returned (.tuple #[.slice (some ⟨b, off, none⟩) k k, .slice none 0 0])) w) := HP.out _ _ (HF.out k hkl) (by rw [hkm, List.drop_length]; exact PasM.nil O w)
        clear HP HF HB
        have hkz : ¬ (k : Int) < (M.length : Int) := by omega
        have hkn : ¬ k < M.length := by omega
        generalize M.length = ml at *
        have HK : Hid (k = (min most (ml : Int)).toNat) := by show k = _; omega
        go_enter Try.func84, Try.ntmps84
        go_wp2
        have hE := HE.out
        rw [HK.out] at hE
        exact hE
      · have HE : Hid (Post (.returned (.tuple #[.slice (some ⟨b, off, none⟩) k k, .slice (some ⟨b, off + k * 5, none⟩) (M.length - k) (M.length - k)])) w) := HP.out _ _ (HF.out k hkl) (HB.out k)
        clear HP HF HB
        have hkz : (k : Int) < (M.length : Int) := by omega
        have hkn : k < M.length := by omega
        generalize M.length = ml at *
        have hz2 : (ml : Int) ≤ (c : Int) := by omega
        have hz3 : ¬ ml = k := by omega
        have hz5 : (k : Int) ≤ (ml : Int) := by omega
        have HK : Hid (k = most.toNat) := by show k = _; omega
        go_enter Try.func84, Try.ntmps84
        go_wp2
        have hE := HE.out
        rw [HK.out] at hE
        exact hE

end Go.Proofs.Ytfhkdndgiofidaa.K
