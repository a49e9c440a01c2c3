/- What the reference's Can and Has answer. -/
import Derived.Test.YthicbobddopcpaaDoorWRead
namespace Go.Proofs.YthicbobddopcpaaDoor
open Go Go.RowKit Go.Shelf Go.Sort

def okAt (l : List Int) (k : Nat) : Prop := 0 ≤ l.getD k 0 ∧ (0 < k → l.getD (k - 1) 0 < l.getD k 0) ∧ k < 32

theorem rises_of_next {l : List Int} (h : ∀ k, k < l.length → 0 < k → l.getD (k - 1) 0 < l.getD k 0) : l.Pairwise (· < ·) := by
  have key : ∀ d i, i + d + 1 < l.length → l.getD i 0 < l.getD (i + d + 1) 0 := by
    intro d
    induction d with
    | zero => intro i hi; have := h (i + 1) (by omega) (by omega); simpa using this
    | succ d ih =>
      intro i hi
      have h1 := ih i (by omega)
      have h2 := h (i + (d + 1) + 1) (by omega) (by omega)
      rw [show i + (d + 1) + 1 - 1 = i + d + 1 by omega] at h2
      omega
  refine List.pairwise_iff_getElem.2 fun i j hi hj hij => ?_
  have := key (j - i - 1) i (by omega)
  rw [show i + (j - i - 1) + 1 = j by omega] at this
  simpa [List.getD, hi, hj] using this

theorem can_ok {l : List Int} (h : ∀ k, k < l.length → okAt l k) : canB false l = true := by
  refine canB_of ?_ (fun x hx => ?_) (rises_of_next fun k hk hp => (h k hk).2.1 hp)
  · rcases Nat.lt_or_ge 32 l.length with h1 | h1
    · have := (h 32 h1).2.2; omega
    · exact h1
  · obtain ⟨j, hj, e⟩ := List.getElem_of_mem hx
    have := (h j hj).1
    simpa [List.getD, hj, e] using this
theorem can_not {l : List Int} {k : Nat} (hk : k < l.length) (h : ¬ okAt l k) : canB false l = false := by
  cases hc : canB false l with
  | false => rfl
  | true =>
    obtain ⟨h32, h0, hp⟩ := canB_rise hc
    refine absurd ⟨h0 _ (by simp [List.getD, hk]), fun hpos => ?_, by omega⟩ h
    have := List.pairwise_iff_getElem.1 hp (k - 1) k (by omega) hk (by omega)
    simpa [List.getD, hk, show k - 1 < l.length by omega] using this

set_option maxRecDepth 100000 in
set_option maxHeartbeats 4000000 in
theorem refCan_some (all : Bool) (b off cap : Nat) (l : List Int) (w : World) (hl : l.length ≤ 9223372036854775807) (hbl : b < w.heap.size) (hc : ∀ j, j < l.length → w.cell? ⟨b, off + j, none⟩ = some (.int .i64 (l.getD j 0))) :
    Calls Tryd.prog 15 #[.agg #[.bool all, .slice (some ⟨b, off, none⟩) l.length cap]] w fun e w' => e = .returned (.bool (canB all l)) ∧ Below w.heap.size w w' := by
  have hB := on_alloc w (.cells #[.bool all, .slice (some ⟨b, off, none⟩) l.length cap] 24)
  have HC : Hid (∀ j, j < l.length → (w.alloc (.cells #[.bool all, .slice (some ⟨b, off, none⟩) l.length cap] 24)).cell? ⟨b, off + j, none⟩ = some (.int .i64 (l.getD j 0))) := fun j hj => (hB.cell (p := ⟨b, off + j, none⟩) hbl).trans (hc j hj)
  have hX := Box.new w (.bool all) (.slice (some ⟨b, off, none⟩) l.length cap)
  have x0 := hX.fst
  have x1 := hX.snd
  have HB : Hid _ := hB
  clear hc hX hB hbl
  obtain ⟨r, hr⟩ : ∃ r, canB all l = r := ⟨_, rfl⟩
  have HR : Hid (canB all l = r) := hr
  rw [hr]
  clear hr
  go_enter Tryd.func15, Tryd.ntmps15
  go_wp2
  generalize w.alloc (.cells #[.bool all, .slice (some ⟨b, off, none⟩) l.length cap] 24) = w0 at *
  go_loopw [3] (fun i wr => ∃ k q : Nat, k ≤ l.length ∧ i = .int .i64 k ∧ wr = w0.drewN q ∧ Hid (∀ j, j < k → all = false ∧ okAt l j)) (fun i _ => l.length - (intOf i).toNat)
  case atStart => exact ⟨0, 0, Nat.zero_le _, rfl, rfl, fun j hj => absurd hj (Nat.not_lt_zero _)⟩
  case round =>
    obtain ⟨k, q, hk, rfl, rfl, H⟩ := hrel
    by_cases hlt : k < l.length
    · have hltz : (k : Int) < (l.length : Int) := by omega
      have hck := HC.out k hlt
      cases all with
      | true =>
        obtain rfl : r = false := by rw [← HR.out]; simp only [canB, if_true]; exact decide_eq_false (by omega)
        go_wp2
        go_quiet (fail)
        go_wp2
        go_ret
        exact ⟨rfl, on_drewN (on_drewN HB.out _) _⟩
      | false =>
        have HN : Hid (¬ okAt l k → r = false) := fun h => by rw [← HR.out]; exact can_not hlt h
        have HK : Hid (okAt l k = (0 ≤ l.getD k 0 ∧ (0 < k → l.getD (k - 1) 0 < l.getD k 0) ∧ k < 32)) := rfl
        by_cases hneg : l.getD k 0 < 0
        · obtain rfl : r = false := HN.out fun h => by have := h.1; omega
          have d1 : decide (l.getD k 0 < 0) = true := decide_eq_true hneg
          generalize l.getD k 0 = x at hck d1 hneg
          clear HK HN
          go_wp2
          go_quiet (fail)
          go_wp2
          go_ret
          exact ⟨rfl, on_drewN (on_drewN HB.out _) _⟩
        · have d1 : decide (l.getD k 0 < 0) = false := decide_eq_false hneg
          by_cases hk0 : k = 0
          · subst hk0
            have hok : Hid (okAt l 0) := ⟨by omega, fun h => by omega, by omega⟩
            generalize l.getD 0 0 = x at hck d1 hneg
            clear HK HN
            rw [Nat.add_zero] at hck
            go_wp2
            go_quiet (fail)
            go_wp2
            go_roundw
            case rel => exact ⟨1, _, by omega, by go_num, rfl, fun j hj => by
              obtain rfl : j = 0 := by omega
              first | exact ⟨rfl, hok.out⟩ | exact ⟨trivial, hok.out⟩⟩
            case measure => simp [intOf]; omega
          · have hkp : 0 < k := by omega
            have d2 : decide (0 < (k : Int)) = true := decide_eq_true (by omega)
            have d2n : decide (0 < k) = true := decide_eq_true hkp
            have hpk := HC.out (k - 1) (by omega)
            have hidx : ((k : Int) - 1) = ((k - 1 : Nat) : Int) := by omega
            by_cases hle : l.getD k 0 ≤ l.getD (k - 1) 0
            · obtain rfl : r = false := HN.out fun h => by have := h.2.1 (by omega); omega
              have d3 : decide (l.getD k 0 ≤ l.getD (k - 1) 0) = true := decide_eq_true hle
              generalize l.getD k 0 = x at hck d1 d3 hle hneg
              generalize l.getD (k - 1) 0 = y at hpk d3 hle
              clear HK HN
              go_wp2
              go_quiet (fail)
              go_wp2
              go_ret
              exact ⟨rfl, on_drewN (on_drewN HB.out _) _⟩
            · have d3 : decide (l.getD k 0 ≤ l.getD (k - 1) 0) = false := decide_eq_false hle
              by_cases h32 : 32 ≤ k
              · obtain rfl : r = false := HN.out fun h => by have := h.2.2; omega
                have d4 : decide (32 ≤ (k : Int)) = true := decide_eq_true (by omega)
                have d4n : decide (32 ≤ k) = true := decide_eq_true h32
                generalize l.getD k 0 = x at hck d1 d3 hle hneg
                generalize l.getD (k - 1) 0 = y at hpk d3 hle
                clear HK HN
                go_wp2
                go_quiet (fail)
                go_wp2
                go_ret
                exact ⟨rfl, on_drewN (on_drewN HB.out _) _⟩
              · have d4 : decide (32 ≤ (k : Int)) = false := decide_eq_false (by omega)
                have d4n : decide (32 ≤ k) = false := decide_eq_false h32
                have hok : Hid (okAt l k) := ⟨by omega, fun h => by omega, by omega⟩
                generalize l.getD k 0 = x at hck d1 d3 hle hneg
                generalize l.getD (k - 1) 0 = y at hpk d3 hle
                clear HK HN
                go_wp2
                go_quiet (fail)
                go_wp2
                go_roundw
                case rel => exact ⟨k + 1, _, by omega, by go_num, rfl, fun j hj => by
                  by_cases e : j = k
                  · subst e; first | exact ⟨rfl, hok.out⟩ | exact ⟨trivial, hok.out⟩
                  · exact H.out j (by omega)⟩
                case measure => simp [intOf]; omega
    · obtain rfl : k = l.length := by omega
      have hltz : ¬ (l.length : Int) < (l.length : Int) := by omega
      obtain rfl : r = true := by
        rw [← HR.out]
        cases all with
        | false => exact can_ok fun j hj => (H.out j hj).2
        | true =>
          by_cases h0 : l.length = 0
          · simp [canB, h0]
          · have := (H.out 0 (by omega)).1; cases this
      go_wp2
      go_ret
      exact ⟨rfl, on_drewN HB.out _⟩

end Go.Proofs.YthicbobddopcpaaDoor
