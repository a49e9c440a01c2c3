/- The laws' helpers that cut and copy: few and short. -/
import Derived.Test.YthicbobddopcpaaDoorWOwn
namespace Go.Proofs.YthicbobddopcpaaDoor
open Go Go.RowKit Go.Shelf Go.Sort

theorem At.take {w : World} {p : Option Addr} {l : List Int} (h : At w p l) (k : Nat) : At w p (l.take k) := by
  rcases h with rfl | ⟨b, off, hp, hlt, hc⟩
  · exact .inl (by simp)
  · refine .inr ⟨b, off, hp, hlt, fun j hj => ?_⟩
    have hj2 : j < k ∧ j < l.length := by simp at hj; omega
    rw [hc j hj2.2]
    simp [List.getD, hj2.1, hj2.2]

theorem take_short {l : List Int} (h : ¬ 200 < l.length) : l.take 200 = l := List.take_of_length_le (by omega)
theorem take_len {l : List Int} (h : 200 < l.length) : (l.take 200).length = 200 := by simp; omega

set_option maxRecDepth 100000 in
set_option maxHeartbeats 1000000 in
theorem few_any (p : Option Addr) (cap : Nat) (l : List Int) (w : World) (hcap : 200 < l.length → 200 ≤ cap) (hl : l.length ≤ 9223372036854775807) (h : At w p l) :
    Calls Tryd.prog 9 #[.slice p l.length cap] w fun e w' => Below w.heap.size w w' ∧ ∃ p' c', e = .returned (.slice p' (l.take 200).length c') ∧ AtF w.heap.size w' p' (l.take 200) := by
  have hb0 := on_alloc w (.cells #[] 3)
  have hT := h.take 200
  by_cases h200 : 200 < l.length
  · have hc := hcap h200
    have hgt : (200 : Int) < (l.length : Int) := by omega
    obtain ⟨b, off, rfl, hlt, _⟩ := h.resolve_left (fun e => by rw [e] at h200; simp at h200)
    have hcz : (200 : Int) ≤ (cap : Int) := by omega
    obtain ⟨p', c', w', hrun, hb, hat, _⟩ := append_copy w.heap.size (some ⟨b, off, none⟩) cap (l.take 200) (w.alloc (.cells #[] 3)) (by simp; omega) (hT.on hb0)
    rw [take_len h200] at hrun ⊢
    have hbw := on_trans hb0 hb
    have hat' := hat.less (show w.heap.size ≤ (w.alloc (.cells #[] 3)).heap.size by simp)
    clear hat hT h hb hcap
    go_enter Tryd.func9, Tryd.ntmps9
    go_wp2_with (at_builtin; refine wpList_run_append (by rfl) _ _ _ (by rfl) _ _ (by rfl) (by rfl) hrun ?_)
    go_ret
    exact ⟨hbw, p', c', rfl, hat'⟩
  · have hgt : ¬ (200 : Int) < (l.length : Int) := by omega
    rw [take_short h200]
    obtain ⟨p', c', w', hrun, hb, hat, _⟩ := append_copy w.heap.size p cap l (w.alloc (.cells #[] 3)) (by omega) (h.on hb0)
    have hbw := on_trans hb0 hb
    have hat' := hat.less (show w.heap.size ≤ (w.alloc (.cells #[] 3)).heap.size by simp)
    clear hat hT h hb hcap
    go_enter Tryd.func9, Tryd.ntmps9
    go_wp2_with (at_builtin; refine wpList_run_append (by rfl) _ _ _ (by rfl) _ _ (by rfl) (by rfl) hrun ?_)
    go_ret
    first | exact ⟨hbw, p', c', rfl, hat'⟩ | exact ⟨hbw, p', ⟨c', rfl⟩, hat'⟩

set_option maxRecDepth 100000 in
set_option maxHeartbeats 1000000 in
theorem short_any (all : Bool) (p : Option Addr) (cap : Nat) (l : List Int) (w : World) (hcap : 200 < l.length → 200 ≤ cap) (hl : l.length ≤ 9223372036854775807) (h : At w p l) :
    Calls Tryd.prog 10 #[.agg #[.bool all, .slice p l.length cap]] w fun e w' => Below w.heap.size w w' ∧ ∃ p' c', e = .returned (.agg #[.bool all, .slice p' (l.take 200).length c']) ∧ AtF w.heap.size w' p' (l.take 200) := by
  have hX := (Box.new w (.bool all) (.slice p l.length cap)).alloc (.cells #[.bool false, .slice none 0 0] 24)
  have hY := Box.new (w.alloc (.cells #[.bool all, .slice p l.length cap] 24)) (.bool false) (.slice none 0 0)
  have hB := on_trans (on_alloc w (.cells #[.bool all, .slice p l.length cap] 24)) (on_alloc _ (.cells #[.bool false, .slice none 0 0] 24))
  rw [World.size_alloc] at hY
  have cO := fun (q : List Int) (hq : q.length * 8 ≤ 140737488355328) W (hb : Below w.heap.size w W) (ha : At w p q) => own_any all p cap q W hq (ha.below hb (Nat.le_refl _))
  by_cases h200 : 200 < l.length
  · have hc := hcap h200
    have hgt : (200 : Int) < (l.length : Int) := by omega
    obtain ⟨b, off, rfl, hlt, _⟩ := h.resolve_left (fun e => by rw [e] at h200; simp at h200)
    have hcz : (200 : Int) ≤ (cap : Int) := by omega
    have HT : Hid (At w (some ⟨b, off, none⟩) (l.take 200)) := h.take 200
    have cO2 := fun W hb => cO (l.take 200) (by simp; omega) W hb HT.out
    rw [take_len h200] at cO2 ⊢
    clear cO h hcap
    go_enter Tryd.func10, Tryd.ntmps10
    have hY' := Box.new (w.alloc (.cells #[.bool all, .slice (some ⟨b, off, none⟩) 200 cap] 24)) (.bool false) (.slice none 0 0)
    have hB' := on_trans (on_alloc w (.cells #[.bool all, .slice (some ⟨b, off, none⟩) 200 cap] 24)) (on_alloc _ (.cells #[.bool false, .slice none 0 0] 24))
    rw [World.size_alloc] at hY'
    clear hX hY hB
    go_wp2_with fail
    refine (cO2 _ hB').mono ?_
    rintro e w1 ⟨hb1, p', c', rfl, hat⟩
    have hY1 := hY'.on hb1
    have hB1 := on_trans hB' hb1
    have y0 := hY1.fst
    have y1 := hY1.snd
    have f0 := hY1.free0
    have f1 := hY1.free1
    have hsz : w.heap.size + 1 < ((w.alloc (.cells #[.bool all, .slice (some ⟨b, off, none⟩) 200 cap] 24)).alloc (.cells #[.bool false, .slice none 0 0] 24)).heap.size := by simp
    have hat2 := hat.but (but_set2 w1 (w.heap.size + 1) 0 1 (.bool all) (.slice p' 200 c')) hsz
    have HY1 : Hid (Box w1 (w.heap.size + 1) (.bool false) (.slice none 0 0)) := hY1
    clear hY' hY1 cO2
    go_wp2
    exact bodyPost_ret (results_box rfl _ _ rfl (HY1.out.put _ _)) rfl ⟨below_but hB1 (but_set2 _ _ _ _ _ _) (by omega), p', c', rfl, hat2.less (by simp; omega)⟩
  · have hgt : ¬ (200 : Int) < (l.length : Int) := by omega
    rw [take_short h200]
    have cO2 := fun W hb => cO l (by omega) W hb h
    clear cO hcap
    go_enter Tryd.func10, Tryd.ntmps10
    go_wp2_with fail
    refine (cO2 _ hB).mono ?_
    rintro e w1 ⟨hb1, p', c', rfl, hat⟩
    have hY1 := hY.on hb1
    have hB1 := on_trans hB hb1
    have y0 := hY1.fst
    have y1 := hY1.snd
    have f0 := hY1.free0
    have f1 := hY1.free1
    have hsz : w.heap.size + 1 < ((w.alloc (.cells #[.bool all, .slice p l.length cap] 24)).alloc (.cells #[.bool false, .slice none 0 0] 24)).heap.size := by simp
    have hat2 := hat.but (but_set2 w1 (w.heap.size + 1) 0 1 (.bool all) (.slice p' l.length c')) hsz
    have HY1 : Hid (Box w1 (w.heap.size + 1) (.bool false) (.slice none 0 0)) := hY1
    clear hX hY hY1 cO2
    go_wp2
    exact bodyPost_ret (results_box rfl _ _ rfl (HY1.out.put _ _)) rfl ⟨below_but hB1 (but_set2 _ _ _ _ _ _) (by omega), p', c', rfl, hat2.less (by simp; omega)⟩

end Go.Proofs.YthicbobddopcpaaDoor
