/- The laws' helper that cuts and copies a path. -/
import Derived.Test.YtidcfbjefemhdaaPOwn
namespace Go.Proofs.Ytidcfbjefemhdaa
open Go Go.RowKit

def cutX (x : ByteArray) : ByteArray := if 100 < x.size then x.extract 0 100 else x
def cutL (l : List ByteArray) : List ByteArray := l.map cutX
/-- What is left of a long path. -/
def shortL (l : List ByteArray) : List ByteArray := cutL (l.take 100)
theorem cutX_size (x : ByteArray) : (cutX x).size ≤ 100 := by
  unfold cutX
  split
  · simp [ByteArray.size_extract]; omega
  · omega
theorem cutL_succ {m : List ByteArray} {k : Nat} (h : k < m.length) : cutL (m.take (k + 1)) = cutL (m.take k) ++ [cutX (m.getD k ByteArray.empty)] := by
  unfold cutL
  rw [List.take_add_one, List.map_append]
  simp [List.getD, h]
theorem shortL_len (l : List ByteArray) : (shortL l).length ≤ 100 := by simp [shortL, cutL]; omega
theorem shortL_size (l : List ByteArray) : ∀ x ∈ shortL l, x.size ≤ 100 := fun x hx => by
  obtain ⟨y, _, rfl⟩ := List.mem_map.1 hx
  exact cutX_size y

theorem own_empty (W : World) (hi : Nat) (h : hi ≤ W.heap.size) : OwnL hi (W.alloc (.cells #[] 9)) (.slice (some ⟨W.heap.size, 0, none⟩) 0 0) [] :=
  World.ownsRow_made W #[] 0 h (by unfold maxLen; omega) rfl

set_option maxRecDepth 100000 in
set_option maxHeartbeats 4000000 in
theorem short_any (a d : Bool) (p : Option Addr) (cap : Nat) (l : List ByteArray) (w : World) (hcap : l.length ≤ cap) (hl : l.length ≤ 9223372036854775807) (h : At w p l) :
    Calls Try.prog 13 #[.agg #[.bool a, .bool d, .slice p l.length cap]] w fun e w' => Below w.heap.size w w' ∧
      ∃ p' c', e = .returned (.agg #[.bool a, .bool d, .slice p' (shortL l).length c']) ∧ AtF w.heap.size w' p' (shortL l) ∧ (shortL l).length ≤ c' := by
  have hX := (Box.new w (.bool a) (.bool d) (.slice p l.length cap)).alloc (.cells #[.bool false, .bool false, .slice none 0 0] 24)
  have hY := Box.new (w.alloc (.cells #[.bool a, .bool d, .slice p l.length cap] 24)) (.bool false) (.bool false) (.slice none 0 0)
  have hB := on_trans (on_alloc w (.cells #[.bool a, .bool d, .slice p l.length cap] 24)) (on_alloc _ (.cells #[.bool false, .bool false, .slice none 0 0] 24))
  rw [World.size_alloc] at hY
  have hm : (l.take 100).length ≤ 100 := by simp; omega
  have HA : Hid (At w p (l.take 100)) := h.take 100
  show Calls _ _ _ _ fun e w' => Below w.heap.size w w' ∧ ∃ p' c', e = .returned (.agg #[.bool a, .bool d, .slice p' (cutL (l.take 100)).length c']) ∧ AtF w.heap.size w' p' (cutL (l.take 100)) ∧ (cutL (l.take 100)).length ≤ c'
  by_cases h100 : 100 < l.length
  · have hgt : (100 : Int) < (l.length : Int) := by omega
    have hcz : (100 : Int) ≤ (cap : Int) := by omega
    obtain ⟨bq, oq, rfl, _, _⟩ := h.resolve_left (fun e => by rw [e] at h100; simp at h100)
    have HML : Hid ((l.take 100).length = 100) := show (l.take 100).length = 100 by simp; omega
    clear hX hY hB h
    generalize l.take 100 = m at *
    go_enter Try.func13, Try.ntmps13
    go_wp2
    have hX := (Box.new w (.bool a) (.bool d) (.slice (some ⟨bq, oq, none⟩) 100 cap)).alloc (.cells #[.bool false, .bool false, .slice none 0 0] 24)
    have hY := Box.new (w.alloc (.cells #[.bool a, .bool d, .slice (some ⟨bq, oq, none⟩) 100 cap] 24)) (.bool false) (.bool false) (.slice none 0 0)
    have hB := on_trans (on_alloc w (.cells #[.bool a, .bool d, .slice (some ⟨bq, oq, none⟩) 100 cap] 24)) (on_alloc _ (.cells #[.bool false, .bool false, .slice none 0 0] 24))
    rw [World.size_alloc] at hY
    have hsz : ((w.alloc (.cells #[.bool a, .bool d, .slice (some ⟨bq, oq, none⟩) 100 cap] 24)).alloc (.cells #[.bool false, .bool false, .slice none 0 0] 24)).heap.size = w.heap.size + 1 + 1 := by simp
    generalize (w.alloc (.cells #[.bool a, .bool d, .slice (some ⟨bq, oq, none⟩) 100 cap] 24)).alloc (.cells #[.bool false, .bool false, .slice none 0 0] 24) = w1 at *
    have hO1 := own_empty w1 (w.heap.size + 2) hY.lt
    rw [hsz] at hO1
    have hX1 := hX.alloc (.cells #[] 9)
    have hY1 := hY.alloc (.cells #[] 9)
    have hB1 := on_trans hB (on_alloc w1 (.cells #[] 9))
    clear hX hY hB hsz
    generalize w1.alloc (.cells #[] 9) = W at *
    generalize Value.slice (some ⟨w.heap.size + 1 + 1, 0, none⟩) 0 0 = v0 at *
    rw [← HML.out] at hX1
    clear h100 hgt hcap hcz hl HML
    generalize (some ⟨bq, oq, none⟩ : Option Addr) = p at *
    have HB0 : Hid (Below w.heap.size w W) := hB1
    have HX0 : Hid (Box W w.heap.size (.bool a) (.bool d) (.slice p m.length cap)) := hX1
    have HY0 : Hid (Box W (w.heap.size + 1) (.bool false) (.bool false) (.slice none 0 0)) := hY1
    have HO0 : Hid (OwnL (w.heap.size + 2) W v0 (cutL (m.take 0))) := hO1
    clear hB1 hX1 hY1 hO1
    go_loopw [3, 4] (fun v i wr => ∃ k : Nat, i = .int .i64 k ∧ k ≤ m.length ∧ Hid (OwnL (w.heap.size + 2) wr v (cutL (m.take k))) ∧ Hid (Box wr w.heap.size (.bool a) (.bool d) (.slice p m.length cap)) ∧ Hid (Box wr (w.heap.size + 1) (.bool false) (.bool false) (.slice none 0 0)) ∧ Hid (Below w.heap.size w wr)) (fun _ i _ => m.length - (intOf i).toNat)
    case atStart => exact ⟨0, rfl, Nat.zero_le _, HO0, HX0, HY0, HB0⟩
    case round =>
      obtain ⟨k, rfl, hk, HO, HX, HY, HB⟩ := hrel
      have x2 := HX.out.thd
      by_cases hlt : k < m.length
      · have hltz : (k : Int) < (m.length : Int) := by omega
        obtain ⟨bp, off, hp, hlt2, hcell⟩ := (HA.out.on HB.out).resolve_left (fun e => by rw [e] at hlt; simp at hlt)
        subst hp
        have hck := hcell k hlt
        obtain ⟨v', W', hrun, hO2, hB2⟩ := append_one (w.heap.size + 2) _ (cutL (m.take k)) (cutX (m.getD k ByteArray.empty)) wr (by simp [cutL]; omega) HO.out HY.out.lt
        have HOn : Hid (OwnL (w.heap.size + 2) W' v' (cutL (m.take (k + 1)))) := by show OwnL _ _ _ _; rw [cutL_succ hlt]; exact hO2
        have HXn : Hid (Box W' w.heap.size (.bool a) (.bool d) (.slice (some ⟨bp, off, none⟩) m.length cap)) := HX.out.below hB2 (by omega)
        have HYn : Hid (Box W' (w.heap.size + 1) (.bool false) (.bool false) (.slice none 0 0)) := HY.out.below hB2 (by omega)
        have HBn : Hid (Below w.heap.size w W') := HB.out.trans (hB2.mono (by omega))
        clear hcell hO2 hB2
        generalize m.getD k ByteArray.empty = x at *
        by_cases hx : 100 < x.size
        · have hxz : (100 : Int) < (x.size : Int) := by omega
          have hx2 : (100 : Int) ≤ (x.size : Int) := by omega
          have hcx : cutX x = x.extract 0 100 := by unfold cutX; rw [if_pos hx]
          rw [hcx] at hrun
          clear hcx
          go_wp2_with (at_builtin; refine wpList_run_append (by rfl) _ _ _ (by rfl) _ _ (by rfl) (by rfl) hrun ?_)
          go_roundw
          case rel => exact ⟨k + 1, by go_num, by omega, HOn, HXn, HYn, HBn⟩
          case measure => simp [intOf]; omega
        · have hxz : ¬ (100 : Int) < (x.size : Int) := by omega
          have hcx : cutX x = x := by unfold cutX; rw [if_neg hx]
          rw [hcx] at hrun
          clear hcx
          go_wp2_with (at_builtin; refine wpList_run_append (by rfl) _ _ _ (by rfl) _ _ (by rfl) (by rfl) hrun ?_)
          go_roundw
          case rel => exact ⟨k + 1, by go_num, by omega, HOn, HXn, HYn, HBn⟩
          case measure => simp [intOf]; omega
      · obtain rfl : k = m.length := by omega
        have hltz : ¬ (m.length : Int) < (m.length : Int) := by omega
        obtain ⟨p', c', hv, hat, hcc⟩ := ownL_at HO.out
        rw [List.take_length] at hv hat hcc
        have x0 := HX.out.fst
        have x1 := HX.out.snd
        have f2 := HX.out.free 2
        have y0 := HY.out.fst
        have y1 := HY.out.snd
        have y2 := HY.out.thd
        have g0 := HY.out.free 0
        have g1 := HY.out.free 1
        have g2 := HY.out.free 2
        have hbut1 := but_set wr w.heap.size 2 (.slice p' (cutL m).length c')
        have hbut2 := but_put3 (wr.setCell ⟨w.heap.size, 2, none⟩ (.slice p' (cutL m).length c')) (w.heap.size + 1) (.bool a) (.bool d) (.slice p' (cutL m).length c')
        have HBX : Hid (Box (put3 (wr.setCell ⟨w.heap.size, 2, none⟩ (.slice p' (cutL m).length c')) (w.heap.size + 1) (.bool a) (.bool d) (.slice p' (cutL m).length c')) (w.heap.size + 1) (.bool a) (.bool d) (.slice p' (cutL m).length c')) := (HY.out.but hbut1 (by omega)).put _ _ _
        have HAT : Hid (AtF (w.heap.size + 2) (put3 (wr.setCell ⟨w.heap.size, 2, none⟩ (.slice p' (cutL m).length c')) (w.heap.size + 1) (.bool a) (.bool d) (.slice p' (cutL m).length c')) p' (cutL m)) := (hat.but hbut1 (by omega)).but hbut2 (by omega)
        have HBE : Hid (Below w.heap.size w (put3 (wr.setCell ⟨w.heap.size, 2, none⟩ (.slice p' (cutL m).length c')) (w.heap.size + 1) (.bool a) (.bool d) (.slice p' (cutL m).length c'))) := below_but (below_but HB.out hbut1 (Nat.le_refl _)) hbut2 (by omega)
        clear hat hbut1 hbut2 HO
        subst hv
        unfold put3 at HBX HAT HBE
        go_wp2
        exact bodyPost_ret (results_box rfl _ _ rfl HBX.out) rfl ⟨HBE.out, p', c', rfl, HAT.out.less (by omega), hcc⟩
  · have hgt : ¬ (100 : Int) < (l.length : Int) := by omega
    have hml : l.take 100 = l := List.take_of_length_le (by omega)
    rw [hml] at hm HA ⊢
    clear hml
    generalize l = m at *
    go_enter Try.func13, Try.ntmps13
    go_wp2
    have hsz : ((w.alloc (.cells #[.bool a, .bool d, .slice p m.length cap] 24)).alloc (.cells #[.bool false, .bool false, .slice none 0 0] 24)).heap.size = w.heap.size + 1 + 1 := by simp
    generalize (w.alloc (.cells #[.bool a, .bool d, .slice p m.length cap] 24)).alloc (.cells #[.bool false, .bool false, .slice none 0 0] 24) = w1 at *
    have hO1 := own_empty w1 (w.heap.size + 2) hY.lt
    rw [hsz] at hO1
    have hX1 := hX.alloc (.cells #[] 9)
    have hY1 := hY.alloc (.cells #[] 9)
    have hB1 := on_trans hB (on_alloc w1 (.cells #[] 9))
    clear hX hY hB h
    generalize w1.alloc (.cells #[] 9) = W at *
    clear hsz
    generalize Value.slice (some ⟨w.heap.size + 1 + 1, 0, none⟩) 0 0 = v0 at *
    clear h100 hgt hcap hl
    have HB0 : Hid (Below w.heap.size w W) := hB1
    have HX0 : Hid (Box W w.heap.size (.bool a) (.bool d) (.slice p m.length cap)) := hX1
    have HY0 : Hid (Box W (w.heap.size + 1) (.bool false) (.bool false) (.slice none 0 0)) := hY1
    have HO0 : Hid (OwnL (w.heap.size + 2) W v0 (cutL (m.take 0))) := hO1
    clear hB1 hX1 hY1 hO1
    go_loopw [3, 4] (fun v i wr => ∃ k : Nat, i = .int .i64 k ∧ k ≤ m.length ∧ Hid (OwnL (w.heap.size + 2) wr v (cutL (m.take k))) ∧ Hid (Box wr w.heap.size (.bool a) (.bool d) (.slice p m.length cap)) ∧ Hid (Box wr (w.heap.size + 1) (.bool false) (.bool false) (.slice none 0 0)) ∧ Hid (Below w.heap.size w wr)) (fun _ i _ => m.length - (intOf i).toNat)
    case atStart => exact ⟨0, rfl, Nat.zero_le _, HO0, HX0, HY0, HB0⟩
    case round =>
      obtain ⟨k, rfl, hk, HO, HX, HY, HB⟩ := hrel
      have x2 := HX.out.thd
      by_cases hlt : k < m.length
      · have hltz : (k : Int) < (m.length : Int) := by omega
        obtain ⟨bp, off, hp, hlt2, hcell⟩ := (HA.out.on HB.out).resolve_left (fun e => by rw [e] at hlt; simp at hlt)
        subst hp
        have hck := hcell k hlt
        obtain ⟨v', W', hrun, hO2, hB2⟩ := append_one (w.heap.size + 2) _ (cutL (m.take k)) (cutX (m.getD k ByteArray.empty)) wr (by simp [cutL]; omega) HO.out HY.out.lt
        have HOn : Hid (OwnL (w.heap.size + 2) W' v' (cutL (m.take (k + 1)))) := by show OwnL _ _ _ _; rw [cutL_succ hlt]; exact hO2
        have HXn : Hid (Box W' w.heap.size (.bool a) (.bool d) (.slice (some ⟨bp, off, none⟩) m.length cap)) := HX.out.below hB2 (by omega)
        have HYn : Hid (Box W' (w.heap.size + 1) (.bool false) (.bool false) (.slice none 0 0)) := HY.out.below hB2 (by omega)
        have HBn : Hid (Below w.heap.size w W') := HB.out.trans (hB2.mono (by omega))
        clear hcell hO2 hB2
        generalize m.getD k ByteArray.empty = x at *
        by_cases hx : 100 < x.size
        · have hxz : (100 : Int) < (x.size : Int) := by omega
          have hx2 : (100 : Int) ≤ (x.size : Int) := by omega
          have hcx : cutX x = x.extract 0 100 := by unfold cutX; rw [if_pos hx]
          rw [hcx] at hrun
          clear hcx
          go_wp2_with (at_builtin; refine wpList_run_append (by rfl) _ _ _ (by rfl) _ _ (by rfl) (by rfl) hrun ?_)
          go_roundw
          case rel => exact ⟨k + 1, by go_num, by omega, HOn, HXn, HYn, HBn⟩
          case measure => simp [intOf]; omega
        · have hxz : ¬ (100 : Int) < (x.size : Int) := by omega
          have hcx : cutX x = x := by unfold cutX; rw [if_neg hx]
          rw [hcx] at hrun
          clear hcx
          go_wp2_with (at_builtin; refine wpList_run_append (by rfl) _ _ _ (by rfl) _ _ (by rfl) (by rfl) hrun ?_)
          go_roundw
          case rel => exact ⟨k + 1, by go_num, by omega, HOn, HXn, HYn, HBn⟩
          case measure => simp [intOf]; omega
      · obtain rfl : k = m.length := by omega
        have hltz : ¬ (m.length : Int) < (m.length : Int) := by omega
        obtain ⟨p', c', hv, hat, hcc⟩ := ownL_at HO.out
        rw [List.take_length] at hv hat hcc
        have x0 := HX.out.fst
        have x1 := HX.out.snd
        have f2 := HX.out.free 2
        have y0 := HY.out.fst
        have y1 := HY.out.snd
        have y2 := HY.out.thd
        have g0 := HY.out.free 0
        have g1 := HY.out.free 1
        have g2 := HY.out.free 2
        have hbut1 := but_set wr w.heap.size 2 (.slice p' (cutL m).length c')
        have hbut2 := but_put3 (wr.setCell ⟨w.heap.size, 2, none⟩ (.slice p' (cutL m).length c')) (w.heap.size + 1) (.bool a) (.bool d) (.slice p' (cutL m).length c')
        have HBX : Hid (Box (put3 (wr.setCell ⟨w.heap.size, 2, none⟩ (.slice p' (cutL m).length c')) (w.heap.size + 1) (.bool a) (.bool d) (.slice p' (cutL m).length c')) (w.heap.size + 1) (.bool a) (.bool d) (.slice p' (cutL m).length c')) := (HY.out.but hbut1 (by omega)).put _ _ _
        have HAT : Hid (AtF (w.heap.size + 2) (put3 (wr.setCell ⟨w.heap.size, 2, none⟩ (.slice p' (cutL m).length c')) (w.heap.size + 1) (.bool a) (.bool d) (.slice p' (cutL m).length c')) p' (cutL m)) := (hat.but hbut1 (by omega)).but hbut2 (by omega)
        have HBE : Hid (Below w.heap.size w (put3 (wr.setCell ⟨w.heap.size, 2, none⟩ (.slice p' (cutL m).length c')) (w.heap.size + 1) (.bool a) (.bool d) (.slice p' (cutL m).length c'))) := below_but (below_but HB.out hbut1 (Nat.le_refl _)) hbut2 (by omega)
        clear hat hbut1 hbut2 HO
        subst hv
        unfold put3 at HBX HAT HBE
        go_wp2
        exact bodyPost_ret (results_box rfl _ _ rfl HBX.out) rfl ⟨HBE.out, p', c', rfl, HAT.out.less (by omega), hcc⟩

end Go.Proofs.Ytidcfbjefemhdaa
