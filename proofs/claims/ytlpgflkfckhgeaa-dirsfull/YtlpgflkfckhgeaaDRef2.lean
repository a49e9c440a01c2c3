/- What the reference's Set and Remove answer. -/
import Derived.Test.YtlpgflkfckhgeaaDRef
import Derived.OwnWalk
namespace Go.Proofs.Ytlpgflkfckhgeaa
open Go Go.RowKit

/-- A list of which the first k are set. -/
def setK (nm : ByteArray) (ino : Int) (l : List Ent) (k : Nat) : List Ent := (l.take k).map (setF nm ino) ++ l.drop k
theorem setK_len (nm : ByteArray) (ino : Int) (l : List Ent) (k : Nat) : (setK nm ino l k).length = l.length := by simp [setK]; omega
theorem setK_at (nm : ByteArray) (ino : Int) (l : List Ent) (k : Nat) (h : k < l.length) : (setK nm ino l k)[k]'(by rw [setK_len]; exact h) = l[k] := by
  unfold setK
  rw [List.getElem_append_right (by simp; omega)]
  simp [Nat.min_eq_left (Nat.le_of_lt h)]
theorem setK_next (nm : ByteArray) (ino : Int) (l : List Ent) (k : Nat) (h : k < l.length) : setK nm ino l (k + 1) = (setK nm ino l k).set k (setF nm ino l[k]) := by
  have e : ((l.take k).map (setF nm ino)).length = k := by simp; omega
  unfold setK
  rw [List.set_append_right _ _ (by omega), e, Nat.sub_self, List.drop_eq_getElem_cons h, List.set_cons_zero, List.take_add_one, List.getElem?_eq_getElem h, Option.toList_some, List.map_append, List.append_assoc]
  rfl

/-- An entry's number laid into a row of one's own. -/
theorem row_ino {hi g cap k : Nat} {e : TypeId} {w : World} {S : List Ent} (h : Row hi e w (.slice (some ⟨g, 0, none⟩) S.length cap) S) (hk : k < S.length) (n : Int) :
    Row hi e (w.setCell ⟨g, k * 2 + 1, none⟩ (.int .i64 n)) (.slice (some ⟨g, 0, none⟩) S.length cap) (S.set k (S[k].1, n)) := by
  have hs := (h.stored (k * 2 + 1) (.int .i64 n)).1
  rw [flat_set S k hk n] at hs
  show World.ownsRow _ hi _ 2 _ (S.set k (S[k].1, n)).length _
  rw [List.length_set]
  exact hs

set_option maxRecDepth 100000 in
set_option maxHeartbeats 1000000 in
theorem rset_any (v : Value) (l : List Ent) (nm : ByteArray) (ino : Int) (w : World) (hl : l.length ≤ 1000) (h : RowR 0 w v l) :
    Calls Try.prog 22 #[v, .string nm, .int .i64 ino] w (RefPost w (fun v' => .tuple #[v', .int .i64 (rSetN nm ino l), .int .i64 (rSetE nm ino l)]) (rSet nm ino l)) := by
  have cF := rfind_any 0 v l nm w hl h
  obtain ⟨p, cap, rfl, hat⟩ := rowR_at h
  have hb1 := on_alloc w (.cells #[] 63)
  obtain ⟨v1, w1, hrun1, hrow1, hgr1⟩ := append_rowS elemR w.heap.size (.slice (some ⟨w.heap.size, 0, none⟩) 0 0) 0 [] p cap l.length (flat l) (w.alloc (.cells #[] 63)) (by decide) (by omega) (flat_length l) (flat_cell l) (rowS_empty w w.heap.size _ 2 (Nat.le_refl _)) (hat.on hb1) hb1.size
  rw [Nat.zero_add, List.nil_append] at hrow1
  have hB1 := hgr1.below hb1 (Nat.le_refl _) hb1.size
  have HK : Hid (∀ (e : Ending) r, rSetE nm ino l = r → r ≠ 0 → e = .returned (.tuple #[.slice p l.length cap, .int .i64 0, .int .i64 r]) → RefPost w (fun v' => .tuple #[v', .int .i64 (rSetN nm ino l), .int .i64 (rSetE nm ino l)]) (rSet nm ino l) e w) := fun e r h1 h2 he =>
    ⟨_, by unfold rSetN; rw [h1, if_neg h2]; exact he, by unfold rSet; rw [h1, if_neg h2]; exact h, Below.refl _ _⟩
  have HY : Hid (∀ (e : Ending) w', rSetE nm ino l = 0 → e = .returned (.tuple #[v1, .int .i64 (find nm l), .int .i64 0]) → RowR w.heap.size w' v1 (setK nm ino l l.length) → Below w.heap.size w w' → RefPost w (fun v' => .tuple #[v', .int .i64 (rSetN nm ino l), .int .i64 (rSetE nm ino l)]) (rSet nm ino l) e w') := fun e w' h1 he hr hb =>
    ⟨v1, by unfold rSetN; rw [h1, if_pos rfl]; exact he, by
      unfold rSet
      rw [h1, if_pos rfl]
      have e : setK nm ino l l.length = l.map (setF nm ino) := by unfold setK; rw [List.take_length, List.drop_length, List.append_nil]
      rw [e] at hr
      exact row_less hr (Nat.zero_le _), hb⟩
  have HE : Hid (rSetE nm ino l = if ino < 1 then 22 else if find nm l = 0 then 2 else 0) := rfl
  generalize RefPost w (fun v' => .tuple #[v', .int .i64 (rSetN nm ino l), .int .i64 (rSetE nm ino l)]) (rSet nm ino l) = Post at *
  have HI : Hid (RowR w.heap.size w1 v1 (setK nm ino l 0) ∧ Below w.heap.size w w1) := ⟨hrow1, hB1⟩
  obtain ⟨p1, cap1, rfl⟩ := row_slice hrow1
  clear h hat hrow1 hgr1 hB1 hb1
  generalize rSetE nm ino l = r at *
  generalize find nm l = fd at *
  by_cases h1 : ino < 1
  · have HEE : Hid (r = 22) := by have := HE.out; rwa [if_pos h1] at this
    clear HE
    go_enter Try.func22, Try.ntmps22
    go_wp2
    go_ret3
    exact HK.out _ _ HEE.out (by decide) rfl
  rw [if_neg h1] at HE
  by_cases h2 : fd = 0
  · have HEE : Hid (r = 2) := by have := HE.out; rwa [if_pos h2] at this
    subst h2
    clear HE
    go_enter Try.func22, Try.ntmps22
    go_wp2_with fail
    refine cF.mono ?_
    rintro e w2 ⟨rfl, hw2⟩
    subst hw2
    go_wp2
    go_ret3
    exact HK.out _ _ HEE.out (by decide) rfl
  · have HEE : Hid (r = 0) := by have := HE.out; rwa [if_neg h2] at this
    have hz : (fd == 0) = false := beq_eq_false_iff_ne.2 h2
    clear HE h2
    go_enter Try.func22, Try.ntmps22
    go_wp2_with fail
    refine cF.mono ?_
    rintro e w2 ⟨rfl, hw2⟩
    subst hw2
    go_wp2_with (at_builtin; refine wpList_run_append rfl _ _ 25 rfl _ _ rfl rfl (hrun1 _) ?_)
    go_loopw [11] (fun i wr => ∃ k : Nat, k ≤ l.length ∧ i = .int .i64 k ∧ Hid (RowR w2.heap.size wr (.slice p1 l.length cap1) (setK nm ino l k) ∧ Below w2.heap.size w2 wr)) (fun i _ => l.length - (intOf i).toNat)
    case atStart => exact ⟨0, Nat.zero_le _, rfl, HI⟩
    case round =>
      clear HI
      obtain ⟨k, hk, rfl, HI⟩ := hrel
      by_cases hlt : k < l.length
      · have hltz : (k : Int) < (l.length : Int) := by omega
        have hkk : k < (setK nm ino l k).length := by rw [setK_len]; exact hlt
        obtain ⟨g, cap', e, hg, _, x0, x1⟩ := row_place HI.out.1 hkk
        rw [setK_len] at e
        cases e
        rw [setK_at nm ino l k hlt] at x0 x1
        have hr : RowR w2.heap.size wr (.slice (some ⟨g, 0, none⟩) (setK nm ino l k).length cap1) (setK nm ino l k) := by rw [setK_len]; exact HI.out.1
        have y1 := row_free hr (k * 2 + 1)
        have HN : Hid (setK nm ino l (k + 1) = (setK nm ino l k).set k (setF nm ino l[k])) := setK_next nm ino l k hlt
        have HS : Hid (same nm l[k] = true → RowR w2.heap.size (wr.setCell ⟨g, k * 2 + 1, none⟩ (.int .i64 ino)) (.slice (some ⟨g, 0, none⟩) l.length cap1) (setK nm ino l (k + 1)) ∧ Below w2.heap.size w2 (wr.setCell ⟨g, k * 2 + 1, none⟩ (.int .i64 ino))) := fun hs => by
          have := row_ino hr hkk ino
          rw [setK_at nm ino l k hlt, setK_len] at this
          refine ⟨?_, below_but HI.out.2 (but_set _ _ _ _) hg⟩
          rw [HN.out]
          unfold setF
          rw [if_pos hs]
          exact this
        have HF : Hid (same nm l[k] = false → RowR w2.heap.size wr (.slice (some ⟨g, 0, none⟩) l.length cap1) (setK nm ino l (k + 1)) ∧ Below w2.heap.size w2 wr) := fun hs => by
          refine ⟨?_, HI.out.2⟩
          have e : (setK nm ino l k).set k l[k] = setK nm ino l k := by
            have := setK_at nm ino l k hlt
            rw [← this]; exact List.set_getElem_self _
          rw [HN.out]
          unfold setF
          rw [hs]
          show World.ownsRow _ _ _ 2 _ ((setK nm ino l k).set k l[k]).length (flat ((setK nm ino l k).set k l[k]))
          rw [e]
          exact HI.out.1
        have hs : (l[k].1.toList == nm.toList) = same nm l[k] := rfl
        generalize l[k] = y at *
        clear hkk hr
        cases hq : same nm y with
        | true =>
          rw [hq] at hs
          have HX := HS.out hq
          have HXX : Hid _ := HX
          clear HS HF HX hq HN
          go_wp2
          go_roundw
          case rel => exact ⟨k + 1, by omega, by go_num, HXX⟩
          case measure => simp [intOf]; omega
        | false =>
          rw [hq] at hs
          have HX := HF.out hq
          have HXX : Hid _ := HX
          clear HS HF HX hq HN
          go_wp2
          go_roundw
          case rel => exact ⟨k + 1, by omega, by go_num, HXX⟩
          case measure => simp [intOf]; omega
      · obtain rfl : k = l.length := by omega
        have hltz : ¬ (l.length : Int) < (l.length : Int) := by omega
        go_wp2
        go_ret3
        exact HY.out _ _ HEE.out rfl HI.out.1 HI.out.2

end Go.Proofs.Ytlpgflkfckhgeaa
