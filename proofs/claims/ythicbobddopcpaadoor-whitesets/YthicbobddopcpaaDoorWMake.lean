/- What white.Make answers, at every slice. -/
import Derived.Test.YthicbobddopcpaaDoorWHas
namespace Go.Proofs.YthicbobddopcpaaDoor
open Go Go.RowKit Go.Shelf Go.Sort

def mkV (l : List Int) : List Int := if canB false (srt l) then srt l else []
def mkE (l : List Int) : Int := if canB false (srt l) then 0 else 22

/-- A row of numbers that the call has made. -/
structure Mine (w : World) (base g off : Nat) (l : List Int) : Prop where
  base : base ≤ g
  lt : g < w.heap.size
  held : Holds (Value.int .i64) w g off l.toArray

theorem mine_of_row {w : World} {base n : Nat} {v : Value} {l : List Int} (h : w.ownsRow base 3 1 v n (l.map (Value.int .i64))) (hv : v ≠ .slice none 0 0) :
    ∃ g cap, v = .slice (some ⟨g, 0, none⟩) n cap ∧ Mine w base g 0 l ∧ n = l.length ∧ n ≤ cap := by
  have hn : n = l.length := by have := h.1; simpa using this.symm
  rcases h.2 with ⟨h0, h1⟩ | ⟨g, cap, cur, rfl, hb, hg, hc, _, hs, ht⟩
  · exact absurd h0 hv
  · refine ⟨g, cap, rfl, ⟨hb, (Array.getElem?_eq_some_iff.1 hg).1, fun j hj => ⟨?_, ?_⟩⟩, hn, hc⟩
    · have hj' : j < l.length := by simpa using hj
      have hu : (l.map (Value.int .i64))[j]? = some (.int .i64 l[j]) := by simp [hj']
      rw [← ht, List.getElem?_take_of_lt (by omega)] at hu
      rw [Nat.zero_add, getElem!_pos l.toArray j hj]
      simp only [World.cell?, hg]
      simpa using hu
    · simp [World.frozen?, hg]

theorem at_of_holds {w : World} {g off : Nat} {l : List Int} (hg : g < w.heap.size) (h : Holds (Value.int .i64) w g off l.toArray) : At w (some ⟨g, off, none⟩) l :=
  .inr ⟨g, off, rfl, hg, fun j hj => by
    have := (h j (by simpa using hj)).1
    rw [this, getElem!_pos l.toArray j (by simpa using hj)]
    simp [List.getD, hj]⟩

theorem atF_of_mine {w : World} {base g off : Nat} {l : List Int} (h : Mine w base g off l) : AtF base w (some ⟨g, off, none⟩) l := by
  rcases at_of_holds h.lt h.held with e | ⟨b, o, hp, hlt, hc⟩
  · exact .inl e
  · cases hp; exact .inr ⟨g, off, rfl, h.base, hlt, hc⟩

theorem holds_front {w : World} {g off : Nat} {a b : List Int} (h : Holds (Value.int .i64) w g off (a ++ b).toArray) : Holds (Value.int .i64) w g off a.toArray := fun j hj => by
  have hj' : j < a.length := by simpa using hj
  obtain ⟨h1, h2⟩ := h j (by simp; omega)
  refine ⟨?_, h2⟩
  rw [h1, getElem!_pos _ j (by simp; omega), getElem!_pos _ j hj]
  simp [List.getElem_append_left hj']

theorem below_rows {B : Nat} {w0 w : World} {g off q : Nat} {d : Array Int} {os : Array Obj} (h : Below B w0 w) (hg : B ≤ g) (hlt : g < w.heap.size) :
    Below B w0 (grow (putRow (Value.int .i64) (Sort.ahead w q) g off d) os) := by
  have hs : (putRow (Value.int .i64) (Sort.ahead w q) g off d).heap.size = w.heap.size := by simp [putRow, mapBlock, Sort.ahead]
  refine ⟨h.os, h.tape, h.output, ?_, fun k hk => ?_⟩
  · have := h.size
    show w0.heap.size ≤ ((putRow (Value.int .i64) (Sort.ahead w q) g off d).heap ++ os).size
    rw [Array.size_append, hs]; omega
  · rw [← h.block k hk]
    show ((putRow (Value.int .i64) (Sort.ahead w q) g off d).heap ++ os)[k]? = _
    rw [Array.getElem?_append_left (by rw [hs]; omega)]
    simp [putRow, mapBlock, Sort.ahead, Array.getElem?_modify, show g ≠ k by omega]

theorem grow_none (w : World) : grow w #[] = w := by simp [grow]

/-- slices.Clone of a list. -/
theorem clone_any (p : Option Addr) (n cap : Nat) (l : List Int) (w : World) (hn : n = l.length) (hl : l.length * 8 ≤ 140737488355328) (h : At w p l) :
    Calls Tryd.prog 30 #[.slice p n cap] w fun e w' => Below w.heap.size w w' ∧
      ((l = [] ∧ e = .returned (.slice none 0 0)) ∨ ∃ g c, e = .returned (.slice (some ⟨g, 0, none⟩) n c) ∧ Mine w' w.heap.size g 0 l ∧ n ≤ c) := by
  subst hn
  have key : ∀ e w', (∃ v', e = .returned v' ∧ w'.ownsRow w.heap.size 3 1 v' l.length (l.map (Value.int .i64)) ∧ v' ≠ .slice none 0 0 ∧ Below w.heap.size w w') →
      Below w.heap.size w w' ∧ ((l = [] ∧ e = .returned (.slice none 0 0)) ∨ ∃ g c, e = Ending.returned (.slice (some ⟨g, 0, none⟩) l.length c) ∧ Mine w' w.heap.size g 0 l ∧ l.length ≤ c) := by
    rintro e w' ⟨v', rfl, hr, hne, hb⟩
    obtain ⟨g, c, rfl, hm, _, hc⟩ := mine_of_row hr hne
    exact ⟨hb, .inr ⟨g, c, rfl, hm, hc⟩⟩
  rcases h with rfl | ⟨b, off, rfl, _, hc⟩
  · cases p with
    | none =>
      refine (Tryd.slices_Clone_int_nil 0 cap w).mono ?_
      rintro e w' ⟨rfl, rfl⟩
      exact ⟨Below.refl _ _, .inl ⟨rfl, rfl⟩⟩
    | some a => exact (Tryd.slices_Clone_int_zero a cap w).mono key
  · refine (Tryd.slices_Clone_int b off l.length cap l w (Nat.le_refl _) hl hc).mono fun e w' h => key e w' ?_
    rwa [List.take_length] at h

theorem sort_mine (g cap base : Nat) (l : List Int) (w : World) (hm : Mine w base g 0 l) (hl : l.length < 4611686018427387904) :
    Calls Tryd.prog 31 #[.slice (some ⟨g, 0, none⟩) l.length cap] w fun e w' => e = .returned (.tuple #[]) ∧ Below base w w' ∧ Mine w' base g 0 (l.mergeSort fun x y => decide (x ≤ y)) := by
  refine (Tryd.slices_Sort_int g 0 cap l w hm.held hm.lt hl).mono ?_
  rintro e w' ⟨rfl, q, os, rfl⟩
  have hlt : g < (putRow (Value.int .i64) (Sort.ahead w q) g 0 (l.mergeSort fun x y => decide (x ≤ y)).toArray).heap.size := by simpa [putRow, mapBlock, Sort.ahead] using hm.lt
  refine ⟨rfl, below_rows (Below.refl _ _) hm.base hm.lt, hm.base, ?_, holds_grow _ _ _ _ _ _ hlt (holds_putRow _ _ _ _ l.toArray _ (holds_ahead _ _ _ _ _ _ hm.held) (by simp))⟩
  show g < (_ ++ os : Array Obj).size
  rw [Array.size_append]; omega

theorem compact_mine (g cap base : Nat) (l : List Int) (w : World) (hm : Mine w base g 0 l) (hl : l.length ≤ 9223372036854775807) (hc : l.length ≤ cap) :
    Calls Tryd.prog 32 #[.slice (some ⟨g, 0, none⟩) l.length cap] w fun e w' => e = .returned (.slice (some ⟨g, 0, none⟩) (Lib.compact l).length cap) ∧ Below base w w' ∧ Mine w' base g 0 (Lib.compact l) := by
  refine (Tryd.slices_Compact_int g 0 cap l w hm.held hl hc).mono ?_
  rintro e w' ⟨rfl, q, rfl⟩
  have hle : (Lib.compact l).length ≤ l.length := by
    unfold Lib.compact Lib.compactUpTo
    rw [List.length_map]
    exact Nat.le_trans (List.length_filter_le _ _) (by simp)
  have hb := below_rows (q := q) (off := 0) (d := (Lib.compact l ++ List.replicate (l.length - (Lib.compact l).length) 0).toArray) (os := #[]) (Below.refl base w) hm.base hm.lt
  rw [grow_none] at hb
  refine ⟨rfl, hb, hm.base, by simpa [putRow, mapBlock, Sort.ahead] using hm.lt, holds_front (holds_putRow _ _ _ _ l.toArray _ (holds_ahead _ _ _ _ _ _ hm.held) ?_)⟩
  simp; omega

set_option maxRecDepth 100000 in
set_option maxHeartbeats 1000000 in
/-- white.Make. -/
theorem make_any (p : Option Addr) (n cap : Nat) (l : List Int) (w : World) (hn : n = l.length) (hl : l.length * 8 ≤ 140737488355328) (h : At w p l) :
    Calls Tryd.prog 11 #[.slice p n cap] w fun e w' => Below w.heap.size w w' ∧
      ∃ p' c', e = .returned (.tuple #[.agg #[.bool false, .slice p' (mkV l).length c'], .int .i64 (mkE l)]) ∧ AtF w.heap.size w' p' (mkV l) := by
  subst hn
  have cC := fun w1 (hb : Below w.heap.size w w1) => clone_any p l.length cap l w1 rfl hl (h.below hb (Nat.le_refl _))
  have HB : Hid (Below w.heap.size w (w.alloc (.cells #[.bool false, .slice none 0 0] 24))) := on_alloc w _
  have HX : Hid (Box (w.alloc (.cells #[.bool false, .slice none 0 0] 24)) w.heap.size (.bool false) (.slice none 0 0)) := Box.new w _ _
  go_enter Tryd.func11, Tryd.ntmps11
  go_wp2_with fail
  generalize w.alloc (.cells #[.bool false, .slice none 0 0] 24) = w0 at *
  refine (cC _ HB.out).mono ?_
  rintro e w1 ⟨hb1, ⟨rfl, rfl⟩ | ⟨g, c, rfl, hm, hc⟩⟩
  · have hX1 := HX.out.on hb1
    have hB1 := on_trans HB.out hb1
    have cS := Tryd.slices_Sort_int_none none 0 w1
    have cK := Tryd.slices_Compact_int_empty none 0 w1
    have cA := fun w4 => can_any false none 0 0 [] w4 rfl (by decide) (.inl rfl)
    go_wp2_with fail
    refine cS.mono ?_
    rintro e w2 ⟨rfl, rfl⟩
    go_wp2_with fail
    refine cK.mono ?_
    rintro e w3 ⟨rfl, rfl⟩
    go_wp2_with fail
    refine (cA _).mono ?_
    rintro e w5 ⟨rfl, hb5⟩
    have hX5 := (hX1.alloc (.cells #[.bool false, .slice none 0 0] 24)).on hb5
    have hY5 := (Box.new w3 (.bool false) (.slice none 0 0)).on hb5
    have hB5 := on_trans (on_trans hB1 (on_alloc w3 (.cells #[.bool false, .slice none 0 0] 24))) hb5
    clear cA cK cS cC hb1 hX1
    have f0 := hX5.free0
    have f1 := hX5.free1
    have x0 := hX5.fst
    have x1 := hX5.snd
    have y0 := hY5.fst
    have y1 := hY5.snd
    have HX5 : Hid (Box w5 w.heap.size (.bool false) (.slice none 0 0)) := hX5
    clear hX5 hY5
    rw [canB_nil]
    go_wp2
    exact bodyPost_ret (results_box_tmp rfl _ _ rfl rfl (HX5.out.put _ _)) rfl ⟨below_but hB5 (but_set2 _ _ _ _ _ _) (Nat.le_refl _), none, 0, rfl, .nil _ _ _⟩
  · have hX1 := HX.out.on hb1
    have cS := sort_mine g c w0.heap.size l w1 hm (by omega)
    go_wp2_with fail
    refine cS.mono ?_
    rintro e w2 ⟨rfl, hb2, hm2⟩
    have cK := compact_mine g c w0.heap.size _ w2 hm2 (by simp; omega) (by simp; omega)
    rw [compact_sort, List.length_mergeSort] at cK
    go_wp2_with fail
    refine cK.mono ?_
    rintro e w3 ⟨rfl, hb3, hm3⟩
    have cA := fun w4 (hb : Below w3.heap.size w3 w4) => can_any false (some ⟨g, 0, none⟩) (srt l).length c (srt l) w4 rfl (by have := srt_len l; omega) ((at_of_holds hm3.lt hm3.held).below hb (Nat.le_refl _))
    go_wp2_with fail
    have hX3 := (hX1.below hb2 HX.out.lt).below hb3 HX.out.lt
    have hB3 : Below w.heap.size w w3 := ((on_trans HB.out hb1).trans (hb2.mono (HB.out.size))).trans (hb3.mono HB.out.size)
    refine (cA _ (on_alloc _ _)).mono ?_
    rintro e w5 ⟨rfl, hb5⟩
    have hX5 := (hX3.alloc (.cells #[.bool false, .slice (some ⟨g, 0, none⟩) (srt l).length c] 24)).on hb5
    have hY5 := (Box.new w3 (.bool false) (.slice (some ⟨g, 0, none⟩) (srt l).length c)).on hb5
    have hA5 := ((atF_of_mine hm3).alloc (.cells #[.bool false, .slice (some ⟨g, 0, none⟩) (srt l).length c] 24)).on hb5
    have hB5 := on_trans (on_trans hB3 (on_alloc w3 (.cells #[.bool false, .slice (some ⟨g, 0, none⟩) (srt l).length c] 24))) hb5
    have hlt0 : w.heap.size < w0.heap.size := HX.out.lt
    clear cA cK cS cC hb1 hb2 hb3 hm hm2 hm3 hX1 hX3 h hl
    have f0 := hX5.free0
    have f1 := hX5.free1
    have x0 := hX5.fst
    have x1 := hX5.snd
    have y0 := hY5.fst
    have y1 := hY5.snd
    have HX5 : Hid (Box w5 w.heap.size (.bool false) (.slice none 0 0)) := hX5
    clear hX5 hY5
    obtain ⟨cv, hcv⟩ : ∃ cv, canB false (srt l) = cv := ⟨_, rfl⟩
    have HV : Hid (canB false (srt l) = cv) := hcv
    rw [hcv]
    clear hcv
    cases cv with
    | true =>
      go_wp2
      exact bodyPost_ret (results_box_tmp rfl _ _ rfl rfl (HX5.out.put _ _)) rfl ⟨below_but hB5 (but_set2 _ _ _ _ _ _) (Nat.le_refl _), some ⟨g, 0, none⟩, c, by rw [show mkV l = srt l by unfold mkV; rw [HV.out]; rfl, show mkE l = 0 by unfold mkE; rw [HV.out]; rfl]; rfl, by
        rw [show mkV l = srt l by unfold mkV; rw [HV.out]; rfl]
        exact (hA5.but (but_set2 _ _ _ _ _ _) hlt0).less (by omega)⟩
    | false =>
      go_wp2
      exact bodyPost_ret (results_box_tmp rfl _ _ rfl rfl (HX5.out.put _ _)) rfl ⟨below_but hB5 (but_set2 _ _ _ _ _ _) (Nat.le_refl _), none, 0, by rw [show mkV l = [] by unfold mkV; rw [HV.out]; rfl, show mkE l = 22 by unfold mkE; rw [HV.out]; rfl]; rfl, by
        rw [show mkV l = [] by unfold mkV; rw [HV.out]; rfl]
        exact .nil _ _ _⟩

end Go.Proofs.YthicbobddopcpaaDoor
