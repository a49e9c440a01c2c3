/- What the reference's Can and Has answer. -/
import Derived.Test.YtmccfcllehfebaaA5
import Derived.Test.YtmccfcllehfebaaA2
namespace Go.Proofs.Ytmccfcllehfebaa.W
open Go Go.RowKit Go.Shelf Go.Sort

def okAt (l : List Int) (k : Nat) : Prop := 0 ≤ l.getD k 0 ∧ (0 < k → l.getD (k - 1) 0 < l.getD k 0) ∧ k < 32

theorem rises_of_next {l : List Int} (h : ∀ k, k < l.length → 0 < k → l.getD (k - 1) 0 < l.getD k 0) : l.Pairwise (· < ·) := by
  have key : ∀ d i, i + d + 1 < l.length → l.getD i 0 < l.getD (i + d + 1) 0 := by
    intro d
    induction d with
    | zero => intro i hi; have := h (i + 1) (by omega) (by omega); simpa using this
    | succ d ih =>
      intro i hi
      have h1 := ih i (by omega)
      have h2 := h (i + (d + 1) + 1) (by omega) (by omega)
      rw [show i + (d + 1) + 1 - 1 = i + d + 1 by omega] at h2
      omega
  refine List.pairwise_iff_getElem.2 fun i j hi hj hij => ?_
  have := key (j - i - 1) i (by omega)
  rw [show i + (j - i - 1) + 1 = j by omega] at this
  simpa [List.getD, hi, hj] using this

theorem can_ok {l : List Int} (h : ∀ k, k < l.length → okAt l k) : canB false l = true := by
  refine canB_of ?_ (fun x hx => ?_) (rises_of_next fun k hk hp => (h k hk).2.1 hp)
  · rcases Nat.lt_or_ge 32 l.length with h1 | h1
    · have := (h 32 h1).2.2; omega
    · exact h1
  · obtain ⟨j, hj, e⟩ := List.getElem_of_mem hx
    have := (h j hj).1
    simpa [List.getD, hj, e] using this
theorem can_not {l : List Int} {k : Nat} (hk : k < l.length) (h : ¬ okAt l k) : canB false l = false := by
  cases hc : canB false l with
  | false => rfl
  | true =>
    obtain ⟨h32, h0, hp⟩ := canB_rise hc
    refine absurd ⟨h0 _ (by simp [List.getD, hk]), fun hpos => ?_, by omega⟩ h
    have := List.pairwise_iff_getElem.1 hp (k - 1) k (by omega) hk (by omega)
    simpa [List.getD, hk, show k - 1 < l.length by omega] using this

set_option maxRecDepth 100000 in
set_option maxHeartbeats 4000000 in
theorem refCan_some (all : Bool) (b off cap : Nat) (l : List Int) (w : World) (hl : l.length ≤ 9223372036854775807) (hbl : b < w.heap.size) (hc : ∀ j, j < l.length → w.cell? ⟨b, off + j, none⟩ = some (.int .i64 (l.getD j 0))) :
    Calls Try.prog 45 #[.agg #[.bool all, .slice (some ⟨b, off, none⟩) l.length cap]] w fun e w' => e = .returned (.bool (canB all l)) ∧ Below w.heap.size w w' := by
  have hB := on_alloc w (.cells #[.bool all, .slice (some ⟨b, off, none⟩) l.length cap] 32)
  have HC : Hid (∀ j, j < l.length → (w.alloc (.cells #[.bool all, .slice (some ⟨b, off, none⟩) l.length cap] 32)).cell? ⟨b, off + j, none⟩ = some (.int .i64 (l.getD j 0))) := fun j hj => (hB.cell (p := ⟨b, off + j, none⟩) hbl).trans (hc j hj)
  have hX := Box.new w (.bool all) (.slice (some ⟨b, off, none⟩) l.length cap)
  have x0 := hX.fst
  have x1 := hX.snd
  have HB : Hid _ := hB
  clear hc hX hB hbl
  obtain ⟨r, hr⟩ : ∃ r, canB all l = r := ⟨_, rfl⟩
  have HR : Hid (canB all l = r) := hr
  rw [hr]
  clear hr
  go_enter Try.func45, Try.ntmps45
  go_wp2
  generalize w.alloc (.cells #[.bool all, .slice (some ⟨b, off, none⟩) l.length cap] 32) = w0 at *
  go_loopw [3] (fun i wr => ∃ k q : Nat, k ≤ l.length ∧ i = .int .i64 k ∧ wr = w0.drewN q ∧ Hid (∀ j, j < k → all = false ∧ okAt l j)) (fun i _ => l.length - (intOf i).toNat)
  case atStart => exact ⟨0, 0, Nat.zero_le _, rfl, rfl, fun j hj => absurd hj (Nat.not_lt_zero _)⟩
  case round =>
    obtain ⟨k, q, hk, rfl, rfl, H⟩ := hrel
    by_cases hlt : k < l.length
    · have hltz : (k : Int) < (l.length : Int) := by omega
      have hck := HC.out k hlt
      cases all with
      | true =>
        obtain rfl : r = false := by rw [← HR.out]; simp only [canB, if_true]; exact decide_eq_false (by omega)
        go_wp2
        go_quiet (fail)
        go_wp2
        go_ret
        exact ⟨rfl, on_drewN (on_drewN HB.out _) _⟩
      | false =>
        have HN : Hid (¬ okAt l k → r = false) := fun h => by rw [← HR.out]; exact can_not hlt h
        have HK : Hid (okAt l k = (0 ≤ l.getD k 0 ∧ (0 < k → l.getD (k - 1) 0 < l.getD k 0) ∧ k < 32)) := rfl
        by_cases hneg : l.getD k 0 < 0
        · obtain rfl : r = false := HN.out fun h => by have := h.1; omega
          have d1 : decide (l.getD k 0 < 0) = true := decide_eq_true hneg
          generalize l.getD k 0 = x at hck d1 hneg
          clear HK HN
          go_wp2
          go_quiet (fail)
          go_wp2
          go_ret
          exact ⟨rfl, on_drewN (on_drewN HB.out _) _⟩
        · have d1 : decide (l.getD k 0 < 0) = false := decide_eq_false hneg
          by_cases hk0 : k = 0
          · subst hk0
            have hok : Hid (okAt l 0) := ⟨by omega, fun h => by omega, by omega⟩
            generalize l.getD 0 0 = x at hck d1 hneg
            clear HK HN
            rw [Nat.add_zero] at hck
            go_wp2
            go_quiet (fail)
            go_wp2
            go_roundw
            case rel => exact ⟨1, _, by omega, by go_num, rfl, fun j hj => by
              obtain rfl : j = 0 := by omega
              first | exact ⟨rfl, hok.out⟩ | exact ⟨trivial, hok.out⟩⟩
            case measure => simp [intOf]; omega
          · have hkp : 0 < k := by omega
            have d2 : decide (0 < (k : Int)) = true := decide_eq_true (by omega)
            have d2n : decide (0 < k) = true := decide_eq_true hkp
            have hpk := HC.out (k - 1) (by omega)
            have hidx : ((k : Int) - 1) = ((k - 1 : Nat) : Int) := by omega
            by_cases hle : l.getD k 0 ≤ l.getD (k - 1) 0
            · obtain rfl : r = false := HN.out fun h => by have := h.2.1 (by omega); omega
              have d3 : decide (l.getD k 0 ≤ l.getD (k - 1) 0) = true := decide_eq_true hle
              generalize l.getD k 0 = x at hck d1 d3 hle hneg
              generalize l.getD (k - 1) 0 = y at hpk d3 hle
              clear HK HN
              go_wp2
              go_quiet (fail)
              go_wp2
              go_ret
              exact ⟨rfl, on_drewN (on_drewN HB.out _) _⟩
            · have d3 : decide (l.getD k 0 ≤ l.getD (k - 1) 0) = false := decide_eq_false hle
              by_cases h32 : 32 ≤ k
              · obtain rfl : r = false := HN.out fun h => by have := h.2.2; omega
                have d4 : decide (32 ≤ (k : Int)) = true := decide_eq_true (by omega)
                have d4n : decide (32 ≤ k) = true := decide_eq_true h32
                generalize l.getD k 0 = x at hck d1 d3 hle hneg
                generalize l.getD (k - 1) 0 = y at hpk d3 hle
                clear HK HN
                go_wp2
                go_quiet (fail)
                go_wp2
                go_ret
                exact ⟨rfl, on_drewN (on_drewN HB.out _) _⟩
              · have d4 : decide (32 ≤ (k : Int)) = false := decide_eq_false (by omega)
                have d4n : decide (32 ≤ k) = false := decide_eq_false h32
                have hok : Hid (okAt l k) := ⟨by omega, fun h => by omega, by omega⟩
                generalize l.getD k 0 = x at hck d1 d3 hle hneg
                generalize l.getD (k - 1) 0 = y at hpk d3 hle
                clear HK HN
                go_wp2
                go_quiet (fail)
                go_wp2
                go_roundw
                case rel => exact ⟨k + 1, _, by omega, by go_num, rfl, fun j hj => by
                  by_cases e : j = k
                  · subst e; first | exact ⟨rfl, hok.out⟩ | exact ⟨trivial, hok.out⟩
                  · exact H.out j (by omega)⟩
                case measure => simp [intOf]; omega
    · obtain rfl : k = l.length := by omega
      have hltz : ¬ (l.length : Int) < (l.length : Int) := by omega
      obtain rfl : r = true := by
        rw [← HR.out]
        cases all with
        | false => exact can_ok fun j hj => (H.out j hj).2
        | true =>
          by_cases h0 : l.length = 0
          · simp [canB, h0]
          · have := (H.out 0 (by omega)).1; cases this
      go_wp2
      go_ret
      exact ⟨rfl, on_drewN HB.out _⟩

end Go.Proofs.Ytmccfcllehfebaa.W

namespace Go.Proofs.Ytmccfcllehfebaa.W
open Go Go.RowKit Go.Shelf Go.Sort

set_option maxRecDepth 100000 in
theorem refCan_zero (all : Bool) (p : Option Addr) (cap : Nat) (w : World) :
    Calls Try.prog 45 #[.agg #[.bool all, .slice p 0 cap]] w fun e w' => e = .returned (.bool true) ∧ Below w.heap.size w w' := by
  have HB : Hid (Below w.heap.size w (w.alloc (.cells #[.bool all, .slice p 0 cap] 32))) := on_alloc w _
  go_enter Try.func45, Try.ntmps45
  go_wp2
  go_loop [3] (fun i => i = .int .i64 0) (fun _ => 0)
  case atStart => rfl
  case round =>
    subst hrel
    go_wp2
    go_ret
    exact ⟨rfl, HB.out⟩

theorem refCan_any (all : Bool) (p : Option Addr) (cap : Nat) (l : List Int) (w : World) (hl : l.length ≤ 9223372036854775807) (h : At w p l) :
    Calls Try.prog 45 #[.agg #[.bool all, .slice p l.length cap]] w fun e w' => e = .returned (.bool (canB all l)) ∧ Below w.heap.size w w' := by
  rcases h with rfl | ⟨b, off, rfl, hlt, hc⟩
  · rw [canB_nil]; exact refCan_zero all p cap w
  · exact refCan_some all b off cap l w hl hlt hc

set_option maxRecDepth 100000 in
set_option maxHeartbeats 1000000 in
theorem refHas_any (all : Bool) (p : Option Addr) (cap : Nat) (l : List Int) (x : Int) (w : World) (hl : l.length ≤ 9223372036854775807) (h : At w p l) :
    Calls Try.prog 58 #[.agg #[.bool all, .slice p l.length cap], .int .i64 x] w fun e w' => e = .returned (.bool (hasF all l x)) ∧ Below w.heap.size w w' := by
  have HB : Hid (Below w.heap.size w (w.alloc (.cells #[.bool all, .slice p l.length cap] 32))) := on_alloc w _
  have HX : Hid (Box (w.alloc (.cells #[.bool all, .slice p l.length cap] 32)) w.heap.size (.bool all) (.slice p l.length cap)) := Box.new w _ _
  have c1 := fun w1 (hb : Below w.heap.size w w1) => refCan_any all p cap l w1 hl (h.below hb (Nat.le_refl _))
  have c2 := fun w1 (hb : Below w.heap.size w w1) => in_any p cap l x w1 hl (h.below hb (Nat.le_refl _))
  obtain ⟨cv, hcv⟩ : ∃ cv, canB all l = cv := ⟨_, rfl⟩
  have HV : Hid (canB all l = cv) := hcv
  obtain ⟨r, hr⟩ : ∃ r, hasF all l x = r := ⟨_, rfl⟩
  have HR : Hid (canB all l = true → hasB all l x = r) := fun h => by rw [← hr]; unfold hasF; rw [h, Bool.true_and]
  have HF : Hid (canB all l = false → r = false) := fun h => by rw [← hr]; unfold hasF; rw [h, Bool.false_and]
  rw [hcv] at c1
  rw [hr]
  clear hcv hr h
  cases cv with
  | false =>
    obtain rfl : r = false := HF.out HV.out
    clear c2
    go_enter Try.func58, Try.ntmps58
    go_wp2_with fail
    refine (c1 _ HB.out).mono ?_
    rintro e w1 ⟨rfl, hb1⟩
    go_wp2
    go_ret
    exact ⟨rfl, on_trans HB.out hb1⟩
  | true =>
    have hrr := HR.out HV.out
    by_cases hx : 0 ≤ x
    · have d1 : decide (0 ≤ x) = true := decide_eq_true hx
      cases all with
      | true =>
        obtain rfl : r = true := by rw [← hrr]; exact d1
        clear hrr c2
        go_enter Try.func58, Try.ntmps58
        go_wp2_with fail
        refine (c1 _ HB.out).mono ?_
        rintro e w1 ⟨rfl, hb1⟩
        have hX1 := HX.out.on hb1
        have x0 := hX1.fst
        have x1 := hX1.snd
        go_wp2
        go_ret
        exact ⟨rfl, on_trans HB.out hb1⟩
      | false =>
        rw [show l.contains x = r from hrr] at c2
        clear hrr
        go_enter Try.func58, Try.ntmps58
        go_wp2_with fail
        refine (c1 _ HB.out).mono ?_
        rintro e w1 ⟨rfl, hb1⟩
        have hX1 := HX.out.on hb1
        have x0 := hX1.fst
        have x1 := hX1.snd
        have hB1 := on_trans HB.out hb1
        go_wp2_with fail
        refine (c2 _ hB1).mono ?_
        rintro e w2 ⟨rfl, hw2⟩
        subst hw2
        go_wp2
        go_ret
        exact ⟨rfl, hB1⟩
    · have d1 : decide (0 ≤ x) = false := decide_eq_false hx
      obtain rfl : r = false := by
        rw [← hrr]
        cases all with
        | true => exact d1
        | false =>
          have := (canB_rise HV.out).2.1
          show l.contains x = false
          cases hc : l.contains x with
          | false => rfl
          | true => exact absurd (this x (by simpa using hc)) hx
      clear hrr c2
      go_enter Try.func58, Try.ntmps58
      go_wp2_with fail
      refine (c1 _ HB.out).mono ?_
      rintro e w1 ⟨rfl, hb1⟩
      go_wp2
      go_ret
      exact ⟨rfl, on_trans HB.out hb1⟩

end Go.Proofs.Ytmccfcllehfebaa.W

namespace Go.Proofs.Ytmccfcllehfebaa.W
open Go Go.RowKit Go.Shelf Go.Sort

def mkV (l : List Int) : List Int := if canB false (srt l) then srt l else []
def mkE (l : List Int) : Int := if canB false (srt l) then 0 else 22

/-- A row of numbers that the call has made. -/
structure Mine (w : World) (base g off : Nat) (l : List Int) : Prop where
  base : base ≤ g
  lt : g < w.heap.size
  held : Holds (Value.int .i64) w g off l.toArray

theorem mine_of_row {w : World} {base n : Nat} {v : Value} {l : List Int} (h : w.ownsRow base 3 1 v n (l.map (Value.int .i64))) (hv : v ≠ .slice none 0 0) :
    ∃ g cap, v = .slice (some ⟨g, 0, none⟩) n cap ∧ Mine w base g 0 l ∧ n = l.length ∧ n ≤ cap := by
  have hn : n = l.length := by have := h.1; simpa using this.symm
  rcases h.2 with ⟨h0, h1⟩ | ⟨g, cap, cur, rfl, hb, hg, hc, _, hs, ht⟩
  · exact absurd h0 hv
  · refine ⟨g, cap, rfl, ⟨hb, (Array.getElem?_eq_some_iff.1 hg).1, fun j hj => ⟨?_, ?_⟩⟩, hn, hc⟩
    · have hj' : j < l.length := by simpa using hj
      have hu : (l.map (Value.int .i64))[j]? = some (.int .i64 l[j]) := by simp [hj']
      rw [← ht, List.getElem?_take_of_lt (by omega)] at hu
      rw [Nat.zero_add, getElem!_pos l.toArray j hj]
      simp only [World.cell?, hg]
      simpa using hu
    · simp [World.frozen?, hg]

theorem at_of_holds {w : World} {g off : Nat} {l : List Int} (hg : g < w.heap.size) (h : Holds (Value.int .i64) w g off l.toArray) : At w (some ⟨g, off, none⟩) l :=
  .inr ⟨g, off, rfl, hg, fun j hj => by
    have := (h j (by simpa using hj)).1
    rw [this, getElem!_pos l.toArray j (by simpa using hj)]
    simp [List.getD, hj]⟩

theorem atF_of_mine {w : World} {base g off : Nat} {l : List Int} (h : Mine w base g off l) : AtF base w (some ⟨g, off, none⟩) l := by
  rcases at_of_holds h.lt h.held with e | ⟨b, o, hp, hlt, hc⟩
  · exact .inl e
  · cases hp; exact .inr ⟨g, off, rfl, h.base, hlt, hc⟩

theorem holds_front {w : World} {g off : Nat} {a b : List Int} (h : Holds (Value.int .i64) w g off (a ++ b).toArray) : Holds (Value.int .i64) w g off a.toArray := fun j hj => by
  have hj' : j < a.length := by simpa using hj
  obtain ⟨h1, h2⟩ := h j (by simp; omega)
  refine ⟨?_, h2⟩
  rw [h1, getElem!_pos _ j (by simp; omega), getElem!_pos _ j hj]
  simp [List.getElem_append_left hj']

theorem below_rows {B : Nat} {w0 w : World} {g off q : Nat} {d : Array Int} {os : Array Obj} (h : Below B w0 w) (hg : B ≤ g) (hlt : g < w.heap.size) :
    Below B w0 (grow (putRow (Value.int .i64) (Sort.ahead w q) g off d) os) := by
  have hs : (putRow (Value.int .i64) (Sort.ahead w q) g off d).heap.size = w.heap.size := by simp [putRow, mapBlock, Sort.ahead]
  refine ⟨h.os, h.tape, h.output, ?_, fun k hk => ?_⟩
  · have := h.size
    show w0.heap.size ≤ ((putRow (Value.int .i64) (Sort.ahead w q) g off d).heap ++ os).size
    rw [Array.size_append, hs]; omega
  · rw [← h.block k hk]
    show ((putRow (Value.int .i64) (Sort.ahead w q) g off d).heap ++ os)[k]? = _
    rw [Array.getElem?_append_left (by rw [hs]; omega)]
    simp [putRow, mapBlock, Sort.ahead, Array.getElem?_modify, show g ≠ k by omega]

theorem grow_none (w : World) : grow w #[] = w := by simp [grow]

/-- slices.Clone of a list. -/
theorem clone_any (p : Option Addr) (n cap : Nat) (l : List Int) (w : World) (hn : n = l.length) (hl : l.length * 8 ≤ 140737488355328) (h : At w p l) :
    Calls Try.prog 61 #[.slice p n cap] w fun e w' => Below w.heap.size w w' ∧
      ((l = [] ∧ e = .returned (.slice none 0 0)) ∨ ∃ g c, e = .returned (.slice (some ⟨g, 0, none⟩) n c) ∧ Mine w' w.heap.size g 0 l ∧ n ≤ c) := by
  subst hn
  have key : ∀ e w', (∃ v', e = .returned v' ∧ w'.ownsRow w.heap.size 3 1 v' l.length (l.map (Value.int .i64)) ∧ v' ≠ .slice none 0 0 ∧ Below w.heap.size w w') →
      Below w.heap.size w w' ∧ ((l = [] ∧ e = .returned (.slice none 0 0)) ∨ ∃ g c, e = Ending.returned (.slice (some ⟨g, 0, none⟩) l.length c) ∧ Mine w' w.heap.size g 0 l ∧ l.length ≤ c) := by
    rintro e w' ⟨v', rfl, hr, hne, hb⟩
    obtain ⟨g, c, rfl, hm, _, hc⟩ := mine_of_row hr hne
    exact ⟨hb, .inr ⟨g, c, rfl, hm, hc⟩⟩
  rcases h with rfl | ⟨b, off, rfl, _, hc⟩
  · cases p with
    | none =>
      refine (Try.slices_Clone_int_nil 0 cap w).mono ?_
      rintro e w' ⟨rfl, rfl⟩
      exact ⟨Below.refl _ _, .inl ⟨rfl, rfl⟩⟩
    | some a => exact (Try.slices_Clone_int_zero a cap w).mono key
  · refine (Try.slices_Clone_int b off l.length cap l w (Nat.le_refl _) hl hc).mono fun e w' h => key e w' ?_
    rwa [List.take_length] at h

theorem sort_mine (g cap base : Nat) (l : List Int) (w : World) (hm : Mine w base g 0 l) (hl : l.length < 4611686018427387904) :
    Calls Try.prog 62 #[.slice (some ⟨g, 0, none⟩) l.length cap] w fun e w' => e = .returned (.tuple #[]) ∧ Below base w w' ∧ Mine w' base g 0 (l.mergeSort fun x y => decide (x ≤ y)) := by
  refine (Try.slices_Sort_int g 0 cap l w hm.held hm.lt hl).mono ?_
  rintro e w' ⟨rfl, q, os, rfl⟩
  have hlt : g < (putRow (Value.int .i64) (Sort.ahead w q) g 0 (l.mergeSort fun x y => decide (x ≤ y)).toArray).heap.size := by simpa [putRow, mapBlock, Sort.ahead] using hm.lt
  refine ⟨rfl, below_rows (Below.refl _ _) hm.base hm.lt, hm.base, ?_, holds_grow _ _ _ _ _ _ hlt (holds_putRow _ _ _ _ l.toArray _ (holds_ahead _ _ _ _ _ _ hm.held) (by simp))⟩
  show g < (_ ++ os : Array Obj).size
  rw [Array.size_append]; omega

theorem compact_mine (g cap base : Nat) (l : List Int) (w : World) (hm : Mine w base g 0 l) (hl : l.length ≤ 9223372036854775807) (hc : l.length ≤ cap) :
    Calls Try.prog 63 #[.slice (some ⟨g, 0, none⟩) l.length cap] w fun e w' => e = .returned (.slice (some ⟨g, 0, none⟩) (Lib.compact l).length cap) ∧ Below base w w' ∧ Mine w' base g 0 (Lib.compact l) := by
  refine (Try.slices_Compact_int g 0 cap l w hm.held hl hc).mono ?_
  rintro e w' ⟨rfl, q, rfl⟩
  have hle : (Lib.compact l).length ≤ l.length := by
    unfold Lib.compact Lib.compactUpTo
    rw [List.length_map]
    exact Nat.le_trans (List.length_filter_le _ _) (by simp)
  have hb := below_rows (q := q) (off := 0) (d := (Lib.compact l ++ List.replicate (l.length - (Lib.compact l).length) 0).toArray) (os := #[]) (Below.refl base w) hm.base hm.lt
  rw [grow_none] at hb
  refine ⟨rfl, hb, hm.base, by simpa [putRow, mapBlock, Sort.ahead] using hm.lt, holds_front (holds_putRow _ _ _ _ l.toArray _ (holds_ahead _ _ _ _ _ _ hm.held) ?_)⟩
  simp; omega

set_option maxRecDepth 100000 in
set_option maxHeartbeats 1000000 in
/-- white.Make. -/
theorem make_any (p : Option Addr) (n cap : Nat) (l : List Int) (w : World) (hn : n = l.length) (hl : l.length * 8 ≤ 140737488355328) (h : At w p l) :
    Calls Try.prog 56 #[.slice p n cap] w fun e w' => Below w.heap.size w w' ∧
      ∃ p' c', e = .returned (.tuple #[.agg #[.bool false, .slice p' (mkV l).length c'], .int .i64 (mkE l)]) ∧ AtF w.heap.size w' p' (mkV l) := by
  subst hn
  have cC := fun w1 (hb : Below w.heap.size w w1) => clone_any p l.length cap l w1 rfl hl (h.below hb (Nat.le_refl _))
  have HB : Hid (Below w.heap.size w (w.alloc (.cells #[.bool false, .slice none 0 0] 32))) := on_alloc w _
  have HX : Hid (Box (w.alloc (.cells #[.bool false, .slice none 0 0] 32)) w.heap.size (.bool false) (.slice none 0 0)) := Box.new w _ _
  go_enter Try.func56, Try.ntmps56
  go_wp2_with fail
  generalize w.alloc (.cells #[.bool false, .slice none 0 0] 32) = w0 at *
  refine (cC _ HB.out).mono ?_
  rintro e w1 ⟨hb1, ⟨rfl, rfl⟩ | ⟨g, c, rfl, hm, hc⟩⟩
  · have hX1 := HX.out.on hb1
    have hB1 := on_trans HB.out hb1
    have cS := Try.slices_Sort_int_none none 0 w1
    have cK := Try.slices_Compact_int_empty none 0 w1
    have cA := fun w4 => can_any false none 0 0 [] w4 rfl (by decide) (.inl rfl)
    go_wp2_with fail
    refine cS.mono ?_
    rintro e w2 ⟨rfl, rfl⟩
    go_wp2_with fail
    refine cK.mono ?_
    rintro e w3 ⟨rfl, rfl⟩
    go_wp2_with fail
    refine (cA _).mono ?_
    rintro e w5 ⟨rfl, hb5⟩
    have hX5 := (hX1.alloc (.cells #[.bool false, .slice none 0 0] 32)).on hb5
    have hY5 := (Box.new w3 (.bool false) (.slice none 0 0)).on hb5
    have hB5 := on_trans (on_trans hB1 (on_alloc w3 (.cells #[.bool false, .slice none 0 0] 32))) hb5
    clear cA cK cS cC hb1 hX1
    have f0 := hX5.free0
    have f1 := hX5.free1
    have x0 := hX5.fst
    have x1 := hX5.snd
    have y0 := hY5.fst
    have y1 := hY5.snd
    have HX5 : Hid (Box w5 w.heap.size (.bool false) (.slice none 0 0)) := hX5
    clear hX5 hY5
    rw [canB_nil]
    go_wp2
    exact bodyPost_ret (results_box_tmp rfl _ _ rfl rfl (HX5.out.put _ _)) rfl ⟨below_but hB5 (but_set2 _ _ _ _ _ _) (Nat.le_refl _), none, 0, rfl, .nil _ _ _⟩
  · have hX1 := HX.out.on hb1
    have cS := sort_mine g c w0.heap.size l w1 hm (by omega)
    go_wp2_with fail
    refine cS.mono ?_
    rintro e w2 ⟨rfl, hb2, hm2⟩
    have cK := compact_mine g c w0.heap.size _ w2 hm2 (by simp; omega) (by simp; omega)
    rw [compact_sort, List.length_mergeSort] at cK
    go_wp2_with fail
    refine cK.mono ?_
    rintro e w3 ⟨rfl, hb3, hm3⟩
    have cA := fun w4 (hb : Below w3.heap.size w3 w4) => can_any false (some ⟨g, 0, none⟩) (srt l).length c (srt l) w4 rfl (by have := srt_len l; omega) ((at_of_holds hm3.lt hm3.held).below hb (Nat.le_refl _))
    go_wp2_with fail
    have hX3 := (hX1.below hb2 HX.out.lt).below hb3 HX.out.lt
    have hB3 : Below w.heap.size w w3 := ((on_trans HB.out hb1).trans (hb2.mono (HB.out.size))).trans (hb3.mono HB.out.size)
    refine (cA _ (on_alloc _ _)).mono ?_
    rintro e w5 ⟨rfl, hb5⟩
    have hX5 := (hX3.alloc (.cells #[.bool false, .slice (some ⟨g, 0, none⟩) (srt l).length c] 32)).on hb5
    have hY5 := (Box.new w3 (.bool false) (.slice (some ⟨g, 0, none⟩) (srt l).length c)).on hb5
    have hA5 := ((atF_of_mine hm3).alloc (.cells #[.bool false, .slice (some ⟨g, 0, none⟩) (srt l).length c] 32)).on hb5
    have hB5 := on_trans (on_trans hB3 (on_alloc w3 (.cells #[.bool false, .slice (some ⟨g, 0, none⟩) (srt l).length c] 32))) hb5
    have hlt0 : w.heap.size < w0.heap.size := HX.out.lt
    clear cA cK cS cC hb1 hb2 hb3 hm hm2 hm3 hX1 hX3 h hl
    have f0 := hX5.free0
    have f1 := hX5.free1
    have x0 := hX5.fst
    have x1 := hX5.snd
    have y0 := hY5.fst
    have y1 := hY5.snd
    have HX5 : Hid (Box w5 w.heap.size (.bool false) (.slice none 0 0)) := hX5
    clear hX5 hY5
    obtain ⟨cv, hcv⟩ : ∃ cv, canB false (srt l) = cv := ⟨_, rfl⟩
    have HV : Hid (canB false (srt l) = cv) := hcv
    rw [hcv]
    clear hcv
    cases cv with
    | true =>
      go_wp2
      exact bodyPost_ret (results_box_tmp rfl _ _ rfl rfl (HX5.out.put _ _)) rfl ⟨below_but hB5 (but_set2 _ _ _ _ _ _) (Nat.le_refl _), some ⟨g, 0, none⟩, c, by rw [show mkV l = srt l by unfold mkV; rw [HV.out]; rfl, show mkE l = 0 by unfold mkE; rw [HV.out]; rfl]; rfl, by
        rw [show mkV l = srt l by unfold mkV; rw [HV.out]; rfl]
        exact (hA5.but (but_set2 _ _ _ _ _ _) hlt0).less (by omega)⟩
    | false =>
      go_wp2
      exact bodyPost_ret (results_box_tmp rfl _ _ rfl rfl (HX5.out.put _ _)) rfl ⟨below_but hB5 (but_set2 _ _ _ _ _ _) (Nat.le_refl _), none, 0, by rw [show mkV l = [] by unfold mkV; rw [HV.out]; rfl, show mkE l = 22 by unfold mkE; rw [HV.out]; rfl]; rfl, by
        rw [show mkV l = [] by unfold mkV; rw [HV.out]; rfl]
        exact .nil _ _ _⟩

end Go.Proofs.Ytmccfcllehfebaa.W

namespace Go.Proofs.Ytmccfcllehfebaa.W
open Go Go.RowKit

/-- Numbers as values. -/
def intsV (l : List Int) : List Value := l.map (Value.int .i64)
theorem intsV_len (l : List Int) : (intsV l).length = l.length := List.length_map _
theorem intsV_get (l : List Int) {j : Nat} (h : j < l.length) : (intsV l)[j]? = some (.int .i64 (l.getD j 0)) := by
  simp [intsV, h]
theorem ints_nil {l : List Int} : intsV l = [] ↔ l = [] := by simp [intsV]
theorem one_ints (l : List Int) : ∀ u ∈ intsV l, u.oneCell' = true := by
  intro u hu
  obtain ⟨x, _, rfl⟩ := List.mem_map.1 hu
  rfl
section
variable {base : Nat} {w : World} {p : Option Addr} {l : List Int}
theorem atF_ints : AtF base w p l ↔ Go.Proofs.Ytmccfcllehfebaa.AtF base w p (intsV l) := by
  constructor
  · rintro (h | ⟨b, off, hp, hb, hlt, hc⟩)
    · exact .inl (ints_nil.2 h)
    · refine .inr ⟨b, off, hp, hb, hlt, fun j v hj => ?_⟩
      have hjl : j < l.length := by have := (List.getElem?_eq_some_iff.1 hj).1; rwa [intsV_len] at this
      rw [intsV_get l hjl] at hj
      rw [hc j hjl, hj]
  · rintro (h | ⟨b, off, hp, hb, hlt, hc⟩)
    · exact .inl (ints_nil.1 h)
    · exact .inr ⟨b, off, hp, hb, hlt, fun j hj => hc j _ (intsV_get l hj)⟩
theorem at_ints : At w p l ↔ Go.Proofs.Ytmccfcllehfebaa.At w p (intsV l) := by
  constructor
  · intro h
    refine atF_ints.1 ?_
    rcases h with h | ⟨b, off, hp, hlt, hc⟩
    · exact .inl h
    · exact .inr ⟨b, off, hp, Nat.zero_le _, hlt, hc⟩
  · exact fun h => (atF_ints.2 h).at
end

end Go.Proofs.Ytmccfcllehfebaa.W

namespace Go.Proofs.Ytmccfcllehfebaa.W
open Go Go.RowKit Go.Shelf Go.Sort

theorem mk313 : mkV [3, 1, 3] = [1, 3] ∧ mkE [3, 1, 3] = 0 := by decide
theorem show13 : showB false [1, 3] = [49, 44, 51] := by decide +kernel
theorem has7 : hasF true [] 7 = true := by decide

theorem at_row {w : World} {b : Nat} {l : List Int} (hb : w.heap[b]? = some (.cells (l.map (Value.int .i64)).toArray 3 (0, 0))) : At w (some ⟨b, 0, none⟩) l :=
  .inr ⟨b, 0, rfl, (Array.getElem?_eq_some_iff.1 hb).1, fun j hj => by
    rw [cell_of_row _ _ _ _ _ _ hb]
    simp [List.getD, hj]⟩

end Go.Proofs.Ytmccfcllehfebaa.W

namespace Go.Proofs.Ytmccfcllehfebaa.W
open Go Go.RowKit Go.Shelf Go.Sort

section
variable {P : Program} {o : Oper} {ρ : Operand → Value} {w : World} {post : Value → World → Prop}

theorem leaves_call {f : FuncId} (he : ∀ args w, (callFunc f args).run P w = .ok (.enter f args) w) (hr : Reads ρ) (xs : Array Operand) (ats : Array TypeId)
    (ho : o.op = .call { callee := .value (.func f), args := xs, argTypes := ats }) (vs : Array Value) (hv : xs.map ρ = vs)
    (hc : Calls P f vs w fun e w' => ∃ v, e = .returned v ∧ post v w') : leaves P o ρ w post := by
  refine leaves_enter (f := f) (args := vs) (w' := w) ?_ hc
  obtain ⟨dst, op, ty, pos, after, guard⟩ := o
  simp only at ho
  subst ho hv
  have hfv := hr.fn f
  simp [execOp, resolve, hfv, Deferred.ofValue, invoke, he]

theorem leaves_slice (t : TypeId) (x : Operand) (lo hi mx : Option Operand) (ho : o.op = .slice t x lo hi mx) {v : Value} (hrun : (Instr.sliceAt t (ρ x) (lo.map ρ) (hi.map ρ) (mx.map ρ)).run P w = .ok v w) (h : post v w) : leaves P o ρ w post := by
  refine leaves_value (v := v) (w' := w) ?_ h
  obtain ⟨dst, op, ty, pos, after, guard⟩ := o
  simp only at ho
  subst ho
  simp [execOp, hrun]
theorem leaves_pick (c x y : Operand) (ho : o.op = .pick c x y) (b : Bool) (hb : ρ c = .bool b) (h : post (if b then ρ x else ρ y) w) : leaves P o ρ w post := by
  refine leaves_value (v := if b then ρ x else ρ y) (w' := w) ?_ h
  obtain ⟨dst, op, ty, pos, after, guard⟩ := o
  simp only at ho
  subst ho
  cases b <;> simp [execOp, hb, asBool]
end

theorem leaves_load {o : Oper} {ρ : Operand → Value} {w : World} {post : Value → World → Prop} (x : Operand) (ho : o.op = .load 32 x) {b : Nat} {v0 v1 : Value} (hx : ρ x = .pointer (some ⟨b, 0, none⟩)) (hb : Box w b v0 v1)
    (h : post (.agg #[v0, v1]) w) : leaves Try.prog o ρ w post := by
  refine leaves_value (v := .agg #[v0, v1]) (w' := w) ?_ h
  unfold execOp
  simp only [ho, hx, Instr.loadAt, Instr.sureAddr, Sem.run_bind, Sem.run_pure, Result.andThen_ok, run_loadVar_box hb]

theorem leaves_eqBool {o : Oper} {ρ : Operand → Value} {w : World} {post : Value → World → Prop} (x y : Operand) (ho : o.op = .binOp .eql 4 x y 4) (b : Bool) (hx : ρ x = .bool b) (hy : ρ y = .bool b)
    (h : post (.bool true) w) : leaves Try.prog o ρ w post := by
  refine leaves_value (v := .bool true) (w' := w) ?_ h
  obtain ⟨dst, op, ty, pos, after, guard⟩ := o
  simp only at ho
  subst ho
  cases b <;> simp [go_sem, hx, hy]

theorem leaves_store {o : Oper} {ρ : Operand → Value} {w : World} {post : Value → World → Prop} (x y : Operand) (ho : o.op = .store 32 x y) {b : Nat} {u0 u1 : Value} {all : Bool} {p : Option Addr} {n c : Nat} (hx : ρ x = .pointer (some ⟨b, 0, none⟩)) (hy : ρ y = .agg #[.bool all, .slice p n c])
    (hb : Box w b u0 u1) (h : post undef ((w.setCell ⟨b, 0, none⟩ (.bool all)).setCell ⟨b, 1, none⟩ (.slice p n c))) : leaves Try.prog o ρ w post := by
  refine leaves_skip (w' := (w.setCell ⟨b, 0, none⟩ (.bool all)).setCell ⟨b, 1, none⟩ (.slice p n c)) ?_ h
  have f0 := hb.free0
  have f1 := hb.free1
  have x0 := hb.fst
  have x1 := hb.snd
  obtain ⟨dst, op, ty, pos, after, guard⟩ := o
  simp only at ho
  subst ho
  simp [go_sem, hx, hy, f0, f1, x0, x1]

theorem en_can : ∀ args w, (callFunc 55 args).run Try.prog w = .ok (.enter 55 args) w := enters_of Try.func55 (by kernel_rfl) rfl
theorem en_subset : ∀ args w, (callFunc 57 args).run Try.prog w = .ok (.enter 57 args) w := enters_of Try.func57 (by kernel_rfl) rfl
theorem en_clone : ∀ args w, (callFunc 61 args).run Try.prog w = .ok (.enter 61 args) w := enters_of Try.func61 (by kernel_rfl) rfl
theorem en_rcan : ∀ args w, (callFunc 45 args).run Try.prog w = .ok (.enter 45 args) w := enters_of Try.func45 (by kernel_rfl) rfl
theorem en_rhas : ∀ args w, (callFunc 58 args).run Try.prog w = .ok (.enter 58 args) w := enters_of Try.func58 (by kernel_rfl) rfl
theorem en_rsubset : ∀ args w, (callFunc 50 args).run Try.prog w = .ok (.enter 50 args) w := enters_of Try.func50 (by kernel_rfl) rfl
theorem en_same : ∀ args w, (callFunc 43 args).run Try.prog w = .ok (.enter 43 args) w := enters_of Try.func43 (by kernel_rfl) rfl
theorem en_in : ∀ args w, (callFunc 67 args).run Try.prog w = .ok (.enter 67 args) w := enters_of Try.func67 (by kernel_rfl) rfl

/-- What a law holds of the world in such a region: nothing older is turned, and its own box holds a list. -/
structure Law1 (w : World) (b : Nat) (all : Bool) (p : Option Addr) (c : Nat) (l : List Int) (W : World) : Prop where
  on : Below w.heap.size w W
  box : Box W b (.bool all) (.slice p l.length c)
  at_ : At W p l
theorem Law1.grow {w : World} {b : Nat} {all : Bool} {p : Option Addr} {c : Nat} {l : List Int} {W W' : World} (h : Law1 w b all p c l W) (hb : Below W.heap.size W W') : Law1 w b all p c l W' :=
  ⟨on_trans h.on hb, h.box.on hb, h.at_.on hb⟩

end Go.Proofs.Ytmccfcllehfebaa.W
