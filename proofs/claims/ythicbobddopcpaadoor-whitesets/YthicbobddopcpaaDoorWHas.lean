/- What white.holds, white.Has and white.All answer. -/
import Derived.Test.YthicbobddopcpaaDoorWMem
import Derived.Test.YthicbobddopcpaaDoorShelf
namespace Go.Proofs.YthicbobddopcpaaDoor
open Go Go.RowKit Go.Shelf

theorem search_any (p : Option Addr) (n cap : Nat) (l : List Int) (x : Int) (w : World) (hn : n = l.length) (hl : l.length < 4611686018427387904) (h : At w p l) (hs : l.Pairwise (· ≤ ·)) :
    Calls Tryd.prog 48 #[.slice p n cap, .int .i64 x] w fun e w' => (∃ k : Nat, e = .returned (.tuple #[.int .i64 k, .bool (l.contains x)])) ∧ ∃ q, w' = w.drewN q := by
  subst hn
  rcases h with rfl | ⟨b, off, rfl, _, hc⟩
  · refine (Tryd.slices_BinarySearch_int_empty p cap x w).mono ?_
    rintro e w' ⟨rfl, rfl⟩
    exact ⟨⟨0, rfl⟩, 0, rfl⟩
  · refine (Tryd.slices_BinarySearch_int b off l.length cap l x w (Nat.le_refl _) hl hc (by simpa using hs)).mono ?_
    rintro e w' ⟨rfl, hq⟩
    exact ⟨⟨_, by rw [List.take_length]⟩, hq⟩

set_option maxRecDepth 100000 in
set_option maxHeartbeats 1000000 in
theorem holds_any (all : Bool) (p : Option Addr) (n cap : Nat) (l : List Int) (x : Int) (w : World) (hn : n = l.length) (hc : canB all l = true) (h : At w p l) :
    Calls Tryd.prog 37 #[.agg #[.bool all, .slice p n cap], .int .i64 x] w fun e w' => e = .returned (.bool (hasB all l x)) ∧ Below w.heap.size w w' := by
  have HB : Hid (∀ o, Below w.heap.size w (w.alloc o)) := fun o => (Below.refl _ w).alloc (Nat.le_refl _) o
  cases all with
  | true =>
    obtain ⟨r, hr⟩ : ∃ r, decide (0 ≤ x) = r := ⟨_, rfl⟩
    rw [show hasB true l x = r by rw [← hr]; rfl]
    clear h hc hn
    go_enter Tryd.func37, Tryd.ntmps37
    cases r
    all_goals
      go_wp2
      go_ret
      exact ⟨rfl, HB.out _⟩
  | false =>
    obtain ⟨h32, _, hp⟩ := canB_rise hc
    have hs : l.Pairwise (· ≤ ·) := hp.imp fun h => by omega
    have c := fun w1 (hb : Below w.heap.size w w1) => search_any p n cap l x w1 hn (by omega) (h.below hb (Nat.le_refl _)) hs
    rw [show hasB false l x = l.contains x from rfl]
    clear h hc hn hp hs h32
    generalize l.contains x = r at *
    go_enter Tryd.func37, Tryd.ntmps37
    go_wp2_with fail
    refine (c _ (HB.out _)).mono ?_
    rintro e w' ⟨⟨k, rfl⟩, q, rfl⟩
    go_wp2
    go_ret
    exact ⟨rfl, on_drewN (HB.out _) q⟩

set_option maxRecDepth 100000 in
set_option maxHeartbeats 1000000 in
theorem has_any (all : Bool) (p : Option Addr) (n cap : Nat) (l : List Int) (x : Int) (w : World) (hn : n = l.length) (hl : l.length ≤ 9223372036854775807) (h : At w p l) :
    Calls Tryd.prog 17 #[.agg #[.bool all, .slice p n cap], .int .i64 x] w fun e w' => e = .returned (.bool (hasF all l x)) ∧ Below w.heap.size w w' := by
  have hB : ∀ o, Below w.heap.size w (w.alloc o) := fun o => (Below.refl _ w).alloc (Nat.le_refl _) o
  have c1 := fun w1 (hb : Below w.heap.size w w1) => can_any all p n cap l w1 hn hl (h.below hb (Nat.le_refl _))
  have c2 := fun (hc : canB all l = true) w1 (hb : Below w.heap.size w w1) => holds_any all p n cap l x w1 hn hc (h.below hb (Nat.le_refl _))
  obtain ⟨k, hk⟩ : ∃ k, canB all l = k := ⟨_, rfl⟩
  have HB : Hid (∀ o, Below w.heap.size w (w.alloc o)) := hB
  have hg : ∀ v0 v1 : Value, (w.alloc (.cells #[v0, v1] 24)).heap[w.heap.size]? = some (.cells #[v0, v1] 24 (0, 0)) := fun v0 v1 => World.alloc_heap_new w _
  unfold hasF
  rw [hk] at c1 c2 ⊢
  clear hB h hl hn hk
  cases k with
  | true =>
    replace c2 := c2 rfl
    rw [Bool.true_and]
    generalize hasB all l x = r at *
    have G := hg (.bool all) (.slice p n cap)
    clear hg
    have HG : Hid ((w.alloc (.cells #[.bool all, .slice p n cap] 24)).heap[w.heap.size]? = some (.cells #[.bool all, .slice p n cap] 24 (0, 0))) := G
    clear G
    go_enter Tryd.func17, Tryd.ntmps17
    go_wp2_with fail
    refine (c1 _ (HB.out _)).mono ?_
    rintro e w1 ⟨rfl, hb1⟩
    have g1 := (hb1.block w.heap.size (by simp)).trans HG.out
    have k0 : w1.cell? ⟨w.heap.size, 0, none⟩ = some (.bool all) := by simp [World.cell?, g1]
    have k1 : w1.cell? ⟨w.heap.size, 1, none⟩ = some (.slice p n cap) := by simp [World.cell?, g1]
    have hB1 := (HB.out (.cells #[.bool all, .slice p n cap] 24)).trans (hb1.mono (by simp))
    clear g1 hb1
    go_wp2_with fail
    refine (c2 _ hB1).mono ?_
    rintro e w2 ⟨rfl, hb2⟩
    go_wp2
    go_ret
    exact ⟨rfl, hB1.trans (hb2.mono hB1.size)⟩
  | false =>
    clear c2 hg
    go_enter Tryd.func17, Tryd.ntmps17
    go_wp2_with fail
    refine (c1 _ (HB.out _)).mono ?_
    rintro e w1 ⟨rfl, hb1⟩
    have hB1 := (HB.out (.cells #[.bool all, .slice p n cap] 24)).trans (hb1.mono (by simp))
    clear hb1
    go_wp2
    go_ret
    exact ⟨rfl, hB1⟩

theorem all_any (w : World) : Calls Tryd.prog 36 #[] w fun e w' => e = .returned (.agg #[.bool true, .slice none 0 0]) ∧ Below w.heap.size w w' := by
  have HB : Hid (Below w.heap.size w (w.alloc (.cells #[.bool true, .slice none 0 0] 24))) := on_alloc w _
  have HX := Box.new w (.bool true) (.slice none 0 0)
  go_enter Tryd.func36, Tryd.ntmps36
  go_wp2
  exact bodyPost_ret (results_box rfl _ _ rfl HX) rfl ⟨rfl, HB.out⟩

end Go.Proofs.YthicbobddopcpaaDoor
