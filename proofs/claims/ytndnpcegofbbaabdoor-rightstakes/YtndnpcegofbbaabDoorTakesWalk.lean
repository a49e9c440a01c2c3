/- The law RightsTakes answers true at every slice of words. -/
import Derived.Test.YtndnpcegofbbaabDoorRefTake
namespace Go.Proofs.YtndnpcegofbbaabDoor
open Go Go.RowKit Go.Shelf

theorem infoU64 : (Tryd.prog.info? 33).map (fun i => (i.zero, i.size, i.bytes)) = some (some (.int .u64 0), 1, 8) := by kernel_rfl
theorem append_nil (b : Nat) (w : World) : (Builtin.append_ #[22, 22] 22 #[.slice (some ⟨b, 0, none⟩) 0 0, .slice none 0 0]).run Tryd.prog w = .ok (.slice (some ⟨b, 0, none⟩) 0 0) w := by
  kernel_rfl

set_option maxRecDepth 100000 in
set_option maxHeartbeats 1000000 in
theorem takes_nil (w : World) (hn : Nm w) :
    Calls Tryd.prog 3 #[.slice none 0 0] w fun e w' => e = .returned (.bool true) ∧ Below w.heap.size w w' := by
  have hap := append_nil w.heap.size
  have c1 := fun w1 => take_len (some ⟨w.heap.size, 0, none⟩) 0 0 (by decide) w1
  have c2 := fun w1 => refTake_len none 0 0 (by decide) w1
  have hB : Below w.heap.size w (w.alloc (.cells #[] 33)) := (Below.refl _ _).alloc (Nat.le_refl _) _
  go_enter Tryd.func3, Tryd.ntmps3
  go_wp2_with fail
  refine (c1 _).mono ?_
  rintro e w1 ⟨rfl, hw1⟩
  subst hw1
  go_wp2_with fail
  refine (c2 _).mono ?_
  rintro e w2 ⟨rfl, hw2⟩
  subst hw2
  go_wp2_with fail
  refine (lives_any _ (hn.below hB)).mono ?_
  rintro e w3 ⟨rfl, hb3⟩
  go_wp2
  go_ret
  exact ⟨rfl, hB.trans (hb3.mono hB.size)⟩

theorem row_words {w : World} {base : Nat} {e : TypeId} {v : Value} {n : Nat} {xs : List Value} (h : w.ownsRow base e 1 v n xs) (hv : v ≠ .slice none 0 0) :
    ∃ g cap, v = .slice (some ⟨g, 0, none⟩) n cap ∧ g < w.heap.size ∧ ∀ j u, xs[j]? = some u → w.cell? ⟨g, j, none⟩ = some u := by
  rcases h.2 with ⟨h0, _⟩ | ⟨g, cap, cur, rfl, hb, hg, hc, _, hs, ht⟩
  · exact absurd h0 hv
  · refine ⟨g, cap, rfl, (Array.getElem?_eq_some_iff.1 hg).1, fun j u hu => ?_⟩
    have hj : j < n := by
      have := (List.getElem?_eq_some_iff.1 hu).1
      have := h.1
      omega
    rw [← ht, List.getElem?_take_of_lt (by omega)] at hu
    simp only [World.cell?, hg]
    simpa using hu

set_option maxRecDepth 100000 in
set_option maxHeartbeats 1000000 in
theorem takes_some (x : Addr) (len cap : Nat) (zs : List Value) (w : World) (hn : Nm w) (hl : zs.length = len) (hlen : len * 8 ≤ 140737488351232) (hone : ∀ u ∈ zs, u.oneCell' = true) (hc : ∀ j u, zs[j]? = some u → w.cell? (x.add j) = some u)
    (hnum : ∀ u ∈ zs, ∃ n : Nat, n < 18446744073709551616 ∧ u = .int .u64 (n : Int)) :
    Calls Tryd.prog 3 #[.slice (some x) len cap] w fun e w' => e = .returned (.bool true) ∧ Below w.heap.size w w' := by
  obtain ⟨i0, hi, hz0, hz1, hz2⟩ := info_parts infoU64
  have hB : Below w.heap.size w (w.alloc (.cells #[] 33)) := (Below.refl _ _).alloc (Nat.le_refl _) _
  have hown : (w.alloc (.cells #[] 33)).ownsRow w.heap.size 33 1 (.slice (some ⟨w.heap.size, 0, none⟩) 0 0) 0 [] :=
    ⟨rfl, .inr ⟨w.heap.size, 0, #[], rfl, Nat.le_refl _, World.alloc_heap_new w _, Nat.le_refl _, by unfold maxLen; omega, rfl, rfl⟩⟩
  have HC : Hid (∀ j u, zs[j]? = some u → (w.alloc (.cells #[] 33)).cell? (x.add j) = some u) := fun j u hj => by
    have h := hc j u hj
    have hlt : (x.add j).block < w.heap.size := by
      obtain ⟨o, ho, _⟩ := cells_of_cell h
      exact (Array.getElem?_eq_some_iff.1 ho).1
    exact (hB.cell hlt).trans h
  have HN : Hid (∀ u ∈ zs, ∃ n : Nat, n < 18446744073709551616 ∧ u = .int .u64 (n : Int)) := hnum
  have HO : Hid (∀ u ∈ zs, u.oneCell' = true) := hone
  have HW : Hid (∀ j u, zs[j]? = some u → w.cell? (x.add j) = some u) := hc
  clear hc hnum hone
  go_enter Tryd.func3, Tryd.ntmps3
  go_wp2_with (at_builtin; refine wpList_append_own _ rfl _ _ 22 rfl w.heap.size 33 i0 (.int .u64 0) 1 8 Tryd.underlying22 hi hz0 hz1 hz2 rfl (by decide) _ _ _ rfl hown x len cap zs rfl ?c0 ?c1 ?c2 ?c3 ?c4 ?c5 ?_)
  case c0 => omega
  case c1 => exact HC.out
  case c2 => exact HO.out
  case c3 => unfold maxLen; omega
  case c4 => omega
  case c5 => simp
  intro v' w1 hown' hgrow hnil
  have hown2 : w1.ownsRow w.heap.size 33 1 v' len zs := by simpa using hown'
  have hB1 := hB.grown hgrow (by simp) (fun j ej => row_base hown j ej)
  obtain ⟨g, cap', rfl, hgs, hcells⟩ := row_words hown2 (by simpa using hnil)
  clear hnil hown2 hown' hgrow hown HC HO
  by_cases h2 : len = 2
  · subst h2
    match zs, hl with
    | [u0, u1], _ =>
      obtain ⟨n0, hb0, rfl⟩ := HN.out u0 (by simp)
      obtain ⟨n1, hb1, rfl⟩ := HN.out u1 (by simp)
      have k0 := HW.out 0 _ rfl
      have k1 := HW.out 1 _ rfl
      obtain ⟨bx, ox, spot⟩ := x
      have hspot : spot = none := by simpa [Addr.add] using World.cell?_spot k0
      subst hspot
      have m0 : w.cell? ⟨bx, ox, none⟩ = some (.int .u64 (n0 : Int)) := by simpa [Addr.add] using k0
      have m1 : w.cell? ⟨bx, ox + 1, none⟩ = some (.int .u64 (n1 : Int)) := by simpa [Addr.add] using k1
      have hbx : bx < w.heap.size := by
        obtain ⟨o, ho, _⟩ := cells_of_cell m0
        exact (Array.getElem?_eq_some_iff.1 ho).1
      have c1 := take_two g 0 cap' n0 n1 hb0 hb1 w1 (hcells 0 _ rfl) (hcells 1 _ rfl) hgs
      have c2 := fun (w2 : World) (hb : Below w.heap.size w w2) => refTake_two bx ox cap n0 n1 hb0 hb1 w2 ((hb.cell (p := ⟨bx, ox, none⟩) hbx).trans m0) ((hb.cell (p := ⟨bx, ox + 1, none⟩) hbx).trans m1)
      clear k0 k1 m0 m1 hcells HN HW
      generalize takeV n0 n1 = V at *
      generalize takeE n0 n1 = E at *
      have q1 : (V == V) = true := beq_self_eq_true _
      have q2 : (E == E) = true := beq_self_eq_true _
      go_wp2_with fail
      refine c1.mono ?_
      rintro e w2 ⟨rfl, hb2⟩
      have hB2 := hB1.trans (hb2.mono hB1.size)
      go_wp2_with fail
      refine (c2 _ hB2).mono ?_
      rintro e w3 ⟨rfl, hb3⟩
      have hB3 := hB2.trans (hb3.mono hB2.size)
      go_wp2_with fail
      refine (lives_any _ (hn.below hB3)).mono ?_
      rintro e w4 ⟨rfl, hb4⟩
      go_wp2
      go_ret
      exact ⟨rfl, hB3.trans (hb4.mono hB3.size)⟩
  · have c1 := take_len (some ⟨g, 0, none⟩) len cap' h2 w1
    have c2 := refTake_len (some x) len cap h2 w1
    clear hcells HN HW
    go_wp2_with fail
    refine c1.mono ?_
    rintro e w2 ⟨rfl, hw2⟩
    subst hw2
    go_wp2_with fail
    refine c2.mono ?_
    rintro e w3 ⟨rfl, hw3⟩
    subst hw3
    go_wp2_with fail
    refine (lives_any _ (hn.below hB1)).mono ?_
    rintro e w4 ⟨rfl, hb4⟩
    go_wp2
    go_ret
    exact ⟨rfl, hB1.trans (hb4.mono hB1.size)⟩

end Go.Proofs.YtndnpcegofbbaabDoor
