/- The law WhiteHas answers true at every whitelist and int. -/
import Derived.Test.YthicbobddopcpaaDoorWSteps
namespace Go.Proofs.YthicbobddopcpaaDoor
open Go Go.RowKit Go.Shelf Go.Sort

set_option maxRecDepth 100000 in
set_option maxHeartbeats 2000000 in
theorem has_walk (all : Bool) (p : Option Addr) (cap : Nat) (l : List Int) (x : Int) (w : World) (ht : Tb w) (hcap : 200 < l.length → 200 ≤ cap) (hl : l.length ≤ 9223372036854775807) (_hr : ∀ z ∈ l, z ≤ 9223372036854775807) (h : At w p l) :
    Calls Tryd.prog 4 #[.agg #[.bool all, .slice p l.length cap], .int .i64 x] w fun e w' => e = .returned (.bool true) ∧ Below w.heap.size w w' := by
  have HB : Hid (Below w.heap.size w (w.alloc (.cells #[.bool all, .slice p l.length cap] 24))) := on_alloc w _
  have HX : Hid (Box (w.alloc (.cells #[.bool all, .slice p l.length cap] 24)) w.heap.size (.bool all) (.slice p l.length cap)) := Box.new w _ _
  have c1 := short_any all p cap l (w.alloc (.cells #[.bool all, .slice p l.length cap] 24)) hcap hl (h.alloc _)
  have hlt : (l.take 200).length ≤ 200 := by simp; omega
  clear _hr
  generalize l.take 200 = k at *
  go_enter Tryd.func4, Tryd.ntmps4
  go_wp2_with fail
  refine c1.mono ?_
  rintro e w1 ⟨hb1, q, c, rfl, hat⟩
  have hX1 := HX.out.on hb1
  have hB1 := on_trans HB.out hb1
  have f0 := hX1.free0
  have f1 := hX1.free1
  have x0 := hX1.fst
  have x1 := hX1.snd
  have HX1 : Hid _ := hX1
  have hat2 := hat.but (but_set2 w1 w.heap.size 0 1 (.bool all) (.slice q k.length c)) (by simp)
  have hB2 := below_but hB1 (but_set2 w1 w.heap.size 0 1 (.bool all) (.slice q k.length c)) (Nat.le_refl _)
  clear c1 hb1 hX1 hat HX hB1 h hl hcap
  go_wp2
  have hX2 := HX1.out.put (.bool all) (.slice q k.length c)
  clear HX1 f0 f1 x0 x1
  generalize (w1.setCell ⟨w.heap.size, 0, none⟩ (.bool all)).setCell ⟨w.heap.size, 1, none⟩ (.slice q k.length c) = w2 at *
  refine wp_region_left (S := Law1 w w.heap.size all q c k) (Keep := KeepK [])
    (g := fun i v W => ([.is (.agg #[.bool all, .slice q k.length c]), .wl all k, .is (.int .i64 x), .is (.bool (hasF all k x)), .is (.agg #[.bool all, .slice q k.length c]), .is (.int .i64 x), .is (.bool (hasF all k x)), .is (.bool true), .is (.bool true), .is (.bool true), .is (.bool true), .is (.bool true)].getD i Kd.any).ok 0 v W)
    (tab := [[(2, none)], [(7, some 0)], [(1, none)], [(8, some 1), (9, some 2)], [(2, none)], [(1, none)], [(11, some 4), (12, some 5)], [(10, some 3), (13, some 6)], [(14, some 7)], [(15, some 8)], [(15, some 8), (16, some 9)], [(17, some 10)]]) (tl := []) (n := 18)
    (by kernel_rfl) rfl (by kernel_rfl) keep_none ⟨on_drew hB2, hX2.drew, hat2.at.on (on_drew (Below.refl _ _))⟩ ?_ ?_
  · refine ⟨fun ρ W hr hS hs => ?_, fun ρ W hr hS hs => ?_, fun ρ W hr hS hs => ?_, fun ρ W hr hS hs => ?_, fun ρ W hr hS hs => ?_, fun ρ W hr hS hs => ?_, fun ρ W hr hS hs => ?_, fun ρ W hr hS hs => ?_, fun ρ W hr hS hs => ?_, fun ρ W hr hS hs => ?_, fun ρ W hr hS hs => ?_, fun ρ W hr hS hs => ?_, trivial⟩
    · exact step_plain rfl (leaves_load (.tmp 2) rfl hs.1 hS.box ⟨rfl, hS, Below.refl _ _⟩)
    · refine step_plain rfl (leaves_call en_short hr #[.tmp 7] _ rfl #[.agg #[.bool all, .slice q k.length c]] (by simp only [List.map_toArray, List.map_cons, List.map_nil]; rw [show ρ (.tmp 7) = _ from hs.1]) ?_)
      refine (short_any all q c k W (fun h => by omega) (by omega) hS.at_).mono ?_
      rintro e W' ⟨hb, p', c', rfl, hat⟩
      rw [take_short (by omega)] at hat ⊢
      exact ⟨_, rfl, ⟨p', c', rfl, hat.less (Nat.zero_le _)⟩, hS.grow hb, hb⟩
    · exact step_plain rfl (leaves_move (.tmp 1) rfl ⟨hs.1, hS, Below.refl _ _⟩)
    · obtain ⟨⟨p', c', h8, hat⟩, h9, _⟩ := hs
      refine step_plain rfl (leaves_call en_has hr #[.tmp 8, .tmp 9] _ rfl #[.agg #[.bool all, .slice p' k.length c'], .int .i64 x] (by simp only [List.map_toArray, List.map_cons, List.map_nil]; rw [h8, show ρ (.tmp 9) = _ from h9]) ?_)
      refine (has_any all p' k.length c' k x W rfl (by omega) hat.at).mono ?_
      rintro e W' ⟨rfl, hb⟩
      exact ⟨_, rfl, rfl, hS.grow hb, hb⟩
    · exact step_plain rfl (leaves_load (.tmp 2) rfl hs.1 hS.box ⟨rfl, hS, Below.refl _ _⟩)
    · exact step_plain rfl (leaves_move (.tmp 1) rfl ⟨hs.1, hS, Below.refl _ _⟩)
    · obtain ⟨h8, h9, _⟩ := hs
      refine step_plain rfl (leaves_call en_rhas hr #[.tmp 11, .tmp 12] _ rfl #[.agg #[.bool all, .slice q k.length c], .int .i64 x] (by simp only [List.map_toArray, List.map_cons, List.map_nil]; rw [show ρ (.tmp 11) = _ from h8, show ρ (.tmp 12) = _ from h9]) ?_)
      refine (refHas_any all q c k x W (by omega) hS.at_).mono ?_
      rintro e W' ⟨rfl, hb⟩
      exact ⟨_, rfl, rfl, hS.grow hb, hb⟩
    · exact step_plain rfl (leaves_eqBool (.tmp 10) (.tmp 13) rfl (hasF all k x) hs.1 hs.2.1 ⟨rfl, hS, Below.refl _ _⟩)
    · exact step_plain rfl (leaves_move (.tmp 14) rfl ⟨hs.1, hS, Below.refl _ _⟩)
    · refine step_want rfl rfl hs.1 (leaves_call en_lives hr #[] _ rfl #[] (by simp) ?_)
      refine (lives_any W (ht.on hS.on)).mono ?_
      rintro e W' ⟨rfl, hb⟩
      exact ⟨_, rfl, rfl, hS.grow hb, hb⟩
    · exact step_plain rfl (leaves_pick (.tmp 15) (.tmp 16) _ rfl true hs.1 ⟨hs.2.1, hS, Below.refl _ _⟩)
    · exact step_plain rfl (leaves_assign (.tmp 17) rfl ⟨hs.1, hS, Below.refl _ _⟩)
  · intro W hS v0 h0 v1 h1 v2 h2 v3 h3 v4 h4 v5 h5 v6 h6 v7 h7 v8 h8 v9 h9 v10 h10 v11 h11
    obtain rfl : v11 = .bool true := h11 rfl
    clear h0 h1 h2 h3 h4 h5 h6 h7 h8 h9 h10 h11
    simp only [ends, Act.put, List.setIfInBounds_toArray, List.set_cons_succ, List.set_cons_zero]
    go_wp2
    go_ret
    exact ⟨rfl, hS.on⟩

end Go.Proofs.YthicbobddopcpaaDoor
