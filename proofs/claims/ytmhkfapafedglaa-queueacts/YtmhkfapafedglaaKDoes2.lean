/- The law's does: Clear. -/
import Derived.Test.YtmhkfapafedglaaKDoes
namespace Go.Proofs.Ytmhkfapafedglaa.K
open Go Go.RowKit

set_option maxRecDepth 100000 in
set_option maxHeartbeats 4000000 in
theorem does_clear {F G : Nat → Prop} {w : World} {qb n : Nat} {ps : List Pt} {lv : Value} (h : QAt F G w qb n ps) (hl : ParO (fun k => ¬ F k) w lv ps) (p : Option Addr) (bl c : Nat) (a m fr : Int) (hbc : bl ≤ c) (hp : 200 < bl → ∃ b o, p = some ⟨b, o, none⟩) :
    Calls Try.prog 8 #[.pointer (some ⟨qb, 0, none⟩), .int .i64 (n : Int), lv, .agg #[.int .i64 2, .slice p bl c, .int .i64 a, .int .i64 m], .int .i64 fr] w (DoesPost F G w qb n []) := by
  have hok := h.ok
  have h6 := few_mono hok
  have hAl0 : (allF ps).length ≤ 100000 ∧ ∀ y ∈ allF ps, y.ints.length ≤ 1000 := by
    refine ⟨?_, fun y hy => ?_⟩
    · have h7 := allF_le (fun x hx => (h6 x hx).1)
      have := hok.few
      omega
    · obtain ⟨x, hx, hy⟩ := List.mem_flatMap.1 hy
      exact (h6 x hx).2 y hy
  have HAl : Hid _ := hAl0
  have HFew : Hid (ps.length ≤ 100 ∧ ∀ x ∈ ps, x.2.length ≤ 6) := ⟨by have := hok.few; omega, fun x hx => (h6 x hx).1⟩
  have key : ∀ (q : Option Addr) (L : Nat), Hid (∀ w1, w1 = w.alloc (.cells #[.int .i64 2, .slice q L c, .int .i64 a, .int .i64 m] 31) → QAt F G w1 qb n ps ∧ ParO (fun k => ¬ F k) w1 lv ps ∧ Below w.heap.size w w1) := fun q L w1 e => by
    subst e
    have a1 := on_alloc w (.cells #[.int .i64 2, .slice q L c, .int .i64 a, .int .i64 m] 31)
    exact ⟨h.on a1, hl.keep (keep_on a1), a1⟩
  have HPo : Hid (∀ v pv F' W, ParO (fun k => ¬ F' k) W v [] → QAt F' G W qb n [] → Goes F G F' G w W → DoesPost F G w qb n [] (.returned (.tuple #[v, pv, .bool true])) W) := fun v pv F' W h1 h2 h3 => ⟨v, pv, F', G, rfl, h1, h2, h3⟩
  generalize DoesPost F G w qb n [] = Post at *
  clear h hl h6 hok hAl0
  by_cases hbig : 200 < bl
  · have hbz : (200 : Int) < (bl : Int) := by omega
    have hcz : (200 : Int) ≤ (c : Int) := by omega
    obtain ⟨bb, bo, rfl⟩ := hp hbig
    clear hp
    go_enter Try.func8, Try.ntmps8
    go_wp2_with fail
    generalize hw1 : w.alloc (.cells #[.int .i64 2, .slice (some ⟨bb, bo, none⟩) 200 c, .int .i64 a, .int .i64 m] 31) = w1
    obtain ⟨hq1, hl1, hb1⟩ := (key (some ⟨bb, bo, none⟩) 200).out w1 hw1.symm
    clear key hw1
    have cC := clear_any hq1
    unfold ClearPost at cC
    refine cC.mono ?_
    rintro e w2 ⟨F', v1, rfl, q2, g2, hp2⟩
    have HK2 : Hid (QAt F' G w2 qb n [] ∧ Goes F G F' G w w2 ∧ PasO (fun _ => True) w2 v1 (allF ps)) := ⟨q2, .before hb1 g2, hp2.mono fun _ _ _ => trivial⟩
    have cA := rall_any (hl1.goes g2) HFew.out.1 HFew.out.2
    unfold AllPost at cA
    clear cC hq1 hl1 hb1 q2 g2 hp2
    go_wp2_with fail
    refine cA.mono ?_
    rintro e w3 ⟨v2, rfl, hp3, hb3⟩
    obtain ⟨hq2, hg2, hp2⟩ := HK2.out
    have cG := given_eq (hp2.keep (keep_on hb3)) hp3 HAl.out.1 HAl.out.2
    have HK3 : Hid (QAt F' G w3 qb n [] ∧ Goes F G F' G w w3) := ⟨hq2.on hb3, hg2.after hb3⟩
    clear cA HK2 hq2 hg2 hp2 hp3 hb3
    go_wp2_with fail
    refine cG.mono ?_
    rintro e w4 ⟨rfl, hb4⟩
    have HE := HPo.out (.slice none 0 0) v1 _ _ (ParO.nil _ _) (HK3.out.1.on hb4) (HK3.out.2.after hb4)
    clear cG hb4
    go_wp2
    go_ret3
    exact HE
  · have hbz : ¬ (200 : Int) < (bl : Int) := by omega
    clear hp
    go_enter Try.func8, Try.ntmps8
    go_wp2_with fail
    generalize hw1 : w.alloc (.cells #[.int .i64 2, .slice p bl c, .int .i64 a, .int .i64 m] 31) = w1
    obtain ⟨hq1, hl1, hb1⟩ := (key p bl).out w1 hw1.symm
    clear key hw1
    have cC := clear_any hq1
    unfold ClearPost at cC
    refine cC.mono ?_
    rintro e w2 ⟨F', v1, rfl, q2, g2, hp2⟩
    have HK2 : Hid (QAt F' G w2 qb n [] ∧ Goes F G F' G w w2 ∧ PasO (fun _ => True) w2 v1 (allF ps)) := ⟨q2, .before hb1 g2, hp2.mono fun _ _ _ => trivial⟩
    have cA := rall_any (hl1.goes g2) HFew.out.1 HFew.out.2
    unfold AllPost at cA
    clear cC hq1 hl1 hb1 q2 g2 hp2
    go_wp2_with fail
    refine cA.mono ?_
    rintro e w3 ⟨v2, rfl, hp3, hb3⟩
    obtain ⟨hq2, hg2, hp2⟩ := HK2.out
    have cG := given_eq (hp2.keep (keep_on hb3)) hp3 HAl.out.1 HAl.out.2
    have HK3 : Hid (QAt F' G w3 qb n [] ∧ Goes F G F' G w w3) := ⟨hq2.on hb3, hg2.after hb3⟩
    clear cA HK2 hq2 hg2 hp2 hp3 hb3
    go_wp2_with fail
    refine cG.mono ?_
    rintro e w4 ⟨rfl, hb4⟩
    have HE := HPo.out (.slice none 0 0) v1 _ _ (ParO.nil _ _) (HK3.out.1.on hb4) (HK3.out.2.after hb4)
    clear cG hb4
    go_wp2
    go_ret3
    exact HE

end Go.Proofs.Ytmhkfapafedglaa.K
