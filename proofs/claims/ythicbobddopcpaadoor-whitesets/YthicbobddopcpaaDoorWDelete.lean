/- slices.DeleteFunc on a row of the call's own, with a function value that may lay blocks. -/
import Derived.Test.YthicbobddopcpaaDoorWSubset2
import Derived.Test.YthicbobddopcpaaDoorWMake
import Derived.Lib.SlKept
import Derived.Lib.SliceRun
namespace Go.Proofs.YthicbobddopcpaaDoor
open Go Go.RowKit Go.Shelf Go.Sort

theorem holds_set {w : World} {g i : Nat} {dk : Array Int} (u : Int) (h : Holds (Value.int .i64) w g 0 dk) (hi : i < dk.size) : Holds (Value.int .i64) (w.setCell ⟨g, i, none⟩ (.int .i64 u)) g 0 (dk.setIfInBounds i u) := fun j hj => by
  have hj' : j < dk.size := by simpa using hj
  refine ⟨?_, by rw [World.frozen?_setCell]; exact (h j hj').2⟩
  by_cases e : j = i
  · subst e
    have h1 := (h j hj').1
    rw [Nat.zero_add] at h1 ⊢
    rw [World.cell?_setCell_same' _ _ _ (by rw [h1]; rfl), getElem!_set_same dk j _ hj']
  · rw [World.cell?_setCell_other _ _ _ _ (fun e2 => by cases e2; omega), (h j hj').1, getElem!_set_other dk i j _ e]

theorem but_cells : ∀ (w : World) (b o : Nat) (vs : List Value), But b w (w.setCells b o vs)
  | _, _, _, [] => ⟨rfl, rfl, rfl, rfl, fun _ _ => rfl⟩
  | w, b, o, v :: r => (but_set w b o v).trans (but_cells _ b (o + 1) r)

theorem holds_on {w w' : World} {g : Nat} {dk : Array Int} (h : Holds (Value.int .i64) w g 0 dk) (hg : g < w.heap.size) (hb : Below w.heap.size w w') : Holds (Value.int .i64) w' g 0 dk := fun j hj => by
  obtain ⟨h1, h2⟩ := h j hj
  have e := hb.block g hg
  exact ⟨by rw [← h1]; simp only [World.cell?, e], by rw [← h2]; simp only [World.frozen?, e]⟩

theorem idxF_none {f : Int → Bool} : ∀ {l : List Int} {k : Nat}, idxF f l k = -1 → ∀ x ∈ l, f x = false
  | [], _, _, x, hx => by simp at hx
  | y :: r, k, h, x, hx => by
    simp only [idxF] at h
    by_cases hy : f y = true
    · rw [if_pos hy] at h; omega
    · rw [if_neg hy] at h
      rcases List.mem_cons.1 hx with rfl | hx
      · simpa using hy
      · exact idxF_none h x hx
theorem idxF_some {f : Int → Bool} : ∀ {l : List Int} {k : Nat}, idxF f l k ≠ -1 → ∃ i, i < l.length ∧ idxF f l k = ((k + i : Nat) : Int) ∧ f (l.getD i 0) = true ∧ ∀ j, j < i → f (l.getD j 0) = false
  | [], _, h => absurd rfl h
  | y :: r, k, h => by
    simp only [idxF] at h ⊢
    by_cases hy : f y = true
    · rw [if_pos hy]
      exact ⟨0, by simp, by simp, by simpa using hy, fun j hj => absurd hj (Nat.not_lt_zero _)⟩
    · rw [if_neg hy] at h ⊢
      obtain ⟨i, h1, h2, h3, h4⟩ := idxF_some h
      refine ⟨i + 1, by simpa using h1, by rw [h2]; congr 1; omega, by simpa using h3, fun j hj => ?_⟩
      cases j with
      | zero => simpa using hy
      | succ j => simpa using h4 j (by omega)

theorem getD_get! (l : List Int) (j : Nat) (h : j < l.length) : l.toArray[j]! = l.getD j 0 := by
  rw [getElem!_pos l.toArray j (by simpa using h)]
  simp [List.getD, h]

set_option maxRecDepth 100000 in
set_option maxHeartbeats 4000000 in
theorem delete_mine (fid : Nat) (lb : Array Value) (f : Int → Bool) (S : World → Prop) (g cap base : Nat) (l : List Int) (w : World) (eg : ∀ args w, (callFunc fid args).run Tryd.prog w = .ok (.enter fid args) w)
    (hS1 : ∀ W W', S W → Below W.heap.size W W' → S W') (hS2 : ∀ W o v, S W → S (W.setCell ⟨g, o, none⟩ v))
    (hf : ∀ x W, S W → Calls Tryd.prog fid (#[.int .i64 x] ++ lb) W fun e w' => e = .returned (.bool (f x)) ∧ Below W.heap.size W w')
    (hSw : S w) (hm : Mine w base g 0 l) (hl : l.length ≤ 1000) (hcap : l.length ≤ cap) :
    Calls Tryd.prog 40 #[.slice (some ⟨g, 0, none⟩) l.length cap, .func (.func fid) #[] lb] w fun e w' =>
      e = .returned (.slice (some ⟨g, 0, none⟩) (l.filter fun x => !f x).length cap) ∧ Below base w w' ∧ AtF base w' (some ⟨g, 0, none⟩) (l.filter fun x => !f x) := by
  have cI := index_any fid lb f S eg hS1 hf (some ⟨g, 0, none⟩) cap l w hSw (by omega) (at_of_holds hm.lt hm.held)
  by_cases hR : idxF f l 0 = -1
  · have hfil : (l.filter fun x => !f x) = l := List.filter_eq_self.2 fun x hx => by rw [idxF_none hR x hx]; rfl
    rw [hfil]
    rw [hR] at cI
    have hat := atF_of_mine hm
    have hlt := hm.lt
    have hbs := hm.base
    clear hf hS1 hS2 hSw hm
    go_enter Tryd.func40, Tryd.ntmps40
    go_wp2_with fail
    refine cI.mono ?_
    rintro e w1 ⟨rfl, hb1⟩
    go_wp2
    go_ret
    exact ⟨rfl, hb1.mono (by omega), hat.on hb1⟩
  · obtain ⟨i0, hi0, hRe, hfi, hbefore⟩ := idxF_some hR
    rw [Nat.zero_add] at hRe
    rw [hRe] at cI
    have hne1 : ((i0 : Int) == -1) = false := beq_eq_false_iff_ne.2 (by omega)
    obtain ⟨kp, hkp⟩ : ∃ kp : Nat → Bool, kp = fun j => !f l.toArray[j]! := ⟨_, rfl⟩
    have hfil : (l.filter fun x => !f x) = Lib.keptUpTo kp l.toArray l.toArray.size := by
      rw [hkp]; exact (Lib.keptUpTo_filter (fun x => !f x) l.toArray).symm
    have HF : Hid ((l.filter fun x => !f x) = Lib.keptUpTo kp l.toArray l.toArray.size) := hfil
    have hstart : Lib.KeptInv kp l.toArray (i0 + 1) i0 l.toArray := Lib.KeptInv.start
      (fun j hj => by rw [hkp]; show (!f l.toArray[j]!) = true; rw [getD_get! l j (by omega), hbefore j hj]; rfl)
      (by rw [hkp]; show (!f l.toArray[i0]!) = false; rw [getD_get! l i0 hi0, hfi]; rfl)
    have HK : Hid (kp = fun j => !f l.toArray[j]!) := hkp
    have HM : Hid (Mine w base g 0 l) := hm
    have HS : Hid (S w) := hSw
    have HS1 : Hid (∀ W W', S W → Below W.heap.size W W' → S W') := hS1
    have HS2 : Hid (∀ W o v, S W → S (W.setCell ⟨g, o, none⟩ v)) := hS2
    have HG : Hid (∀ x W, S W → Calls Tryd.prog fid (#[.int .i64 x] ++ lb) W fun e w' => e = .returned (.bool (f x)) ∧ Below W.heap.size W w') := hf
    have HST : Hid _ := hstart
    obtain ⟨FL, hFL⟩ : ∃ FL, (l.filter fun x => !f x) = FL := ⟨_, rfl⟩
    have HFL : Hid (FL = Lib.keptUpTo kp l.toArray l.toArray.size) := by show FL = _; rw [← hFL]; exact hfil
    rw [hFL]
    have hbs := hm.base
    clear hR hRe hfi hbefore hkp hfil hstart hm hSw hS1 hS2 hf HF hFL
    go_enter Tryd.func40, Tryd.ntmps40
    go_wp2_with fail
    refine cI.mono ?_
    rintro e w1 ⟨rfl, hb1⟩
    have HH1 : Hid (Holds (Value.int .i64) w1 g 0 l.toArray) := holds_on HM.out.held HM.out.lt hb1
    have HS1w : Hid (S w1) := HS1.out w w1 HS.out hb1
    have hlt1 := Nat.lt_of_lt_of_le HM.out.lt hb1.size
    have HB1 : Hid (Below base w w1) := hb1.mono (by have := HM.out.lt; omega)
    clear cI hb1
    go_wp2
    go_loopw [5, 6] (fun s5 s6 wr => ∃ (i j : Nat) (dk : Array Int), s5 = .int .i64 i ∧ s6 = .int .i64 j ∧ j ≤ l.length ∧ g < wr.heap.size ∧ Hid (Lib.KeptInv kp l.toArray j i dk) ∧ Hid (Holds (Value.int .i64) wr g 0 dk) ∧ Hid (S wr) ∧ Hid (Below base w wr)) (fun _ s6 _ => l.length - (intOf s6).toNat)
    case atStart => exact ⟨i0, i0 + 1, l.toArray, rfl, by go_num, by omega, hlt1, HST, HH1, HS1w, HB1⟩
    case round =>
      obtain ⟨i, j, dk, rfl, rfl, hj, hgl, HI, HH, HSr, HBr⟩ := hrel
      have hij := HI.out.lt
      have hds : dk.size = l.length := by have := HI.out.size; simpa using this
      by_cases hlt : j < l.length
      · have hltz : (j : Int) < (l.length : Int) := by omega
        have hc1 := (HH.out j (by omega)).1
        rw [HI.out.high j (by omega), getD_get! l j hlt, Nat.zero_add] at hc1
        have hG := HG.out (l.getD j 0) wr HSr.out
        have HX : Hid (l.toArray[j]! = l.getD j 0) := getD_get! l j hlt
        obtain ⟨r, hr⟩ : ∃ r, f (l.getD j 0) = r := ⟨_, rfl⟩
        have HKJ : Hid (kp j = !r) := by show kp j = _; rw [HK.out]; show (!f l.toArray[j]!) = _; rw [HX.out, hr]
        rw [hr] at hG
        clear hr
        generalize l.getD j 0 = x at *
        cases r with
        | true =>
          go_wp2_with (go_at_fn fid; refine hG.mono ?_; rintro e w2 ⟨rfl, hb2⟩)
          go_roundw
          case rel => exact ⟨i, j + 1, dk, rfl, by go_num, by omega, Nat.lt_of_lt_of_le hgl hb2.size, HI.out.skip HKJ.out, holds_on HH.out hgl hb2, HS1.out _ _ HSr.out hb2, HBr.out.trans (hb2.mono (by omega))⟩
          case measure => simp [intOf]; omega
        | false =>
          have hgi : i < l.length := by omega
          have hiz : (i : Int) < (l.length : Int) := by omega
          go_wp2_with (go_at_fn fid; refine hG.mono ?_; rintro e w2 ⟨rfl, hb2⟩; have hH2 := holds_on HH.out hgl hb2; have hcx := hH2 i (by omega); rw [Nat.zero_add] at hcx; have k1 := hcx.1; have k2 := hcx.2; clear hcx; have HH2 : Hid _ := hH2; clear hH2)
          go_roundw
          case rel =>
            have hset := holds_set x HH2.out (show i < dk.size by omega)
            have hI2 := HI.out.keep (by simpa using hlt) HKJ.out
            rw [HX.out] at hI2
            have hbut := but_set w2 g i (.int .i64 x)
            exact ⟨i + 1, j + 1, _, by go_num, by go_num, by omega, by rw [hbut.size]; exact Nat.lt_of_lt_of_le hgl hb2.size, hI2, hset, HS2.out _ _ _ (HS1.out _ _ HSr.out hb2), below_but (HBr.out.trans (hb2.mono (by omega))) hbut hbs⟩
          case measure => simp [intOf]; omega
      · obtain rfl : j = l.length := by omega
        have hltz : ¬ (l.length : Int) < (l.length : Int) := by omega
        have hclr : ∀ ty, (Builtin.clear_ #[22] ty #[.slice (some ⟨g, i, none⟩) (l.length - i) (cap - i)]).run Tryd.prog wr = .ok (.tuple #[]) (wr.setCells g i (List.replicate (l.length - i) (.int .i64 0))) :=
          fun ty => Lib.run_clear_slice wr _ _ ty _ Tryd.underlying22 Tryd.zeroValue3 rfl rfl g i _ _ (by omega)
            (fun t ht => by have := (HH.out (i + t) (by omega)).1; rw [Nat.zero_add] at this; rw [this]; rfl) (fun t ht => by have := (HH.out (i + t) (by omega)).2; rwa [Nat.zero_add] at this)
        have hiz : (i : Int) ≤ (l.length : Int) := by omega
        have hiz2 : (l.length : Int) ≤ (cap : Int) := by omega
        have hFl : FL.length = i := by rw [HFL.out]; have := HI.out.len; simpa using this
        have HFl : Hid (FL.length = i) := hFl
        have HBut : Hid (But g wr (wr.setCells g i (List.replicate (l.length - i) (.int .i64 0)))) := but_cells wr g _ _
        have HAt : Hid (AtF base (wr.setCells g i (List.replicate (l.length - i) (.int .i64 0))) (some ⟨g, 0, none⟩) FL) := by
          refine .inr ⟨g, 0, rfl, hbs, by rw [HBut.out.size]; exact hgl, fun t ht => ?_⟩
          rw [World.cell?_setCells_out g _ _ _ _ (fun _ _ => .inl (by show 0 + t < i; omega)), (HH.out t (by omega)).1]
          have hlow := HI.out.low t (by omega)
          rw [HFL.out]
          have e : Lib.keptUpTo kp l.toArray l.toArray.size = Lib.keptUpTo kp l.toArray l.length := by simp
          rw [e]
          simp only [List.getD, hlow, Option.getD_some]
        clear hFl
        go_wp2
        go_ret
        exact ⟨by rw [HFl.out]; rfl, below_but HBr.out HBut.out hbs, HAt.out⟩

end Go.Proofs.YthicbobddopcpaaDoor
