/- slices.Clone, and slices.DeleteFunc on a row of the call's own, with isDot. -/
import Derived.Test.YtidcfbjefemhdaaPFunc
import Derived.Test.YtidcfbjefemhdaaShelf
import Derived.Lib.SlKept
import Derived.Lib.SliceRun
import Derived.Sort.Row
namespace Go.Proofs.Ytidcfbjefemhdaa
open Go Go.RowKit Go.Sort

/-- slices.Clone of a list. -/
theorem clone_any (p : Option Addr) (cap : Nat) (l : List ByteArray) (w : World) (hl : l.length ≤ 10000) (h : At w p l) :
    Calls Try.prog 33 #[.slice p l.length cap] w fun e w' => ∃ v, e = .returned v ∧ OwnL w.heap.size w' v l ∧ Below w.heap.size w w' := by
  have key : ∀ (e : Ending) (w' : World), (∃ v', e = .returned v' ∧ w'.ownsRow w.heap.size 9 1 v' l.length ((l.take l.length).map Value.string) ∧ v' ≠ .slice none 0 0 ∧ Below w.heap.size w w') → ∃ v, e = .returned v ∧ OwnL w.heap.size w' v l ∧ Below w.heap.size w w' := by
    rintro e w' ⟨v, rfl, h1, _, h2⟩
    rw [List.take_length] at h1
    exact ⟨v, rfl, h1, h2⟩
  rcases h with rfl | ⟨b, off, rfl, _, hc⟩
  · cases p with
    | none =>
      refine (Try.slices_Clone_string_nil 0 cap w).mono ?_
      rintro e w' ⟨rfl, rfl⟩
      exact ⟨_, rfl, ownL_nil _ _, Below.refl _ _⟩
    | some a => exact (Try.slices_Clone_string_zero a cap w).mono key
  · exact (Try.slices_Clone_string b off l.length cap l w (Nat.le_refl _) (by omega) hc).mono key

/-- A row of texts that the call has made. -/
structure Mine (w : World) (base g off : Nat) (l : List ByteArray) : Prop where
  base : base ≤ g
  lt : g < w.heap.size
  held : Holds Value.string w g off l.toArray

theorem mine_of_row {w : World} {base n : Nat} {v : Value} {l : List ByteArray} (h : w.ownsRow base 9 1 v n (l.map Value.string)) (hv : v ≠ .slice none 0 0) :
    ∃ g cap, v = .slice (some ⟨g, 0, none⟩) l.length cap ∧ Mine w base g 0 l ∧ l.length ≤ cap := by
  have hn : n = l.length := by have := h.1; simpa using this.symm
  rcases h.2 with ⟨h0, h1⟩ | ⟨g, cap, cur, rfl, hb, hg, hc, _, hs, ht⟩
  · exact absurd h0 hv
  · refine ⟨g, cap, by rw [hn], ⟨hb, (Array.getElem?_eq_some_iff.1 hg).1, fun j hj => ⟨?_, ?_⟩⟩, by omega⟩
    · have hj' : j < l.length := by simpa using hj
      have hu : (l.map Value.string)[j]? = some (.string l[j]) := by simp [hj']
      rw [← ht, List.getElem?_take_of_lt (by omega)] at hu
      rw [Nat.zero_add, getElem!_pos l.toArray j hj]
      simp only [World.cell?, hg]
      simpa using hu
    · simp [World.frozen?, hg]

theorem at_of_holds {w : World} {g off : Nat} {l : List ByteArray} (hg : g < w.heap.size) (h : Holds Value.string w g off l.toArray) : At w (some ⟨g, off, none⟩) l :=
  .inr ⟨g, off, rfl, hg, fun j hj => by
    have := (h j (by simpa using hj)).1
    rw [this, getElem!_pos l.toArray j (by simpa using hj)]
    simp [List.getD, hj]⟩
theorem atF_of_mine {w : World} {base g off : Nat} {l : List ByteArray} (h : Mine w base g off l) : AtF base w (some ⟨g, off, none⟩) l := by
  rcases at_of_holds h.lt h.held with e | ⟨b, o, hp, hlt, hc⟩
  · exact .inl e
  · cases hp; exact .inr ⟨g, off, rfl, h.base, hlt, hc⟩

theorem holds_set {w : World} {g i : Nat} {dk : Array ByteArray} (u : ByteArray) (h : Holds Value.string w g 0 dk) (hi : i < dk.size) : Holds Value.string (w.setCell ⟨g, i, none⟩ (.string u)) g 0 (dk.setIfInBounds i u) := fun j hj => by
  have hj' : j < dk.size := by simpa using hj
  refine ⟨?_, by rw [World.frozen?_setCell]; exact (h j hj').2⟩
  by_cases e : j = i
  · subst e
    have h1 := (h j hj').1
    rw [Nat.zero_add] at h1 ⊢
    rw [World.cell?_setCell_same' _ _ _ (by rw [h1]; rfl), getElem!_set_same dk j _ hj']
  · rw [World.cell?_setCell_other _ _ _ _ (fun e2 => by cases e2; omega), (h j hj').1, getElem!_set_other dk i j _ e]

theorem but_cells : ∀ (w : World) (b o : Nat) (vs : List Value), But b w (w.setCells b o vs)
  | _, _, _, [] => ⟨rfl, rfl, rfl, rfl, fun _ _ => rfl⟩
  | w, b, o, v :: r => (but_set w b o v).trans (but_cells _ b (o + 1) r)

theorem idxF_none {f : ByteArray → Bool} : ∀ {l : List ByteArray} {k : Nat}, idxF f l k = -1 → ∀ x ∈ l, f x = false
  | [], _, _, x, hx => by simp at hx
  | y :: r, k, h, x, hx => by
    simp only [idxF] at h
    by_cases hy : f y = true
    · rw [if_pos hy] at h; omega
    · rw [if_neg hy] at h
      rcases List.mem_cons.1 hx with rfl | hx
      · simpa using hy
      · exact idxF_none h x hx
theorem idxF_some {f : ByteArray → Bool} : ∀ {l : List ByteArray} {k : Nat}, idxF f l k ≠ -1 → ∃ i, i < l.length ∧ idxF f l k = ((k + i : Nat) : Int) ∧ f (l.getD i ByteArray.empty) = true ∧ ∀ j, j < i → f (l.getD j ByteArray.empty) = false
  | [], _, h => absurd rfl h
  | y :: r, k, h => by
    simp only [idxF] at h ⊢
    by_cases hy : f y = true
    · rw [if_pos hy]
      exact ⟨0, by simp, by simp, by simpa using hy, fun j hj => absurd hj (Nat.not_lt_zero _)⟩
    · rw [if_neg hy] at h ⊢
      obtain ⟨i, h1, h2, h3, h4⟩ := idxF_some h
      refine ⟨i + 1, by simpa using h1, by rw [h2]; congr 1; omega, by simpa using h3, fun j hj => ?_⟩
      cases j with
      | zero => simpa using hy
      | succ j => simpa using h4 j (by omega)

theorem getD_get! (l : List ByteArray) (j : Nat) (h : j < l.length) : l.toArray[j]! = l.getD j ByteArray.empty := by
  rw [getElem!_pos l.toArray j (by simpa using h)]
  simp [List.getD, h]

/-- A path without the parts that stay. -/
def plainL (l : List ByteArray) : List ByteArray := l.filter fun x => !isDotB x
theorem But.refl (b : Nat) (w : World) : But b w w := ⟨rfl, rfl, rfl, rfl, fun _ _ => rfl⟩
def DelPost (base g cap : Nat) (F : List ByteArray) (w : World) (e : Ending) (w' : World) : Prop :=
  e = .returned (.slice (some ⟨g, 0, none⟩) F.length cap) ∧ But g w w' ∧ AtF base w' (some ⟨g, 0, none⟩) F ∧ F.length ≤ cap

set_option maxRecDepth 100000 in
set_option maxHeartbeats 4000000 in
theorem delete_mine (g cap base : Nat) (l : List ByteArray) (w : World) (hm : Mine w base g 0 l) (hl : l.length ≤ 10000) (hcap : l.length ≤ cap) :
    Calls Try.prog 32 #[.slice (some ⟨g, 0, none⟩) l.length cap, .func (.func 34) #[] #[]] w (DelPost base g cap (plainL l) w) := by
  have cI := index_any 34 isDotB en_isDot (some ⟨g, 0, none⟩) cap l w (fun x _ W => isDot_any x W) (by omega) (at_of_holds hm.lt hm.held)
  by_cases hR : idxF isDotB l 0 = -1
  · have hfil : plainL l = l := List.filter_eq_self.2 fun x hx => by rw [idxF_none hR x hx]; rfl
    rw [hfil]
    rw [hR] at cI
    have hat := atF_of_mine hm
    have HF : Hid (AtF base w (some ⟨g, 0, none⟩) l) := hat
    clear hm hat hfil hR
    go_enter Try.func32, Try.ntmps32
    go_wp2_with fail
    refine cI.mono ?_
    rintro e w1 ⟨rfl, rfl⟩
    go_wp2
    go_ret
    exact ⟨rfl, But.refl _ _, HF.out, hcap⟩
  · obtain ⟨i0, hi0, hRe, hfi, hbefore⟩ := idxF_some hR
    rw [Nat.zero_add] at hRe
    rw [hRe] at cI
    have hne1 : ((i0 : Int) == -1) = false := beq_eq_false_iff_ne.2 (by omega)
    obtain ⟨kp, hkp⟩ : ∃ kp : Nat → Bool, kp = fun j => !isDotB l.toArray[j]! := ⟨_, rfl⟩
    have hfil : plainL l = Lib.keptUpTo kp l.toArray l.toArray.size := by
      rw [hkp]; exact (Lib.keptUpTo_filter (fun x => !isDotB x) l.toArray).symm
    have hstart : Lib.KeptInv kp l.toArray (i0 + 1) i0 l.toArray := Lib.KeptInv.start
      (fun j hj => by rw [hkp]; show (!isDotB l.toArray[j]!) = true; rw [getD_get! l j (by omega), hbefore j hj]; rfl)
      (by rw [hkp]; show (!isDotB l.toArray[i0]!) = false; rw [getD_get! l i0 hi0, hfi]; rfl)
    have HK : Hid (kp = fun j => !isDotB l.toArray[j]!) := hkp
    have HM : Hid (Mine w base g 0 l) := hm
    have HST : Hid _ := hstart
    obtain ⟨FL, hFL⟩ : ∃ FL, plainL l = FL := ⟨_, rfl⟩
    have HFL : Hid (FL = Lib.keptUpTo kp l.toArray l.toArray.size) := by show FL = _; rw [← hFL]; exact hfil
    rw [hFL]
    have hbs := hm.base
    have cD := isDot_any
    clear hR hRe hfi hbefore hkp hfil hstart hm hFL
    go_enter Try.func32, Try.ntmps32
    go_wp2_with fail
    refine cI.mono ?_
    rintro e w1 ⟨rfl, rfl⟩
    have HH1 : Hid (Holds Value.string w1 g 0 l.toArray) := HM.out.held
    have hlt1 := HM.out.lt
    clear cI
    go_wp2
    go_loopw [5, 6] (fun s5 s6 wr => ∃ (i j : Nat) (dk : Array ByteArray), s5 = .int .i64 i ∧ s6 = .int .i64 j ∧ j ≤ l.length ∧ g < wr.heap.size ∧ Hid (Lib.KeptInv kp l.toArray j i dk) ∧ Hid (Holds Value.string wr g 0 dk) ∧ Hid (But g w1 wr)) (fun _ s6 _ => l.length - (intOf s6).toNat)
    case atStart => exact ⟨i0, i0 + 1, l.toArray, rfl, by go_num, by omega, hlt1, HST, HH1, But.refl _ _⟩
    case round =>
      obtain ⟨i, j, dk, rfl, rfl, hj, hgl, HI, HH, HBr⟩ := hrel
      have hij := HI.out.lt
      have hds : dk.size = l.length := by have := HI.out.size; simpa using this
      by_cases hlt : j < l.length
      · have hltz : (j : Int) < (l.length : Int) := by omega
        have hc1 := (HH.out j (by omega)).1
        rw [HI.out.high j (by omega), getD_get! l j hlt, Nat.zero_add] at hc1
        have hG := cD (l.getD j ByteArray.empty)
        have HX : Hid (l.toArray[j]! = l.getD j ByteArray.empty) := getD_get! l j hlt
        obtain ⟨r, hr⟩ : ∃ r, isDotB (l.getD j ByteArray.empty) = r := ⟨_, rfl⟩
        have HKJ : Hid (kp j = !r) := by show kp j = _; rw [HK.out]; show (!isDotB l.toArray[j]!) = _; rw [HX.out, hr]
        rw [hr] at hG
        clear hr
        generalize l.getD j ByteArray.empty = x at *
        cases r with
        | true =>
          go_wp2_with (go_at_call 34; refine (hG _).mono ?_; rintro e w2 ⟨rfl, hw⟩; replace hw := hw.symm; subst hw)
          go_roundw
          case rel => exact ⟨i, j + 1, dk, rfl, by go_num, by omega, hgl, HI.out.skip HKJ.out, HH, HBr⟩
          case measure => simp [intOf]; omega
        | false =>
          have hgi : i < l.length := by omega
          have hiz : (i : Int) < (l.length : Int) := by omega
          have hcx := HH.out i (by omega)
          rw [Nat.zero_add] at hcx
          have k1 := hcx.1
          have k2 := hcx.2
          clear hcx
          go_wp2_with (go_at_call 34; refine (hG _).mono ?_; rintro e w2 ⟨rfl, hw⟩; replace hw := hw.symm; subst hw)
          go_roundw
          case rel =>
            have hset := holds_set x HH.out (show i < dk.size by omega)
            have hI2 := HI.out.keep (by simpa using hlt) HKJ.out
            rw [HX.out] at hI2
            have hbut := but_set wr g i (.string x)
            exact ⟨i + 1, j + 1, _, by go_num, by go_num, by omega, by rw [hbut.size]; exact hgl, hI2, hset, HBr.out.trans hbut⟩
          case measure => simp [intOf]; omega
      · obtain rfl : j = l.length := by omega
        have hltz : ¬ (l.length : Int) < (l.length : Int) := by omega
        have hclr : ∀ ty, (Builtin.clear_ #[22] ty #[.slice (some ⟨g, i, none⟩) (l.length - i) (cap - i)]).run Try.prog wr = .ok (.tuple #[]) (wr.setCells g i (List.replicate (l.length - i) (.string ⟨#[]⟩))) :=
          fun ty => Lib.run_clear_slice wr _ _ ty _ Try.underlying22 Try.zeroValue9 rfl rfl g i _ _ (by omega)
            (fun t ht => by have := (HH.out (i + t) (by omega)).1; rw [Nat.zero_add] at this; rw [this]; rfl) (fun t ht => by have := (HH.out (i + t) (by omega)).2; rwa [Nat.zero_add] at this)
        have hiz : (i : Int) ≤ (l.length : Int) := by omega
        have hiz2 : (l.length : Int) ≤ (cap : Int) := by omega
        have hFl : FL.length = i := by rw [HFL.out]; have := HI.out.len; simpa using this
        have HFl : Hid (FL.length = i) := hFl
        have HBut : Hid (But g wr (wr.setCells g i (List.replicate (l.length - i) (.string ⟨#[]⟩)))) := but_cells wr g _ _
        have HAt : Hid (AtF base (wr.setCells g i (List.replicate (l.length - i) (.string ⟨#[]⟩))) (some ⟨g, 0, none⟩) FL) := by
          refine .inr ⟨g, 0, rfl, hbs, by rw [HBut.out.size]; exact hgl, fun t ht => ?_⟩
          rw [World.cell?_setCells_out g _ _ _ _ (fun _ _ => .inl (by show 0 + t < i; omega)), (HH.out t (by omega)).1]
          have hlow := HI.out.low t (by omega)
          rw [HFL.out]
          have e : Lib.keptUpTo kp l.toArray l.toArray.size = Lib.keptUpTo kp l.toArray l.length := by simp
          rw [e]
          simp only [List.getD, hlow, Option.getD_some]
        clear hFl
        go_wp2
        go_ret
        exact ⟨by rw [HFl.out]; rfl, HBr.out.trans HBut.out, HAt.out, by rw [HFl.out]; omega⟩

set_option maxRecDepth 100000 in
theorem delete_nil (w : World) : Calls Try.prog 32 #[.slice none 0 0, .func (.func 34) #[] #[]] w fun e w' => e = .returned (.slice none 0 0) ∧ w' = w := by
  have cI := index_zero none 0 (.func (.func 34) #[] #[]) w
  go_enter Try.func32, Try.ntmps32
  go_wp2_with fail
  refine cI.mono ?_
  rintro e w1 ⟨rfl, rfl⟩
  go_wp2
  go_ret
  exact ⟨rfl, rfl⟩

/-- Nothing is turned but one row of texts that is not older than 'base'. -/
def RowBut (base : Nat) (w w' : World) : Prop := w' = w ∨ ∃ g cs fr, base ≤ g ∧ w.heap[g]? = some (.cells cs 9 fr) ∧ But g w w'
theorem RowBut.below {base B : Nat} {w0 w w' : World} (h : RowBut base w w') (h0 : Below B w0 w) (hB : B ≤ base) : Below B w0 w' := by
  rcases h with rfl | ⟨g, _, _, hg, _, hb⟩
  · exact h0
  · exact below_but h0 hb (by omega)
theorem RowBut.box {base b : Nat} {w w' : World} {v0 v1 v2 : Value} (h : RowBut base w w') (hb : Box w b v0 v1 v2) : Box w' b v0 v1 v2 := by
  rcases h with rfl | ⟨g, cs, fr, _, hg, hbut⟩
  · exact hb
  · refine hb.but hbut fun e => ?_
    subst e
    rw [hb.row] at hg
    simp at hg

theorem delete_own (base : Nat) (v : Value) (l : List ByteArray) (w : World) (h : OwnL base w v l) (hl : l.length ≤ 10000) :
    Calls Try.prog 32 #[v, .func (.func 34) #[] #[]] w fun e w' => RowBut base w w' ∧ ∃ p c, e = .returned (.slice p (plainL l).length c) ∧ AtF base w' p (plainL l) ∧ (plainL l).length ≤ c := by
  by_cases hv : v = .slice none 0 0
  · subst hv
    have e : l = [] := by
      rcases h.2 with ⟨_, h1⟩ | ⟨g, cap, cur, h1, _⟩
      · exact List.eq_nil_of_length_eq_zero h1
      · cases h1
    subst e
    refine (delete_nil w).mono ?_
    rintro e w' ⟨rfl, rfl⟩
    exact ⟨.inl rfl, none, 0, rfl, .nil _ _ _, Nat.le_refl _⟩
  · have hrow : ∃ g cap cs fr, v = .slice (some ⟨g, 0, none⟩) l.length cap ∧ w.heap[g]? = some (.cells cs 9 fr) := by
      rcases h.2 with ⟨h0, _⟩ | ⟨g, cap, cur, h1, _, h3, _⟩
      · exact absurd h0 hv
      · exact ⟨g, cap, cur, _, h1, h3⟩
    obtain ⟨g0, cap0, cs, fr, hv0, hg0⟩ := hrow
    obtain ⟨g, cap, rfl, hm, hcap⟩ := mine_of_row h hv
    cases hv0
    refine (delete_mine g0 cap0 base l w hm hl hcap).mono ?_
    rintro e w' ⟨rfl, hb, hat, hcc⟩
    exact ⟨.inr ⟨g0, cs, fr, hm.base, hg0, hb⟩, _, _, rfl, hat, hcc⟩

end Go.Proofs.Ytidcfbjefemhdaa
