/- What white.Subset answers: the closure, slices.IndexFunc and slices.ContainsFunc with it. -/
import Derived.Test.YthicbobddopcpaaDoorWSteps
namespace Go.Proofs.YthicbobddopcpaaDoor
open Go Go.RowKit Go.Shelf Go.Sort

/-- What the closures ask of the world: their captured box, and its list. -/
structure Cap (b : Nat) (all : Bool) (p : Option Addr) (c : Nat) (l : List Int) (W : World) : Prop where
  box : Box W b (.bool all) (.slice p l.length c)
  at_ : At W p l
theorem Cap.on {b : Nat} {all : Bool} {p : Option Addr} {c : Nat} {l : List Int} {W W' : World} (h : Cap b all p c l W) (hb : Below W.heap.size W W') : Cap b all p c l W' := ⟨h.box.on hb, h.at_.on hb⟩

set_option maxRecDepth 100000 in
theorem clo_any (b : Nat) (all : Bool) (p : Option Addr) (c : Nat) (l : List Int) (x : Int) (W : World) (hc : canB all l = true) (h : Cap b all p c l W) :
    Calls Tryd.prog 39 #[.int .i64 x, .pointer (some ⟨b, 0, none⟩)] W fun e w' => e = .returned (.bool (!hasB all l x)) ∧ Below W.heap.size W w' := by
  have cH := holds_any all p l.length c l x W rfl hc h.at_
  have x0 := h.box.fst
  have x1 := h.box.snd
  clear h hc
  generalize hasB all l x = r at *
  go_enter Tryd.func39, Tryd.ntmps39
  go_wp2_with fail
  refine cH.mono ?_
  rintro e w1 ⟨rfl, hb⟩
  go_wp2
  go_ret
  exact ⟨rfl, hb⟩
set_option maxRecDepth 100000 in
theorem clo2_any (b : Nat) (all : Bool) (p : Option Addr) (c : Nat) (l : List Int) (x : Int) (W : World) (hc : canB all l = true) (h : Cap b all p c l W) :
    Calls Tryd.prog 41 #[.int .i64 x, .pointer (some ⟨b, 0, none⟩)] W fun e w' => e = .returned (.bool (!hasB all l x)) ∧ Below W.heap.size W w' := by
  have cH := holds_any all p l.length c l x W rfl hc h.at_
  have x0 := h.box.fst
  have x1 := h.box.snd
  clear h hc
  generalize hasB all l x = r at *
  go_enter Tryd.func41, Tryd.ntmps41
  go_wp2_with fail
  refine cH.mono ?_
  rintro e w1 ⟨rfl, hb⟩
  go_wp2
  go_ret
  exact ⟨rfl, hb⟩

/-- What slices.IndexFunc finds. -/
def idxF (f : Int → Bool) : List Int → Nat → Int
  | [], _ => -1
  | x :: r, k => if f x then (k : Int) else idxF f r (k + 1)
theorem idxF_drop (f : Int → Bool) (l : List Int) (k : Nat) (h : k < l.length) : idxF f (l.drop k) k = if f (l.getD k 0) then (k : Int) else idxF f (l.drop (k + 1)) (k + 1) := by
  rw [List.drop_eq_getElem_cons h]
  simp [idxF, List.getD, h]

set_option maxRecDepth 100000 in
set_option maxHeartbeats 1000000 in
/-- slices.IndexFunc, with a function value that answers 'f' wherever S holds. -/
theorem index_some (g : Nat) (lb : Array Value) (f : Int → Bool) (S : World → Prop) (eg : ∀ args w, (callFunc g args).run Tryd.prog w = .ok (.enter g args) w)
    (hS : ∀ W W', S W → Below W.heap.size W W' → S W') (hg : ∀ x W, S W → Calls Tryd.prog g (#[.int .i64 x] ++ lb) W fun e w' => e = .returned (.bool (f x)) ∧ Below W.heap.size W w')
    (b off cap : Nat) (l : List Int) (w : World) (hSw : S w) (hl : l.length ≤ 9223372036854775807) (hbl : b < w.heap.size) (hc : ∀ j, j < l.length → w.cell? ⟨b, off + j, none⟩ = some (.int .i64 (l.getD j 0))) :
    Calls Tryd.prog 49 #[.slice (some ⟨b, off, none⟩) l.length cap, .func (.func g) #[] lb] w fun e w' => e = .returned (.int .i64 (idxF f l 0)) ∧ Below w.heap.size w w' := by
  have HC : Hid (∀ W, Below w.heap.size w W → ∀ j, j < l.length → W.cell? ⟨b, off + j, none⟩ = some (.int .i64 (l.getD j 0))) := fun W hb j hj => (hb.cell (p := ⟨b, off + j, none⟩) hbl).trans (hc j hj)
  obtain ⟨R, hR⟩ : ∃ R, idxF f l 0 = R := ⟨_, rfl⟩
  have HR : Hid (idxF f l 0 = R) := hR
  have HSw : Hid (S w) := hSw
  have HS : Hid (∀ W W', S W → Below W.heap.size W W' → S W') := hS
  have HG : Hid (∀ x W, S W → Calls Tryd.prog g (#[.int .i64 x] ++ lb) W fun e w' => e = .returned (.bool (f x)) ∧ Below W.heap.size W w') := hg
  rw [hR]
  clear hc hR hSw hS hg
  go_enter Tryd.func49, Tryd.ntmps49
  go_wp2
  go_loopw [8] (fun i wr => ∃ k : Nat, k ≤ l.length ∧ i = .int .i64 k ∧ Hid (R = idxF f (l.drop k) k) ∧ Below w.heap.size w wr) (fun i _ => l.length - (intOf i).toNat)
  case atStart => exact ⟨0, Nat.zero_le _, rfl, by show R = _; rw [← HR.out]; rfl, Below.refl _ _⟩
  case round =>
    obtain ⟨k, hk, rfl, H, hBr⟩ := hrel
    by_cases hlt : k < l.length
    · have hltz : (k : Int) < (l.length : Int) := by omega
      have hck := HC.out wr hBr k hlt
      have hG := HG.out (l.getD k 0) wr (HS.out w wr HSw.out hBr)
      have HD : Hid (idxF f (l.drop k) k = if f (l.getD k 0) then (k : Int) else idxF f (l.drop (k + 1)) (k + 1)) := idxF_drop f l k hlt
      obtain ⟨r, hr⟩ : ∃ r, f (l.getD k 0) = r := ⟨_, rfl⟩
      rw [hr] at hG
      have HRR : Hid (f (l.getD k 0) = r) := hr
      clear hr
      generalize l.getD k 0 = x at *
      cases r with
      | true =>
        go_wp2_with (go_at_fn g; refine hG.mono ?_; rintro e w1 ⟨rfl, hb1⟩)
        go_ret
        refine ⟨?_, on_trans hBr hb1⟩
        rw [H.out, HD.out, HRR.out]; rfl
      | false =>
        go_wp2_with (go_at_fn g; refine hG.mono ?_; rintro e w1 ⟨rfl, hb1⟩)
        go_roundw
        case rel => exact ⟨k + 1, by omega, by go_num, by show R = _; rw [H.out, HD.out, HRR.out]; rfl, on_trans hBr hb1⟩
        case measure => simp [intOf]; omega
    · obtain rfl : k = l.length := by omega
      have hltz : ¬ (l.length : Int) < (l.length : Int) := by omega
      go_wp2
      go_ret
      refine ⟨?_, hBr⟩
      rw [H.out, List.drop_length]; rfl

end Go.Proofs.YthicbobddopcpaaDoor
