/- slices.IndexFunc and slices.ContainsFunc with a function that only looks at a text; tooLong and isDot. -/
import Derived.Test.YtidcfbjefemhdaaPSplit
import Derived.Shelf.Abstract
namespace Go.Proofs.Ytidcfbjefemhdaa
open Go Go.RowKit

set_option maxRecDepth 100000 in
theorem tooLong_any (x : ByteArray) (W : World) (hx : x.size ≤ 10000) : Calls Try.prog 27 #[.string x] W fun e w' => e = .returned (.bool (decide (32 < x.size))) ∧ w' = W := by
  by_cases h : 32 < x.size
  · have hz : (32 : Int) < (x.size : Int) := by omega
    rw [decide_eq_true h]
    go_enter Try.func27, Try.ntmps27
    go_wp2
    go_ret
    exact ⟨rfl, rfl⟩
  · have hz : ¬ (32 : Int) < (x.size : Int) := by omega
    rw [decide_eq_false h]
    go_enter Try.func27, Try.ntmps27
    go_wp2
    go_ret
    exact ⟨rfl, rfl⟩

def isDotB (x : ByteArray) : Bool := x.toList == [46]
set_option maxRecDepth 100000 in
theorem isDot_any (x : ByteArray) (W : World) : Calls Try.prog 34 #[.string x] W fun e w' => e = .returned (.bool (isDotB x)) ∧ w' = W := by
  unfold isDotB
  generalize hr : (x.toList == [46]) = r
  go_enter Try.func34, Try.ntmps34
  go_wp2
  go_ret
  exact ⟨rfl, rfl⟩

/-- What slices.IndexFunc finds. -/
def idxF (f : ByteArray → Bool) : List ByteArray → Nat → Int
  | [], _ => -1
  | x :: r, k => if f x then (k : Int) else idxF f r (k + 1)
theorem idxF_drop (f : ByteArray → Bool) (l : List ByteArray) (k : Nat) (h : k < l.length) : idxF f (l.drop k) k = if f (l.getD k ByteArray.empty) then (k : Int) else idxF f (l.drop (k + 1)) (k + 1) := by
  rw [List.drop_eq_getElem_cons h]
  simp [idxF, List.getD, h]
theorem idxF_any (f : ByteArray → Bool) : ∀ (l : List ByteArray) (k : Nat), decide (0 ≤ idxF f l k) = l.any f
  | [], _ => rfl
  | x :: r, k => by
    rw [List.any_cons]
    by_cases hx : f x = true
    · have e : idxF f (x :: r) k = (k : Int) := by rw [idxF, if_pos hx]
      rw [e, hx]
      simp
    · have e : idxF f (x :: r) k = idxF f r (k + 1) := by rw [idxF, if_neg hx]
      rw [e, idxF_any f r (k + 1)]
      simp at hx
      rw [hx]; rfl

set_option maxRecDepth 100000 in
set_option maxHeartbeats 1000000 in
theorem index_some (g : Nat) (f : ByteArray → Bool) (eg : ∀ args w, (callFunc g args).run Try.prog w = .ok (.enter g args) w)
    (b off cap : Nat) (l : List ByteArray) (w : World) (hg : ∀ x ∈ l, ∀ W, Calls Try.prog g #[.string x] W fun e w' => e = .returned (.bool (f x)) ∧ w' = W)
    (hl : l.length ≤ 9223372036854775807) (hc : ∀ j, j < l.length → w.cell? ⟨b, off + j, none⟩ = some (.string (l.getD j ByteArray.empty))) :
    Calls Try.prog 38 #[.slice (some ⟨b, off, none⟩) l.length cap, .func (.func g) #[] #[]] w fun e w' => e = .returned (.int .i64 (idxF f l 0)) ∧ w' = w := by
  have HC : Hid (∀ j, j < l.length → w.cell? ⟨b, off + j, none⟩ = some (.string (l.getD j ByteArray.empty))) := hc
  obtain ⟨R, hR⟩ : ∃ R, idxF f l 0 = R := ⟨_, rfl⟩
  have HR : Hid (idxF f l 0 = R) := hR
  have HG : Hid (∀ x ∈ l, ∀ W, Calls Try.prog g #[.string x] W fun e w' => e = .returned (.bool (f x)) ∧ w' = W) := hg
  rw [hR]
  clear hc hR hg
  go_enter Try.func38, Try.ntmps38
  go_wp2
  go_loop [8] (fun i => ∃ k : Nat, k ≤ l.length ∧ i = .int .i64 k ∧ Hid (R = idxF f (l.drop k) k)) (fun i => l.length - (intOf i).toNat)
  case atStart => exact ⟨0, Nat.zero_le _, rfl, by show R = _; rw [← HR.out]; rfl⟩
  case round =>
    obtain ⟨k, hk, rfl, H⟩ := hrel
    by_cases hlt : k < l.length
    · have hltz : (k : Int) < (l.length : Int) := by omega
      have hck := HC.out k hlt
      have hG := HG.out (l.getD k ByteArray.empty) (by simp [List.getD, hlt])
      have HD : Hid (idxF f (l.drop k) k = if f (l.getD k ByteArray.empty) then (k : Int) else idxF f (l.drop (k + 1)) (k + 1)) := idxF_drop f l k hlt
      obtain ⟨r, hr⟩ : ∃ r, f (l.getD k ByteArray.empty) = r := ⟨_, rfl⟩
      rw [hr] at hG
      have HRR : Hid (f (l.getD k ByteArray.empty) = r) := hr
      clear hr
      generalize l.getD k ByteArray.empty = x at *
      cases r with
      | true =>
        go_wp2_with (go_at_fn g; refine (hG _).mono ?_; rintro e w1 ⟨rfl, rfl⟩)
        go_ret
        refine ⟨?_, rfl⟩
        rw [H.out, HD.out, HRR.out]; rfl
      | false =>
        go_wp2_with (go_at_fn g; refine (hG _).mono ?_; rintro e w1 ⟨rfl, rfl⟩)
        go_round
        case rel => exact ⟨k + 1, by omega, by go_num, by show R = _; rw [H.out, HD.out, HRR.out]; rfl⟩
        case measure => simp [intOf]; omega
    · obtain rfl : k = l.length := by omega
      have hltz : ¬ (l.length : Int) < (l.length : Int) := by omega
      go_wp2
      go_ret
      refine ⟨?_, rfl⟩
      rw [H.out, List.drop_length]; rfl

set_option maxRecDepth 100000 in
theorem index_zero (p : Option Addr) (cap : Nat) (u : Value) (w : World) :
    Calls Try.prog 38 #[.slice p 0 cap, u] w fun e w' => e = .returned (.int .i64 (-1)) ∧ w' = w := by
  go_enter Try.func38, Try.ntmps38
  go_wp2
  go_loop [8] (fun i => i = .int .i64 0) (fun _ => 0)
  case atStart => rfl
  case round =>
    subst hrel
    go_wp2
    go_ret
    exact ⟨rfl, rfl⟩

theorem index_any (g : Nat) (f : ByteArray → Bool) (eg : ∀ args w, (callFunc g args).run Try.prog w = .ok (.enter g args) w)
    (p : Option Addr) (cap : Nat) (l : List ByteArray) (w : World) (hg : ∀ x ∈ l, ∀ W, Calls Try.prog g #[.string x] W fun e w' => e = .returned (.bool (f x)) ∧ w' = W)
    (hl : l.length ≤ 9223372036854775807) (h : At w p l) :
    Calls Try.prog 38 #[.slice p l.length cap, .func (.func g) #[] #[]] w fun e w' => e = .returned (.int .i64 (idxF f l 0)) ∧ w' = w := by
  rcases h with rfl | ⟨b, off, rfl, _, hc⟩
  · exact index_zero p cap _ w
  · exact index_some g f eg b off cap l w hg hl hc

theorem en_tooLong : ∀ args w, (callFunc 27 args).run Try.prog w = .ok (.enter 27 args) w := enters_of Try.func27 (by kernel_rfl) rfl
theorem en_isDot : ∀ args w, (callFunc 34 args).run Try.prog w = .ok (.enter 34 args) w := enters_of Try.func34 (by kernel_rfl) rfl

set_option maxRecDepth 100000 in
theorem containsFunc_long (p : Option Addr) (cap : Nat) (l : List ByteArray) (w : World) (hl : l.length ≤ 10000) (hx : ∀ x ∈ l, x.size ≤ 10000) (h : At w p l) :
    Calls Try.prog 26 #[.slice p l.length cap, .func (.func 27) #[] #[]] w fun e w' => e = .returned (.bool (hasLong l)) ∧ w' = w := by
  have cI := index_any 27 (fun x => decide (32 < x.size)) en_tooLong p cap l w (fun x hm W => tooLong_any x W (hx x hm)) (by omega) h
  have e := idxF_any (fun x => decide (32 < x.size)) l 0
  unfold hasLong
  rw [← e]
  clear e h hx
  generalize idxF (fun x => decide (32 < x.size)) l 0 = r at *
  go_enter Try.func26, Try.ntmps26
  go_wp2_with fail
  refine cI.mono ?_
  rintro e w1 ⟨rfl, rfl⟩
  go_wp2
  go_ret
  exact ⟨rfl, rfl⟩

end Go.Proofs.Ytidcfbjefemhdaa
