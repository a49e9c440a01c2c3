/- What the table's iterator hands its loop's body: each line's number, and what stands behind it. -/
import Derived.Test.YtgolihipinjfmaaGreatDoorCTab
import Derived.Test.YtgolihipinjfmaaGreatDoorCSeq
import Derived.Test.YtgolihipinjfmaaGreatDoorShelf
import Derived.Lib.AtoiErrMem
import Derived.RangeFuncNested
import Derived.RangeFuncBound
import Derived.RangeFuncCalls
import Derived.RangeFuncLeaves
import Derived.Shelf.Abstract
import Derived.Shelf.RegionOpen
import Derived.WalkKit
import Derived.WalkSmall
import Derived.OwnWalkIn
import Derived.TacticsInMore
import Derived.LoopNIn
import Derived.LoopIn
namespace Go.Proofs.YtgolihipinjfmaaGreatDoor.C
open Go Go.RowKit Go.Shelf
attribute [local go_sem] Oper.semAt_some

/-- A text cut at its first blank. -/
theorem litecut_one (s : ByteArray) (k : Nat) (hk : k < s.size) (hs : s.size ≤ maxLen) (hix : Lib.indexByte s.data.toList 32 = (k : Int)) (w : World) :
    Calls Tryz.prog 76 #[.string s, .string ⟨#[32]⟩] w fun e w' => e = .returned (.tuple #[.string (s.extract 0 k), .string (s.extract (k + 1) s.size), .bool true]) ∧ ∃ n, w' = w.drewN n := by
  unfold maxLen at hs
  have HI : Hid (Lib.indexByte s.data.toList 32 = (k : Int)) := hix
  clear hix
  go_enter Tryz.func76, Tryz.ntmps76
  go_wp2_with (go_at_call 73; refine (Tryz.stringslite_Index_one _ _ _).mono ?_; rintro e w' ⟨rfl, rfl⟩; rw [show Lib.indexByte s.data.toList _ = (k : Int) from HI.out])
  go_region
  go_wp2
  go_ret3
  exact ⟨rfl, 1, rfl⟩

theorem cut_one (s : ByteArray) (k : Nat) (hk : k < s.size) (hs : s.size ≤ maxLen) (hix : Lib.indexByte s.data.toList 32 = (k : Int)) (w : World) :
    Calls Tryz.prog 54 #[.string s, .string ⟨#[32]⟩] w fun e w' => e = .returned (.tuple #[.string (s.extract 0 k), .string (s.extract (k + 1) s.size), .bool true]) ∧ ∃ n, w' = w.drewN n := by
  have hcall := litecut_one s k hk hs hix
  clear hix
  go_enter Tryz.func54, Tryz.ntmps54
  go_wp2_with (go_at_call 76; refine (hcall _).mono ?_; rintro e w' ⟨rfl, n, rfl⟩)
  go_ret3
  exact ⟨rfl, n, rfl⟩

theorem number_any (s : ByteArray) (v : Int) (hl : s.size ≤ 18) (h : Lib.atoi s.data.toList = some v) (w : World) :
    Calls Tryz.prog 33 #[.string s] w fun e w' => e = .returned (.int .i64 v) ∧ Below w.heap.size w w' := by
  have hcall := Tryz.strconv_Atoi s v hl h
  clear h
  go_enter Tryz.func33, Tryz.ntmps33
  go_wp2_with (go_at_call 46; refine (hcall _).mono ?_; rintro e w' ⟨rfl, t, rfl⟩)
  go_ret
  exact ⟨rfl, Lib.bytesWorld_below _ _ _⟩

theorem lines_in (n : Nat) (s : ByteArray) (w : World) : CallsIn Fence.wide n Tryz.prog 53 #[.string s] w fun e w' =>
    e = .returned (.func (.func 74) #[] #[.pointer (some ⟨w.heap.size, 0, none⟩)]) ∧ w' = w.alloc (.cells #[.string s] 9) := by
  refine callsIn_wide.2 ?_
  go_enter Tryz.func53, Tryz.ntmps53
  go_wp2
  go_ret
  exact ⟨rfl, rfl⟩

def lnLeft (B : Nat) (W : World) : Nat := match W.cell? ⟨B, 0, none⟩ with
  | some (.string x) => x.size
  | _ => 0
theorem lnLeft_of {B : Nat} {W : World} {s : ByteArray} (h : Boxed W B 9 (.string s)) : lnLeft B W = s.size := by unfold lnLeft; rw [h.cell]

def stL (B : Nat) (_ : Nat) (A C : World) : Prop := ∃ v, C = (A.setCell ⟨B, 0, none⟩ v).drew
def kpL (B : Nat) (_ : Nat) (A C : World) : Prop := C.heap[B]? = A.heap[B]?
def allF (xs : List (Fin 64)) : Prop := ∀ i, i ∈ xs

set_option maxRecDepth 100000 in
set_option maxHeartbeats 1000000 in
theorem lines1 (n : Nat) (hn : 2 ≤ n) (B : Nat) :
    SeqG Fence.wide n Tryz.prog 74 #[.pointer (some ⟨B, 0, none⟩)] (fun k : Fin 64 => #[.string (byt (rowL k))])
      (fun W => Boxed W B 9 (.string (byt (restL 0)))) (stL B) (fun _ _ _ => False) (kpL B) allF := by
  intro l J Jx W hpre hJs _ hY h0
  refine callsIn_of_wp Tryz.func74 rfl trivial ?_ rfl
  simp only [Tryz.ntmps74, List.size_toArray, List.length_cons, List.length_nil, Nat.reduceAdd, Nat.reduceSub, Array.replicate_succ, Array.replicate_zero, List.push_toArray, List.append_toArray, List.nil_append, List.cons_append]
  have hf : Fence.wide.fn 75 := trivial
  have hn1 : 1 ≤ n := by omega
  gi_wp2
  gi_loopw [4] (fun _ wr => ∃ (k : Nat) (pre : List (Fin 64)), k ≤ 64 ∧ (∀ i : Fin 64, i.val < k → i ∈ pre) ∧ Boxed wr B 9 (.string (byt (restL k))) ∧ J pre wr) (fun _ wr => lnLeft B wr)
  case atStart => exact ⟨0, [], by omega, fun i hi => absurd hi (Nat.not_lt_zero _), hpre, h0⟩
  case round =>
    obtain ⟨k, pre, hk, hall, hb, hJ⟩ := hrel
    have HA : Hid (∀ i : Fin 64, i.val < k → i ∈ pre) := hall
    clear hall
    have hc := hb.cell
    have hfz := hb.frozen
    by_cases hk64 : k = 64
    · subst hk64
      rw [restL_end] at hc
      have hz : (byt []).size = 0 := rfl
      gi_wp2
      go_end0
      exact ⟨⟨_, rfl⟩, .inl ⟨pre, fun i => HA.out i i.isLt, hJ⟩⟩
    · have hlt : k < 64 := by omega
      have h1 := (row_some ⟨k, hlt⟩).1
      obtain ⟨m, hm⟩ : ∃ m, (rowL ⟨k, hlt⟩).length = m + 1 := ⟨(rowL ⟨k, hlt⟩).length - 1, by omega⟩
      obtain ⟨R, hR⟩ : ∃ R, byt (restL k) = R := ⟨_, rfl⟩
      obtain ⟨R', hR'⟩ : ∃ R', byt (restL (k + 1)) = R' := ⟨_, rfl⟩
      obtain ⟨x, hx⟩ : ∃ x, byt (rowL ⟨k, hlt⟩) = x := ⟨_, rfl⟩
      have HI : Hid (Lib.indexByte R.data.toList 10 = (m : Int)) := by
        have := rest_index ⟨k, hlt⟩
        rw [hR, hm] at this; exact this
      have HX : Hid (R.extract 0 (m + 1) = x) := by have := rest_row ⟨k, hlt⟩; rw [hR, hm, hx] at this; exact this
      have hsz : R.size = m + 1 + R'.size := by have := rest_size ⟨k, hlt⟩; rw [hR, hm, hR'] at this; exact this
      have HN : Hid (R.extract (m + 1) (m + 1 + R'.size) = R') := by have := rest_next ⟨k, hlt⟩; rw [hR, hm, hR', hsz] at this; exact this
      have hsx : R.size ≤ 10000 := by rw [← hR]; exact rest_small k hk
      rw [hR] at hc hb
      have HR : Hid (byt (restL (k + 1)) = R') := hR'
      have HK : Hid (byt (rowL ⟨k, hlt⟩) = x) := hx
      clear hR hR' hx hm h1
      have HB := hb
      gi_wp2_with (gi_at_call 75; refine (callsIn_wide.2 (Tryz.strings_IndexByte _ _ _)).mono ?_; rintro e w' ⟨rfl, rfl⟩; rw [show Lib.indexByte R.data.toList (10 : Int).toNat.toUInt8 = (m : Int) from HI.out])
      have mixed : Tryz.prog.follows .mixedOrders = true := by kernel_rfl
      gi_region
      rw [HX.out, HN.out]
      have hJ2 := hJs pre w' _ hJ ⟨.string R', rfl⟩
      have HC : Hid (Boxed (w'.setCell ⟨B, 0, none⟩ (.string R')).drew B 9 (.string R')) := show Boxed (w'.setCell ⟨B, 0, none⟩ (.string R')) B 9 (.string R') from HB.set _
      have HLW : Hid (lnLeft B w' = R.size) := lnLeft_of HB
      clear hc hfz hb HB hJ
      generalize (w'.setCell ⟨B, 0, none⟩ (.string R')).drew = W2 at *
      obtain ⟨fn1, tm1, as1, bd1, hy, hRd⟩ := hY pre ⟨k, hlt⟩ W2 hJ2
      rw [HK.out] at hy
      gi_wp2
      refine hRd.mono ?_
      rintro e W3 (⟨rfl, hJ3, hk3⟩ | ⟨rfl, hJx3, hk3⟩)
      · gi_wp2
        go_roundw
        case rel =>
          refine ⟨k + 1, pre ++ [⟨k, hlt⟩], by omega, fun i hi => ?_, ?_, hJ3⟩
          · by_cases e : i.val = k
            · exact List.mem_append.2 (.inr (by simp [Fin.ext_iff, e]))
            · exact List.mem_append.2 (.inl (HA.out i (by omega)))
          · have := HC.out; unfold Boxed at this ⊢; rw [hk3, HR.out]; exact this
        case measure =>
          have := HC.out
          rw [HLW.out, lnLeft_of (s := R') (by unfold Boxed at this ⊢; rw [hk3]; exact this)]; omega
      · gi_wp2
        refine bodyPost_ret (results_none rfl _ _ _) rfl ?_
        exact ⟨⟨_, rfl⟩, .inr ⟨pre ++ [⟨k, hlt⟩], hJx3⟩⟩

end Go.Proofs.YtgolihipinjfmaaGreatDoor.C
