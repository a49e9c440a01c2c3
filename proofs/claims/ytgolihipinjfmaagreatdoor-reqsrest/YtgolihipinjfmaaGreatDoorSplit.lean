/- What strings.SplitSeq at a comma hands its loop's body: the pieces, one by one. -/
import Derived.Test.YtgolihipinjfmaaGreatDoorPlain
import Derived.Test.YtgolihipinjfmaaGreatDoorLaw
import Derived.Test.YtgolihipinjfmaaGreatDoorShelf
import Derived.RangeFuncNested
import Derived.RangeFuncBound
import Derived.RangeFuncCalls
import Derived.RangeFuncLeaves
import Derived.Shelf.Abstract
import Derived.Shelf.RegionOpen
import Derived.WalkKit
import Derived.OwnWalkIn
import Derived.TacticsInMore
import Derived.LoopNIn
import Derived.LoopIn
namespace Go.Proofs.YtgolihipinjfmaaGreatDoor
open Go Go.RowKit Go.Shelf
attribute [local go_sem] Oper.semAt_some

def spPre (B : Nat) (s : ByteArray) (W : World) : Prop :=
  W.cell? ⟨B, 0, none⟩ = some (.string s) ∧ W.frozen? ⟨B, 0, none⟩ = false ∧ W.cell? ⟨B + 1, 0, none⟩ = some (.string ⟨#[44]⟩) ∧ W.cell? ⟨B + 1 + 1, 0, none⟩ = some (.int .i64 0)
def spAt (B b : Nat) : Prop := b = B ∨ b = B + 1 ∨ b = B + 1 + 1
def spLeft (B : Nat) (W : World) : Nat := match W.cell? ⟨B, 0, none⟩ with
  | some (.string x) => x.size
  | _ => 0
theorem spPre.kept {B : Nat} {s : ByteArray} {A W : World} (h : spPre B s A) (k : Same (spAt B) A W) : spPre B s W :=
  ⟨(World.cell?_of_block (w := A) (k B (.inl rfl))).trans h.1, (World.frozen?_of_block (w := A) (k B (.inl rfl))).trans h.2.1, (World.cell?_of_block (w := A) (k (B + 1) (.inr (.inl rfl)))).trans h.2.2.1, (World.cell?_of_block (w := A) (k (B + 1 + 1) (.inr (.inr rfl)))).trans h.2.2.2⟩
theorem spPre.store {B : Nat} {s t : ByteArray} {A : World} (h : spPre B s A) : spPre B t (A.setCell ⟨B, 0, none⟩ (.string t)) :=
  ⟨World.cell?_setCell_same' _ _ _ (by rw [h.1]; rfl), by rw [World.frozen?_setCell]; exact h.2.1,
    (World.cell?_of_block (w := A) (Below.heap_setCell A ⟨B, 0, none⟩ _ (B + 1) (by simp))).trans h.2.2.1,
    (World.cell?_of_block (w := A) (Below.heap_setCell A ⟨B, 0, none⟩ _ (B + 1 + 1) (by simp; omega))).trans h.2.2.2⟩
theorem spPre.left {B : Nat} {s : ByteArray} {A : World} (h : spPre B s A) : spLeft B A = s.size := by unfold spLeft; rw [h.1]

set_option maxRecDepth 100000 in
set_option maxHeartbeats 1000000 in
theorem split1 (n : Nat) (hn : 2 ≤ n) (B : Nat) (s : ByteArray) (hs : s.size ≤ maxLen) :
    SeqCell Fence.wide n Tryz.prog 83 #[.pointer (some ⟨B + 1, 0, none⟩), .pointer (some ⟨B, 0, none⟩), .pointer (some ⟨B + 1 + 1, 0, none⟩)] (fun x : ByteArray => #[.string x])
      (spPre B s) B (spAt B) (fun xs => xs = pieces s) (fun pre => pre <+: pieces s) := by
  intro l J Jx W hpre hJs hY h0
  unfold maxLen at hs
  refine callsIn_of_wp Tryz.func83 rfl trivial ?_ rfl
  simp only [Tryz.ntmps83, List.size_toArray, List.length_cons, List.length_nil, Nat.reduceAdd, Nat.reduceSub, Array.replicate_succ, Array.replicate_zero, List.push_toArray, List.append_toArray, List.nil_append, List.cons_append]
  have hc := hpre.2.2.1
  have hf : Fence.wide.fn 52 := trivial
  have hn1 : 1 ≤ n := by omega
  gi_wp2
  clear hc
  gi_loopw [7] (fun _ wr => ∃ (pre : List ByteArray) (r : ByteArray), pieces s = pre ++ pieces r ∧ r.size ≤ s.size ∧ spPre B r wr ∧ J pre wr) (fun _ wr => spLeft B wr)
  case atStart => exact ⟨[], s, rfl, Nat.le_refl _, hpre, h0⟩
  case round =>
    obtain ⟨pre, r, hx, hle, hp, hJ⟩ := hrel
    have HX : Hid (pieces s = pre ++ pieces r) := hx
    clear hx
    have HP := hp
    obtain ⟨c1, c2, c3, c4⟩ := hp
    by_cases hneg : Lib.indexByte r.data.toList 44 < 0
    · have hpn := pieces_no r hneg
      have HE : Hid (pieces s = pre ++ [r]) := by rw [HX.out, hpn]; rfl
      clear hpn
      obtain ⟨fn1, tm1, as1, bd1, hy, hR⟩ := hY pre r wr hJ
      gi_wp2_with (gi_at_call 52; refine (callsIn_wide.2 (Tryz.strings_Index_one _ _ _)).mono ?_; rintro e w' ⟨rfl, rfl⟩)
      refine hR.mono ?_
      rintro e W3 (⟨rfl, hJ3, hk3⟩ | ⟨rfl, hJx3⟩)
      · gi_wp2
        go_end0
        exact ⟨⟨_, rfl⟩, .inl ⟨pre ++ [r], HE.out.symm, hJ3⟩⟩
      · gi_wp2
        go_end0
        exact ⟨⟨_, rfl⟩, .inr ⟨pre ++ [r], ⟨[], by rw [HE.out]; simp⟩, hJx3⟩⟩
    · obtain ⟨k, hk⟩ := Int.eq_ofNat_of_zero_le (Int.not_lt.1 hneg)
      clear hneg
      obtain ⟨hks, hpk⟩ := pieces_at r k hk
      have HE : Hid (pieces s = (pre ++ [r.extract 0 k]) ++ pieces (r.extract (k + 1) r.size)) := show pieces s = _ by rw [HX.out, hpk, List.append_assoc]; rfl
      clear hpk
      obtain ⟨fn1, tm1, as1, bd1, hy, hR⟩ := hY pre (r.extract 0 k) wr hJ
      gi_wp2_with (gi_at_call 52; refine (callsIn_wide.2 (Tryz.strings_Index_one _ _ _)).mono ?_; rintro e w' ⟨rfl, rfl⟩)
      refine hR.mono ?_
      rintro e W3 (⟨rfl, hJ3, hk3⟩ | ⟨rfl, hJx3⟩)
      · have HP3 := HP.kept hk3
        clear c1 c2 c3 c4
        have HQ := HP3
        obtain ⟨c1, c2, c3, c4⟩ := HP3
        gi_wp2
        go_roundw
        case rel => exact ⟨_, _, HE.out, by simp; omega, HQ.store, hJs _ _ _ hJ3⟩
        case measure => rw [HQ.store.left, HP.left]; simp; omega
      · gi_wp2
        refine bodyPost_ret (results_none rfl _ _ _) rfl ?_
        exact ⟨⟨_, rfl⟩, .inr ⟨pre ++ [r.extract 0 k], ⟨_, HE.out.symm⟩, hJx3⟩⟩

end Go.Proofs.YtgolihipinjfmaaGreatDoor
