/- What the reference's Find and Gate answer; calls held against calls; what the laws' helper tells. -/
import Derived.Test.YtelbmnjcejajiaaDoorCRefGet
import Derived.Test.YtelbmnjcejajiaaDoorCFind
import Derived.Test.YtelbmnjcejajiaaDoorCGate
namespace Go.Proofs.YtelbmnjcejajiaaDoor.C
open Go Go.RowKit

set_option maxRecDepth 100000 in
set_option maxHeartbeats 2000000 in
theorem rfind_any (s : ByteArray) (w : World) : Calls Tryd.prog 14 #[.string s] w (FindPost s w) := by
  go_enter Tryd.func14, Tryd.ntmps14
  go_wp2
  go_loopw [4] (fun i wr => ∃ k : Nat, k ≤ 64 ∧ i = .int .i64 ((k : Int) + 1) ∧ Hid (∀ j : Fin 64, j.val < k → byt (cname j) ≠ s) ∧ Hid (Below w.heap.size w wr)) (fun i _ => 66 - (intOf i).toNat)
  case atStart => exact ⟨0, by omega, rfl, fun j hj => absurd hj (Nat.not_lt_zero _), Below.refl _ _⟩
  case round =>
    obtain ⟨k, hk, rfl, H, HB⟩ := hrel
    by_cases hlt : k < 64
    · have hle : (k : Int) + 1 ≤ 64 := by omega
      obtain ⟨q, hq⟩ : ∃ q : Fin 64, q.val = k := ⟨⟨k, hlt⟩, rfl⟩
      have hcall : Calls Tryd.prog 9 #[.int .i64 ((k : Int) + 1)] wr fun e W => e = .returned (.tuple #[.agg #[.string (byt (cname q)), .string (byt (cshape q)), .int .i64 (cgate q), .int .u32 (cneed0 q : Int), .int .u32 (cneed1 q : Int)], .bool true]) ∧ Below wr.heap.size wr W := by
        subst hq; exact rget_at q wr
      have HE : Hid (byt (cname q) = s → ∀ W, Below w.heap.size w W → FindPost s w (.returned (.tuple #[.int .i64 ((k : Int) + 1), .bool true])) W) := fun h W hW => ⟨hW, .inl ⟨q, h, by rw [hq]⟩⟩
      have HU : Hid (byt (cname q) ≠ s → ∀ j : Fin 64, j.val < k + 1 → byt (cname j) ≠ s) := fun h j hj => by
        by_cases e : j.val = k
        · obtain rfl : j = q := Fin.ext (by omega)
          exact h
        · exact H.out j (by omega)
      generalize byt (cname q) = nm at *
      generalize byt (cshape q) = sh at *
      generalize cgate q = gv at *
      generalize (cneed0 q : Int) = n0 at *
      generalize (cneed1 q : Int) = n1 at *
      by_cases he : nm = s
      · have ht : (nm.toList == s.toList) = true := by rw [he]; exact beq_self_eq_true _
        have HP := HE.out he
        clear he HU
        go_wp2_with (go_at_call 9; refine hcall.mono ?_; clear hcall; rintro e w' ⟨rfl, hb⟩)
        go_ret2
        have hb2 := HB.out.trans (hb.mono HB.out.size)
        exact HP _ (hb2.alloc hb2.size _)
      · have ht : (nm.toList == s.toList) = false := by
          rw [beq_eq_false_iff_ne, ByteArray.toList_eq, ByteArray.toList_eq]; exact fun e => he (bytes_eq e)
        have HP := HU.out he
        clear he HE
        go_wp2_with (go_at_call 9; refine hcall.mono ?_; clear hcall; rintro e w' ⟨rfl, hb⟩)
        go_roundw
        case rel =>
          have hb2 := HB.out.trans (hb.mono HB.out.size)
          exact ⟨k + 1, by omega, by go_num, HP, hb2.alloc hb2.size _⟩
        case measure => simp [intOf]; omega
    · have hle : ¬ (k : Int) + 1 ≤ 64 := by omega
      have HP : Hid (FindPost s w (.returned (.tuple #[.int .i64 0, .bool false])) wr) := ⟨HB.out, .inr ⟨fun j => H.out j (by omega), rfl⟩⟩
      go_wp2
      go_ret2
      exact HP.out

end Go.Proofs.YtelbmnjcejajiaaDoor.C
