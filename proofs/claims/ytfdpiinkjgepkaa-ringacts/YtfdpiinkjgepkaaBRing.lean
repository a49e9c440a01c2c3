/- Package ring: New, Len, Room, Clear, place. -/
import Derived.Test.YtfdpiinkjgepkaaBMem
namespace Go.Proofs.Ytfdpiinkjgepkaa.B
open Go Go.RowKit

theorem new_no (m : Int) (w : World) (h : m < 1 ∨ 4096 < m) : Calls Try.prog 7 #[.int .i64 m] w fun e w' => e = .returned (.pointer none) ∧ w' = w := by
  by_cases h1 : m < 1
  · clear h
    go_enter Try.func7, Try.ntmps7
    go_wp2
    go_ret
    exact ⟨rfl, rfl⟩
  · have h2 : 4096 < m := by omega
    clear h
    go_enter Try.func7, Try.ntmps7
    go_wp2
    go_ret
    exact ⟨rfl, rfl⟩
/-- What New leaves. -/
def NewPost (n : Nat) (w : World) (e : Ending) (w' : World) : Prop := ∃ rb pb, e = .returned (.pointer (some ⟨rb, 0, none⟩)) ∧ RingAt w' rb pb n [] ∧ Below w.heap.size w w' ∧ w.heap.size ≤ rb ∧ w.heap.size ≤ pb
theorem new_in (n : Nat) (w : World) (h1 : 1 ≤ n) (h2 : n ≤ 4096) : Calls Try.prog 7 #[.int .i64 (n : Int)] w (NewPost n w) := by
  obtain ⟨w0, hmk, hB0, hb0, hs0⟩ := make_row elemByte rfl n (by omega) w
  have h1z : ¬ (n : Int) < 1 := by omega
  have h2z : ¬ (4096 : Int) < (n : Int) := by omega
  have h2n : ¬ 4096 < n := by omega
  have HP : Hid (NewPost n w (.returned (.pointer (some ⟨w0.heap.size, 0, none⟩))) (w0.alloc (.cells #[.slice (some ⟨w.heap.size, 0, none⟩) n n, .int .i64 0, .int .i64 0] 40))) := by
    refine ⟨w0.heap.size, w.heap.size, rfl, ⟨0, List.replicate n 0, Blk.new w0 _ _, ?_, by simp, by omega, Nat.zero_le _, h2, fun i hi => by simp at hi⟩, on_trans hb0 (on_alloc _ _), by omega, Nat.le_refl _⟩
    have := hB0.alloc (.cells #[.slice (some ⟨w.heap.size, 0, none⟩) n n, .int .i64 0, .int .i64 0] 40)
    simpa [bytesV, byteV] using this
  generalize NewPost n w = Post at *
  clear hB0 hb0 hs0
  go_enter Try.func7, Try.ntmps7
  go_wp2
  exact HP.out

theorem len_nil (w : World) : Calls Try.prog 14 #[.pointer none] w fun e w' => e = .returned (.int .i64 0) ∧ w' = w := by
  go_enter Try.func14, Try.ntmps14
  go_wp2
  go_ret
  exact ⟨rfl, rfl⟩
theorem len_any {w : World} {rb pb n : Nat} {B : List UInt8} (h : RingAt w rb pb n B) : Calls Try.prog 14 #[.pointer (some ⟨rb, 0, none⟩)] w fun e w' => e = .returned (.int .i64 (B.length : Nat)) ∧ w' = w := by
  obtain ⟨f, C, h⟩ := h
  have x2 := h.box.cell 2 rfl
  clear h
  go_enter Try.func14, Try.ntmps14
  go_wp2
  go_ret
  exact ⟨rfl, rfl⟩
theorem room_nil (w : World) : Calls Try.prog 15 #[.pointer none] w fun e w' => e = .returned (.int .i64 0) ∧ w' = w := by
  go_enter Try.func15, Try.ntmps15
  go_wp2
  go_ret
  exact ⟨rfl, rfl⟩
theorem room_any {w : World} {rb pb n : Nat} {B : List UInt8} (h : RingAt w rb pb n B) : Calls Try.prog 15 #[.pointer (some ⟨rb, 0, none⟩)] w fun e w' => e = .returned (.int .i64 ((n : Int) - (B.length : Int))) ∧ ∃ q, w' = w.drewN q := by
  obtain ⟨f, C, h⟩ := h
  have x0 := h.box.cell 0 rfl
  have x2 := h.box.cell 2 rfl
  have h1 := h.few
  have h2 := h.most
  clear h
  go_enter Try.func15, Try.ntmps15
  go_wp2
  go_quiet (fail)
  go_wp2
  go_ret
  exact ⟨rfl, _, rfl⟩
theorem clear_nil (w : World) : Calls Try.prog 11 #[.pointer none] w fun e w' => e = .returned (.tuple #[]) ∧ w' = w := by
  go_enter Try.func11, Try.ntmps11
  go_wp2
  go_end0
  exact ⟨rfl, rfl⟩
theorem clear_any {w : World} {rb pb n : Nat} {B : List UInt8} (h : RingAt w rb pb n B) : Calls Try.prog 11 #[.pointer (some ⟨rb, 0, none⟩)] w fun e w' => e = .returned (.tuple #[]) ∧ RingAt w' rb pb n [] ∧ Two rb pb w w' := by
  obtain ⟨f, C, h⟩ := h
  have x2 := h.box.cell 2 rfl
  have fr := h.box.free 2
  have HK : Hid (RingAt (w.setCell ⟨rb, 2, none⟩ (.int .i64 0)) rb pb n [] ∧ Two rb pb w (w.setCell ⟨rb, 2, none⟩ (.int .i64 0))) := ⟨⟨f, C, h.clear⟩, two_one (but_set _ _ _ _)⟩
  clear h
  go_enter Try.func11, Try.ntmps11
  go_wp2
  go_end0
  exact ⟨rfl, HK.out⟩
theorem place_any {w : World} {rb pb n f : Nat} {C B : List UInt8} (h : RingM w rb pb n f C B) (i : Nat) (hi : i ≤ 4096) : Calls Try.prog 17 #[.pointer (some ⟨rb, 0, none⟩), .int .i64 (i : Int)] w fun e w' => e = .returned (.int .i64 (((f + i) % n : Nat) : Int)) ∧ ∃ q, w' = w.drewN q := by
  have x0 := h.box.cell 0 rfl
  have x1 := h.box.cell 1 rfl
  have h1 := h.pos
  have h2 := h.most
  have hn : ¬ (n : Int) = 0 := by omega
  have hnn : ¬ n = 0 := by omega
  have hm : Int.tmod ((f : Int) + (i : Int)) (n : Int) = (((f + i) % n : Nat) : Int) := by
    rw [← Int.natCast_add, Int.tmod_eq_emod_of_nonneg (by omega)]
    rfl
  have hlt : (f + i) % n < n := Nat.mod_lt _ (by omega)
  clear h
  generalize (f + i) % n = r at *
  go_enter Try.func17, Try.ntmps17
  go_wp2
  go_quiet (fail)
  go_wp2
  go_ret
  exact ⟨by go_num, _, rfl⟩

end Go.Proofs.Ytfdpiinkjgepkaa.B
