/- CallsTable, walked. -/
import Derived.Test.YtelbmnjcejajiaaDoorCLives
import Derived.Test.YtelbmnjcejajiaaDoorCRefGet
import Derived.Test.YtelbmnjcejajiaaDoorCRefGroup
namespace Go.Proofs.YtelbmnjcejajiaaDoor.C
open Go Go.RowKit

/-- The program's Get and the reference's, and Group's, tell the same. -/
theorem get_both (no : Int) : ∃ (a b : ByteArray) (c d e : Int) (ok : Bool) (g : ByteArray),
    (∀ w, Nm w ∧ Sp w → Calls Tryd.prog 8 #[.int .i64 no] w fun r W => r = .returned (.tuple #[.agg #[.string a, .string b, .int .i64 c, .int .u32 d, .int .u32 e], .bool ok]) ∧ Below w.heap.size w W) ∧
    (∀ w, Calls Tryd.prog 9 #[.int .i64 no] w fun r W => r = .returned (.tuple #[.agg #[.string a, .string b, .int .i64 c, .int .u32 d, .int .u32 e], .bool ok]) ∧ Below w.heap.size w W) ∧
    (∀ w, Nm w ∧ Sp w → Calls Tryd.prog 10 #[.int .i64 no] w fun r W => r = .returned (.string g) ∧ Below w.heap.size w W) ∧
    (∀ w, Calls Tryd.prog 11 #[.int .i64 no] w fun r W => r = .returned (.string g) ∧ W = w) := by
  by_cases h : ∃ k : Fin 64, (k.val : Int) + 1 = no
  · obtain ⟨k, rfl⟩ := h
    refine ⟨byt (cname k), byt (cshape k), cgate k, cneed0 k, cneed1 k, true, byt (cgroup k), fun w ht => get_at k w ht.2 ht.1, fun w => rget_at k w, fun w ht => group_at k w ht.2, fun w => ?_⟩
    have := rgroup_any ((k.val : Int) + 1) w
    rw [grp_at] at this
    exact this
  · have hno : ∀ k : Fin 64, (k.val : Int) + 1 ≠ no := fun k hk => h ⟨k, hk⟩
    refine ⟨⟨#[]⟩, ⟨#[]⟩, 0, 0, 0, false, ⟨#[]⟩, fun w ht => get_no no hno w ht.2, fun w => rget_no no hno w, fun w ht => group_no no hno w ht.2, fun w => ?_⟩
    have := rgroup_any no w
    rw [grp_no hno] at this
    exact this

set_option maxRecDepth 100000 in
set_option maxHeartbeats 1000000 in
theorem table_walk (no : Int) (_ : -9223372036854775808 ≤ no) (_ : no ≤ 9223372036854775807) (w : World) (ht : Nm w ∧ Sp w) :
    Calls Tryd.prog 3 #[.int .i64 no] w fun e W => e = .returned (.bool true) ∧ Below w.heap.size w W := by
  obtain ⟨a, b, c, d, e, ok, g, c1, c2, c3, c4⟩ := get_both no
  have HT : Hid (∀ W, Below w.heap.size w W → Nm W ∧ Sp W) := fun W h => ⟨ht.1.below h, ht.2.below h⟩
  have q1 := c1 w ht
  have q3 := fun W (h : Below w.heap.size w W) => c3 W (HT.out W h)
  have cL := fun W (h : Below w.heap.size w W) => lives_any W (HT.out W h).2 (HT.out W h).1
  have heq := fun w => eq_call a b c d e w
  clear c1 c3
  go_enter Tryd.func3, Tryd.ntmps3
  go_wp2_with (first | (go_at_call 8; refine q1.mono ?_; rintro e W1 ⟨rfl, hb1⟩; have k1 := Blk.new W1 26 [.string a, .string b, .int .i64 c, .int .u32 d, .int .u32 e]; have hb2 := hb1.alloc hb1.size (.cells #[.string a, .string b, .int .i64 c, .int .u32 d, .int .u32 e] 26)) | (go_at_call 9; refine (c2 _).mono ?_; rintro e W3 ⟨rfl, hb3⟩; have k3 := (k1.on hb3).alloc (.cells #[.string a, .string b, .int .i64 c, .int .u32 d, .int .u32 e] 26); have x0 := k3.cell 0 rfl; have x1 := k3.cell 1 rfl; have x2 := k3.cell 2 rfl; have x3 := k3.cell 3 rfl; have x4 := k3.cell 4 rfl; have hb4 := (hb2.trans (hb3.mono hb2.size)).alloc (Nat.le_trans hb2.size hb3.size) (.cells #[.string a, .string b, .int .i64 c, .int .u32 d, .int .u32 e] 26)) | (go_at_call 10; refine (q3 _ hb4).mono ?_; rintro e W5 ⟨rfl, hb5⟩; have hb6 := hb4.trans (hb5.mono hb4.size)) | (go_at_call 11; refine (c4 _).mono ?_; rintro e W7 ⟨rfl, rfl⟩) | (go_at_call 12; refine (cL _ hb6).mono ?_; rintro e W8 ⟨rfl, hb8⟩))
  go_ret
  exact ⟨rfl, hb6.trans (hb8.mono hb6.size)⟩

end Go.Proofs.YtelbmnjcejajiaaDoor.C
