/- CallsGlobal, walked. -/
import Derived.Test.YtelbmnjcejajiaaDoorCLives
namespace Go.Proofs.YtelbmnjcejajiaaDoor.C
open Go Go.RowKit

theorem shape_fine : ∀ k : Fin 64, cgate k = 0 → ∀ x ∈ cshape k, x ≠ 83 ∧ x ≠ 84 ∧ x ≠ 100 := by decide +kernel
theorem gate_zero (k : Fin 64) : gateE (cgate k) (-100) true = 0 ↔ cgate k = 0 := by
  revert k; decide +kernel

set_option maxRecDepth 100000 in
set_option maxHeartbeats 1000000 in
theorem global_no (no : Int) (hno : ∀ k : Fin 64, (k.val : Int) + 1 ≠ no) (w : World) (ht : Nm w ∧ Sp w) :
    Calls Tryd.prog 7 #[.int .i64 no] w fun e W => e = .returned (.bool true) ∧ Below w.heap.size w W := by
  have c1 : Calls Tryd.prog 8 #[.int .i64 no] w fun e W => e = .returned (.tuple #[.agg #[.string ⟨#[]⟩, .string ⟨#[]⟩, .int .i64 0, .int .u32 0, .int .u32 0], .bool false]) ∧ Below w.heap.size w W := get_no no hno w ht.2
  have cL := fun W (h : Below w.heap.size w W) => lives_any W (ht.2.below h) (ht.1.below h)
  clear hno
  go_enter Tryd.func7, Tryd.ntmps7
  go_wp2_with (first | (go_at_call 8; refine c1.mono ?_; rintro e W1 ⟨rfl, hb1⟩; have hb2 := hb1.alloc hb1.size (.cells #[.string ⟨#[]⟩, .string ⟨#[]⟩, .int .i64 0, .int .u32 0, .int .u32 0] 26)) | (go_at_call 12; refine (cL _ hb2).mono ?_; rintro e W3 ⟨rfl, hb3⟩))
  go_ret
  exact ⟨rfl, hb2.trans (hb3.mono hb2.size)⟩

set_option maxRecDepth 100000 in
set_option maxHeartbeats 1000000 in
theorem global_at (k : Fin 64) (w : World) (ht : Nm w ∧ Sp w) :
    Calls Tryd.prog 7 #[.int .i64 ((k.val : Int) + 1)] w fun e W => e = .returned (.bool true) ∧ Below w.heap.size w W := by
  have c1 : Calls Tryd.prog 8 #[.int .i64 ((k.val : Int) + 1)] w fun e W => e = .returned (.tuple #[.agg #[.string (byt (cname k)), .string (byt (cshape k)), .int .i64 (cgate k), .int .u32 (cneed0 k : Int), .int .u32 (cneed1 k : Int)], .bool true]) ∧ Below w.heap.size w W := get_at k w ht.2 ht.1
  have c2 := fun W (h : Below w.heap.size w W) => gate_at k (-100) true W (ht.2.below h) (ht.1.below h)
  have cL := fun W (h : Below w.heap.size w W) => lives_any W (ht.2.below h) (ht.1.below h)
  have HS : Hid (cgate k = 0 → ∀ x ∈ cshape k, x ≠ 83 ∧ x ≠ 84 ∧ x ≠ 100) := shape_fine k
  have hz := gate_zero k
  have hsz : (byt (cshape k)).size ≤ 20 := by rw [byt_size]; exact (row_size k).2
  have HL : Hid (∀ (i : Nat) (hi : i < (byt (cshape k)).size), (byt (cshape k))[i] ∈ cshape k) := fun i hi => by
    have : (byt (cshape k)).data.toList[i]? = some (byt (cshape k))[i] := Lib.data_getElem? _ i hi
    rw [byt_list] at this
    exact List.mem_of_getElem? this
  obtain ⟨E, hE⟩ : ∃ E, gateE (cgate k) (-100) true = E := ⟨_, rfl⟩
  rw [hE] at c2 hz
  generalize byt (cname k) = nm at *
  generalize byt (cshape k) = sh at *
  generalize cgate k = gv at *
  generalize (cneed0 k : Int) = n0 at *
  generalize (cneed1 k : Int) = n1 at *
  clear hE
  go_enter Tryd.func7, Tryd.ntmps7
  by_cases hg : E = 0
  · subst hg
    have HG : Hid (gv = 0) := hz.1 rfl
    clear hz
    go_wp2_with (first | (go_at_call 8; refine c1.mono ?_; clear c1; rintro e W1 ⟨rfl, hb1⟩; have k1 := Blk.new W1 26 [.string nm, .string sh, .int .i64 gv, .int .u32 n0, .int .u32 n1]; have hb2 := hb1.alloc hb1.size (.cells #[.string nm, .string sh, .int .i64 gv, .int .u32 n0, .int .u32 n1] 26)) | (go_at_call 15; refine (c2 _ hb2).mono ?_; rintro e W3 ⟨rfl, hb3⟩; have hb4 := hb2.trans (hb3.mono hb2.size); have k3 := k1.on hb3; have x1 := k3.cell 1 rfl))
    have HB4 : Hid (Below w.heap.size w W3) := hb4
    have HL1 := hb4
    clear hb1 hb2 hb3 hb4 k1 k3 c2
    go_loop [5] (fun i => ∃ j : Nat, j ≤ sh.size ∧ i = .int .i64 j) (fun i => sh.size - (intOf i).toNat)
    case atStart => exact ⟨0, Nat.zero_le _, rfl⟩
    case round =>
      obtain ⟨j, hj, rfl⟩ := hrel
      by_cases hlt : j < sh.size
      · have hltz : (j : Int) < (sh.size : Int) := by omega
        have hm := HS.out HG.out _ (HL.out j hlt)
        obtain ⟨x, hx⟩ : ∃ x : UInt8, sh[j] = x := ⟨_, rfl⟩
        rw [hx] at hm
        have e1 : ((x.toNat : Int) == 83) = false := by rw [beq_eq_false_iff_ne]; exact fun e => hm.1 (UInt8.toNat_inj.1 (by show x.toNat = 83; omega))
        have e2 : ((x.toNat : Int) == 84) = false := by rw [beq_eq_false_iff_ne]; exact fun e => hm.2.1 (UInt8.toNat_inj.1 (by show x.toNat = 84; omega))
        have e3 : ((x.toNat : Int) == 100) = false := by rw [beq_eq_false_iff_ne]; exact fun e => hm.2.2 (UInt8.toNat_inj.1 (by show x.toNat = 100; omega))
        clear hm
        go_wp2
        exact ⟨⟨j + 1, by omega, by go_num⟩, by simp [intOf]; omega⟩
      · have hltz : ¬ (j : Int) < (sh.size : Int) := by omega
        go_wp2_with (go_at_call 12; refine (cL _ HL1).mono ?_; rintro e W5 ⟨rfl, hb5⟩)
        go_ret
        exact ⟨rfl, HB4.out.trans (hb5.mono HB4.out.size)⟩
  · have hg2 : (E != 0) = true := by simpa using hg
    clear hz HS HL hg
    go_wp2_with (first | (go_at_call 8; refine c1.mono ?_; clear c1; rintro e W1 ⟨rfl, hb1⟩; have hb2 := hb1.alloc hb1.size (.cells #[.string nm, .string sh, .int .i64 gv, .int .u32 n0, .int .u32 n1] 26)) | (go_at_call 15; refine (c2 _ hb2).mono ?_; rintro e W3 ⟨rfl, hb3⟩; have hb4 := hb2.trans (hb3.mono hb2.size)) | (go_at_call 12; refine (cL _ hb4).mono ?_; rintro e W5 ⟨rfl, hb5⟩))
    go_ret
    exact ⟨rfl, hb4.trans (hb5.mono hb4.size)⟩

theorem global_walk (no : Int) (_ : -9223372036854775808 ≤ no) (_ : no ≤ 9223372036854775807) (w : World) (ht : Nm w ∧ Sp w) :
    Calls Tryd.prog 7 #[.int .i64 no] w fun e W => e = .returned (.bool true) ∧ Below w.heap.size w W := by
  by_cases h : ∃ k : Fin 64, (k.val : Int) + 1 = no
  · obtain ⟨k, rfl⟩ := h
    exact global_at k w ht
  · exact global_no no (fun k hk => h ⟨k, hk⟩) w ht

end Go.Proofs.YtelbmnjcejajiaaDoor.C
