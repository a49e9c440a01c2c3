/- The law's lives; bytes as a text. -/
import Derived.Test.YtfdpiinkjgepkaaBPeek
import Derived.Test.YtfdpiinkjgepkaaBRef
import Derived.Laws.IdiomStrings
import Derived.Laws.BytesArg
import Derived.Lib.SlBytesConst
namespace Go.Proofs.Ytfdpiinkjgepkaa.B
open Go Go.RowKit

/-- A slice of bytes as a text. -/
theorem text_of {w : World} {p : Option Addr} {c : Nat} {l : List UInt8} (h : At w p (bytesV l)) : (convert 26 9 (.slice p l.length c)).run Try.prog w = .ok (.string ⟨l.toArray⟩) w := by
  cases p with
  | none =>
    obtain rfl : l = [] := by
      rcases h with e | ⟨b, off, e, _⟩
      · simpa using e
      · cases e
    exact run_convert_bytes_nil w 26 5 Try.underlying26 Try.underlying5 _ _ _ Try.underlying9
  | some a =>
    refine run_convert_bytes_back w 26 9 5 a c l Try.underlying26 Try.underlying5 Try.underlying9 fun j hj => ?_
    refine at_news h j _ ?_
    rw [bytesV_get hj]
    simp [List.getD, hj]

set_option maxRecDepth 100000 in
set_option maxHeartbeats 1000000 in
theorem lives_any (w : World) : Calls Try.prog 16 #[] w fun e w' => e = .returned (.bool true) ∧ Below w.heap.size w w' := by
  have hnew := new_in 3 w (by omega) (by omega)
  obtain ⟨fb, hfb0⟩ : ∃ fb, w.heap.size = fb := ⟨_, rfl⟩
  unfold NewPost at hnew
  rw [hfb0] at hnew ⊢
  clear hfb0
  go_enter Try.func16, Try.ntmps16
  go_wp2_with fail
  refine hnew.mono ?_
  rintro e w1 ⟨rb, pb, rfl, h1, hb1, hrb, hpb⟩
  clear hnew
  obtain ⟨hl1, hl2⟩ := h1.lt
  have hb2 := on_alloc w1 (.cells #[.int .u8 97, .int .u8 98, .int .u8 99, .int .u8 100] 5 (4, 5))
  have hat : AtF w1.heap.size (w1.alloc (.cells #[.int .u8 97, .int .u8 98, .int .u8 99, .int .u8 100] 5 (4, 5))) (some ⟨w1.heap.size, 0, none⟩) (bytesV [97, 98, 99, 100]) :=
    .inr ⟨w1.heap.size, 0, rfl, Nat.le_refl _, by simp, fun j v hj => by
      rw [cell_of_row _ _ _ _ _ _ (World.alloc_heap_new w1 _), Nat.zero_add]
      simpa [byteV] using hj⟩
  have hput := put_any (h1.on hb2) _ 4 [97, 98, 99, 100] hl1 hl2 hat (by simp)
  have HB2 : Hid (Below fb w (w1.alloc (.cells #[.int .u8 97, .int .u8 98, .int .u8 99, .int .u8 100] 5 (4, 5))) ∧ fb ≤ w1.heap.size) := ⟨hb1.trans (hb2.mono (by omega)), by omega⟩
  have hcv := fun (w : World) (C : Array Value) (n c : Nat) => Lib.run_convert_bytes_const (P := Try.prog) w 26 5 C n c Try.underlying26 Try.underlying5
  clear h1 hb1 hb2 hat
  go_wp2_with fail
  refine hput.mono ?_
  rintro e w2 ⟨rfl, h2, t2⟩
  clear hput
  have hw2 : fb ≤ w2.heap.size := by
    have h7 := t2.size
    have h8 := HB2.out.2
    rw [World.size_alloc] at h7
    omega
  have HB3 : Hid (Below fb w w2) := t2.below HB2.out.1 hrb hpb (by have := HB2.out.2; simp; omega)
  have htk := take_any h2 2
  have e1 : (([] : List UInt8) ++ ([97, 98, 99, 100] : List UInt8).take (3 - ([] : List UInt8).length)) = [97, 98, 99] := rfl
  have e2 : (([97, 98, 99, 100] : List UInt8).take (3 - ([] : List UInt8).length)).length = 3 := rfl
  rw [e1] at htk
  rw [e2]
  clear h2 t2 e1 e2
  go_wp2_with fail
  refine htk.mono ?_
  rintro e w3 ⟨v, rfl, ho3, h3, t3⟩
  clear htk
  have HB4 : Hid (Below fb w w3) := t3.below HB3.out hrb hpb hw2
  have hw3 : fb ≤ w3.heap.size := Nat.le_trans hw2 t3.size
  obtain ⟨p, c, rfl, hat3, _⟩ := ownV_at ho3
  have htx : (convert 26 9 (.slice p 2 c)).run Try.prog w3 = .ok (.string ⟨#[97, 98]⟩) w3 := text_of (l := [97, 98]) (c := c) hat3.at
  have hrm := room_any h3
  have hll : (bytesV (([97, 98, 99] : List UInt8).take (2 : Int).toNat)).length = 2 := rfl
  have hl3 : ((3 : Nat) : Int) - ((([97, 98, 99] : List UInt8).drop (2 : Int).toNat).length : Int) = 2 := rfl
  rw [hl3] at hrm
  rw [hll]
  have HR3 : Hid (RingAt w3 rb pb 3 (([97, 98, 99] : List UInt8).drop (2 : Int).toNat)) := h3
  clear ho3 h3 t3 hat3 hll hl3
  go_wp2_with fail
  refine hrm.mono ?_
  rintro e w4 ⟨rfl, q, rfl⟩
  clear hrm
  have hln := len_any (HR3.out.drewN q)
  have hl4 : (([97, 98, 99] : List UInt8).drop (2 : Int).toNat).length = 1 := rfl
  rw [hl4] at hln
  clear HR3 hl4
  go_wp2_with fail
  refine hln.mono ?_
  rintro e w5 ⟨rfl, rfl⟩
  go_wp2
  go_ret
  exact ⟨rfl, HB4.out.trans (on_drewN (Below.refl _ _) q |>.mono hw3)⟩

end Go.Proofs.Ytfdpiinkjgepkaa.B
