/- The law's lives. -/
import Derived.Test.YtigkelcmiknfjaaSRead
import Derived.Test.YtigkelcmiknfjaaSWrt
import Derived.Laws.IdiomStrings
import Derived.Laws.BytesArg
import Derived.Lib.SlBytesConst
namespace Go.Proofs.Ytigkelcmiknfjaa
open Go Go.RowKit Go.Maps

/-- A slice of bytes as a text. -/
theorem text_of {w : World} {p : Option Addr} {c : Nat} {l : List UInt8} (hl : l.length ≤ 1000000) (h : At w p (bytesV l)) : (convert 25 9 (.slice p l.length c)).run Try.prog w = .ok (.string ⟨l.toArray⟩) w := by
  cases p with
  | none =>
    obtain rfl : l = [] := by
      rcases h with e | ⟨b, off, e, _⟩
      · simpa using e
      · cases e
    exact run_convert_bytes_nil w 25 5 Try.underlying25 Try.underlying5 _ _ _ Try.underlying9
  | some a =>
    refine run_convert_bytes_back w 25 9 5 a c l Try.underlying25 Try.underlying5 Try.underlying9 fun j hj => ?_
    refine at_news h j _ ?_
    rw [bytesV_get hj]
    simp [List.getD, hj]

set_option maxRecDepth 100000 in
set_option maxHeartbeats 1000000 in
theorem lives_any (w : World) : Calls Try.prog 12 #[] w fun e w' => e = .returned (.bool true) ∧ Below w.heap.size w w' := by
  have hnew := new_any w
  obtain ⟨fb, hfb0⟩ : ∃ fb, w.heap.size = fb := ⟨_, rfl⟩
  rw [hfb0] at hnew ⊢
  clear hfb0
  go_enter Try.func12, Try.ntmps12
  go_wp2_with fail
  refine hnew.mono ?_
  rintro e w1 ⟨rfl, f1, hb1⟩
  clear hnew
  have hb2 := on_alloc w1 (.cells #[.int .u8 120] 5 (1, 2))
  have f2 := f1.on hb2
  have hc2 : ∀ (j : Nat) v, (bytesV [120])[j]? = some v → (w1.alloc (.cells #[.int .u8 120] 5 (1, 2))).cell? ⟨w1.heap.size, 0 + j, none⟩ = some v := fun j v hj => by
    rw [cell_of_row _ _ _ _ _ _ (World.alloc_heap_new w1 _), Nat.zero_add]
    simpa [byteV] using hj
  have hlt := f1.lt f1.self
  have hwr := write_do fb 0 w1.heap.size 0 1 100 _ _ _ 1 [120] _ f2 (by omega) (by simp) (fun e => by omega) hc2 (by simp) (by simp) (by simp) (by decide)
  have hnd : needF (fun _ => false) 100 ([120] : List UInt8).length = 1 := by decide
  have hn1 : (([120] : List UInt8)).length = 1 := rfl
  simp only [hn1] at hnd hwr
  rw [show ((100 : Nat) : Int) = 100 from rfl, hnd] at hwr
  have HB1 : Hid (Below fb w w1) := hb1
  have HB2 : Hid (Below w1.heap.size w1 (w1.alloc (.cells #[.int .u8 120] 5 (1, 2)))) := hb2
  have hcv := fun (w : World) (C : Array Value) (n c : Nat) => Lib.run_convert_bytes_const (P := Try.prog) w 25 5 C n c Try.underlying25 Try.underlying5
  have hfb : Hid (fb ≤ w1.heap.size) := Nat.le_of_lt hlt
  clear f1 f2 hb1 hb2 hc2
  go_wp2_with fail
  refine hwr.mono ?_
  rintro e w2 ⟨rfl, F', f3, hg⟩
  have hsize := size_any (.pointer (some ⟨fb, 0, none⟩)) _ _ _ w2 (.inr ⟨fb, F', rfl, f3⟩)
  have hread := read_any (.pointer (some ⟨fb, 0, none⟩)) _ _ _ 99 5 w2 (.inr ⟨fb, F', rfl, f3⟩) (by omega)
  have HB3 : Hid (Below fb w w2) := (hg.below (base := fb) (HB1.out.trans (HB2.out.mono hfb.out)) (fun x hx => by omega) (by have := hfb.out; simp; omega)).1
  have hfb2 : Hid (fb ≤ w2.heap.size) := Nat.le_trans hfb.out (Nat.le_trans HB2.out.size hg.foot.size)
  clear hwr f3 hg
  go_wp2_with fail
  refine hsize.mono ?_
  rintro e w3 ⟨rfl, rfl⟩
  rw [show readF (max 0 (100 + 1)) (putC (fun _ => 0) 100 [120] 1) 99 5 = [0, 120] by decide] at hread
  go_wp2_with fail
  refine hread.mono ?_
  rintro e w4 ⟨p, c, rfl, hat, hc, hb4⟩
  have htx : (convert 25 9 (.slice p 2 c)).run Try.prog w4 = .ok (.string ⟨#[0, 120]⟩) w4 := text_of (l := [0, 120]) (c := c) (by simp) hat.at
  have HB5 : Hid (Below fb w w4) := HB3.out.trans (hb4.mono hfb2.out)
  clear hread hsize hat hb4 hc
  go_wp2
  go_ret
  exact ⟨rfl, HB5.out⟩

end Go.Proofs.Ytigkelcmiknfjaa
