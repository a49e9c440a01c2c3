/- The reference of layer 4 in memory: has, Need, Blocks, Read. -/
import Derived.Test.YtigkelcmiknfjaaProg
import Derived.Test.YtigkelcmiknfjaaGKd
namespace Go.Proofs.Ytigkelcmiknfjaa
open Go Go.RowKit

def byteV (c : UInt8) : Value := .int .u8 (c.toNat : Int)
abbrev bytesV (l : List UInt8) : List Value := l.map byteV
abbrev boolsV (l : List Bool) : List Value := l.map Value.bool
theorem bytesV_get {l : List UInt8} {j : Nat} (h : j < l.length) : (bytesV l)[j]? = some (.int .u8 ((l.getD j 0).toNat : Int)) := by simp [byteV, List.getD, h]
theorem boolsV_get {l : List Bool} {j : Nat} (h : j < l.length) : (boolsV l)[j]? = some (.bool (l.getD j false)) := by simp [List.getD, h]

theorem elemByte : ElemOk Try.prog 25 5 (.int .u8 0) 1 := ⟨Try.underlying25, by kernel_rfl, rfl, by decide⟩
theorem elemBool : ElemOk Try.prog 26 4 (.bool false) 1 := ⟨Try.underlying26, by kernel_rfl, rfl, by decide⟩
theorem infoRef : (Try.prog.info? 28).map (·.size) = some 2 := by kernel_rfl

/-- How many blocks from k0 on below k a file has not. -/
def cnt (H : List Bool) (k0 : Nat) : Nat → Nat
  | 0 => 0
  | k + 1 => cnt H k0 k + (if k0 ≤ k ∧ H.getD k false = false then 1 else 0)
theorem cnt_zero (H : List Bool) (k0 : Nat) : ∀ k, k ≤ k0 → cnt H k0 k = 0
  | 0, _ => rfl
  | k + 1, h => by rw [cnt, cnt_zero H k0 k (by omega), if_neg (by omega)]
theorem cnt_has {H : List Bool} {k0 k : Nat} (h : H.getD k false = true) : cnt H k0 (k + 1) = cnt H k0 k := by rw [cnt, if_neg (by rw [h]; simp)]; rfl
theorem cnt_not {H : List Bool} {k0 k : Nat} (hk : k0 ≤ k) (h : H.getD k false = false) : cnt H k0 (k + 1) = cnt H k0 k + 1 := by rw [cnt, if_pos ⟨hk, h⟩]
theorem cnt_le (H : List Bool) (k0 : Nat) : ∀ k, cnt H k0 k ≤ k
  | 0 => Nat.le_refl _
  | k + 1 => by
    have := cnt_le H k0 k
    rw [cnt]
    split <;> omega
/-- Places that a file can't have. -/
def outOf (off n : Int) : Bool := decide (off < 0) || decide (n < 1) || decide (65536 < off) || decide (65536 - off < n)
def needN (H : List Bool) (off n : Int) : Nat := if outOf off n then 0 else cnt H (off.toNat / 64) ((off.toNat + n.toNat + 63) / 64)

set_option maxRecDepth 100000 in
set_option maxHeartbeats 1000000 in
theorem has_any (p q : Option Addr) (c d n : Nat) (H : List Bool) (k : Nat) (w : World) (_hk : k ≤ 9000000000) (_hH : H.length ≤ 9000000000) (h : At w q (boolsV H)) :
    Calls Try.prog 26 #[.agg #[.slice p n c, .slice q H.length d], .int .i64 k] w fun e w' => e = .returned (.bool (H.getD k false)) ∧ Below w.heap.size w w' := by
  have HB : Hid (Below w.heap.size w (w.alloc (.cells #[.slice p n c, .slice q H.length d] 28))) := on_alloc w _
  by_cases hlt : k < H.length
  · have hltz : (k : Int) < (H.length : Int) := by omega
    obtain ⟨b, off, rfl, _, hb, hc⟩ := h.place (k := k) (by simpa using hlt)
    have hck := (HB.out.cell (p := ⟨b, off + k, none⟩) hb).trans (hc k _ (boolsV_get hlt))
    generalize H.getD k false = r at *
    clear h hc
    go_enter Try.func26, Try.ntmps26
    go_wp2
    go_ret
    exact ⟨rfl, HB.out⟩
  · have hltz : ¬ (k : Int) < (H.length : Int) := by omega
    have e : H.getD k false = false := by simp [List.getD, show H.length ≤ k by omega]
    rw [e]
    clear h e
    go_enter Try.func26, Try.ntmps26
    go_wp2
    go_ret
    exact ⟨rfl, HB.out⟩

/-- How many there are. -/
def many (H : List Bool) : Nat := H.countP id
theorem many_snoc {H : List Bool} {k : Nat} (h : k < H.length) : many (H.take (k + 1)) = many (H.take k) + (if H.getD k false then 1 else 0) := by
  unfold many
  rw [List.take_add_one, List.countP_append]
  simp only [List.getD, List.getElem?_eq_getElem h, Option.toList_some, Option.getD_some]
  cases H[k] <;> rfl
theorem many_le (H : List Bool) : many H ≤ H.length := List.countP_le_length

set_option maxRecDepth 100000 in
set_option maxHeartbeats 1000000 in
theorem blocks_any (p q : Option Addr) (c d n : Nat) (H : List Bool) (w : World) (hH : H.length ≤ 9000000000) (h : At w q (boolsV H)) :
    Calls Try.prog 23 #[.agg #[.slice p n c, .slice q H.length d]] w fun e w' => e = .returned (.int .i64 (many H : Nat)) ∧ Below w.heap.size w w' := by
  have HB : Hid (Below w.heap.size w (w.alloc (.cells #[.slice p n c, .slice q H.length d] 28))) := on_alloc w _
  have HX : Hid (Blk (w.alloc (.cells #[.slice p n c, .slice q H.length d] 28)) w.heap.size 28 [.slice p n c, .slice q H.length d]) := Blk.new w _ [.slice p n c, .slice q H.length d]
  have HA : Hid (At (w.alloc (.cells #[.slice p n c, .slice q H.length d] 28)) q (boolsV H)) := h.on HB.out
  clear h
  go_enter Try.func23, Try.ntmps23
  go_wp2
  generalize w.alloc (.cells #[.slice p n c, .slice q H.length d] 28) = w0 at *
  have x1 := HX.out.cell 1 rfl
  go_loop [3, 4] (fun s i => ∃ k : Nat, k ≤ H.length ∧ i = .int .i64 k ∧ s = .int .i64 (many (H.take k) : Nat)) (fun _ i => H.length - (intOf i).toNat)
  case atStart => exact ⟨0, Nat.zero_le _, rfl, rfl⟩
  case round =>
    obtain ⟨k, hk, rfl, rfl⟩ := hrel
    have hml := many_le (H.take k)
    have hml2 : (H.take k).length ≤ H.length := by simp; omega
    by_cases hlt : k < H.length
    · have hltz : (k : Int) < (H.length : Int) := by omega
      obtain ⟨b, off, hp, _, hb, hc⟩ := HA.out.place (k := k) (by simpa using hlt)
      subst hp
      have hck := hc k _ (boolsV_get hlt)
      have HS : Hid (many (H.take (k + 1)) = many (H.take k) + (if H.getD k false then 1 else 0)) := many_snoc hlt
      clear hc
      cases hr : H.getD k false with
      | true =>
        rw [hr] at hck HS
        have HS2 : Hid (many (H.take (k + 1)) = many (H.take k) + 1) := HS.out
        clear HS hr
        generalize many (H.take k) = mk at *
        go_wp2
        go_round
        case rel => exact ⟨k + 1, by omega, by go_num, by rw [HS2.out]; go_num⟩
        case measure => simp [intOf]; omega
      | false =>
        rw [hr] at hck HS
        have HS2 : Hid (many (H.take (k + 1)) = many (H.take k)) := HS.out
        clear HS hr
        generalize many (H.take k) = mk at *
        go_wp2
        go_round
        case rel => exact ⟨k + 1, by omega, by go_num, by rw [HS2.out]⟩
        case measure => simp [intOf]; omega
    · obtain rfl : k = H.length := by omega
      have hltz : ¬ (H.length : Int) < (H.length : Int) := by omega
      rw [List.take_length]
      go_wp2
      go_ret
      exact ⟨rfl, HB.out⟩

end Go.Proofs.Ytigkelcmiknfjaa
