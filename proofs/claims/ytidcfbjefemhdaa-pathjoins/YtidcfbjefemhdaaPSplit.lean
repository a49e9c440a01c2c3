/- What path.split answers: the parts of a text. -/
import Derived.Test.YtidcfbjefemhdaaPCut
namespace Go.Proofs.Ytidcfbjefemhdaa
open Go Go.RowKit

theorem cut_slash {s : ByteArray} {k : Nat} (h : byteAt s k = 47) : stAt s (k + 1) = (k + 1, cutPs s (stAt s k).1 k (stAt s k).2) := st_slash h
theorem cut_end (s : ByteArray) : partsOf s = cutPs s (stAt s s.size).1 s.size (stAt s s.size).2 := rfl

theorem byte_ne {s : ByteArray} {k : Nat} (h : byteAt s k ≠ 47) : (((byteAt s k).toNat : Int) == 47) = false := by
  rw [beq_eq_false_iff_ne]
  intro e
  have : (byteAt s k).toNat = 47 := by omega
  exact h (UInt8.toNat_inj.1 (this.trans (by rfl)))
theorem byte_nz {s : ByteArray} {k : Nat} (h : byteAt s k ≠ 0) : (((byteAt s k).toNat : Int) == 0) = false := by
  rw [beq_eq_false_iff_ne]
  intro e
  have : (byteAt s k).toNat = 0 := by omega
  exact h (UInt8.toNat_inj.1 (this.trans (by rfl)))

/-- A slice is returned that reads as a list, in a block not older than the call. -/
def RetSl (w : World) (l : List ByteArray) (e : Ending) (w' : World) : Prop := Below w.heap.size w w' ∧ ∃ p c, e = .returned (.slice p l.length c) ∧ AtF w.heap.size w' p l ∧ l.length ≤ c
/-- A path is returned. -/
def RetPa (w : World) (a d : Bool) (l : List ByteArray) (e : Ending) (w' : World) : Prop := Below w.heap.size w w' ∧ ∃ p c, e = .returned (.agg #[.bool a, .bool d, .slice p l.length c]) ∧ AtF w.heap.size w' p l ∧ l.length ≤ c
/-- A path is returned, and an error. -/
def RetPe (w : World) (a d : Bool) (l : List ByteArray) (n : Int) (e : Ending) (w' : World) : Prop := Below w.heap.size w w' ∧ ∃ p c, e = .returned (.tuple #[.agg #[.bool a, .bool d, .slice p l.length c], .int .i64 n]) ∧ AtF w.heap.size w' p l ∧ l.length ≤ c

def SplitSt (w : World) (s : ByteArray) (k : Nat) (W : World) : Prop :=
  ∃ v, One W w.heap.size 9 (.string s) ∧ One W (w.heap.size + 1) 22 v ∧ One W (w.heap.size + 1 + 1) 3 (.int .i64 ((stAt s k).1 : Nat)) ∧ OwnL (w.heap.size + 1 + 1 + 1) W v (stAt s k).2 ∧ Below w.heap.size w W

theorem splitSt_cut {w W : World} {s : ByteArray} {k : Nat} (h : SplitSt w s k W) (hk : k ≤ s.size) (hs : s.size ≤ 256) :
    Calls Try.prog 37 #[.int .i64 k, .pointer (some ⟨w.heap.size + 1 + 1, 0, none⟩), .pointer (some ⟨w.heap.size + 1, 0, none⟩), .pointer (some ⟨w.heap.size, 0, none⟩)] W fun e w' => e = .returned (.tuple #[]) ∧
      CutPost w.heap.size (w.heap.size + 1 + 1 + 1) w.heap.size (w.heap.size + 1) (w.heap.size + 1 + 1) s k (cutPs s (stAt s k).1 k (stAt s k).2) W w' := by
  obtain ⟨v, h0, h1, h2, ho, hB⟩ := h
  have := st_len s k
  exact cut_any w.heap.size (w.heap.size + 1 + 1 + 1) w.heap.size (w.heap.size + 1) (w.heap.size + 1 + 1) s (stAt s k).1 k v (stAt s k).2 W h0 h1 h2 ho (by omega) (by omega) (by omega) (by omega) (by omega) (by omega) h2.lt (by omega) (by omega)
    (st_le s k) hk (by omega) (by omega)

theorem splitSt_next {w W W' : World} {s : ByteArray} {k : Nat} (h : SplitSt w s k W) (hc : byteAt s k = 47)
    (p : CutPost w.heap.size (w.heap.size + 1 + 1 + 1) w.heap.size (w.heap.size + 1) (w.heap.size + 1 + 1) s k (cutPs s (stAt s k).1 k (stAt s k).2) W W') : SplitSt w s (k + 1) W' := by
  obtain ⟨_, _, _, _, _, hB⟩ := h
  obtain ⟨v, h0, h1, h2, ho, hb⟩ := p
  have e := cut_slash hc
  refine ⟨v, h0, h1, ?_, ?_, hB.trans hb⟩
  · rw [e]; exact h2
  · rw [e]; exact ho
theorem splitSt_stay {w W : World} {s : ByteArray} {k : Nat} (h : SplitSt w s k W) (hc : byteAt s k ≠ 47) : SplitSt w s (k + 1) W := by
  unfold SplitSt
  rw [st_other hc]
  exact h

set_option maxRecDepth 100000 in
set_option maxHeartbeats 4000000 in
theorem split_any (s : ByteArray) (w : World) (hs : s.size ≤ 256) :
    Calls Try.prog 25 #[.string s] w (RetSl w (partsOf s)) := by
  have b0 := ((One.new w 9 (.string s)).alloc (.cells #[.slice none 0 0] 22)).alloc (.cells #[.int .i64 0] 3)
  have b1 := (One.new (w.alloc (.cells #[.string s] 9)) 22 (.slice none 0 0)).alloc (.cells #[.int .i64 0] 3)
  have b2 := One.new ((w.alloc (.cells #[.string s] 9)).alloc (.cells #[.slice none 0 0] 22)) 3 (.int .i64 0)
  have hB := on_trans (on_trans (on_alloc w (.cells #[.string s] 9)) (on_alloc _ (.cells #[.slice none 0 0] 22))) (on_alloc _ (.cells #[.int .i64 0] 3))
  simp only [World.size_alloc] at b1 b2
  have HS0 : Hid (SplitSt w s 0 (((w.alloc (.cells #[.string s] 9)).alloc (.cells #[.slice none 0 0] 22)).alloc (.cells #[.int .i64 0] 3))) := ⟨_, b0, b1, b2, ownL_nil _ _, hB⟩
  have HB0 : Hid (One _ w.heap.size 9 (.string s)) := b0
  clear b0 b1 b2 hB
  go_enter Try.func25, Try.ntmps25
  go_wp2
  generalize ((w.alloc (.cells #[.string s] 9)).alloc (.cells #[.slice none 0 0] 22)).alloc (.cells #[.int .i64 0] 3) = w0 at *
  clear HB0
  go_loopw [10] (fun i wr => ∃ k : Nat, i = .int .i64 k ∧ k ≤ s.size ∧ Hid (SplitSt w s k wr)) (fun i _ => s.size - (intOf i).toNat)
  case atStart => exact ⟨0, rfl, Nat.zero_le _, HS0⟩
  case round =>
    obtain ⟨k, rfl, hk, HS⟩ := hrel
    by_cases hlt : k < s.size
    · have hltz : (k : Int) < (s.size : Int) := by omega
      have hc0 : wr.cell? ⟨w.heap.size, 0, none⟩ = some (.string s) := by obtain ⟨_, h0, _⟩ := HS.out; exact h0.cell
      have hix := idx_str s k hlt
      have cC := splitSt_cut HS.out hk hs
      by_cases hc : byteAt s k = 47
      · have HN := fun W' => splitSt_next (W' := W') HS.out hc
        have HN' : Hid (∀ W', _ → SplitSt w s (k + 1) W') := HN
        have hcq : (((byteAt s k).toNat : Int) == 47) = true := by rw [hc]; rfl
        generalize (byteAt s k).toNat = c at *
        clear hc HN
        go_wp2_with fail
        refine cC.mono ?_
        rintro e w1 ⟨rfl, hp⟩
        have HP : Hid (SplitSt w s (k + 1) w1) := HN'.out w1 hp
        clear hp HN' cC HS
        go_wp2
        go_roundw
        case rel => exact ⟨k + 1, by go_num, by omega, HP⟩
        case measure => simp [intOf]; omega
      · have HN : Hid (SplitSt w s (k + 1) wr) := splitSt_stay HS.out hc
        have hcq : (((byteAt s k).toNat : Int) == 47) = false := byte_ne hc
        generalize (byteAt s k).toNat = c at *
        clear hc cC
        go_wp2
        go_roundw
        case rel => exact ⟨k + 1, by go_num, by omega, HN⟩
        case measure => simp [intOf]; omega
    · obtain rfl : k = s.size := by omega
      have hltz : ¬ (s.size : Int) < (s.size : Int) := by omega
      have hc0 : wr.cell? ⟨w.heap.size, 0, none⟩ = some (.string s) := by obtain ⟨_, h0, _⟩ := HS.out; exact h0.cell
      have cC := splitSt_cut HS.out hk hs
      have HB : Hid (Below w.heap.size w wr) := by obtain ⟨_, _, _, _, _, h⟩ := HS.out; exact h
      rw [← cut_end] at cC
      clear HS
      generalize partsOf s = ps at *
      go_wp2_with fail
      refine cC.mono ?_
      rintro e w1 ⟨rfl, v, h0, h1, h2, ho, hb⟩
      have c1 := h1.cell
      obtain ⟨p, c, rfl, hat, hcc⟩ := ownL_at ho
      have HAT : Hid (AtF w.heap.size w1 p ps) := hat.less (by omega)
      have HBE : Hid (Below w.heap.size w w1) := HB.out.trans hb
      clear h0 h1 h2 ho hb hat cC
      go_wp2
      go_ret
      exact ⟨HBE.out, p, c, rfl, HAT.out, hcc⟩

end Go.Proofs.Ytidcfbjefemhdaa
