/- Texts and their bytes: what the walks of path.Name stand on. -/
import Derived.Test.YtlpgflkfckhgeaaGMore
import Derived.Test.YtlpgflkfckhgeaaShelf
import Derived.Lib.IndexBytes
namespace Go.Proofs.Ytlpgflkfckhgeaa
open Go Go.RowKit

/-- The byte at a place. -/
def byteAt (s : ByteArray) (k : Nat) : UInt8 := s.data.toList.getD k 0
theorem size_list (s : ByteArray) : s.data.toList.length = s.size := by rw [Array.length_toList]; rfl

theorem idx_str (s : ByteArray) (k : Nat) (hk : k < s.size) (w : World) : (Instr.index 9 (.string s) (.int .i64 (k : Int))).run Try.prog w = .ok (.int .u8 ((byteAt s k).toNat : Int)) w := by
  rw [run_index_string w 9 s .i64 (k : Int) Try.underlying9]
  have e : byteAt s k = s[k] := by
    unfold byteAt
    simp [List.getD, hk]
    rfl
  rw [e]
  simp [hk]

theorem byte_ne {s : ByteArray} {k : Nat} (h : byteAt s k ≠ 47) : (((byteAt s k).toNat : Int) == 47) = false := by
  rw [beq_eq_false_iff_ne]
  intro e
  have : (byteAt s k).toNat = 47 := by omega
  exact h (UInt8.toNat_inj.1 (this.trans (by rfl)))
theorem byte_nz {s : ByteArray} {k : Nat} (h : byteAt s k ≠ 0) : (((byteAt s k).toNat : Int) == 0) = false := by
  rw [beq_eq_false_iff_ne]
  intro e
  have : (byteAt s k).toNat = 0 := by omega
  exact h (UInt8.toNat_inj.1 (this.trans (by rfl)))

theorem byte_found (c : UInt8) : ∀ l : List UInt8, decide (0 ≤ Lib.indexByte l c) = l.contains c
  | [] => rfl
  | b :: l => by
    have IH := byte_found c l
    have hge := Lib.indexByte_ge l c
    rw [List.contains_cons]
    by_cases hb : b = c
    · have e : Lib.indexByte (b :: l) c = 0 := by rw [Lib.indexByte, if_pos (by simpa using hb)]
      rw [e, hb]; simp
    · have hcb : (c == b) = false := beq_eq_false_iff_ne.2 fun e => hb e.symm
      rw [hcb, Bool.false_or, ← IH]
      by_cases h1 : Lib.indexByte l c = -1
      · have e : Lib.indexByte (b :: l) c = -1 := by rw [Lib.indexByte, if_neg (by simpa using hb), if_pos (by simpa using h1)]
        rw [e, h1]
      · have e : Lib.indexByte (b :: l) c = Lib.indexByte l c + 1 := by rw [Lib.indexByte, if_neg (by simpa using hb), if_neg (by simpa using h1)]
        rw [e, decide_eq_true (by omega), decide_eq_true (by omega)]
theorem empty_iff (s : ByteArray) : s.toList.isEmpty = decide (s.size = 0) := by
  rw [ByteArray.toList_eq, ← size_list]
  cases s.data.toList <;> simp

set_option maxRecDepth 100000 in
theorem tooLong_any (x : ByteArray) (W : World) (hx : x.size ≤ 10000) : Calls Try.prog 32 #[.string x] W fun e w' => e = .returned (.bool (decide (32 < x.size))) ∧ w' = W := by
  by_cases h : 32 < x.size
  · have hz : (32 : Int) < (x.size : Int) := by omega
    rw [decide_eq_true h]
    go_enter Try.func32, Try.ntmps32
    go_wp2
    go_ret
    exact ⟨rfl, rfl⟩
  · have hz : ¬ (32 : Int) < (x.size : Int) := by omega
    rw [decide_eq_false h]
    go_enter Try.func32, Try.ntmps32
    go_wp2
    go_ret
    exact ⟨rfl, rfl⟩


theorem leaves_sliceO {P : Program} {o : Oper} {ρ : Operand → Value} {w : World} {post : Value → World → Prop} (t : TypeId) (x : Operand) (lo hi mx : Option Operand) (ho : o.op = .slice t x lo hi mx) {v : Value} (hrun : (Instr.sliceAt t (ρ x) (lo.map ρ) (hi.map ρ) (mx.map ρ)).run P w = .ok v w) (h : post v w) : leaves P o ρ w post := by
  refine leaves_value (v := v) (w' := w) ?_ h
  obtain ⟨dst, op, ty, pos, after, guard⟩ := o
  simp only at ho
  subst ho
  simp [execOp, hrun]

end Go.Proofs.Ytlpgflkfckhgeaa
