/- Steps for the reference's regions. -/
import Derived.Test.YtigkelcmiknfjaaSGrow
namespace Go.Proofs.Ytigkelcmiknfjaa
open Go Go.RowKit

theorem ownV_other {hi e b g cap : Nat} {w w' : World} {s : List Value} (h : OwnV hi e w (.slice (some ⟨g, 0, none⟩) s.length cap) s) (hb : But b w w') (hne : g ≠ b) : OwnV hi e w' (.slice (some ⟨g, 0, none⟩) s.length cap) s := by
  refine ⟨h.1, ?_⟩
  rcases h.2 with h0 | ⟨g', cap', cur, h0, hbs, hg, h3⟩
  · exact .inl h0
  · cases h0
    exact .inr ⟨g, cap, cur, rfl, hbs, (hb.block g hne).trans hg, h3⟩
/-- A row at a known place. -/
def Kd.row {hi : Nat} (lo : Nat) (e : TypeId) (g cap : Nat) (s : List Value) : Kd hi :=
  ⟨fun _ W => OwnV lo e W (.slice (some ⟨g, 0, none⟩) s.length cap) s, some g, fun _ _ _ h hb => ownV_on h hb, fun _ _ _ _ h hb _ hne => ownV_other h hb fun e => hne (congrArg some e)⟩
/-- Two stores. -/
theorem keep_two {hi n m b c : Nat} {ops : Array Oper} {ks : List (Kd hi)} {tl : Till} (hb : b < hi) (hc : c < hi) (hbc : b ≠ c) (h : ∀ j, j ≠ n → j ≠ m → (ks.getD j .any).blk = none) (hn : (ks.getD n .any).blk = some b) (hm : (ks.getD m .any).blk = some c) :
    ∀ i j v w w', KeepK [(n, b), (m, c)] i w w' → j ≠ i → edge ops j i = false → (∀ u, tl.lookup j = some u → u ≠ i ∧ edge ops i u = false) → (ks.getD j .any).ok v w → (ks.getD j .any).ok v w' := by
  refine keep_kd fun i b' hk => ?_
  have : (i = n ∧ b' = b) ∨ (i = m ∧ b' = c) := by
    simp only [List.lookup] at hk
    split at hk
    · rename_i h7
      exact .inl ⟨by simpa using h7, by simpa using hk.symm⟩
    · split at hk
      · rename_i h7
        exact .inr ⟨by simpa using h7, by simpa using hk.symm⟩
      · cases hk
  rcases this with ⟨rfl, rfl⟩ | ⟨rfl, rfl⟩
  · refine ⟨hb, fun j hj => ?_⟩
    by_cases e : j = m
    · subst e; exact blk_other hm (Ne.symm hbc)
    · exact blk_none (h j hj e)
  · refine ⟨hc, fun j hj => ?_⟩
    by_cases e : j = n
    · subst e; exact blk_other hn hbc
    · exact blk_none (h j e hj)

section
variable {o : Oper} {ρ : Operand → Value} {w : World} {post : Value → World → Prop} {b off n c k : Nat}
theorem leaves_byteIndex (x i : Operand) (ho : o.op = .indexAddr 25 x i) (hx : ρ x = .slice (some ⟨b, off, none⟩) n c) (hi : ρ i = .int .i64 (k : Int)) (hk : k < n) (h : post (.pointer (some ⟨b, off + k, none⟩)) w) : leaves Try.prog o ρ w post := by
  refine leaves_value (v := .pointer (some ⟨b, off + k, none⟩)) (w' := w) ?_ h
  obtain ⟨dst, op, ty, pos, after, guard⟩ := o
  simp only at ho
  subst ho
  simp [go_sem, hx, hi, hk]
theorem leaves_boolIndex (x i : Operand) (ho : o.op = .indexAddr 26 x i) (hx : ρ x = .slice (some ⟨b, off, none⟩) n c) (hi : ρ i = .int .i64 (k : Int)) (hk : k < n) (h : post (.pointer (some ⟨b, off + k, none⟩)) w) : leaves Try.prog o ρ w post := by
  refine leaves_value (v := .pointer (some ⟨b, off + k, none⟩)) (w' := w) ?_ h
  obtain ⟨dst, op, ty, pos, after, guard⟩ := o
  simp only at ho
  subst ho
  simp [go_sem, hx, hi, hk]
theorem leaves_addN (x y : Operand) {a d : Nat} (ho : o.op = .binOp .add 3 x y 3) (hx : ρ x = .int .i64 (a : Int)) (hy : ρ y = .int .i64 (d : Int)) (hl : a + d ≤ 9000000000) (h : post (.int .i64 ((a + d : Nat) : Int)) w) : leaves Try.prog o ρ w post := by
  refine leaves_value (v := .int .i64 ((a + d : Nat) : Int)) (w' := w) ?_ h
  obtain ⟨dst, op, ty, pos, after, guard⟩ := o
  simp only at ho
  subst ho
  simp [go_sem, hx, hy]
  rw [IntKind.wrap_i64]
  omega
theorem leaves_quo64 (hr : Reads ρ) (x : Operand) {a : Nat} (ho : o.op = .binOp .quo 3 x (.const (.int .i64 64)) 3) (hx : ρ x = .int .i64 (a : Int)) (hl : a ≤ 9000000000) (h : post (.int .i64 ((a / 64 : Nat) : Int)) w) : leaves Try.prog o ρ w post := by
  refine leaves_value (v := .int .i64 ((a / 64 : Nat) : Int)) (w' := w) ?_ h
  obtain ⟨dst, op, ty, pos, after, guard⟩ := o
  simp only at ho
  subst ho
  simp [go_sem, hx, hr.const]
  rw [IntKind.wrap_i64]
  omega
theorem leaves_storeByte {z : Int} {u : Value} (x y : Operand) (ho : o.op = .store 5 x y) (hx : ρ x = .pointer (some ⟨b, k, none⟩)) (hy : ρ y = .int .u8 z) (hc : w.cell? ⟨b, k, none⟩ = some u) (hf : w.frozen? ⟨b, k, none⟩ = false)
    (h : post undef (w.setCell ⟨b, k, none⟩ (.int .u8 z))) : leaves Try.prog o ρ w post := by
  refine leaves_skip (w' := w.setCell ⟨b, k, none⟩ (.int .u8 z)) ?_ h
  obtain ⟨dst, op, ty, pos, after, guard⟩ := o
  simp only at ho
  subst ho
  simp [go_sem, hx, hy, hc, hf]
theorem leaves_storeBool {z : Bool} {u : Value} (x y : Operand) (ho : o.op = .store 4 x y) (hx : ρ x = .pointer (some ⟨b, k, none⟩)) (hy : ρ y = .bool z) (hc : w.cell? ⟨b, k, none⟩ = some u) (hf : w.frozen? ⟨b, k, none⟩ = false)
    (h : post undef (w.setCell ⟨b, k, none⟩ (.bool z))) : leaves Try.prog o ρ w post := by
  refine leaves_skip (w' := w.setCell ⟨b, k, none⟩ (.bool z)) ?_ h
  obtain ⟨dst, op, ty, pos, after, guard⟩ := o
  simp only at ho
  subst ho
  simp [go_sem, hx, hy, hc, hf]
end

end Go.Proofs.Ytigkelcmiknfjaa
