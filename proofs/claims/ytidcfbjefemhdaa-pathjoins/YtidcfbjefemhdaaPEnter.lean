/- How the functions of this layer are entered, and steps of the laws. -/
import Derived.Test.YtidcfbjefemhdaaPLives
import Derived.Test.YtidcfbjefemhdaaPShort
namespace Go.Proofs.Ytidcfbjefemhdaa
open Go Go.RowKit

theorem en_lives : ∀ args w, (callFunc 9 args).run Try.prog w = .ok (.enter 9 args) w := enters_of Try.func9 (by kernel_rfl) rfl
theorem en_short : ∀ args w, (callFunc 13 args).run Try.prog w = .ok (.enter 13 args) w := enters_of Try.func13 (by kernel_rfl) rfl
theorem en_own : ∀ args w, (callFunc 14 args).run Try.prog w = .ok (.enter 14 args) w := enters_of Try.func14 (by kernel_rfl) rfl
theorem en_same : ∀ args w, (callFunc 11 args).run Try.prog w = .ok (.enter 11 args) w := enters_of Try.func11 (by kernel_rfl) rfl
theorem en_show : ∀ args w, (callFunc 12 args).run Try.prog w = .ok (.enter 12 args) w := enters_of Try.func12 (by kernel_rfl) rfl
theorem en_rshow : ∀ args w, (callFunc 15 args).run Try.prog w = .ok (.enter 15 args) w := enters_of Try.func15 (by kernel_rfl) rfl
theorem en_up : ∀ args w, (callFunc 16 args).run Try.prog w = .ok (.enter 16 args) w := enters_of Try.func16 (by kernel_rfl) rfl
theorem en_rup : ∀ args w, (callFunc 17 args).run Try.prog w = .ok (.enter 17 args) w := enters_of Try.func17 (by kernel_rfl) rfl
theorem en_plain : ∀ args w, (callFunc 20 args).run Try.prog w = .ok (.enter 20 args) w := enters_of Try.func20 (by kernel_rfl) rfl
theorem en_rplain : ∀ args w, (callFunc 21 args).run Try.prog w = .ok (.enter 21 args) w := enters_of Try.func21 (by kernel_rfl) rfl
theorem en_join : ∀ args w, (callFunc 22 args).run Try.prog w = .ok (.enter 22 args) w := enters_of Try.func22 (by kernel_rfl) rfl
theorem en_rjoin : ∀ args w, (callFunc 23 args).run Try.prog w = .ok (.enter 23 args) w := enters_of Try.func23 (by kernel_rfl) rfl
theorem en_clone : ∀ args w, (callFunc 33 args).run Try.prog w = .ok (.enter 33 args) w := enters_of Try.func33 (by kernel_rfl) rfl
theorem en_delete : ∀ args w, (callFunc 32 args).run Try.prog w = .ok (.enter 32 args) w := enters_of Try.func32 (by kernel_rfl) rfl
theorem en_concat : ∀ args w, (callFunc 35 args).run Try.prog w = .ok (.enter 35 args) w := enters_of Try.func35 (by kernel_rfl) rfl

theorem leaves_eqStr {o : Oper} {ρ : Operand → Value} {w : World} {post : Value → World → Prop} (x y : Operand) (ho : o.op = .binOp .eql 9 x y 9) (s : ByteArray) (hx : ρ x = .string s) (hy : ρ y = .string s)
    (h : post (.bool true) w) : leaves Try.prog o ρ w post := by
  refine leaves_value (v := .bool true) (w' := w) ?_ h
  obtain ⟨dst, op, ty, pos, after, guard⟩ := o
  simp only at ho
  subst ho
  simp [go_sem, hx, hy]

/-- A copy of a path that lies in memory. -/
theorem own_leaves {hi : Nat} {o : Oper} {ρ : Operand → Value} {W : World} {S : World → Prop} {post : Value → World → Prop} {a d : Bool} {p : Option Addr} {c : Nat} {l : List ByteArray} (hr : Reads ρ) (x : Operand) (ho : o.op = .call { callee := .value (.func 14), args := #[x], argTypes := #[24] })
    (hx : ρ x = .agg #[.bool a, .bool d, .slice p l.length c]) (hl : l.length ≤ 10000) (h : At W p l) (hh : hi ≤ W.heap.size) (hS : S W) (hgrow : ∀ W', S W → Below W.heap.size W W' → S W')
    (hp : ∀ v W', (Kd.pa a d l).ok hi v W' → S W' → Below W.heap.size W W' → post v W') : leaves Try.prog o ρ W post := by
  refine leaves_call1 en_own hr x _ ho hx ?_
  refine (own_any a d p c l W (by omega) h).mono ?_
  rintro e W' ⟨hb, p', c', rfl, hat, hcc⟩
  exact ⟨_, rfl, hp _ _ ⟨p', c', rfl, hat.less hh, hcc⟩ (hgrow W' hS hb) hb⟩

end Go.Proofs.Ytidcfbjefemhdaa
