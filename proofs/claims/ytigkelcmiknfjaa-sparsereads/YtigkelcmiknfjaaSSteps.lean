/- Steps of the laws' regions: acts in a slice, in a box; a call that turns the file. -/
import Derived.Test.YtigkelcmiknfjaaSAll
import Derived.Test.YtigkelcmiknfjaaSLives
namespace Go.Proofs.Ytigkelcmiknfjaa
open Go Go.RowKit Go.Maps

section
variable {o : Oper} {ρ : Operand → Value} {w : World} {post : Value → World → Prop} {b off n c k : Nat}
theorem leaves_actIndex (x i : Operand) (ho : o.op = .indexAddr 22 x i) (hx : ρ x = .slice (some ⟨b, off, none⟩) n c) (hi : ρ i = .int .i64 (k : Int)) (hk : k < n) (h : post (.pointer (some ⟨b, off + k * 4, none⟩)) w) : leaves Try.prog o ρ w post := by
  refine leaves_value (v := .pointer (some ⟨b, off + k * 4, none⟩)) (w' := w) ?_ h
  obtain ⟨dst, op, ty, pos, after, guard⟩ := o
  simp only at ho
  subst ho
  have h1 : (0 : Int) ≤ (k : Int) := by omega
  have h2 : (k : Int) < (n : Int) := by omega
  simp [go_sem, hx, hi, hk]
theorem leaves_actField (x : Operand) (j : Nat) (hj : j < 4) (ho : o.op = .fieldAddr 33 x j) (hx : ρ x = .pointer (some ⟨b, off, none⟩)) (h : post (.pointer (some ⟨b, off + j, none⟩)) w) : leaves Try.prog o ρ w post := by
  refine leaves_value (v := .pointer (some ⟨b, off + j, none⟩)) (w' := w) ?_ h
  obtain ⟨dst, op, ty, pos, after, guard⟩ := o
  simp only at ho
  subst ho
  match j, hj with
  | 0, _ | 1, _ | 2, _ | 3, _ => simp [go_sem, hx]
theorem leaves_extract (x : Operand) (j : Nat) {vs : Array Value} {v : Value} (ho : o.op = .extract x j) (hx : ρ x = .tuple vs) (hv : vs[j]? = some v) (h : post v w) : leaves Try.prog o ρ w post := by
  refine leaves_value (v := v) (w' := w) ?_ h
  obtain ⟨dst, op, ty, pos, after, guard⟩ := o
  simp only at ho
  subst ho
  simp [go_sem, hx, hv]
theorem leaves_empty (ho : o.op = .buildSlice 25 0 #[]) (h : post (.slice (some ⟨w.heap.size, 0, none⟩) 0 0) (w.alloc (.cells #[] 5))) : leaves Try.prog o ρ w post := by
  refine leaves_value (v := .slice (some ⟨w.heap.size, 0, none⟩) 0 0) (w' := w.alloc (.cells #[] 5)) ?_ h
  obtain ⟨dst, op, ty, pos, after, guard⟩ := o
  simp only at ho
  subst ho
  simp [go_sem]
end

theorem en_write : ∀ args w, (callFunc 17 args).run Try.prog w = .ok (.enter 17 args) w := fun _ _ => by simp [callFunc, Try.func17]; rfl
/-- All operations but one lay more alone. -/
def KeepC (u i : Nat) (w w' : World) : Prop := i = u ∨ Below w.heap.size w w'
theorem keep_call {ops : Array Oper} {ks : List (Kd 0)} {tl : Till} {u : Nat} (h : ∀ j, (tl.lookup j = some u) ∨ ∀ v w w', (ks.getD j .any).ok v w → (ks.getD j .any).ok v w') :
    ∀ i j v w w', KeepC u i w w' → j ≠ i → edge ops j i = false → (∀ x, tl.lookup j = some x → x ≠ i ∧ edge ops i x = false) → (ks.getD j .any).ok v w → (ks.getD j .any).ok v w' := by
  intro i j v w w' hk _ _ ht hok
  rcases hk with rfl | hb
  · rcases h j with h1 | h1
    · exact absurd rfl (ht _ h1).1
    · exact h1 v w w' hok
  · exact Kd.on _ v w w' hok hb

end Go.Proofs.Ytigkelcmiknfjaa
