/- Regions, of no program: one operation that may turn anything, and assertions that expire there. -/
import Derived.Test.YtigikmojhllmdaaGKd
namespace Go.Proofs.Ytigikmojhllmdaa
open Go Go.RowKit

/-- Operation 'u' may turn anything, the others only lay more. -/
def KeepU (u i : Nat) (w w' : World) : Prop := i = u ∨ Below w.heap.size w w'
theorem keepU_on {u i : Nat} {w w' : World} (h : Below w.heap.size w w') : KeepU u i w w' := .inr h
/-- A predicate that no world turns. -/
def Kd.pure {hi : Nat} (k : Kd hi) : Prop := ∀ v w w', k.ok v w → k.ok v w'
theorem pure_is {hi : Nat} (u : Value) : (Kd.is (hi := hi) u).pure := fun _ _ _ h => h
theorem pure_any {hi : Nat} : (Kd.any (hi := hi)).pure := fun _ _ _ h => h
theorem keep_u {hi : Nat} {ops : Array Oper} {ks : List (Kd hi)} {tl : Till} {u : Nat} (h : ∀ j, j ≠ u → tl.lookup j = some u ∨ (ks.getD j .any).pure) :
    ∀ i j v w w', KeepU u i w w' → j ≠ i → edge ops j i = false → (∀ x, tl.lookup j = some x → x ≠ i ∧ edge ops i x = false) → (ks.getD j .any).ok v w → (ks.getD j .any).ok v w' := by
  intro i j v w w' hk hne _ htl hok
  rcases hk with rfl | hk
  · rcases h j hne with h1 | h1
    · exact absurd rfl (htl i h1).1
    · exact h1 v w w' hok
  · exact Kd.on _ v w w' hok hk
theorem leaves_assignC {P : Program} {o : Oper} {ρ : Operand → Value} {w : World} {post : Value → World → Prop} (v : Value) (hr : Reads ρ) (ho : o.op = .assign (.const v)) (h : post v w) : leaves P o ρ w post := by
  refine leaves_assign (.const v) ho ?_
  rw [hr.const]; exact h

end Go.Proofs.Ytigikmojhllmdaa
