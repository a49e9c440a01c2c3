/- What is said of the values that a region's operations leave: kinds of assertions that growth keeps. -/
import Derived.Test.YthicbobddopcpaaDoorReg
import Derived.Test.YthicbobddopcpaaDoorWMem
namespace Go.Proofs.YthicbobddopcpaaDoor
open Go Go.RowKit

theorem leaves_append {P : Program} {o : Oper} {ρ : Operand → Value} {w w' : World} {v : Value} {post : Value → World → Prop} (s x : Operand) (t : TypeId)
    (ho : o.op = .call { callee := .builtin .append, args := #[s, x], argTypes := #[t, t] }) (hrun : (Builtin.append_ #[t, t] o.type #[ρ s, ρ x]).run P w = .ok v w') (hp : post v w') : leaves P o ρ w post := by
  refine leaves_value (v := v) (w' := w') ?_ hp
  obtain ⟨dst, op, ty, pos, after, guard⟩ := o
  simp only at ho
  subst ho
  rw [BigFrame.execOp_builtin, BigFrame.builtin_append]
  simp only [List.map_toArray, List.map_cons, List.map_nil]
  rw [Sem.run_bind, hrun]
  rfl

theorem wpList_run_append {P : Program} {ops : Array Oper} {rest : List Oper} {o : Oper} {a : Act} {w w' : World} {v : Value} {Q : Exit → Act → World → Prop} (hgd : o.guard = none) (s x : Operand) (t : TypeId)
    (ho : o.op = .call { callee := .builtin .append, args := #[s, x], argTypes := #[t, t] }) (u1 u2 : Value) (h1 : a.eval s = u1) (h2 : a.eval x = u2)
    (hrun : (Builtin.append_ #[t, t] o.type #[u1, u2]).run P w = .ok v w') (h : wpList P ops Q rest (a.put o.dst v) w') : wpList P ops Q (o :: rest) a w := by
  subst h1 h2
  refine wpList_plain hgd fun K hK => ?_
  exact leaves_wp (leaves_append (post := fun u W => u = v ∧ W = w') s x t ho hrun ⟨rfl, rfl⟩) fun u W h2 => by
    obtain ⟨rfl, rfl⟩ := h2
    exact hK _ _ h

inductive Kd
  | any
  | is (v : Value)
  | sl (l : List Int)
  | wl (all : Bool) (l : List Int)
  | wle (all : Bool) (l : List Int) (e : Int)
  | empty
  | box (b : Nat) (all : Bool) (l : List Int)

def Kd.ok (hi : Nat) (k : Kd) (v : Value) (W : World) : Prop :=
  match k with
  | .any => True
  | .is u => v = u
  | .sl l => ∃ p c, v = .slice p l.length c ∧ AtF hi W p l
  | .wl all l => ∃ p c, v = .agg #[.bool all, .slice p l.length c] ∧ AtF hi W p l
  | .wle all l e => ∃ p c, v = .tuple #[.agg #[.bool all, .slice p l.length c], .int .i64 e] ∧ AtF hi W p l
  | .empty => ∃ b, v = .slice (some ⟨b, 0, none⟩) 0 0
  | .box b all l => ∃ p c, Box W b (.bool all) (.slice p l.length c) ∧ AtF hi W p l

def Kd.blk : Kd → Option Nat
  | .box b _ _ => some b
  | _ => none

/-- An operation leaves all blocks as they were, but for the box that it stores to. -/
def KeepK (kp : List (Nat × Nat)) (i : Nat) (w w' : World) : Prop := match kp.lookup i with | none => Below w.heap.size w w' | some b => But b w w'

theorem Kd.on {hi : Nat} {k : Kd} {v : Value} {w w' : World} (h : k.ok hi v w) (hb : Below w.heap.size w w') : k.ok hi v w' := by
  cases k with
  | any => trivial
  | is u => exact h
  | sl l => obtain ⟨p, c, h1, h2⟩ := h; exact ⟨p, c, h1, h2.on hb⟩
  | wl all l => obtain ⟨p, c, h1, h2⟩ := h; exact ⟨p, c, h1, h2.on hb⟩
  | wle all l e => obtain ⟨p, c, h1, h2⟩ := h; exact ⟨p, c, h1, h2.on hb⟩
  | empty => exact h
  | box b all l => obtain ⟨p, c, h1, h2⟩ := h; exact ⟨p, c, h1.on hb, h2.on hb⟩

theorem Kd.but {hi b : Nat} {k : Kd} {v : Value} {w w' : World} (h : k.ok hi v w) (hb : But b w w') (hlt : b < hi) (hne : k.blk ≠ some b) : k.ok hi v w' := by
  cases k with
  | any => trivial
  | is u => exact h
  | sl l => obtain ⟨p, c, h1, h2⟩ := h; exact ⟨p, c, h1, h2.but hb hlt⟩
  | wl all l => obtain ⟨p, c, h1, h2⟩ := h; exact ⟨p, c, h1, h2.but hb hlt⟩
  | wle all l e => obtain ⟨p, c, h1, h2⟩ := h; exact ⟨p, c, h1, h2.but hb hlt⟩
  | empty => exact h
  | box b' all l => obtain ⟨p, c, h1, h2⟩ := h; exact ⟨p, c, h1.but hb (fun e => hne (by rw [← e]; rfl)), h2.but hb hlt⟩

theorem keep_kd {hi : Nat} {ops : Array Oper} {kp : List (Nat × Nat)} {ks : List Kd} {tl : Till} (h : ∀ i b, kp.lookup i = some b → b < hi ∧ ∀ j, j ≠ i → (ks.getD j .any).blk ≠ some b) :
    ∀ i j v w w', KeepK kp i w w' → j ≠ i → edge ops j i = false → (∀ u, tl.lookup j = some u → u ≠ i ∧ edge ops i u = false) → (ks.getD j .any).ok hi v w → (ks.getD j .any).ok hi v w' := by
  intro i j v w w' hk hne _ _ hok
  unfold KeepK at hk
  cases hb : kp.lookup i with
  | none => rw [hb] at hk; exact Kd.on hok hk
  | some b =>
    rw [hb] at hk
    exact Kd.but hok hk (h i b hb).1 ((h i b hb).2 j hne)

theorem keep_none {hi : Nat} {ops : Array Oper} {ks : List Kd} {tl : Till} : ∀ i j v w w', KeepK [] i w w' → j ≠ i → edge ops j i = false → (∀ u, tl.lookup j = some u → u ≠ i ∧ edge ops i u = false) → (ks.getD j .any).ok hi v w → (ks.getD j .any).ok hi v w' :=
  keep_kd (fun i b h => by simp at h)

end Go.Proofs.YthicbobddopcpaaDoor
