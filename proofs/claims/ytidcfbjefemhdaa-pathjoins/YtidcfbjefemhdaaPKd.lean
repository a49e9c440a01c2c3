/- What is said of the values that a region's operations leave: kinds of assertions that growth keeps. -/
import Derived.Test.YtidcfbjefemhdaaReg
import Derived.Test.YtidcfbjefemhdaaPMem
namespace Go.Proofs.Ytidcfbjefemhdaa
open Go Go.RowKit

theorem leaves_append {P : Program} {o : Oper} {ρ : Operand → Value} {w w' : World} {v : Value} {post : Value → World → Prop} (s x : Operand) (t : TypeId)
    (ho : o.op = .call { callee := .builtin .append, args := #[s, x], argTypes := #[t, t] }) (hrun : (Builtin.append_ #[t, t] o.type #[ρ s, ρ x]).run P w = .ok v w') (hp : post v w') : leaves P o ρ w post := by
  refine leaves_value (v := v) (w' := w') ?_ hp
  obtain ⟨dst, op, ty, pos, after, guard⟩ := o
  simp only at ho
  subst ho
  rw [BigFrame.execOp_builtin, BigFrame.builtin_append]
  simp only [List.map_toArray, List.map_cons, List.map_nil]
  rw [Sem.run_bind, hrun]
  rfl

theorem wpList_run_append {P : Program} {ops : Array Oper} {rest : List Oper} {o : Oper} {a : Act} {w w' : World} {v : Value} {Q : Exit → Act → World → Prop} (hgd : o.guard = none) (s x : Operand) (t : TypeId)
    (ho : o.op = .call { callee := .builtin .append, args := #[s, x], argTypes := #[t, t] }) (u1 u2 : Value) (h1 : a.eval s = u1) (h2 : a.eval x = u2)
    (hrun : (Builtin.append_ #[t, t] o.type #[u1, u2]).run P w = .ok v w') (h : wpList P ops Q rest (a.put o.dst v) w') : wpList P ops Q (o :: rest) a w := by
  subst h1 h2
  refine wpList_plain hgd fun K hK => ?_
  exact leaves_wp (leaves_append (post := fun u W => u = v ∧ W = w') s x t ho hrun ⟨rfl, rfl⟩) fun u W h2 => by
    obtain ⟨rfl, rfl⟩ := h2
    exact hK _ _ h

/-- Kinds: any, this value, a slice, a path, a path and an error, an empty slice, a box. -/
def Kd : Type := Option (Value ⊕ List ByteArray ⊕ (Bool × Bool × List ByteArray) ⊕ (Bool × Bool × List ByteArray × Int) ⊕ Unit ⊕ (Nat × Bool × Bool × List ByteArray))

def Kd.any : Kd := none
def Kd.is (v : Value) : Kd := some (.inl v)
def Kd.sl (l : List ByteArray) : Kd := some (.inr (.inl l))
def Kd.pa (a d : Bool) (l : List ByteArray) : Kd := some (.inr (.inr (.inl (a, d, l))))
def Kd.pae (a d : Bool) (l : List ByteArray) (e : Int) : Kd := some (.inr (.inr (.inr (.inl (a, d, l, e)))))
def Kd.empty : Kd := some (.inr (.inr (.inr (.inr (.inl ())))))
def Kd.box (b : Nat) (a d : Bool) (l : List ByteArray) : Kd := some (.inr (.inr (.inr (.inr (.inr (b, a, d, l))))))

def Kd.ok (hi : Nat) (k : Kd) (v : Value) (W : World) : Prop :=
  match k with
  | none => True
  | some (.inl u) => v = u
  | some (.inr (.inl l)) => ∃ p c, v = .slice p l.length c ∧ AtF hi W p l ∧ l.length ≤ c
  | some (.inr (.inr (.inl (a, d, l)))) => ∃ p c, v = .agg #[.bool a, .bool d, .slice p l.length c] ∧ AtF hi W p l ∧ l.length ≤ c
  | some (.inr (.inr (.inr (.inl (a, d, l, e))))) => ∃ p c, v = .tuple #[.agg #[.bool a, .bool d, .slice p l.length c], .int .i64 e] ∧ AtF hi W p l ∧ l.length ≤ c
  | some (.inr (.inr (.inr (.inr (.inl _))))) => ∃ b, v = .slice (some ⟨b, 0, none⟩) 0 0
  | some (.inr (.inr (.inr (.inr (.inr (b, a, d, l)))))) => ∃ p c, Box W b (.bool a) (.bool d) (.slice p l.length c) ∧ AtF hi W p l ∧ l.length ≤ c

def Kd.blk (k : Kd) : Option Nat :=
  match k with
  | some (.inr (.inr (.inr (.inr (.inr (b, _, _, _)))))) => some b
  | _ => none
theorem blk_none {k : Kd} {b : Nat} (h : k.blk = none) : k.blk ≠ some b := by rw [h]; simp
theorem blk_other {k : Kd} {b b' : Nat} (h : k.blk = some b') (hne : b' ≠ b) : k.blk ≠ some b := by rw [h]; simpa using hne

/-- An operation leaves all blocks as they were, but for the box that it stores to. -/
def KeepK (kp : List (Nat × Nat)) (i : Nat) (w w' : World) : Prop := match kp.lookup i with | none => Below w.heap.size w w' | some b => But b w w'

theorem Kd.on {hi : Nat} {k : Kd} {v : Value} {w w' : World} (h : k.ok hi v w) (hb : Below w.heap.size w w') : k.ok hi v w' := by
  match k, h with
  | none, _ => trivial
  | some (.inl _), h => exact h
  | some (.inr (.inl _)), h => obtain ⟨p, c, h1, h2, h3⟩ := h; exact ⟨p, c, h1, h2.on hb, h3⟩
  | some (.inr (.inr (.inl (_, _, _)))), h => obtain ⟨p, c, h1, h2, h3⟩ := h; exact ⟨p, c, h1, h2.on hb, h3⟩
  | some (.inr (.inr (.inr (.inl (_, _, _, _))))), h => obtain ⟨p, c, h1, h2, h3⟩ := h; exact ⟨p, c, h1, h2.on hb, h3⟩
  | some (.inr (.inr (.inr (.inr (.inl _))))), h => exact h
  | some (.inr (.inr (.inr (.inr (.inr (_, _, _, _)))))), h => obtain ⟨p, c, h1, h2, h3⟩ := h; exact ⟨p, c, h1.on hb, h2.on hb, h3⟩

theorem Kd.but {hi b : Nat} {k : Kd} {v : Value} {w w' : World} (h : k.ok hi v w) (hb : But b w w') (hlt : b < hi) (hne : k.blk ≠ some b) : k.ok hi v w' := by
  match k, h, hne with
  | none, _, _ => trivial
  | some (.inl _), h, _ => exact h
  | some (.inr (.inl _)), h, _ => obtain ⟨p, c, h1, h2, h3⟩ := h; exact ⟨p, c, h1, h2.but hb hlt, h3⟩
  | some (.inr (.inr (.inl (_, _, _)))), h, _ => obtain ⟨p, c, h1, h2, h3⟩ := h; exact ⟨p, c, h1, h2.but hb hlt, h3⟩
  | some (.inr (.inr (.inr (.inl (_, _, _, _))))), h, _ => obtain ⟨p, c, h1, h2, h3⟩ := h; exact ⟨p, c, h1, h2.but hb hlt, h3⟩
  | some (.inr (.inr (.inr (.inr (.inl _))))), h, _ => exact h
  | some (.inr (.inr (.inr (.inr (.inr (b', _, _, _)))))), h, hne =>
    obtain ⟨p, c, h1, h2, h3⟩ := h
    exact ⟨p, c, h1.but hb (fun e => hne (congrArg some e)), h2.but hb hlt, h3⟩

theorem keep_kd {hi : Nat} {ops : Array Oper} {kp : List (Nat × Nat)} {ks : List Kd} {tl : Till} (h : ∀ i b, kp.lookup i = some b → b < hi ∧ ∀ j, j ≠ i → (ks.getD j .any).blk ≠ some b) :
    ∀ i j v w w', KeepK kp i w w' → j ≠ i → edge ops j i = false → (∀ u, tl.lookup j = some u → u ≠ i ∧ edge ops i u = false) → (ks.getD j .any).ok hi v w → (ks.getD j .any).ok hi v w' := by
  intro i j v w w' hk hne _ _ hok
  unfold KeepK at hk
  cases hb : kp.lookup i with
  | none => rw [hb] at hk; exact Kd.on hok hk
  | some b =>
    rw [hb] at hk
    exact Kd.but hok hk (h i b hb).1 ((h i b hb).2 j hne)

theorem keep_none {hi : Nat} {ops : Array Oper} {ks : List Kd} {tl : Till} : ∀ i j v w w', KeepK [] i w w' → j ≠ i → edge ops j i = false → (∀ u, tl.lookup j = some u → u ≠ i ∧ edge ops i u = false) → (ks.getD j .any).ok hi v w → (ks.getD j .any).ok hi v w' :=
  keep_kd (fun i b h => by simp at h)

/-- One store alone. -/
theorem keep_one {hi n b : Nat} {ops : Array Oper} {ks : List Kd} {tl : Till} (hb : b < hi) (h : ∀ j, j ≠ n → (ks.getD j .any).blk = none) :
    ∀ i j v w w', KeepK [(n, b)] i w w' → j ≠ i → edge ops j i = false → (∀ u, tl.lookup j = some u → u ≠ i ∧ edge ops i u = false) → (ks.getD j .any).ok hi v w → (ks.getD j .any).ok hi v w' := by
  refine keep_kd fun i b' hk => ?_
  have : i = n ∧ b' = b := by
    simp only [List.lookup] at hk
    split at hk
    · rename_i h7
      exact ⟨by simpa using h7, by simpa using hk.symm⟩
    · cases hk
  obtain ⟨rfl, rfl⟩ := this
  exact ⟨hb, fun j hj => blk_none (h j hj)⟩

end Go.Proofs.Ytidcfbjefemhdaa
