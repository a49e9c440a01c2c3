/- What is said of the values that a region's operations leave, of no program: predicates that growth keeps; steps, one for each sort of operation. -/
import Derived.Test.YtgolihipinjfmaaGreatDoorReg3
import Derived.Test.YtgolihipinjfmaaGreatDoorGMem
namespace Go.Proofs.YtgolihipinjfmaaGreatDoor
open Go Go.RowKit

/-- A predicate that growth keeps, and a store to a block below 'hi' that is not its own. -/
structure Kd (hi : Nat) where
  ok : Value → World → Prop
  blk : Option Nat
  on : ∀ v w w', ok v w → Below w.heap.size w w' → ok v w'
  but : ∀ v w w' b, ok v w → But b w w' → b < hi → blk ≠ some b → ok v w'

def Kd.any {hi : Nat} : Kd hi := ⟨fun _ _ => True, none, fun _ _ _ _ _ => trivial, fun _ _ _ _ _ _ _ _ => trivial⟩
def Kd.is {hi : Nat} (u : Value) : Kd hi := ⟨fun v _ => v = u, none, fun _ _ _ h _ => h, fun _ _ _ _ h _ _ _ => h⟩
/-- A slice that reads as a list. -/
def Kd.sl {hi : Nat} (l : List Value) : Kd hi :=
  ⟨fun v W => ∃ p c, v = .slice p l.length c ∧ AtF hi W p l ∧ l.length ≤ c, none,
   fun _ _ _ ⟨p, c, h1, h2, h3⟩ hb => ⟨p, c, h1, h2.on hb, h3⟩, fun _ _ _ _ ⟨p, c, h1, h2, h3⟩ hb hlt _ => ⟨p, c, h1, h2.but hb hlt, h3⟩⟩
/-- A row of one's own. -/
def Kd.own {hi : Nat} (e : TypeId) (l : List Value) : Kd hi :=
  ⟨fun v W => OwnV hi e W v l, none, fun _ _ _ h hb => ownV_on h hb, fun _ _ _ _ h hb hlt _ => ownV_but h hb hlt⟩
/-- An empty slice without room. -/
def Kd.empty {hi : Nat} : Kd hi := ⟨fun v _ => ∃ b, v = .slice (some ⟨b, 0, none⟩) 0 0, none, fun _ _ _ h _ => h, fun _ _ _ _ h _ _ _ => h⟩
/-- A block's cells. -/
def Kd.box {hi : Nat} (b : Nat) (t : TypeId) (cs : List Value) : Kd hi :=
  ⟨fun _ W => Blk W b t cs, some b, fun _ _ _ h hb => h.on hb, fun _ _ _ _ h hb _ hne => h.but hb fun e => hne (congrArg some e)⟩
/-- Both. -/
def Kd.and {hi : Nat} (k : Kd hi) (A : World → Prop) (hA : ∀ w w', A w → Below w.heap.size w w' → A w') (hB : ∀ w w' b, A w → But b w w' → b < hi → A w') : Kd hi :=
  ⟨fun v W => k.ok v W ∧ A W, k.blk, fun v w w' h hb => ⟨k.on v w w' h.1 hb, hA w w' h.2 hb⟩, fun v w w' b h hb hlt hne => ⟨k.but v w w' b h.1 hb hlt hne, hB w w' b h.2 hb hlt⟩⟩

theorem blk_none {hi : Nat} {k : Kd hi} {b : Nat} (h : k.blk = none) : k.blk ≠ some b := by rw [h]; simp
theorem blk_other {hi : Nat} {k : Kd hi} {b b' : Nat} (h : k.blk = some b') (hne : b' ≠ b) : k.blk ≠ some b := by rw [h]; simpa using hne

/-- An operation leaves all blocks as they were, but for the box that it stores to. -/
def KeepK (kp : List (Nat × Nat)) (i : Nat) (w w' : World) : Prop := match kp.lookup i with | none => Below w.heap.size w w' | some b => But b w w'

theorem keep_kd {hi : Nat} {ops : Array Oper} {kp : List (Nat × Nat)} {ks : List (Kd hi)} {tl : Till} (h : ∀ i b, kp.lookup i = some b → b < hi ∧ ∀ j, j ≠ i → (ks.getD j .any).blk ≠ some b) :
    ∀ i j v w w', KeepK kp i w w' → j ≠ i → edge ops j i = false → (∀ u, tl.lookup j = some u → u ≠ i ∧ edge ops i u = false) → (ks.getD j .any).ok v w → (ks.getD j .any).ok v w' := by
  intro i j v w w' hk hne _ _ hok
  unfold KeepK at hk
  cases hb : kp.lookup i with
  | none => rw [hb] at hk; exact Kd.on _ v w w' hok hk
  | some b =>
    rw [hb] at hk
    exact Kd.but _ v w w' b hok hk (h i b hb).1 ((h i b hb).2 j hne)
theorem keep_none {hi : Nat} {ops : Array Oper} {ks : List (Kd hi)} {tl : Till} : ∀ i j v w w', KeepK [] i w w' → j ≠ i → edge ops j i = false → (∀ u, tl.lookup j = some u → u ≠ i ∧ edge ops i u = false) → (ks.getD j .any).ok v w → (ks.getD j .any).ok v w' :=
  keep_kd (fun i b h => by simp at h)
/-- One store alone. -/
theorem keep_one {hi n b : Nat} {ops : Array Oper} {ks : List (Kd hi)} {tl : Till} (hb : b < hi) (h : ∀ j, j ≠ n → (ks.getD j .any).blk = none) :
    ∀ i j v w w', KeepK [(n, b)] i w w' → j ≠ i → edge ops j i = false → (∀ u, tl.lookup j = some u → u ≠ i ∧ edge ops i u = false) → (ks.getD j .any).ok v w → (ks.getD j .any).ok v w' := by
  refine keep_kd fun i b' hk => ?_
  have : i = n ∧ b' = b := by
    simp only [List.lookup] at hk
    split at hk
    · rename_i h7
      exact ⟨by simpa using h7, by simpa using hk.symm⟩
    · cases hk
  obtain ⟨rfl, rfl⟩ := this
  exact ⟨hb, fun j hj => blk_none (h j hj)⟩

section
variable {P : Program} {o : Oper} {ρ : Operand → Value} {w : World} {post : Value → World → Prop}

theorem leaves_append {w' : World} {v : Value} (s x : Operand) (t : TypeId) (ho : o.op = .call { callee := .builtin .append, args := #[s, x], argTypes := #[t, t] }) (hrun : (Builtin.append_ #[t, t] o.type #[ρ s, ρ x]).run P w = .ok v w') (hp : post v w') : leaves P o ρ w post := by
  refine leaves_value (v := v) (w' := w') ?_ hp
  obtain ⟨dst, op, ty, pos, after, guard⟩ := o
  simp only at ho
  subst ho
  rw [BigFrame.execOp_builtin, BigFrame.builtin_append]
  simp only [List.map_toArray, List.map_cons, List.map_nil]
  rw [Sem.run_bind, hrun]
  rfl
theorem wpList_run_append {ops : Array Oper} {rest : List Oper} {a : Act} {w' : World} {v : Value} {Q : Exit → Act → World → Prop} (hgd : o.guard = none) (s x : Operand) (t : TypeId)
    (ho : o.op = .call { callee := .builtin .append, args := #[s, x], argTypes := #[t, t] }) (u1 u2 : Value) (h1 : a.eval s = u1) (h2 : a.eval x = u2)
    (hrun : (Builtin.append_ #[t, t] o.type #[u1, u2]).run P w = .ok v w') (h : wpList P ops Q rest (a.put o.dst v) w') : wpList P ops Q (o :: rest) a w := by
  subst h1 h2
  refine wpList_plain hgd fun K hK => ?_
  exact leaves_wp (leaves_append (post := fun u W => u = v ∧ W = w') s x t ho hrun ⟨rfl, rfl⟩) fun u W h2 => by
    obtain ⟨rfl, rfl⟩ := h2
    exact hK _ _ h
theorem leaves_call {f : FuncId} (he : ∀ args w, (callFunc f args).run P w = .ok (.enter f args) w) (hr : Reads ρ) (xs : Array Operand) (ats : Array TypeId)
    (ho : o.op = .call { callee := .value (.func f), args := xs, argTypes := ats }) (vs : Array Value) (hv : xs.map ρ = vs)
    (hc : Calls P f vs w fun e w' => ∃ v, e = .returned v ∧ post v w') : leaves P o ρ w post := by
  refine leaves_enter (f := f) (args := vs) (w' := w) ?_ hc
  obtain ⟨dst, op, ty, pos, after, guard⟩ := o
  simp only at ho
  subst ho hv
  have hfv := hr.fn f
  simp [execOp, resolve, hfv, Deferred.ofValue, invoke, he]
theorem leaves_call0 {f : FuncId} (he : ∀ args w, (callFunc f args).run P w = .ok (.enter f args) w) (hr : Reads ρ) (ho : o.op = .call { callee := .value (.func f), args := #[], argTypes := #[] })
    (hc : Calls P f #[] w fun e w' => ∃ v, e = .returned v ∧ post v w') : leaves P o ρ w post := leaves_call he hr #[] #[] ho #[] (by simp) hc
theorem leaves_call1 {f : FuncId} (he : ∀ args w, (callFunc f args).run P w = .ok (.enter f args) w) (hr : Reads ρ) (x : Operand) (t : TypeId) (ho : o.op = .call { callee := .value (.func f), args := #[x], argTypes := #[t] }) {u : Value} (hv : ρ x = u)
    (hc : Calls P f #[u] w fun e w' => ∃ v, e = .returned v ∧ post v w') : leaves P o ρ w post := leaves_call he hr #[x] #[t] ho #[u] (by simp [hv]) hc
theorem leaves_call2 {f : FuncId} (he : ∀ args w, (callFunc f args).run P w = .ok (.enter f args) w) (hr : Reads ρ) (x y : Operand) (t s : TypeId) (ho : o.op = .call { callee := .value (.func f), args := #[x, y], argTypes := #[t, s] }) {u v : Value} (hu : ρ x = u) (hv : ρ y = v)
    (hc : Calls P f #[u, v] w fun e w' => ∃ v, e = .returned v ∧ post v w') : leaves P o ρ w post := leaves_call he hr #[x, y] #[t, s] ho #[u, v] (by simp [hu, hv]) hc
theorem leaves_call3 {f : FuncId} (he : ∀ args w, (callFunc f args).run P w = .ok (.enter f args) w) (hr : Reads ρ) (x y z : Operand) (t s r : TypeId) (ho : o.op = .call { callee := .value (.func f), args := #[x, y, z], argTypes := #[t, s, r] }) {u v q : Value} (hu : ρ x = u) (hv : ρ y = v) (hq : ρ z = q)
    (hc : Calls P f #[u, v, q] w fun e w' => ∃ v, e = .returned v ∧ post v w') : leaves P o ρ w post := leaves_call he hr #[x, y, z] #[t, s, r] ho #[u, v, q] (by simp [hu, hv, hq]) hc
theorem leaves_pick (c x y : Operand) (ho : o.op = .pick c x y) (b : Bool) (hb : ρ c = .bool b) (h : post (if b then ρ x else ρ y) w) : leaves P o ρ w post := by
  refine leaves_value (v := if b then ρ x else ρ y) (w' := w) ?_ h
  obtain ⟨dst, op, ty, pos, after, guard⟩ := o
  simp only at ho
  subst ho
  cases b <;> simp [execOp, hb, asBool]
/-- A struct out of its block. -/
theorem leaves_load {t : TypeId} {b : Nat} {cs : List Value} (hagg : ∀ w, (isAgg t).run P w = .ok true w) (hi : (P.info? t).map (·.size) = some cs.length) (x : Operand) (ho : o.op = .load t x) (hx : ρ x = .pointer (some ⟨b, 0, none⟩)) (hb : Blk w b t cs)
    (h : post (.agg cs.toArray) w) : leaves P o ρ w post := by
  refine leaves_value (v := .agg cs.toArray) (w' := w) ?_ h
  unfold execOp
  simp only [ho, hx, Instr.loadAt, Instr.sureAddr, Sem.run_bind, Sem.run_pure, Result.andThen_ok, run_loadVar_blk hagg hi hb]
/-- One cell. -/
theorem leaves_cell {t : TypeId} {b k : Nat} {v : Value} (hagg : ∀ w, (isAgg t).run P w = .ok false w) (x : Operand) (ho : o.op = .load t x) (hx : ρ x = .pointer (some ⟨b, k, none⟩)) (hb : w.cell? ⟨b, k, none⟩ = some v)
    (h : post v w) : leaves P o ρ w post := by
  refine leaves_value (v := v) (w' := w) ?_ h
  obtain ⟨dst, op, ty, pos, after, guard⟩ := o
  simp only at ho
  subst ho
  simp [go_sem, hx, hb, hagg]
end

end Go.Proofs.YtgolihipinjfmaaGreatDoor
