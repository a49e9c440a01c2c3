/- Steps of a region that draws its order, kind by kind. -/
import Derived.Test.YtidcfbjefemhdaaPKd
namespace Go.Proofs.Ytidcfbjefemhdaa
open Go Go.RowKit

section
variable {P : Program} {o : Oper} {ρ : Operand → Value} {w : World} {post : Value → World → Prop}

theorem leaves_call {f : FuncId} (he : ∀ args w, (callFunc f args).run P w = .ok (.enter f args) w) (hr : Reads ρ) (xs : Array Operand) (ats : Array TypeId)
    (ho : o.op = .call { callee := .value (.func f), args := xs, argTypes := ats }) (vs : Array Value) (hv : xs.map ρ = vs)
    (hc : Calls P f vs w fun e w' => ∃ v, e = .returned v ∧ post v w') : leaves P o ρ w post := by
  refine leaves_enter (f := f) (args := vs) (w' := w) ?_ hc
  obtain ⟨dst, op, ty, pos, after, guard⟩ := o
  simp only at ho
  subst ho hv
  have hfv := hr.fn f
  simp [execOp, resolve, hfv, Deferred.ofValue, invoke, he]
/-- One argument. -/
theorem leaves_call1 {f : FuncId} (he : ∀ args w, (callFunc f args).run P w = .ok (.enter f args) w) (hr : Reads ρ) (x : Operand) (t : TypeId)
    (ho : o.op = .call { callee := .value (.func f), args := #[x], argTypes := #[t] }) {u : Value} (hv : ρ x = u)
    (hc : Calls P f #[u] w fun e w' => ∃ v, e = .returned v ∧ post v w') : leaves P o ρ w post :=
  leaves_call he hr #[x] #[t] ho #[u] (by simp [hv]) hc
/-- Two arguments. -/
theorem leaves_call2 {f : FuncId} (he : ∀ args w, (callFunc f args).run P w = .ok (.enter f args) w) (hr : Reads ρ) (x y : Operand) (t s : TypeId)
    (ho : o.op = .call { callee := .value (.func f), args := #[x, y], argTypes := #[t, s] }) {u v : Value} (hu : ρ x = u) (hv : ρ y = v)
    (hc : Calls P f #[u, v] w fun e w' => ∃ v, e = .returned v ∧ post v w') : leaves P o ρ w post :=
  leaves_call he hr #[x, y] #[t, s] ho #[u, v] (by simp [hu, hv]) hc
/-- None. -/
theorem leaves_call0 {f : FuncId} (he : ∀ args w, (callFunc f args).run P w = .ok (.enter f args) w) (hr : Reads ρ)
    (ho : o.op = .call { callee := .value (.func f), args := #[], argTypes := #[] })
    (hc : Calls P f #[] w fun e w' => ∃ v, e = .returned v ∧ post v w') : leaves P o ρ w post :=
  leaves_call he hr #[] #[] ho #[] (by simp) hc

theorem leaves_slice (t : TypeId) (x : Operand) (lo hi mx : Option Operand) (ho : o.op = .slice t x lo hi mx) {v : Value} (hrun : (Instr.sliceAt t (ρ x) (lo.map ρ) (hi.map ρ) (mx.map ρ)).run P w = .ok v w) (h : post v w) : leaves P o ρ w post := by
  refine leaves_value (v := v) (w' := w) ?_ h
  obtain ⟨dst, op, ty, pos, after, guard⟩ := o
  simp only at ho
  subst ho
  simp [execOp, hrun]
theorem leaves_pick (c x y : Operand) (ho : o.op = .pick c x y) (b : Bool) (hb : ρ c = .bool b) (h : post (if b then ρ x else ρ y) w) : leaves P o ρ w post := by
  refine leaves_value (v := if b then ρ x else ρ y) (w' := w) ?_ h
  obtain ⟨dst, op, ty, pos, after, guard⟩ := o
  simp only at ho
  subst ho
  cases b <;> simp [execOp, hb, asBool]
end

section
variable {o : Oper} {ρ : Operand → Value} {w : World} {post : Value → World → Prop} {b : Nat} {v0 v1 v2 : Value}
theorem leaves_load (x : Operand) (ho : o.op = .load 24 x) (hx : ρ x = .pointer (some ⟨b, 0, none⟩)) (hb : Box w b v0 v1 v2)
    (h : post (.agg #[v0, v1, v2]) w) : leaves Try.prog o ρ w post := by
  refine leaves_value (v := .agg #[v0, v1, v2]) (w' := w) ?_ h
  unfold execOp
  simp only [ho, hx, Instr.loadAt, Instr.sureAddr, Sem.run_bind, Sem.run_pure, Result.andThen_ok, run_loadVar_box hb]
/-- A cell of a path, a bool. -/
theorem leaves_loadB {k : Nat} {v : Value} (x : Operand) (ho : o.op = .load 4 x) (hx : ρ x = .pointer (some ⟨b, k, none⟩)) (hb : w.cell? ⟨b, k, none⟩ = some v)
    (h : post v w) : leaves Try.prog o ρ w post := by
  refine leaves_value (v := v) (w' := w) ?_ h
  obtain ⟨dst, op, ty, pos, after, guard⟩ := o
  simp only at ho
  subst ho
  simp [go_sem, hx, hb]
theorem leaves_loadS {k : Nat} {v : Value} (x : Operand) (ho : o.op = .load 22 x) (hx : ρ x = .pointer (some ⟨b, k, none⟩)) (hb : w.cell? ⟨b, k, none⟩ = some v)
    (h : post v w) : leaves Try.prog o ρ w post := by
  refine leaves_value (v := v) (w' := w) ?_ h
  obtain ⟨dst, op, ty, pos, after, guard⟩ := o
  simp only at ho
  subst ho
  simp [go_sem, hx, hb]
theorem leaves_field {k : Nat} (x : Operand) (ho : o.op = .fieldAddr 24 x k) (hk : k < 3) (hx : ρ x = .pointer (some ⟨b, 0, none⟩)) (h : post (.pointer (some ⟨b, k, none⟩)) w) : leaves Try.prog o ρ w post := by
  refine leaves_value (v := .pointer (some ⟨b, k, none⟩)) (w' := w) ?_ h
  obtain ⟨dst, op, ty, pos, after, guard⟩ := o
  simp only at ho
  subst ho
  match k, hk with
  | 0, _ => simp [go_sem, hx]
  | 1, _ => simp [go_sem, hx]
  | 2, _ => simp [go_sem, hx]
theorem leaves_eqBool (x y : Operand) (ho : o.op = .binOp .eql 4 x y 4) (b : Bool) (hx : ρ x = .bool b) (hy : ρ y = .bool b)
    (h : post (.bool true) w) : leaves Try.prog o ρ w post := by
  refine leaves_value (v := .bool true) (w' := w) ?_ h
  obtain ⟨dst, op, ty, pos, after, guard⟩ := o
  simp only at ho
  subst ho
  cases b <;> simp [go_sem, hx, hy]
theorem leaves_store {u0 u1 u2 : Value} {a d : Bool} {p : Option Addr} {n c : Nat} (x y : Operand) (ho : o.op = .store 24 x y) (hx : ρ x = .pointer (some ⟨b, 0, none⟩)) (hy : ρ y = .agg #[.bool a, .bool d, .slice p n c])
    (hb : Box w b u0 u1 u2) (h : post undef (put3 w b (.bool a) (.bool d) (.slice p n c))) : leaves Try.prog o ρ w post := by
  refine leaves_skip (w' := put3 w b (.bool a) (.bool d) (.slice p n c)) ?_ h
  have f0 := hb.free 0
  have f1 := hb.free 1
  have f2 := hb.free 2
  have x0 := hb.fst
  have x1 := hb.snd
  have x2 := hb.thd
  obtain ⟨dst, op, ty, pos, after, guard⟩ := o
  simp only at ho
  subst ho
  simp [go_sem, hx, hy, f0, f1, f2, x0, x1, x2, put3]
end

/-- What a law holds of the world in such a region: nothing older is turned, and its own box holds a path. -/
structure Law1 (w : World) (b : Nat) (a d : Bool) (p : Option Addr) (c : Nat) (l : List ByteArray) (W : World) : Prop where
  on : Below w.heap.size w W
  box : Box W b (.bool a) (.bool d) (.slice p l.length c)
  at_ : At W p l
theorem Law1.grow {w : World} {b : Nat} {a d : Bool} {p : Option Addr} {c : Nat} {l : List ByteArray} {W W' : World} (h : Law1 w b a d p c l W) (hb : Below W.heap.size W W') : Law1 w b a d p c l W' :=
  ⟨on_trans h.on hb, h.box.on hb, h.at_.on hb⟩

end Go.Proofs.Ytidcfbjefemhdaa
