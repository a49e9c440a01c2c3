/- Steps of a region that draws its order, kind by kind. -/
import Derived.Test.YthicbobddopcpaaDoorWRefHas
import Derived.Test.YthicbobddopcpaaDoorWLives
namespace Go.Proofs.YthicbobddopcpaaDoor
open Go Go.RowKit Go.Shelf Go.Sort

section
variable {P : Program} {o : Oper} {ρ : Operand → Value} {w : World} {post : Value → World → Prop}

theorem leaves_call {f : FuncId} (he : ∀ args w, (callFunc f args).run P w = .ok (.enter f args) w) (hr : Reads ρ) (xs : Array Operand) (ats : Array TypeId)
    (ho : o.op = .call { callee := .value (.func f), args := xs, argTypes := ats }) (vs : Array Value) (hv : xs.map ρ = vs)
    (hc : Calls P f vs w fun e w' => ∃ v, e = .returned v ∧ post v w') : leaves P o ρ w post := by
  refine leaves_enter (f := f) (args := vs) (w' := w) ?_ hc
  obtain ⟨dst, op, ty, pos, after, guard⟩ := o
  simp only at ho
  subst ho hv
  have hfv := hr.fn f
  simp [execOp, resolve, hfv, Deferred.ofValue, invoke, he]

theorem leaves_slice (t : TypeId) (x : Operand) (lo hi mx : Option Operand) (ho : o.op = .slice t x lo hi mx) {v : Value} (hrun : (Instr.sliceAt t (ρ x) (lo.map ρ) (hi.map ρ) (mx.map ρ)).run P w = .ok v w) (h : post v w) : leaves P o ρ w post := by
  refine leaves_value (v := v) (w' := w) ?_ h
  obtain ⟨dst, op, ty, pos, after, guard⟩ := o
  simp only at ho
  subst ho
  simp [execOp, hrun]
theorem leaves_pick (c x y : Operand) (ho : o.op = .pick c x y) (b : Bool) (hb : ρ c = .bool b) (h : post (if b then ρ x else ρ y) w) : leaves P o ρ w post := by
  refine leaves_value (v := if b then ρ x else ρ y) (w' := w) ?_ h
  obtain ⟨dst, op, ty, pos, after, guard⟩ := o
  simp only at ho
  subst ho
  cases b <;> simp [execOp, hb, asBool]
end

theorem leaves_load {o : Oper} {ρ : Operand → Value} {w : World} {post : Value → World → Prop} (x : Operand) (ho : o.op = .load 24 x) {b : Nat} {v0 v1 : Value} (hx : ρ x = .pointer (some ⟨b, 0, none⟩)) (hb : Box w b v0 v1)
    (h : post (.agg #[v0, v1]) w) : leaves Tryd.prog o ρ w post := by
  refine leaves_value (v := .agg #[v0, v1]) (w' := w) ?_ h
  unfold execOp
  simp only [ho, hx, Instr.loadAt, Instr.sureAddr, Sem.run_bind, Sem.run_pure, Result.andThen_ok, run_loadVar_box hb]

theorem leaves_eqBool {o : Oper} {ρ : Operand → Value} {w : World} {post : Value → World → Prop} (x y : Operand) (ho : o.op = .binOp .eql 4 x y 4) (b : Bool) (hx : ρ x = .bool b) (hy : ρ y = .bool b)
    (h : post (.bool true) w) : leaves Tryd.prog o ρ w post := by
  refine leaves_value (v := .bool true) (w' := w) ?_ h
  obtain ⟨dst, op, ty, pos, after, guard⟩ := o
  simp only at ho
  subst ho
  cases b <;> simp [go_sem, hx, hy]

theorem leaves_store {o : Oper} {ρ : Operand → Value} {w : World} {post : Value → World → Prop} (x y : Operand) (ho : o.op = .store 24 x y) {b : Nat} {u0 u1 : Value} {all : Bool} {p : Option Addr} {n c : Nat} (hx : ρ x = .pointer (some ⟨b, 0, none⟩)) (hy : ρ y = .agg #[.bool all, .slice p n c])
    (hb : Box w b u0 u1) (h : post undef ((w.setCell ⟨b, 0, none⟩ (.bool all)).setCell ⟨b, 1, none⟩ (.slice p n c))) : leaves Tryd.prog o ρ w post := by
  refine leaves_skip (w' := (w.setCell ⟨b, 0, none⟩ (.bool all)).setCell ⟨b, 1, none⟩ (.slice p n c)) ?_ h
  have f0 := hb.free0
  have f1 := hb.free1
  have x0 := hb.fst
  have x1 := hb.snd
  obtain ⟨dst, op, ty, pos, after, guard⟩ := o
  simp only at ho
  subst ho
  simp [go_sem, hx, hy, f0, f1, x0, x1]

theorem en_few : ∀ args w, (callFunc 9 args).run Tryd.prog w = .ok (.enter 9 args) w := enters_of Tryd.func9 (by kernel_rfl) rfl
theorem en_short : ∀ args w, (callFunc 10 args).run Tryd.prog w = .ok (.enter 10 args) w := enters_of Tryd.func10 (by kernel_rfl) rfl
theorem en_lives : ∀ args w, (callFunc 16 args).run Tryd.prog w = .ok (.enter 16 args) w := enters_of Tryd.func16 (by kernel_rfl) rfl
theorem en_can : ∀ args w, (callFunc 14 args).run Tryd.prog w = .ok (.enter 14 args) w := enters_of Tryd.func14 (by kernel_rfl) rfl
theorem en_has : ∀ args w, (callFunc 17 args).run Tryd.prog w = .ok (.enter 17 args) w := enters_of Tryd.func17 (by kernel_rfl) rfl
theorem en_subset : ∀ args w, (callFunc 19 args).run Tryd.prog w = .ok (.enter 19 args) w := enters_of Tryd.func19 (by kernel_rfl) rfl
theorem en_and : ∀ args w, (callFunc 21 args).run Tryd.prog w = .ok (.enter 21 args) w := enters_of Tryd.func21 (by kernel_rfl) rfl
theorem en_show : ∀ args w, (callFunc 27 args).run Tryd.prog w = .ok (.enter 27 args) w := enters_of Tryd.func27 (by kernel_rfl) rfl
theorem en_clone : ∀ args w, (callFunc 30 args).run Tryd.prog w = .ok (.enter 30 args) w := enters_of Tryd.func30 (by kernel_rfl) rfl
theorem en_rcan : ∀ args w, (callFunc 15 args).run Tryd.prog w = .ok (.enter 15 args) w := enters_of Tryd.func15 (by kernel_rfl) rfl
theorem en_rhas : ∀ args w, (callFunc 18 args).run Tryd.prog w = .ok (.enter 18 args) w := enters_of Tryd.func18 (by kernel_rfl) rfl
theorem en_rsubset : ∀ args w, (callFunc 20 args).run Tryd.prog w = .ok (.enter 20 args) w := enters_of Tryd.func20 (by kernel_rfl) rfl
theorem en_rand : ∀ args w, (callFunc 22 args).run Tryd.prog w = .ok (.enter 22 args) w := enters_of Tryd.func22 (by kernel_rfl) rfl
theorem en_same : ∀ args w, (callFunc 13 args).run Tryd.prog w = .ok (.enter 13 args) w := enters_of Tryd.func13 (by kernel_rfl) rfl
theorem en_in : ∀ args w, (callFunc 33 args).run Tryd.prog w = .ok (.enter 33 args) w := enters_of Tryd.func33 (by kernel_rfl) rfl

/-- What a law holds of the world in such a region: nothing older is turned, and its own box holds a list. -/
structure Law1 (w : World) (b : Nat) (all : Bool) (p : Option Addr) (c : Nat) (l : List Int) (W : World) : Prop where
  on : Below w.heap.size w W
  box : Box W b (.bool all) (.slice p l.length c)
  at_ : At W p l
theorem Law1.grow {w : World} {b : Nat} {all : Bool} {p : Option Addr} {c : Nat} {l : List Int} {W W' : World} (h : Law1 w b all p c l W) (hb : Below W.heap.size W W') : Law1 w b all p c l W' :=
  ⟨on_trans h.on hb, h.box.on hb, h.at_.on hb⟩

end Go.Proofs.YthicbobddopcpaaDoor
