/- Regions, of no program: operations that turn what is a queue's own. -/
import Derived.Test.YtfhkdndgiofidaaKHalf
namespace Go.Proofs.Ytfhkdndgiofidaa.K
open Go Go.RowKit

/-- These operations leave all that is not in 'F', the others only lay more. -/
def KeepF (F : Nat → Prop) (us : List Nat) (i : Nat) (w w' : World) : Prop := (i ∈ us ∧ Keep (fun k => ¬ F k) w w') ∨ Below w.heap.size w w'
def Kd.st (P : Value → World → Prop) (h : ∀ v w w', P v w → Below w.heap.size w w' → P v w') : Kd 0 := ⟨P, none, h, fun _ _ _ _ _ _ h _ => absurd h (Nat.not_lt_zero _)⟩
/-- A predicate that stays where only what is in 'F' is turned. -/
def Stays (F : Nat → Prop) (k : Kd 0) : Prop := ∀ v w w', k.ok v w → Keep (fun k => ¬ F k) w w' → k.ok v w'
theorem stays_is {F : Nat → Prop} (u : Value) : Stays F (Kd.is u) := fun _ _ _ h _ => h
theorem stays_any {F : Nat → Prop} : Stays F Kd.any := fun _ _ _ h _ => h
theorem keep_f {F : Nat → Prop} {ops : Array Oper} {ks : List (Kd 0)} {tl : Till} {us : List Nat}
    (h : ∀ u ∈ us, ∀ j, j ≠ u → edge ops j u = true ∨ (∃ x, tl.lookup j = some x ∧ (x = u ∨ edge ops u x = true)) ∨ Stays F (ks.getD j .any)) :
    ∀ i j v w w', KeepF F us i w w' → j ≠ i → edge ops j i = false → (∀ x, tl.lookup j = some x → x ≠ i ∧ edge ops i x = false) → (ks.getD j .any).ok v w → (ks.getD j .any).ok v w' := by
  intro i j v w w' hk hne he htl hok
  rcases hk with ⟨hi, hk⟩ | hk
  · rcases h i hi j hne with h1 | ⟨x, h1, h2⟩ | h1
    · rw [h1] at he; cases he
    · have h3 := htl x h1
      rcases h2 with h2 | h2
      · exact absurd h2 h3.1
      · rw [h2] at h3; cases h3.2
    · exact h1 v w w' hok hk
  · exact Kd.on _ v w w' hok hk
section
variable {P : Program} {o : Oper} {ρ : Operand → Value} {w w' : World} {post : Value → World → Prop} {v : Value}
theorem leaves_sliceTo (x l : Operand) (t : TypeId) (ho : o.op = Op.slice t x none (some l) none)
    (hr : (Instr.sliceAt t (ρ x) none (some (ρ l)) none).run P w = .ok v w') (hp : post v w') : leaves P o ρ w post := by
  refine leaves_value (v := v) (w' := w') ?_ hp
  obtain ⟨dst, op, ty, pos, after, guard⟩ := o
  simp only at ho
  subst ho
  simp [execOp, hr, Result.andThen]
end
theorem slice_to {P : Program} {T e : TypeId} {z : Value} {bytes : Nat} (E : ElemOk P T e z bytes) (sb so m c n : Nat) (hc : n ≤ c) (w : World) : (Instr.slice T (.slice (some ⟨sb, so, none⟩) m c) none (some (.int .i64 (n : Int))) none).run P w = .ok (.slice (some ⟨sb, so, none⟩) n c) w := by
  have hu : P.underlying T = some (.slice (P.elem T)) := by
    have := E.slice
    simp [Program.elem, this]
  have hel : P.elem T = e := by
    have := E.slice
    simp [Program.elem, this]
  obtain ⟨i, hi, _, h1, _⟩ := info_parts E.info
  have hs : (sizeOf e).run P w = .ok 1 w := by simp [sizeOf, typeInfo, hi, h1]
  rw [run_slice_h w T _ m c hu .i64 n (by omega) (by omega), hel, hs]
  simp only [Result.andThen, sliced, Int.toNat_natCast, Nat.zero_mul, Nat.sub_zero]
  split
  · rfl
  · simp only [Option.map, Addr.add]
    split
    · simp_all
    · rfl

/-- What Put leaves: the parts, how many bytes, an error. -/
def addLast (ps : List Pt) (b : List UInt8) : List Pt := match ps.getLast? with | none => ps | some x => ps.dropLast ++ [(x.1 ++ b, x.2)]
def putF (n : Nat) (ps : List Pt) (b : List UInt8) (L : List Ps) : List Pt × Nat × Int :=
  if b = [] ∨ 4 < L.length then (ps, 0, 22)
  else if total ps = n ∨ ((0 < L.length ∨ ps = []) ∧ ps.length = 16) then (ps, 0, 35)
  else (if 0 < L.length ∨ ps = [] then ps ++ [(b.take (n - total ps), L)] else addLast ps (b.take (n - total ps)), min b.length (n - total ps), 0)
theorem addLast_snoc (ps : List Pt) (x : Pt) (b : List UInt8) : addLast (ps ++ [x]) b = ps ++ [(x.1 ++ b, x.2)] := by simp [addLast]
theorem total_one (x : Pt) : total [x] = x.1.length := by simp [total]
theorem ok_begin {n : Nat} {ps : List Pt} {b : List UInt8} {L : List Ps} (h : Ok n ps) (hb : b ≠ []) (hl : total ps + b.length ≤ n) (hL : Few L) (h16 : ps.length ≠ 16) (hbeg : 0 < L.length ∨ ps = []) : Ok n (ps ++ [(b, L)]) := by
  have hf := h.few
  refine ⟨h.pos, h.most, by rw [total_app, total_one]; exact hl, by simp; omega, fun x hx => ?_, fun x hx => ?_, fun x hx => ?_⟩
  · rw [List.mem_append] at hx
    rcases hx with hx | hx
    · exact h.some x hx
    · simp at hx; subst hx; exact hb
  · cases ps with
    | nil => simp at hx
    | cons y r =>
      have h7 : 0 < L.length := by
        rcases hbeg with h7 | h7
        · exact h7
        · cases h7
      simp only [List.cons_append, List.tail_cons, List.mem_append, List.mem_singleton] at hx
      rcases hx with hx | hx
      · exact h.tail x hx
      · subst hx
        intro e
        simp only at e
        rw [e] at h7
        simp at h7
  · rw [List.mem_append] at hx
    rcases hx with hx | hx
    · exact h.pass x hx
    · simp at hx; subst hx; exact hL
theorem ok_last {n : Nat} {ps : List Pt} {x : Pt} {b : List UInt8} (h : Ok n (ps ++ [x])) (hl : total (ps ++ [x]) + b.length ≤ n) : Ok n (ps ++ [(x.1 ++ b, x.2)]) := by
  refine ⟨h.pos, h.most, by rw [total_app, total_one] at hl ⊢; simp; omega, by have := h.few; simpa using this, fun y hy => ?_, fun y hy => ?_, fun y hy => ?_⟩
  · rw [List.mem_append] at hy
    rcases hy with hy | hy
    · exact h.some y (by simp [hy])
    · simp at hy
      subst hy
      have := h.some x (by simp)
      simp [this]
  · cases ps with
    | nil => simp at hy
    | cons z r =>
      simp only [List.cons_append, List.tail_cons, List.mem_append, List.mem_singleton] at hy
      rcases hy with hy | hy
      · exact h.tail y (by simp [hy])
      · subst hy
        exact h.tail x (by simp)
  · rw [List.mem_append] at hy
    rcases hy with hy | hy
    · exact h.pass y (by simp [hy])
    · simp at hy
      subst hy
      exact h.pass x (by simp)

end Go.Proofs.Ytfhkdndgiofidaa.K
