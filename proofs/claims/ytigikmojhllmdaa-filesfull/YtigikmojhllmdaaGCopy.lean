/- copy and clear, of no program: into a block of cells. -/
import Derived.Test.YtigikmojhllmdaaGRow
import Derived.Laws.CopyRow
import Derived.Laws.IdiomCopy
import Derived.Lib.SliceRun
import Derived.Laws.MakeOwn
namespace Go.Proofs.Ytigikmojhllmdaa
open Go Go.RowKit

theorem but_setRow (w : World) (g : Nat) (cs : Array Value) : But g w (w.setRow g cs) :=
  ⟨rfl, rfl, rfl, by simp [World.setRow], fun k hk => by simp [World.setRow, Array.getElem?_modify, Ne.symm hk]⟩
theorem blk_setRow {w : World} {g : Nat} {t : TypeId} {cs : List Value} (h : Blk w g t cs) (vs : List Value) : Blk (w.setRow g vs.toArray) g t vs := ⟨setRow_heap w g cs.toArray _ t _ h.row⟩
/-- Bytes copied into a block, from a place on. -/
theorem copy_into {P : Program} {T e : TypeId} {z : Value} {bytes : Nat} (E : ElemOk P T e z bytes) {w : World} {g : Nat} {t : TypeId} {cs : List Value} (hb : Blk w g t cs) (o n dCap sLen sCap : Nat) (a : Addr) (l : List Value) (hl : l.length = Nat.min sLen n) (hn : o + n = cs.length)
    (hsrc : ∀ (j : Nat) v, l[j]? = some v → w.cell? (a.add j) = some v) (hone : ∀ v ∈ l, v.oneCell' = true) :
    ∃ w', (∀ ty, (Builtin.copy_ #[T, T] ty #[.slice (some ⟨g, o, none⟩) n dCap, .slice (some a) sLen sCap]).run P w = .ok (.int .i64 (l.length : Nat)) w') ∧ But g w w' ∧ Blk w' g t (cs.take o ++ l ++ cs.drop (o + l.length)) := by
  have hs : (P.info? e).map (·.size) = some 1 := by
    obtain ⟨i, hi, _, h1, _⟩ := info_parts E.info
    simp [hi, h1]
  have hle : l.length ≤ n := by rw [hl]; exact Nat.min_le_right _ _
  refine ⟨_, fun ty => run_copy_row P w T T ty e g o n dCap a sLen sCap cs.toArray t l E.slice hs hb.row hl hsrc (by simp; omega) hone, but_setRow _ _ _, ?_⟩
  have := blk_setRow hb (cs.take o ++ l ++ cs.drop (o + l.length))
  simpa using this
theorem but_setCells (b : Nat) : ∀ (vs : List Value) (o : Nat) (w : World), But b w (w.setCells b o vs)
  | [], _, w => But.refl b w
  | v :: r, o, w => (but_set w b o v).trans (but_setCells b r (o + 1) _)
theorem blk_setCells {b : Nat} {t : TypeId} : ∀ (vs : List Value) (o : Nat) (w : World) (cs : List Value), Blk w b t cs → o + vs.length ≤ cs.length → Blk (w.setCells b o vs) b t (cs.take o ++ vs ++ cs.drop (o + vs.length))
  | [], o, w, cs, h, _ => by simpa [World.setCells] using h
  | v :: r, o, w, cs, h, hl => by
    have := blk_setCells r (o + 1) _ (cs.set o v) (h.set o v) (by simp at hl ⊢; omega)
    rw [list_seg_step cs o v r (by simpa using hl)] at this
    exact this
/-- A block's end cleared. -/
theorem clear_end {P : Program} {T e : TypeId} {z : Value} {bytes : Nat} (E : ElemOk P T e z bytes) (hz : ∀ w, (zeroValue e).run P w = .ok z w) (hzc : z.cells = #[z]) (hzo : z.oneCell' = true) {w : World} {g : Nat} {t : TypeId} {cs : List Value} (hb : Blk w g t cs) (o n dCap : Nat) (hn : o + n = cs.length) (hpos : 0 < n) :
    ∃ w', (∀ ty, (Builtin.clear_ #[T] ty #[.slice (some ⟨g, o, none⟩) n dCap]).run P w = .ok (.tuple #[]) w') ∧ But g w w' ∧ Blk w' g t (cs.take o ++ List.replicate n z) := by
  refine ⟨_, fun ty => Lib.run_clear_slice w T e ty z E.slice hz hzc hzo g o n dCap hpos (fun j hj => ?_) (fun j hj => hb.free _), but_setCells _ _ _ _, ?_⟩
  · have : o + j < cs.length := by omega
    rw [hb.cell (o + j) (List.getElem?_eq_getElem this)]; rfl
  · have := blk_setCells (List.replicate n z) o w cs hb (by simp; omega)
    rw [List.length_replicate, hn, List.drop_length, List.append_nil] at this
    exact this

theorem made_list (z : Value) (n : Nat) : (madeCells #[z] n).toList = List.replicate n z := by
  refine List.ext_getElem (by simp [size_madeCells]) fun i h1 h2 => ?_
  simp [madeCells, Nat.mod_one]
/-- A slice made. -/
theorem make_row {P : Program} {T e : TypeId} {z : Value} {bytes : Nat} (E : ElemOk P T e z bytes) (hz : z.cells = #[z]) (n : Nat) (hn : n ≤ 1000000) (w : World) :
    ∃ w', (Instr.makeSlice T (.int .i64 (n : Int)) (.int .i64 (n : Int))).run P w = .ok (.slice (some ⟨w.heap.size, 0, none⟩) n n) w' ∧ Blk w' w.heap.size e (List.replicate n z) ∧ Below w.heap.size w w' ∧ w'.heap.size = w.heap.size + 1 := by
  obtain ⟨i, hi, h0, h1, h2⟩ := info_parts E.info
  have hf := E.few
  have hb : (i.bytes : Int) * (n : Int) ≤ 281474976710656 := by
    have : i.bytes * n ≤ 1000 * 1000000 := Nat.mul_le_mul (by omega) hn
    have h7 : ((i.bytes * n : Nat) : Int) ≤ 281474976710656 := by omega
    rwa [Int.natCast_mul] at h7
  have hr := run_make (P := P) w T e i z E.slice hi h0 .i64 .i64 n n (by omega) (Int.le_refl _) hb (by omega)
  simp only [Int.toNat_natCast, h1, Nat.mul_one, hz] at hr
  refine ⟨_, hr, ⟨?_⟩, on_alloc _ _, by simp⟩
  rw [World.alloc_heap_new, ← made_list z n]
/-- A slice from a place on. -/
theorem slice_from {P : Program} {T e : TypeId} {z : Value} {bytes : Nat} (E : ElemOk P T e z bytes) (sb so m c n : Nat) (hn : n ≤ m) : ∃ x, (∀ w, (Instr.slice T (.slice (some ⟨sb, so, none⟩) m c) (some (.int .i64 (n : Int))) none none).run P w = .ok (.slice (some ⟨sb, x, none⟩) (m - n) (c - n)) w) ∧ (n < c → x = so + n) := by
  have hu : P.underlying T = some (.slice (P.elem T)) := by
    have := E.slice
    simp [Program.elem, this]
  have hel : P.elem T = e := by
    have := E.slice
    simp [Program.elem, this]
  obtain ⟨i, hi, _, h1, _⟩ := info_parts E.info
  refine ⟨if c = n then so else so + n, fun w => ?_, fun h => by rw [if_neg (by omega)]⟩
  have hs : (sizeOf e).run P w = .ok 1 w := by simp [sizeOf, typeInfo, hi, h1]
  rw [run_slice_l w T _ m c hu .i64 n (by omega) (by omega), hel, hs]
  simp only [Result.andThen, sliced, Int.toNat_natCast, Nat.mul_one]
  by_cases hc : c = n
  · rw [if_pos hc, if_pos hc]
  · rw [if_neg hc, if_neg hc]
    simp only [Option.map, Addr.add]
    split
    · simp_all
    · rfl

section
variable {P : Program} {o : Oper} {w w' : World} {ops : Array Oper} {rest : List Oper} {a : Act} {v : Value} {Q : Exit → Act → World → Prop}
theorem leaves_copy {ρ : Operand → Value} {post : Value → World → Prop} (d x : Operand) (dT sT : TypeId) (ho : o.op = Op.call { callee := Callee.builtin Builtin.copy, args := #[d, x], argTypes := #[dT, sT] })
    (hr : (Builtin.copy_ #[dT, sT] o.type #[ρ d, ρ x]).run P w = .ok v w') (hp : post v w') : leaves P o ρ w post := by
  refine leaves_value (v := v) (w' := w') ?_ hp
  obtain ⟨dst, op, ty, pos, after, guard⟩ := o
  simp only at ho
  subst ho
  rw [BigFrame.execOp_builtin, BigFrame.builtin_copy]
  simp only [List.map_toArray, List.map_cons, List.map_nil]
  rw [Sem.run_bind, hr]
  rfl
theorem leaves_slice {ρ : Operand → Value} {post : Value → World → Prop} (x l : Operand) (t : TypeId) (ho : o.op = Op.slice t x (some l) none none)
    (hr : (Instr.sliceAt t (ρ x) (some (ρ l)) none none).run P w = .ok v w') (hp : post v w') : leaves P o ρ w post := by
  refine leaves_value (v := v) (w' := w') ?_ hp
  obtain ⟨dst, op, ty, pos, after, guard⟩ := o
  simp only at ho
  subst ho
  simp [execOp, hr, Result.andThen]
theorem wpList_run_copy (hgd : o.guard = none) (d x : Operand) (dT sT : TypeId) (hop : o.op = Op.call { callee := Callee.builtin Builtin.copy, args := #[d, x], argTypes := #[dT, sT] })
    (u1 u2 : Value) (h1 : a.eval d = u1) (h2 : a.eval x = u2) (hr : (Builtin.copy_ #[dT, sT] o.type #[u1, u2]).run P w = .ok v w') (h : wpList P ops Q rest (a.put o.dst v) w') : wpList P ops Q (o :: rest) a w := by
  subst h1 h2
  refine wpList_plain hgd fun K' hK' => ?_
  unfold Oper.wp
  simp [execOp, hop, resolve, invoke, builtin, hr, Result.andThen]
  exact hK' _ _ h
end

end Go.Proofs.Ytigikmojhllmdaa
