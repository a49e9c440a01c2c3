/- Rows of structs, of no program: append of a list, copy, clear, growth by zeros. -/
import Derived.Test.YtigikmojhllmdaaGRowS
import Derived.Test.YtigikmojhllmdaaGCopy
import Derived.Lib.AppendZerosOnto
import Derived.Lib.Overlaps
import Derived.Maps.AppendAt
namespace Go.Proofs.Ytigikmojhllmdaa
open Go Go.RowKit

/-- append of a list of structs onto a row of one's own. -/
theorem append_rowS {P : Program} {t e : TypeId} {z : Value} {size bytes : Nat} (E : ElemS P t e z size bytes) (hi : Nat) (v : Value) (n : Nat) (s : List Value) (p : Option Addr) (cap m : Nat) (l : List Value) (W : World) (hn : n ≤ 1000000) (hm : m ≤ 1000000) (hl : l.length = m * size)
    (hone : ∀ u ∈ l, u.oneCell' = true) (hown : W.ownsRow hi e size v n s) (h : At W p l) (hhi : hi ≤ W.heap.size) :
    ∃ v' W', (∀ ty, (Builtin.append_ #[t, t] ty #[v, .slice p m cap]).run P W = .ok v' W') ∧ W'.ownsRow hi e size v' (n + m) (s ++ l) ∧ RowGrow hi e W W' := by
  obtain ⟨i0, hi0, hz0, hz1, hz2⟩ := info_parts E.info
  cases p with
  | none =>
    obtain rfl : l = [] := by
      rcases h with e | ⟨b, off, e, _⟩
      · exact e
      · cases e
    obtain rfl : m = 0 := by
      have := E.pos
      rcases Nat.mul_eq_zero.1 (show m * size = 0 by rw [← hl]; rfl) with h | h
      · exact h
      · omega
    refine ⟨v, W, fun ty => ?_, by rw [List.append_nil]; exact hown, rfl, rfl, rfl, Nat.le_refl _, none, (fun g e => by cases e), fun _ _ _ => rfl⟩
    rcases hown.2 with ⟨rfl, _⟩ | ⟨g, c, cur, rfl, _, _, hnc, _⟩
    · simp [Builtin.append_, run_underlying E.slice, sizeOf, typeInfo, hi0, Builtin.lenOf, Builtin.firstCells]
    · simp [Builtin.append_, run_underlying E.slice, sizeOf, typeInfo, hi0, Builtin.lenOf, Builtin.firstCells, hnc, storeCells]
  | some a =>
    have hfew := E.few
    have hbytes : (n + m) * bytes ≤ 140737488355328 := by
      have : (n + m) * bytes ≤ 2000000 * 100000 := Nat.mul_le_mul (by omega) hfew
      omega
    have key := fun ty => run_append_own (P := P) W hi t ty e i0 z size bytes E.slice hi0 hz0 hz1 hz2 E.cells E.pos v n s hown a m cap l hl (at_news h) hone (by unfold maxLen; omega) hbytes hhi
    obtain ⟨v', W', hrun, h1, hg, _⟩ := key t
    refine ⟨v', W', fun ty => ?_, h1, hg.os, hg.tape, hg.output, hg.size, v.ownBlock, fun g e' => ?_, fun k hk hne => hg.block k hk fun e => hne e.symm⟩
    · rw [← hrun]; rfl
    · rcases hown.2 with ⟨rfl, _⟩ | ⟨g', c, cur, rfl, hb, hg', _⟩
      · simp [Value.ownBlock] at e'
      · simp [Value.ownBlock] at e'
        subst e'
        exact ⟨hb, cur, _, hg'⟩

/-- And where the new row lies. -/
structure Grows (v v' : Value) (w w' : World) : Prop where
  os : w'.os = w.os
  tape : w'.tape = w.tape
  output : w'.output = w.output
  size : w.heap.size ≤ w'.heap.size
  block : ∀ k, k < w.heap.size → v.ownBlock ≠ some k → w'.heap[k]? = w.heap[k]?
  lies : ∀ x, v'.ownBlock = some x → v.ownBlock = some x ∨ w.heap.size ≤ x
/-- append of a list of structs onto a row of one's own, and where it lies. -/
theorem append_rowA {P : Program} {t e : TypeId} {z : Value} {size bytes : Nat} (E : ElemS P t e z size bytes) (hi : Nat) (v : Value) (n : Nat) (s : List Value) (p : Option Addr) (cap m : Nat) (l : List Value) (W : World) (hn : n ≤ 1000000) (hm : m ≤ 1000000) (hl : l.length = m * size)
    (hone : ∀ u ∈ l, u.oneCell' = true) (hown : W.ownsRow hi e size v n s) (h : At W p l) (hhi : hi ≤ W.heap.size) :
    ∃ v' W', (∀ ty, (Builtin.append_ #[t, t] ty #[v, .slice p m cap]).run P W = .ok v' W') ∧ W'.ownsRow hi e size v' (n + m) (s ++ l) ∧ RowGrow hi e W W' ∧ Grows v v' W W' := by
  obtain ⟨i0, hi0, hz0, hz1, hz2⟩ := info_parts E.info
  cases p with
  | none =>
    obtain rfl : l = [] := by
      rcases h with e | ⟨b, off, e, _⟩
      · exact e
      · cases e
    obtain rfl : m = 0 := by
      have := E.pos
      rcases Nat.mul_eq_zero.1 (show m * size = 0 by rw [← hl]; rfl) with h | h
      · exact h
      · omega
    refine ⟨v, W, fun ty => ?_, by rw [List.append_nil]; exact hown, ⟨rfl, rfl, rfl, Nat.le_refl _, none, (fun g e => by cases e), fun _ _ _ => rfl⟩, ⟨rfl, rfl, rfl, Nat.le_refl _, fun _ _ _ => rfl, fun _ h => .inl h⟩⟩
    rcases hown.2 with ⟨rfl, _⟩ | ⟨g, c, cur, rfl, _, _, hnc, _⟩
    · simp [Builtin.append_, run_underlying E.slice, sizeOf, typeInfo, hi0, Builtin.lenOf, Builtin.firstCells]
    · simp [Builtin.append_, run_underlying E.slice, sizeOf, typeInfo, hi0, Builtin.lenOf, Builtin.firstCells, hnc, storeCells]
  | some a =>
    have hfew := E.few
    have hbytes : (n + m) * bytes ≤ 140737488355328 := by
      have : (n + m) * bytes ≤ 2000000 * 100000 := Nat.mul_le_mul (by omega) hfew
      omega
    have key := fun ty => run_append_own_at (P := P) W hi t ty e i0 z size bytes E.slice hi0 hz0 hz1 hz2 E.cells E.pos v n s hown a m cap l hl (at_news h) hone (by unfold maxLen; omega) hbytes hhi
    obtain ⟨v', W', hrun, h1, hg, _, hw⟩ := key t
    refine ⟨v', W', fun ty => ?_, h1, ⟨hg.os, hg.tape, hg.output, hg.size, v.ownBlock, fun g e' => ?_, fun k hk hne => hg.block k hk fun e => hne e.symm⟩, ⟨hg.os, hg.tape, hg.output, hg.size, fun k hk hne => hg.block k hk fun e => hne e.symm, fun x hx => ?_⟩⟩
    · rw [← hrun]; rfl
    · rcases hown.2 with ⟨rfl, _⟩ | ⟨g', c, cur, rfl, hb, hg', _⟩
      · simp [Value.ownBlock] at e'
      · simp [Value.ownBlock] at e'
        subst e'
        exact ⟨hb, cur, _, hg'⟩
    · rcases hw with hw | hw
      · exact .inl (by rw [← hw]; exact hx)
      · rw [hx] at hw; cases hw; exact .inr (Nat.le_refl _)

/-- A row of one's own, opened: its block. -/
theorem rowS_blk {w : World} {hi n size cap g : Nat} {e : TypeId} {xs : List Value} (h : w.ownsRow hi e size (.slice (some ⟨g, 0, none⟩) n cap) n xs) : ∃ cs, Blk w g e cs ∧ cs.length = cap * size ∧ n ≤ cap ∧ cap ≤ maxLen ∧ hi ≤ g ∧ cs.take (n * size) = xs := by
  rcases h.2 with ⟨h0, _⟩ | ⟨g', cap', cur, h0, hb, hg, h1, h2, h3, h4⟩
  · cases h0
  · cases h0
    exact ⟨cur.toList, ⟨hg⟩, by rw [Array.length_toList]; exact h3, h1, h2, hb, h4⟩
theorem rowS_of {w : World} {hi n size cap g : Nat} {e : TypeId} {xs cs : List Value} (hb : Blk w g e cs) (hl : cs.length = cap * size) (hn : n ≤ cap) (hc : cap ≤ maxLen) (hg : hi ≤ g) (ht : cs.take (n * size) = xs) (hx : xs.length = n * size) : w.ownsRow hi e size (.slice (some ⟨g, 0, none⟩) n cap) n xs :=
  ⟨hx, .inr ⟨g, cap, cs.toArray, rfl, hg, hb.row, hn, hc, by rw [List.size_toArray]; exact hl, by simpa using ht⟩⟩

theorem size_of_elem {P : Program} {T e : TypeId} {z : Value} {size bytes : Nat} (E : ElemS P T e z size bytes) (w : World) : (sizeOf e).run P w = .ok size w := by
  obtain ⟨i, hi, _, h1, _⟩ := info_parts E.info
  simp [sizeOf, typeInfo, hi, h1]
/-- Structs copied into a block, from a place on. -/
theorem copy_intoS {P : Program} {T e : TypeId} {z : Value} {size bytes : Nat} (E : ElemS P T e z size bytes) {w : World} {g : Nat} {t : TypeId} {cs : List Value} (hb : Blk w g t cs) (o n dCap sLen sCap : Nat) (a : Addr) (l : List Value) (k : Nat) (hk : k = Nat.min sLen n) (hl : l.length = k * size) (hn : o + l.length ≤ cs.length)
    (hsrc : ∀ (j : Nat) v, l[j]? = some v → w.cell? (a.add j) = some v) (hone : ∀ v ∈ l, v.oneCell' = true) :
    ∃ w', (∀ ty, (Builtin.copy_ #[T, T] ty #[.slice (some ⟨g, o, none⟩) n dCap, .slice (some a) sLen sCap]).run P w = .ok (.int .i64 (k : Nat)) w') ∧ But g w w' ∧ Blk w' g t (cs.take o ++ l ++ cs.drop (o + l.length)) := by
  refine ⟨w.setCells g o l, fun ty => ?_, but_setCells _ _ _ _, blk_setCells l o w cs hb hn⟩
  have hld := run_firstCells_some (P := P) w size k a sLen sCap l hl hsrc
  have hst := run_storeCells_cells (P := P) g o l 0 w (fun j hj => by
    have : o + 0 + j < cs.length := by omega
    rw [hb.cell (o + 0 + j) (List.getElem?_eq_getElem this)]; rfl) (fun j _ => hb.free _) hone
  have hsz := size_of_elem E w
  subst hk
  have hmin : Nat.min sLen n = min sLen n := rfl
  rw [hmin] at hld
  simp [Builtin.copy_, run_underlying E.slice, Builtin.lenOf, hsz, hld, hst, goInt]
/-- A part of a block cleared. -/
theorem clear_partS {P : Program} {T e : TypeId} {z : Value} {size bytes : Nat} (E : ElemS P T e z size bytes) (hz : ∀ w, (zeroValue e).run P w = .ok z w) (hone : ∀ v ∈ z.cells.toList, v.oneCell' = true) {w : World} {g : Nat} {t : TypeId} {cs : List Value} (hb : Blk w g t cs) (o n dCap : Nat) (hn : o + n * size ≤ cs.length) (hpos : 0 < n) :
    ∃ w' l, (∀ ty, (Builtin.clear_ #[T] ty #[.slice (some ⟨g, o, none⟩) n dCap]).run P w = .ok (.tuple #[]) w') ∧ But g w w' ∧ l.length = n * size ∧ Blk w' g t (cs.take o ++ l ++ cs.drop (o + n * size)) := by
  have hlen : (Builtin.zeroCells z.cells n).toList.length = n * size := by rw [Array.length_toList, size_zeroCells, E.cells]
  have hstay := blk_setCells (Builtin.zeroCells z.cells n).toList o w cs hb (by rw [hlen]; exact hn)
  rw [hlen] at hstay
  refine ⟨w.setCells g o (Builtin.zeroCells z.cells n).toList, (Builtin.zeroCells z.cells n).toList, fun ty => ?_, but_setCells _ _ _ _, hlen, hstay⟩
  have hst := run_storeCells_cells (P := P) g o (Builtin.zeroCells z.cells n).toList 0 w (fun j hj => by
    have : o + 0 + j < cs.length := by rw [hlen] at hj; omega
    rw [hb.cell (o + 0 + j) (List.getElem?_eq_getElem this)]; rfl) (fun j _ => hb.free _) (fun v hv => by
      simp only [Builtin.zeroCells, Array.toList_map, List.mem_map] at hv
      obtain ⟨j, _, rfl⟩ := hv
      have hp := E.pos
      have hc := E.cells
      have hj : j % z.cells.size < z.cells.size := Nat.mod_lt _ (by omega)
      rw [getElem!_pos z.cells _ hj]
      exact hone _ (by rw [Array.mem_toList_iff]; exact Array.getElem_mem hj))
  obtain ⟨n, rfl⟩ : ∃ m, n = m + 1 := ⟨n - 1, by omega⟩
  simp [Builtin.clear_, run_underlying E.slice, hz, hst]

theorem elem_of {P : Program} {T e : TypeId} {z : Value} {size bytes : Nat} (E : ElemS P T e z size bytes) : P.underlying T = some (.slice (P.elem T)) ∧ P.elem T = e := by
  have h := E.slice
  exact ⟨by simp [Program.elem, h], by simp [Program.elem, h]⟩
/-- A slice from a place on. -/
theorem slice_fromS {P : Program} {T e : TypeId} {z : Value} {size bytes : Nat} (E : ElemS P T e z size bytes) (sb so m c n : Nat) (hn : n ≤ m) (hc : n < c) (w : World) : (Instr.slice T (.slice (some ⟨sb, so, none⟩) m c) (some (.int .i64 (n : Int))) none none).run P w = .ok (.slice (some ⟨sb, so + n * size, none⟩) (m - n) (c - n)) w := by
  obtain ⟨hu, hel⟩ := elem_of E
  rw [run_slice_l w T _ m c hu .i64 n (by omega) (by omega), hel, size_of_elem E w]
  simp only [Result.andThen, sliced, Int.toNat_natCast]
  rw [if_neg (by omega)]
  simp only [Option.map, Addr.add]
  split
  · simp_all
  · rfl
/-- A slice up to a place. -/
theorem slice_toS {P : Program} {T e : TypeId} {z : Value} {size bytes : Nat} (E : ElemS P T e z size bytes) (sb so m c n : Nat) (hc : n ≤ c) (w : World) : (Instr.slice T (.slice (some ⟨sb, so, none⟩) m c) none (some (.int .i64 (n : Int))) none).run P w = .ok (.slice (some ⟨sb, so, none⟩) n c) w := by
  obtain ⟨hu, hel⟩ := elem_of E
  rw [run_slice_h w T _ m c hu .i64 n (by omega) (by omega), hel, size_of_elem E w]
  simp only [Result.andThen, sliced, Int.toNat_natCast, Nat.zero_mul, Nat.sub_zero]
  split
  · rfl
  · simp only [Option.map, Addr.add]
    split
    · simp_all
    · rfl
/-- A slice from the end on, of nothing. -/
theorem slice_endS {P : Program} {T e : TypeId} {z : Value} {size bytes : Nat} (E : ElemS P T e z size bytes) (sb so m : Nat) (w : World) : (Instr.slice T (.slice (some ⟨sb, so, none⟩) m m) (some (.int .i64 (m : Int))) none none).run P w = .ok (.slice (some ⟨sb, so, none⟩) 0 0) w := by
  obtain ⟨hu, hel⟩ := elem_of E
  rw [run_slice_l w T _ m m hu .i64 m (by omega) (by omega), hel, size_of_elem E w]
  simp only [Result.andThen, sliced, Int.toNat_natCast, if_true, Nat.sub_self]

end Go.Proofs.Ytigikmojhllmdaa
