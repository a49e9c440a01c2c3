/- Memory, of no program: rows of structs of one's own. -/
import Derived.Test.YtigikmojhllmdaaGRow
namespace Go.Proofs.Ytigikmojhllmdaa
open Go Go.RowKit

/-- What is asked of a slice's type: its elements are of 'size' cells. -/
structure ElemS (P : Program) (t e : TypeId) (z : Value) (size bytes : Nat) : Prop where
  slice : P.underlying t = some (.slice e)
  info : (P.info? e).map (fun i => (i.zero, i.size, i.bytes)) = some (some z, size, bytes)
  cells : z.cells.size = size
  pos : 0 < size
  few : bytes ≤ 100000
section
variable {hi size n : Nat} {e : TypeId} {w w' : World} {v : Value} {s : List Value}
theorem rowS_at (h : w.ownsRow hi e size v n s) : ∃ p cap, v = .slice p n cap ∧ AtF hi w p s ∧ n ≤ cap := by
  rcases h.2 with ⟨h0, h1⟩ | ⟨g, cap, cur, rfl, hb, hg, hc, _, hs, ht⟩
  · have hl := h.1
    rw [h1, Nat.zero_mul] at hl
    have e : s = [] := List.eq_nil_of_length_eq_zero hl
    subst e h1
    exact ⟨none, 0, h0, .nil _ _ _, Nat.le_refl _⟩
  · refine ⟨some ⟨g, 0, none⟩, cap, rfl, .inr ⟨g, 0, rfl, hb, (Array.getElem?_eq_some_iff.1 hg).1, fun j u hu => ?_⟩, hc⟩
    rw [← ht] at hu
    have hj := (List.getElem?_eq_some_iff.1 hu).1
    rw [List.length_take] at hj
    rw [List.getElem?_take_of_lt (by omega)] at hu
    simp only [World.cell?, hg, Nat.zero_add]
    simpa using hu
theorem rowS_on (h : w.ownsRow hi e size v n s) (hb : Below w.heap.size w w') : w'.ownsRow hi e size v n s := by
  refine ⟨h.1, ?_⟩
  rcases h.2 with h0 | ⟨g, cap, cur, rfl, hbs, hg, h3⟩
  · exact .inl h0
  · exact .inr ⟨g, cap, cur, rfl, hbs, (hb.block g (Array.getElem?_eq_some_iff.1 hg).1).trans hg, h3⟩
theorem rowS_but {b : Nat} {_t : TypeId} {_cs : List Value} (h : w.ownsRow hi e size v n s) (hb : But b w w') (hlt : b < hi ∨ ∀ g cap, v = .slice (some ⟨g, 0, none⟩) n cap → g ≠ b) : w'.ownsRow hi e size v n s := by
  refine ⟨h.1, ?_⟩
  rcases h.2 with h0 | ⟨g, cap, cur, rfl, hbs, hg, h3⟩
  · exact .inl h0
  · refine .inr ⟨g, cap, cur, rfl, hbs, (hb.block g ?_).trans hg, h3⟩
    rcases hlt with h7 | h7
    · omega
    · exact h7 g cap rfl
theorem rowS_empty (W : World) (hi : Nat) (e : TypeId) (size : Nat) (h : hi ≤ W.heap.size) : (W.alloc (.cells #[] e)).ownsRow hi e size (.slice (some ⟨W.heap.size, 0, none⟩) 0 0) 0 [] :=
  World.ownsRow_made W #[] 0 h (by unfold maxLen; omega) (by simp)
end
/-- append of one struct onto a row of one's own. -/
theorem append_struct {P : Program} {t e : TypeId} {z : Value} {size bytes : Nat} (E : ElemS P t e z size bytes) (hi : Nat) (v : Value) (n : Nat) (s l : List Value) (W : World) (hn : n ≤ 1000000) (hl : l.length = size)
    (hone : ∀ u ∈ l, u.oneCell' = true) (hown : W.ownsRow hi e size v n s) (hhi : hi ≤ W.heap.size) :
    ∃ v' W', (Builtin.append_ #[t, t] t #[v, .slice (some ⟨W.heap.size, 0, none⟩) 1 1]).run P (W.alloc (.cells l.toArray e)) = .ok v' W' ∧ W'.ownsRow hi e size v' (n + 1) (s ++ l) ∧ RowGrow hi e W W' := by
  obtain ⟨i0, hi0, hz0, hz1, hz2⟩ := info_parts E.info
  have hfew := E.few
  have hbytes : (n + 1) * bytes ≤ 140737488355328 := by
    have : (n + 1) * bytes ≤ 1000001 * 100000 := Nat.mul_le_mul (by omega) hfew
    omega
  have hB := Blk.new W e l
  have hown1 := rowS_on hown (on_alloc W (.cells l.toArray e))
  obtain ⟨v', W', hrun, h1, hg, _⟩ := run_append_own (P := P) (W.alloc (.cells l.toArray e)) hi t t e i0 z size bytes E.slice hi0 hz0 hz1 hz2 E.cells E.pos v n s hown1
    ⟨W.heap.size, 0, none⟩ 1 1 l (by simp [hl]) (fun j u hu => by
      have e : (⟨W.heap.size, 0, none⟩ : Addr).add j = ⟨W.heap.size, j, none⟩ := by unfold Addr.add; split <;> simp_all
      rw [e]; exact hB.cell j hu) hone (by unfold maxLen; omega) hbytes (by simp; omega)
  refine ⟨v', W', hrun, h1, RowGrow.of_alloc (o := .cells l.toArray e) ⟨hg.os, hg.tape, hg.output, hg.size, v.ownBlock, fun g e' => ?_, fun k hk hne => hg.block k hk fun e => hne e.symm⟩⟩
  rcases hown1.2 with ⟨rfl, _⟩ | ⟨g', c, cur, rfl, hb, hg', _⟩
  · simp [Value.ownBlock] at e'
  · simp [Value.ownBlock] at e'
    subst e'
    exact ⟨hb, cur, _, hg'⟩

end Go.Proofs.Ytigikmojhllmdaa
