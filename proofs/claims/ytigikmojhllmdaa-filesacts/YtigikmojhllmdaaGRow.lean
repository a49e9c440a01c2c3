/- Memory, of no program: rows of one's own beside boxes and rows of another type. -/
import Derived.Test.YtigikmojhllmdaaGMore
namespace Go.Proofs.Ytigikmojhllmdaa
open Go Go.RowKit

section
variable {hi hi' b g cap : Nat} {e e' t : TypeId} {w w' : World} {v : Value} {s cs : List Value}
theorem ownV_ty (h : OwnV hi e w v s) (hb : But b w w') (hk : Blk w b t cs) (hne : t ≠ e) : OwnV hi e w' v s := by
  refine ⟨h.1, ?_⟩
  rcases h.2 with h0 | ⟨g, cap, cur, rfl, hbs, hg, h3, h4, h5, h6⟩
  · exact .inl h0
  · refine .inr ⟨g, cap, cur, rfl, hbs, (hb.block g fun e' => ?_).trans hg, h3, h4, h5, h6⟩
    subst e'
    rw [hk.row] at hg
    simp at hg
    exact hne hg.2
theorem ownV_grow (h : OwnV hi' e' w v s) (hg : RowGrow hi e w w') (hne : e' ≠ e) : OwnV hi' e' w' v s := by
  obtain ⟨r, h1, h2⟩ := hg.block
  refine ⟨h.1, ?_⟩
  rcases h.2 with h0 | ⟨g, cap, cur, rfl, hbs, hg, h3, h4, h5, h6⟩
  · exact .inl h0
  · refine .inr ⟨g, cap, cur, rfl, hbs, (h2 g (Array.getElem?_eq_some_iff.1 hg).1 fun e' => ?_).trans hg, h3, h4, h5, h6⟩
    obtain ⟨_, cs', fr, h7⟩ := h1 g e'
    rw [hg] at h7
    simp at h7
    exact hne h7.2.1
theorem ownV_place (h : OwnV hi e w v s) {k : Nat} (hk : k < s.length) : ∃ g cap, v = .slice (some ⟨g, 0, none⟩) s.length cap ∧ hi ≤ g ∧ g < w.heap.size := by
  rcases h.2 with ⟨_, h1⟩ | ⟨g, cap, cur, rfl, hb, hg, _⟩
  · omega
  · exact ⟨g, cap, rfl, hb, (Array.getElem?_eq_some_iff.1 hg).1⟩
theorem ownV_row (h : OwnV hi e w (.slice (some ⟨g, 0, none⟩) s.length cap) s) : ∃ cur, w.heap[g]? = some (.cells cur e (0, 0)) := by
  rcases h.2 with ⟨h0, _⟩ | ⟨g', cap', cur, h0, _, hg, _⟩
  · cases h0
  · cases h0; exact ⟨cur, hg⟩
theorem ownV_apart {g' cap' : Nat} {s' : List Value} (h : OwnV hi e w (.slice (some ⟨g, 0, none⟩) s.length cap) s) (h' : OwnV hi' e' w (.slice (some ⟨g', 0, none⟩) s'.length cap') s') (hne : e ≠ e') : g ≠ g' := fun ee => by
  subst ee
  obtain ⟨c1, h1⟩ := ownV_row h
  obtain ⟨c2, h2⟩ := ownV_row h'
  rw [h1] at h2
  simp at h2
  exact hne h2.2
theorem ownV_set (h : OwnV hi e w (.slice (some ⟨g, 0, none⟩) s.length cap) s) (k : Nat) (x : Value) : OwnV hi e (w.setCell ⟨g, k, none⟩ x) (.slice (some ⟨g, 0, none⟩) s.length cap) (s.set k x) := by
  have := (h.stored k x).1
  show World.ownsRow _ hi e 1 _ (s.set k x).length (s.set k x)
  rw [List.length_set]
  exact this
theorem RowGrow.of_alloc {o : Obj} (h : RowGrow hi e (w.alloc o) w') : RowGrow hi e w w' := by
  obtain ⟨r, h1, h2⟩ := h.block
  have hb := on_alloc w o
  refine ⟨h.os.trans hb.os, h.tape.trans hb.tape, h.output.trans hb.output, Nat.le_trans hb.size h.size, ?_⟩
  cases r with
  | none => exact ⟨none, (fun g e => by cases e), fun k hk _ => (h2 k (by simp; omega) (by simp)).trans (hb.block k hk)⟩
  | some g =>
    by_cases hg : g < w.heap.size
    · refine ⟨some g, fun g' e => ?_, fun k hk hne => (h2 k (by simp; omega) hne).trans (hb.block k hk)⟩
      cases e
      obtain ⟨h3, cs', fr, h4⟩ := h1 g rfl
      exact ⟨h3, cs', fr, (hb.block g hg).symm.trans h4⟩
    · exact ⟨none, (fun g e => by cases e), fun k hk _ => (h2 k (by simp; omega) (by simp; omega)).trans (hb.block k hk)⟩
end
/-- One value more, and what is kept. -/
theorem append_one_grow {P : Program} {t e : TypeId} {z : Value} {bytes : Nat} (E : ElemOk P t e z bytes) (hi : Nat) (v : Value) (s : List Value) (x : Value) (W : World) (hs : s.length ≤ 1000000) (hx : x.oneCell' = true) (hown : OwnV hi e W v s) (hhi : hi ≤ W.heap.size) :
    ∃ v' W', (Builtin.append_ #[t, t] t #[v, .slice (some ⟨W.heap.size, 0, none⟩) 1 1]).run P (W.alloc (.cells #[x] e)) = .ok v' W' ∧ OwnV hi e W' v' (s ++ [x]) ∧ RowGrow hi e W W' := by
  obtain ⟨v', W', h1, h2, h3⟩ := append_row E hi v s (some ⟨W.heap.size, 0, none⟩) 1 [x] (W.alloc (.cells #[x] e)) hs (by simp) (fun u hu => by simp at hu; subst hu; exact hx) (ownV_on hown (on_alloc _ _)) (at_row1 W e x).at (by simp; omega)
  exact ⟨v', W', h1, h2, h3.of_alloc⟩

end Go.Proofs.Ytigikmojhllmdaa
