/- Processes in memory: a table's box and its row. -/
import Derived.Test.YthmefiegoagkjaaGTab
import Derived.Test.YthmefiegoagkjaaYMod
import Derived.Test.YthmefiegoagkjaaProg
namespace Go.Proofs.Ythmefiegoagkjaa.Y
open Go Go.RowKit

abbrev ptr (b : Nat) : Value := .pointer (some ⟨b, 0, none⟩)
def prC (x : Pr) : List Value := [.int .i64 x.pid, .int .i64 x.parent, .bool x.lives, .int .i64 x.code, .bool x.pd, .bool x.cap, .int .i64 x.cwd]
theorem prC_one (x : Pr) : ∀ u ∈ prC x, u.oneCell' = true := by
  intro u hu
  simp only [prC, List.mem_cons, List.not_mem_nil, or_false] at hu
  rcases hu with rfl | rfl | rfl | rfl | rfl | rfl | rfl <;> rfl
def encP : T.Enc Pr := ⟨prC, 7, 37, fun _ => rfl, prC_one, by decide⟩
abbrev TabAt := T.TabAt encP
abbrev Row := T.Row encP
abbrev flat := T.flat encP
theorem flat_length (l : List Pr) : (flat l).length = l.length * 7 := T.flat_length encP l
theorem flat_cell (l : List Pr) : ∀ u ∈ flat l, u.oneCell' = true := T.flat_cell encP l
theorem elemP : ElemS Try.prog 31 37 (.agg #[.int .i64 0, .int .i64 0, .bool false, .int .i64 0, .bool false, .bool false, .int .i64 0]) 7 48 := ⟨Try.underlying31, by kernel_rfl, rfl, by decide, by decide⟩
theorem zeroP : ∀ w, (zeroValue 37).run Try.prog w = .ok (.agg #[.int .i64 0, .int .i64 0, .bool false, .int .i64 0, .bool false, .bool false, .int .i64 0]) w := fun w => by kernel_rfl
theorem infoP : (Try.prog.info? 37).map (·.size) = some 7 := by kernel_rfl

/-- A process's cells, at a place of a row. -/
structure Cells (w : World) (g k : Nat) (x : Pr) : Prop where
  c0 : w.cell? ⟨g, k * 7, none⟩ = some (.int .i64 x.pid)
  c1 : w.cell? ⟨g, k * 7 + 1, none⟩ = some (.int .i64 x.parent)
  c2 : w.cell? ⟨g, k * 7 + 2, none⟩ = some (.bool x.lives)
  c3 : w.cell? ⟨g, k * 7 + 3, none⟩ = some (.int .i64 x.code)
  c4 : w.cell? ⟨g, k * 7 + 4, none⟩ = some (.bool x.pd)
  c5 : w.cell? ⟨g, k * 7 + 5, none⟩ = some (.bool x.cap)
  c6 : w.cell? ⟨g, k * 7 + 6, none⟩ = some (.int .i64 x.cwd)
  free : ∀ j, w.frozen? ⟨g, j, none⟩ = false
section
variable {hi b : Nat} {ty : TypeId} {w w1 : World} {v : Value} {x y : Int} {S : List Pr}
/-- A row's cells. -/
theorem row_cells (h : Row hi w v S) : ∃ p cap, v = .slice p S.length cap ∧ ∀ k (hk : k < S.length), ∃ g, p = some ⟨g, 0, none⟩ ∧ hi ≤ g ∧ g < w.heap.size ∧ Cells w g k S[k] := by
  obtain ⟨p, cap, rfl, hat, _⟩ := rowS_at h
  refine ⟨p, cap, rfl, fun k hk => ?_⟩
  obtain ⟨g, rfl⟩ : ∃ g, p = some ⟨g, 0, none⟩ := by
    rcases h.2 with ⟨_, h1⟩ | ⟨g, c, cur, h0, _⟩
    · omega
    · cases h0; exact ⟨g, rfl⟩
  obtain ⟨cs, hB, _, _, _, hg, _⟩ := rowS_blk h
  obtain ⟨g', off, e, _, hlt, hc⟩ := hat.place (k := k * 7) (by rw [flat_length]; omega)
  cases e
  have key : ∀ i u, (prC S[k])[i]? = some u → w.cell? ⟨g, k * 7 + i, none⟩ = some u := fun i u hu => by
    have hin : i < 7 := by have := (List.getElem?_eq_some_iff.1 hu).1; exact this
    have := hc (k * 7 + i) u (by have e := T.flat_get encP S k i hk hin; exact e.trans hu)
    rwa [Nat.zero_add] at this
  exact ⟨g, rfl, hg, hlt, key 0 _ rfl, key 1 _ rfl, key 2 _ rfl, key 3 _ rfl, key 4 _ rfl, key 5 _ rfl, key 6 _ rfl, fun j => hB.free j⟩
theorem tab_cells (h : TabAt hi ty w b v x y S) {k : Nat} (hk : k < S.length) : ∃ g cap, v = .slice (some ⟨g, 0, none⟩) S.length cap ∧ hi ≤ g ∧ Cells w g k S[k] := by
  obtain ⟨p, cap, rfl, hc⟩ := row_cells h.row
  obtain ⟨g, rfl, h1, _, h2⟩ := hc k hk
  exact ⟨g, cap, rfl, h1, h2⟩
theorem TabAt_next (h : TabAt hi ty w b v x y S) (hf : ty ≠ 37) (n : Int) : TabAt hi ty (w.setCell ⟨b, 2, none⟩ (.int .i64 n)) b v x n S := by
  refine ⟨h.box.set 2 _, rowS_but (_t := ty) (_cs := []) h.row (but_set _ _ _ _) (.inr fun g cap e e2 => ?_), h.hid⟩
  subst e2
  obtain ⟨_, _, cs', fr, hg⟩ := T.own_at h.row (g := g) (by rw [e]; simp [Value.ownBlock])
  have := hg.symm.trans h.box.row
  simp at this
  exact hf this.2.1.symm
theorem TabAt_num (h : TabAt hi ty w b v x y S) (hf : ty ≠ 37) (n : Int) : TabAt hi ty (w.setCell ⟨b, 1, none⟩ (.int .i64 n)) b v n y S := by
  refine ⟨h.box.set 1 _, rowS_but (_t := ty) (_cs := []) h.row (but_set _ _ _ _) (.inr fun g cap e e2 => ?_), h.hid⟩
  subst e2
  obtain ⟨_, _, cs', fr, hg⟩ := T.own_at h.row (g := g) (by rw [e]; simp [Value.ownBlock])
  have := hg.symm.trans h.box.row
  simp at this
  exact hf this.2.1.symm
/-- One cell turned. -/
theorem tab_set {g cap k : Nat} (h : TabAt hi ty w b (.slice (some ⟨g, 0, none⟩) S.length cap) x y S) (hf : ty ≠ 37) (hk : k < S.length) (i : Nat) (hin : i < 7) (n : Value) (f : Pr → Pr) (hx : (prC S[k]).set i n = prC (f S[k])) :
    TabAt hi ty (w.setCell ⟨g, k * 7 + i, none⟩ n) b (.slice (some ⟨g, 0, none⟩) S.length cap) x y (S.modify k f) ∧ T.Goes b (.slice (some ⟨g, 0, none⟩) S.length cap) (.slice (some ⟨g, 0, none⟩) S.length cap) w (w.setCell ⟨g, k * 7 + i, none⟩ n) :=
  T.TabAt.stored (E := encP) h hf hk hin n f hx
/-- One process more: the append, and its row laid. -/
theorem lay_one {p : Option Addr} {cap : Nat} (h : TabAt hi ty w b (.slice p S.length cap) x y S) (hf : ty ≠ 37) (hl : S.length ≤ 1000) (z : Pr) :
    ∃ p' cap' W', (∀ t, (Builtin.append_ #[31, 31] t #[.slice p S.length cap, .slice (some ⟨w.heap.size, 0, none⟩) 1 1]).run Try.prog (w.alloc (.cells (prC z).toArray 37)) = .ok (.slice p' (S.length + 1) cap') W') ∧ Blk W' b ty [.slice p S.length cap, .int .i64 x, .int .i64 y] ∧
      TabAt hi ty (W'.setCell ⟨b, 0, none⟩ (.slice p' (S.length + 1) cap')) b (.slice p' (S.length + 1) cap') x y (S ++ [z]) ∧ T.Goes b (.slice p S.length cap) (.slice p' (S.length + 1) cap') w (W'.setCell ⟨b, 0, none⟩ (.slice p' (S.length + 1) cap')) ∧ T.Goes b (.slice p S.length cap) (.slice p' (S.length + 1) cap') w W' := by
  have hal := on_alloc w (.cells (prC z).toArray 37)
  have h1 := h.on hal
  have hB := Blk.new w 37 (prC z)
  have hhi : hi ≤ w.heap.size := Nat.le_of_lt (Nat.lt_of_le_of_lt h.hid h.box.lt)
  obtain ⟨v', W', hrun, hrow, hgr, hgs⟩ := append_rowA elemP hi _ S.length (flat S) (some ⟨w.heap.size, 0, none⟩) 1 1 (prC z) (w.alloc (.cells (prC z).toArray 37)) (by omega) (by omega) rfl (prC_one z) h1.row
    (.inr ⟨w.heap.size, 0, rfl, Nat.zero_le _, hB.lt, fun j u hj => by rw [Nat.zero_add]; exact hB.cell j hj⟩) (Nat.le_trans hhi hal.size)
  obtain ⟨p', cap', rfl, _⟩ := rowS_at hrow
  have hbox := hgr.blk h1.box hf
  have hrow2 : Row hi W' (.slice p' (S.length + 1) cap') (S ++ [z]) := by
    show W'.ownsRow hi _ 7 _ (S ++ [z]).length (flat (S ++ [z]))
    rw [List.length_append, List.length_singleton, show flat (S ++ [z]) = flat S ++ flat [z] from T.flat_append encP S [z]]
    exact hrow
  exact ⟨p', cap', W', hrun, hbox, T.TabAt.laid hbox hrow2 h.hid hf, T.goes_box ((T.Goes.on hal).trans (T.goes_grows hgs)) _ _ rfl, (T.Goes.on hal).trans (T.goes_grows hgs)⟩
theorem blk_tab {g : Nat} (h : TabAt hi ty w b v x y S) (hb : But g w w1) (h1 : w.heap.size ≤ g ∨ (g ≠ b ∧ v.ownBlock ≠ some g)) : TabAt hi ty w1 b v x y S := by
  have hne : b ≠ g := by
    rcases h1 with h1 | h1
    · have := h.box.lt; omega
    · exact fun e => h1.1 e.symm
  refine ⟨h.box.but hb hne, rowS_but (_t := ty) (_cs := []) h.row hb (.inr fun g2 cap e e2 => ?_), h.hid⟩
  subst e2
  have ho : v.ownBlock = some g2 := by rw [e]; simp [Value.ownBlock]
  rcases h1 with h1 | h1
  · have := (T.own_at h.row ho).2.1; omega
  · exact h1.2 ho
end
abbrev TPost := T.TPost encP

end Go.Proofs.Ythmefiegoagkjaa.Y
