/- A table of open files in memory: its box, its row of structs of six numbers; what its calls turn. -/
import Derived.Test.YtigikmojhllmdaaGRowC
import Derived.Test.YtigikmojhllmdaaGStep
import Derived.Test.YtigikmojhllmdaaVMod
import Derived.Test.YtigikmojhllmdaaProg
namespace Go.Proofs.Ytigikmojhllmdaa.V
open Go Go.RowKit

abbrev ptr (b : Nat) : Value := .pointer (some ⟨b, 0, none⟩)
/-- A file's cells, and those of a list. -/
def flC (x : Fl) : List Value := [.int .i64 x.id, .int .i64 x.kind, .int .i64 x.obj, .int .i64 x.off, .int .i64 x.flags, .int .i64 x.refs]
def flat (l : List Fl) : List Value := l.flatMap flC
theorem flat_nil : flat [] = [] := rfl
theorem flat_cons (x : Fl) (l : List Fl) : flat (x :: l) = flC x ++ flat l := rfl
theorem flat_append (l m : List Fl) : flat (l ++ m) = flat l ++ flat m := List.flatMap_append
theorem flC_len (x : Fl) : (flC x).length = 6 := rfl
theorem flat_length : ∀ l : List Fl, (flat l).length = l.length * 6
  | [] => rfl
  | x :: l => by rw [flat_cons, List.length_append, flC_len, flat_length l, List.length_cons]; omega
theorem flat_get : ∀ (l : List Fl) (k i : Nat) (h : k < l.length) (_ : i < 6), (flat l)[k * 6 + i]? = (flC l[k])[i]?
  | x :: l, 0, i, _, hi => by
    rw [flat_cons, Nat.zero_mul, Nat.zero_add, List.getElem?_append_left (by rw [flC_len]; exact hi)]; rfl
  | x :: l, k + 1, i, h, hi => by
    rw [flat_cons, List.getElem?_append_right (by rw [flC_len]; omega), flC_len, show (k + 1) * 6 + i - 6 = k * 6 + i by omega, flat_get l k i (by simpa using h) hi]; rfl
theorem flat_take : ∀ (l : List Fl) (k : Nat), (flat l).take (k * 6) = flat (l.take k)
  | [], k => by simp [flat_nil]
  | x :: l, 0 => by simp [flat_nil]
  | x :: l, k + 1 => by
    rw [flat_cons, List.take_succ_cons, flat_cons, ← flat_take l k, List.take_append, flC_len, List.take_of_length_le (by rw [flC_len]; omega), show (k + 1) * 6 - 6 = k * 6 by omega]
theorem flat_drop : ∀ (l : List Fl) (k : Nat), (flat l).drop (k * 6) = flat (l.drop k)
  | [], k => by simp [flat_nil]
  | x :: l, 0 => by simp
  | x :: l, k + 1 => by
    rw [flat_cons, List.drop_succ_cons, ← flat_drop l k, List.drop_append, flC_len, List.drop_of_length_le (by rw [flC_len]; omega), List.nil_append, show (k + 1) * 6 - 6 = k * 6 by omega]
theorem flat_set : ∀ (l : List Fl) (k i : Nat) (h : k < l.length) (_ : i < 6) (v : Value) (x : Fl) (_ : (flC l[k]).set i v = flC x), (flat l).set (k * 6 + i) v = flat (l.set k x)
  | y :: l, 0, i, _, hi, v, x, hx => by
    rw [flat_cons, Nat.zero_mul, Nat.zero_add, List.set_append_left _ _ (by rw [flC_len]; exact hi), List.set_cons_zero, flat_cons]
    congr 1
  | y :: l, k + 1, i, h, hi, v, x, hx => by
    rw [flat_cons, List.set_append_right _ _ (by rw [flC_len]; omega), flC_len, show (k + 1) * 6 + i - 6 = k * 6 + i by omega, flat_set l k i (by simpa using h) hi v x hx, List.set_cons_succ, flat_cons]
theorem flC_cell (x : Fl) : ∀ u ∈ flC x, u.oneCell' = true := by
  intro u hx
  simp only [flC, List.mem_cons, List.not_mem_nil, or_false] at hx
  rcases hx with rfl | rfl | rfl | rfl | rfl | rfl <;> rfl
theorem flat_cell (l : List Fl) : ∀ u ∈ flat l, u.oneCell' = true := by
  intro u hu
  obtain ⟨x, _, hx⟩ := List.mem_flatMap.1 hu
  exact flC_cell x u hx
theorem elemF : ElemS Try.prog 31 37 (.agg #[.int .i64 0, .int .i64 0, .int .i64 0, .int .i64 0, .int .i64 0, .int .i64 0]) 6 48 := ⟨Try.underlying31, by kernel_rfl, rfl, by decide, by decide⟩
theorem zeroF : ∀ w, (zeroValue 37).run Try.prog w = .ok (.agg #[.int .i64 0, .int .i64 0, .int .i64 0, .int .i64 0, .int .i64 0, .int .i64 0]) w := fun w => by kernel_rfl

/-- A list of files as a row of one's own. -/
abbrev Row (hi : Nat) (w : World) (v : Value) (l : List Fl) : Prop := w.ownsRow hi 37 6 v l.length (flat l)
/-- A table: its box, and its row. -/
structure TabAt (hi : Nat) (ty : TypeId) (w : World) (b : Nat) (v : Value) (x y : Int) (S : List Fl) : Prop where
  box : Blk w b ty [v, .int .i64 x, .int .i64 y]
  row : Row hi w v S
  hid : hi ≤ b

/-- What a table's calls turn: its box, its row, and where its row lies then. -/
structure Goes (b : Nat) (v v' : Value) (w w' : World) : Prop where
  os : w'.os = w.os
  tape : w'.tape = w.tape
  output : w'.output = w.output
  size : w.heap.size ≤ w'.heap.size
  block : ∀ k, k < w.heap.size → k ≠ b → v.ownBlock ≠ some k → w'.heap[k]? = w.heap[k]?
  lies : ∀ x, v'.ownBlock = some x → v.ownBlock = some x ∨ w.heap.size ≤ x
/-- Two rows that share nothing. -/
def Apt (v u : Value) : Prop := ∀ x, v.ownBlock = some x → u.ownBlock ≠ some x
section
variable {hi hi2 b b2 B : Nat} {ty ty2 : TypeId} {w w0 w1 w2 : World} {v v1 v2 u : Value} {x y x2 y2 : Int} {S S2 : List Fl}
theorem own_at {hi size n : Nat} {e : TypeId} {xs : List Value} (h : w.ownsRow hi e size v n xs) {g : Nat} (hg : v.ownBlock = some g) : hi ≤ g ∧ g < w.heap.size ∧ ∃ cs fr, w.heap[g]? = some (.cells cs e fr) := by
  rcases h.2 with ⟨rfl, _⟩ | ⟨g', cap, cur, rfl, hb, hr, _⟩
  · simp [Value.ownBlock] at hg
  · simp [Value.ownBlock] at hg
    subst hg
    exact ⟨hb, (Array.getElem?_eq_some_iff.1 hr).1, _, _, hr⟩
theorem Goes.refl (b : Nat) (v : Value) (w : World) : Goes b v v w w := ⟨rfl, rfl, rfl, Nat.le_refl _, fun _ _ _ _ => rfl, fun _ h => .inl h⟩
theorem Goes.on (h : Below w.heap.size w w1) : Goes b v v w w1 := ⟨h.os, h.tape, h.output, h.size, fun k hk _ _ => h.block k hk, fun _ h => .inl h⟩
theorem Goes.trans (h : Goes b v v1 w w1) (k : Goes b v1 v2 w1 w2) : Goes b v v2 w w2 :=
  ⟨k.os.trans h.os, k.tape.trans h.tape, k.output.trans h.output, Nat.le_trans h.size k.size, fun j hj hb hv => by
    refine (k.block j (Nat.lt_of_lt_of_le hj h.size) hb fun e => ?_).trans (h.block j hj hb hv)
    rcases h.lies j e with h1 | h1
    · exact hv h1
    · omega, fun z hz => by
    rcases k.lies z hz with h1 | h1
    · exact h.lies z h1
    · exact .inr (Nat.le_trans h.size h1)⟩
theorem Goes.below (h : Goes b v v1 w w1) (ht : TabAt hi ty w b v x y S) (h0 : Below B w0 w) (hB : B ≤ hi) (hs : B ≤ w.heap.size) : Below B w0 w1 :=
  ⟨h.os.trans h0.os, h.tape.trans h0.tape, h.output.trans h0.output, Nat.le_trans h0.size h.size, fun k hk => by
    refine (h.block k (by omega) (fun e => ?_) fun e => ?_).trans (h0.block k hk)
    · have := ht.hid; omega
    · have := (own_at ht.row e).1; omega⟩
/-- A block of another type stays. -/
theorem Goes.blk {k : Nat} {t : TypeId} {cs : List Value} (h : Goes b v v1 w w1) (ht : TabAt hi ty w b v x y S) (hb : Blk w k t cs) (h1 : t ≠ ty) (h2 : t ≠ 37) : Blk w1 k t cs := by
  refine ⟨(h.block k hb.lt (fun e => ?_) fun e => ?_).trans hb.row⟩
  · subst e
    have := hb.row.symm.trans ht.box.row
    simp at this
    exact h1 this.2
  · obtain ⟨_, _, cs', fr, hr⟩ := own_at ht.row e
    have := hb.row.symm.trans hr
    simp at this
    exact h2 this.2.1
theorem Goes.row {n : Nat} {xs : List Value} (h : Goes b v v1 w w1) (ht : TabAt hi ty w b v x y S) (hr : w.ownsRow hi2 37 6 u n xs) (h1 : ty ≠ 37) (ha : Apt v u) : w1.ownsRow hi2 37 6 u n xs := by
  refine ⟨hr.1, ?_⟩
  rcases hr.2 with h0 | ⟨g, cap, cur, rfl, hbs, hg, h3⟩
  · exact .inl h0
  · refine .inr ⟨g, cap, cur, rfl, hbs, (h.block g (Array.getElem?_eq_some_iff.1 hg).1 (fun e => ?_) fun e => ha g e (by simp [Value.ownBlock])).trans hg, h3⟩
    subst e
    have := hg.symm.trans ht.box.row
    simp at this
    exact h1 this.2.symm
/-- Another table stays. -/
theorem Goes.tab (h : Goes b v v1 w w1) (ht : TabAt hi ty w b v x y S) (h2 : TabAt hi2 ty2 w b2 u x2 y2 S2) (hne : ty2 ≠ ty) (hf : ty ≠ 37) (hf2 : ty2 ≠ 37) (ha : Apt v u) : TabAt hi2 ty2 w1 b2 u x2 y2 S2 :=
  ⟨h.blk ht h2.box hne hf2, h.row ht h2.row hf ha, h2.hid⟩
theorem Goes.apt {n : Nat} {xs : List Value} {e : TypeId} {size : Nat} (h : Goes b v v1 w w1) (hr : w.ownsRow hi2 e size u n xs) (ha : Apt v u) : Apt v1 u := fun z hz hu => by
  rcases h.lies z hz with h1 | h1
  · exact ha z h1 hu
  · have := (own_at hr hu).2.1; omega
theorem Apt.symm (h : Apt v u) : Apt u v := fun z hz hv => h z hv hz
theorem TabAt.on (h : TabAt hi ty w b v x y S) (hb : Below w.heap.size w w1) : TabAt hi ty w1 b v x y S := ⟨h.box.on hb, rowS_on h.row hb, h.hid⟩
theorem TabAt.slice (h : TabAt hi ty w b v x y S) : ∃ p cap, v = .slice p S.length cap := by
  obtain ⟨p, cap, e, _⟩ := rowS_at h.row
  exact ⟨p, cap, e⟩
theorem TabAt.nil (w : World) (ty : TypeId) (x y : Int) (hi : Nat) (h : hi ≤ w.heap.size) : TabAt hi ty (w.alloc (.cells #[.slice none 0 0, .int .i64 x, .int .i64 y] ty)) w.heap.size (.slice none 0 0) x y [] :=
  ⟨Blk.new w _ [.slice none 0 0, .int .i64 x, .int .i64 y], World.ownsRow_nil _ _ _ _, h⟩
/-- A file's cells, where there is one. -/
theorem TabAt.cells (h : TabAt hi ty w b v x y S) {k : Nat} (hk : k < S.length) : ∃ g cap, v = .slice (some ⟨g, 0, none⟩) S.length cap ∧ hi ≤ g ∧ (∀ i u, (flC S[k])[i]? = some u → w.cell? ⟨g, k * 6 + i, none⟩ = some u) ∧ ∀ j, w.frozen? ⟨g, j, none⟩ = false := by
  obtain ⟨p, cap, rfl, hat, _⟩ := rowS_at h.row
  obtain ⟨g, rfl⟩ : ∃ g, p = some ⟨g, 0, none⟩ := by
    rcases h.row.2 with ⟨_, h1⟩ | ⟨g, c, cur, h0, _⟩
    · omega
    · cases h0; exact ⟨g, rfl⟩
  obtain ⟨cs, hB, _, _, _, hg, _⟩ := rowS_blk h.row
  obtain ⟨g', off, e, _, hlt, hc⟩ := hat.place (k := k * 6) (by rw [flat_length]; omega)
  cases e
  refine ⟨g, cap, rfl, hg, fun i u hu => ?_, fun j => hB.free j⟩
  have hi6 : i < 6 := by have := (List.getElem?_eq_some_iff.1 hu).1; rwa [flC_len] at this
  have := hc (k * 6 + i) u (by rw [flat_get S k i hk hi6]; exact hu)
  rwa [Nat.zero_add] at this
/-- One number of a file laid. -/
theorem TabAt.stored {g cap k i : Nat} (h : TabAt hi ty w b (.slice (some ⟨g, 0, none⟩) S.length cap) x y S) (hf : ty ≠ 37) (hk : k < S.length) (hi6 : i < 6) (n : Int) (f : Fl → Fl) (hx : (flC S[k]).set i (.int .i64 n) = flC (f S[k])) :
    TabAt hi ty (w.setCell ⟨g, k * 6 + i, none⟩ (.int .i64 n)) b (.slice (some ⟨g, 0, none⟩) S.length cap) x y (S.modify k f) ∧ Goes b (.slice (some ⟨g, 0, none⟩) S.length cap) (.slice (some ⟨g, 0, none⟩) S.length cap) w (w.setCell ⟨g, k * 6 + i, none⟩ (.int .i64 n)) := by
  obtain ⟨cs, hB, _, _, _, hg, _⟩ := rowS_blk h.row
  have hne : b ≠ g := fun e => by
    subst e
    have := hB.row.symm.trans h.box.row
    simp at this
    exact hf this.2.symm
  have hs := (h.row.stored (k * 6 + i) (.int .i64 n)).1
  rw [flat_set S k i hk hi6 _ _ hx, ← modify_at hk] at hs
  have hB2 := but_set w g (k * 6 + i) (.int .i64 n)
  refine ⟨⟨h.box.but hB2 hne, ?_, h.hid⟩, ⟨hB2.os, hB2.tape, hB2.output, Nat.le_of_eq hB2.size.symm, fun j hj h1 h2 => hB2.block j fun e => h2 (by simp [Value.ownBlock, e]), fun _ h => .inl h⟩⟩
  show World.ownsRow _ hi _ 6 _ (S.modify k f).length _
  rw [List.length_modify]
  exact hs
/-- Its row laid anew. -/
theorem TabAt.laid {n : Nat} {p : Option Addr} {cap : Nat} (hb : Blk w b ty [v, .int .i64 x, .int .i64 y]) (hr : Row hi w (.slice p n cap) S2) (hid : hi ≤ b) (hf : ty ≠ 37) : TabAt hi ty (w.setCell ⟨b, 0, none⟩ (.slice p n cap)) b (.slice p n cap) x y S2 := by
  refine ⟨hb.set 0 _, ?_, hid⟩
  refine rowS_but (_t := ty) (_cs := []) hr (but_set _ _ _ _) (.inr fun g cap2 e e2 => ?_)
  subst e2
  obtain ⟨_, _, cs', fr, hg⟩ := own_at hr (g := g) (by rw [e]; simp [Value.ownBlock])
  have := hg.symm.trans hb.row
  simp at this
  exact hf this.2.1.symm
theorem goes_box {v' : Value} (h : Goes b v v1 w w1) (u : Value) (o : Nat) (hv : v'.ownBlock = v1.ownBlock) : Goes b v v' w (w1.setCell ⟨b, o, none⟩ u) := by
  have hB := but_set w1 b o u
  exact ⟨hB.os.trans h.os, hB.tape.trans h.tape, hB.output.trans h.output, by rw [hB.size]; exact h.size, fun k hk h1 h2 => (hB.block k h1).trans (h.block k hk h1 h2), fun z hz => h.lies z (by rw [← hv]; exact hz)⟩
theorem goes_grows {v' : Value} (h : Grows v v' w w1) : Goes b v v' w w1 := ⟨h.os, h.tape, h.output, h.size, fun k hk _ h2 => h.block k hk h2, h.lies⟩
/-- A call on a table: what it answers, what it leaves. -/
def TPost (hi : Nat) (ty : TypeId) (b : Nat) (w : World) (v : Value) (x y : Int) (S : List Fl) (R : Value) (e : Ending) (w' : World) : Prop := e = .returned R ∧ ∃ v', TabAt hi ty w' b v' x y S ∧ Goes b v v' w w'
end

end Go.Proofs.Ytigikmojhllmdaa.V
