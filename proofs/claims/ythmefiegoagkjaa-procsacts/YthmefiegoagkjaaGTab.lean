/- A table in memory, of no program: its box of three cells, the first of which is its row of structs; what its calls turn. The structs' cells are told by 'enc', their type and number are letters. -/
import Derived.Test.YthmefiegoagkjaaA2
namespace Go.Proofs.Ythmefiegoagkjaa.T
open Go Go.RowKit

/-- How a struct lies in cells. -/
structure Enc (α : Type) where
  cells : α → List Value
  n : Nat
  ty : TypeId
  len : ∀ x, (cells x).length = n
  one : ∀ x, ∀ u ∈ cells x, u.oneCell' = true
  pos : 0 < n
variable {α : Type} (E : Enc α)
def flat (l : List α) : List Value := l.flatMap E.cells
theorem flat_nil : flat E [] = [] := rfl
theorem flat_cons (x : α) (l : List α) : flat E (x :: l) = E.cells x ++ flat E l := rfl
theorem flat_append (l m : List α) : flat E (l ++ m) = flat E l ++ flat E m := List.flatMap_append
theorem flat_length : ∀ l : List α, (flat E l).length = l.length * E.n
  | [] => by simp [flat_nil]
  | x :: l => by rw [flat_cons, List.length_append, E.len, flat_length l, List.length_cons, Nat.succ_mul, Nat.add_comm]
theorem flat_get : ∀ (l : List α) (k i : Nat) (h : k < l.length) (_ : i < E.n), (flat E l)[k * E.n + i]? = (E.cells l[k])[i]?
  | x :: l, 0, i, _, hi => by
    rw [flat_cons, Nat.zero_mul, Nat.zero_add, List.getElem?_append_left (by rw [E.len]; exact hi)]; rfl
  | x :: l, k + 1, i, h, hi => by
    rw [flat_cons, List.getElem?_append_right (by rw [E.len, Nat.succ_mul]; omega), E.len, show (k + 1) * E.n + i - E.n = k * E.n + i by rw [Nat.succ_mul]; omega, flat_get l k i (by simpa using h) hi]; rfl
theorem flat_take : ∀ (l : List α) (k : Nat), (flat E l).take (k * E.n) = flat E (l.take k)
  | [], k => by simp [flat_nil]
  | x :: l, 0 => by simp [flat_nil]
  | x :: l, k + 1 => by
    rw [flat_cons, List.take_succ_cons, flat_cons, ← flat_take l k, List.take_append, E.len, List.take_of_length_le (by rw [E.len, Nat.succ_mul]; omega), show (k + 1) * E.n - E.n = k * E.n by rw [Nat.succ_mul]; omega]
theorem flat_drop : ∀ (l : List α) (k : Nat), (flat E l).drop (k * E.n) = flat E (l.drop k)
  | [], k => by simp [flat_nil]
  | x :: l, 0 => by simp
  | x :: l, k + 1 => by
    rw [flat_cons, List.drop_succ_cons, ← flat_drop l k, List.drop_append, E.len, List.drop_of_length_le (by rw [E.len, Nat.succ_mul]; omega), List.nil_append, show (k + 1) * E.n - E.n = k * E.n by rw [Nat.succ_mul]; omega]
theorem flat_set : ∀ (l : List α) (k i : Nat) (h : k < l.length) (_ : i < E.n) (v : Value) (x : α) (_ : (E.cells l[k]).set i v = E.cells x), (flat E l).set (k * E.n + i) v = flat E (l.set k x)
  | y :: l, 0, i, _, hi, v, x, hx => by
    rw [flat_cons, Nat.zero_mul, Nat.zero_add, List.set_append_left _ _ (by rw [E.len]; exact hi), List.set_cons_zero, flat_cons]
    congr 1
  | y :: l, k + 1, i, h, hi, v, x, hx => by
    rw [flat_cons, List.set_append_right _ _ (by rw [E.len, Nat.succ_mul]; omega), E.len, show (k + 1) * E.n + i - E.n = k * E.n + i by rw [Nat.succ_mul]; omega, flat_set l k i (by simpa using h) hi v x hx, List.set_cons_succ, flat_cons]
theorem flat_cell (l : List α) : ∀ u ∈ flat E l, u.oneCell' = true := by
  intro u hu
  obtain ⟨x, _, hx⟩ := List.mem_flatMap.1 hu
  exact E.one x u hx
theorem modify_at {l : List α} {k : Nat} (h : k < l.length) (f : α → α) : l.modify k f = l.set k (f l[k]) := by
  refine List.ext_getElem (by simp) fun i h1 h2 => ?_
  rw [List.getElem_modify, List.getElem_set]
  split
  · rename_i e; subst e; rfl
  · rfl
/-- A list of structs as a row of one's own. -/
abbrev Row (hi : Nat) (w : World) (v : Value) (l : List α) : Prop := w.ownsRow hi E.ty E.n v l.length (flat E l)
/-- A table: its box, and its row. -/
structure TabAt (hi : Nat) (ty : TypeId) (w : World) (b : Nat) (v : Value) (x y : Int) (S : List α) : Prop where
  box : Blk w b ty [v, .int .i64 x, .int .i64 y]
  row : Row E hi w v S
  hid : hi ≤ b

/-- What a table's calls turn: its box, its row, and where its row lies then. -/
structure Goes (b : Nat) (v v' : Value) (w w' : World) : Prop where
  os : w'.os = w.os
  tape : w'.tape = w.tape
  output : w'.output = w.output
  size : w.heap.size ≤ w'.heap.size
  block : ∀ k, k < w.heap.size → k ≠ b → v.ownBlock ≠ some k → w'.heap[k]? = w.heap[k]?
  lies : ∀ x, v'.ownBlock = some x → v.ownBlock = some x ∨ w.heap.size ≤ x
/-- Two rows that share nothing. -/
def Apt (v u : Value) : Prop := ∀ x, v.ownBlock = some x → u.ownBlock ≠ some x
variable {E}
section
variable {hi hi2 b b2 B : Nat} {ty ty2 : TypeId} {w w0 w1 w2 : World} {v v1 v2 u : Value} {x y x2 y2 : Int} {S S2 : List α}
theorem own_at {hi size n : Nat} {e : TypeId} {xs : List Value} (h : w.ownsRow hi e size v n xs) {g : Nat} (hg : v.ownBlock = some g) : hi ≤ g ∧ g < w.heap.size ∧ ∃ cs fr, w.heap[g]? = some (.cells cs e fr) := by
  rcases h.2 with ⟨rfl, _⟩ | ⟨g', cap, cur, rfl, hb, hr, _⟩
  · simp [Value.ownBlock] at hg
  · simp [Value.ownBlock] at hg
    subst hg
    exact ⟨hb, (Array.getElem?_eq_some_iff.1 hr).1, _, _, hr⟩
theorem Goes.refl (b : Nat) (v : Value) (w : World) : Goes b v v w w := ⟨rfl, rfl, rfl, Nat.le_refl _, fun _ _ _ _ => rfl, fun _ h => .inl h⟩
theorem Goes.on (h : Below w.heap.size w w1) : Goes b v v w w1 := ⟨h.os, h.tape, h.output, h.size, fun k hk _ _ => h.block k hk, fun _ h => .inl h⟩
theorem Goes.trans (h : Goes b v v1 w w1) (k : Goes b v1 v2 w1 w2) : Goes b v v2 w w2 :=
  ⟨k.os.trans h.os, k.tape.trans h.tape, k.output.trans h.output, Nat.le_trans h.size k.size, fun j hj hb hv => by
    refine (k.block j (Nat.lt_of_lt_of_le hj h.size) hb fun e => ?_).trans (h.block j hj hb hv)
    rcases h.lies j e with h1 | h1
    · exact hv h1
    · omega, fun z hz => by
    rcases k.lies z hz with h1 | h1
    · exact h.lies z h1
    · exact .inr (Nat.le_trans h.size h1)⟩
theorem Goes.below (h : Goes b v v1 w w1) (ht : TabAt E hi ty w b v x y S) (h0 : Below B w0 w) (hB : B ≤ hi) (hs : B ≤ w.heap.size) : Below B w0 w1 :=
  ⟨h.os.trans h0.os, h.tape.trans h0.tape, h.output.trans h0.output, Nat.le_trans h0.size h.size, fun k hk => by
    refine (h.block k (by omega) (fun e => ?_) fun e => ?_).trans (h0.block k hk)
    · have := ht.hid; omega
    · have := (own_at ht.row e).1; omega⟩
/-- A block of another type stays. -/
theorem Goes.blk {k : Nat} {t : TypeId} {cs : List Value} (h : Goes b v v1 w w1) (ht : TabAt E hi ty w b v x y S) (hb : Blk w k t cs) (h1 : t ≠ ty) (h2 : t ≠ E.ty) : Blk w1 k t cs := by
  refine ⟨(h.block k hb.lt (fun e => ?_) fun e => ?_).trans hb.row⟩
  · subst e
    have := hb.row.symm.trans ht.box.row
    simp at this
    exact h1 this.2
  · obtain ⟨_, _, cs', fr, hr⟩ := own_at ht.row e
    have := hb.row.symm.trans hr
    simp at this
    exact h2 this.2.1
theorem Goes.row {n : Nat} {xs : List Value} (h : Goes b v v1 w w1) (ht : TabAt E hi ty w b v x y S) (hr : w.ownsRow hi2 E.ty E.n u n xs) (h1 : ty ≠ E.ty) (ha : Apt v u) : w1.ownsRow hi2 E.ty E.n u n xs := by
  refine ⟨hr.1, ?_⟩
  rcases hr.2 with h0 | ⟨g, cap, cur, rfl, hbs, hg, h3⟩
  · exact .inl h0
  · refine .inr ⟨g, cap, cur, rfl, hbs, (h.block g (Array.getElem?_eq_some_iff.1 hg).1 (fun e => ?_) fun e => ha g e (by simp [Value.ownBlock])).trans hg, h3⟩
    subst e
    have := hg.symm.trans ht.box.row
    simp at this
    exact h1 this.2.symm
/-- Another table stays. -/
theorem Goes.tab (h : Goes b v v1 w w1) (ht : TabAt E hi ty w b v x y S) (h2 : TabAt E hi2 ty2 w b2 u x2 y2 S2) (hne : ty2 ≠ ty) (hf : ty ≠ E.ty) (hf2 : ty2 ≠ E.ty) (ha : Apt v u) : TabAt E hi2 ty2 w1 b2 u x2 y2 S2 :=
  ⟨h.blk ht h2.box hne hf2, h.row ht h2.row hf ha, h2.hid⟩
theorem Goes.apt {n : Nat} {xs : List Value} {e : TypeId} {size : Nat} (h : Goes b v v1 w w1) (hr : w.ownsRow hi2 e size u n xs) (ha : Apt v u) : Apt v1 u := fun z hz hu => by
  rcases h.lies z hz with h1 | h1
  · exact ha z h1 hu
  · have := (own_at hr hu).2.1; omega
theorem Apt.symm (h : Apt v u) : Apt u v := fun z hz hv => h z hv hz
theorem TabAt.on (h : TabAt E hi ty w b v x y S) (hb : Below w.heap.size w w1) : TabAt E hi ty w1 b v x y S := ⟨h.box.on hb, rowS_on h.row hb, h.hid⟩
theorem TabAt.slice (h : TabAt E hi ty w b v x y S) : ∃ p cap, v = .slice p S.length cap := by
  obtain ⟨p, cap, e, _⟩ := rowS_at h.row
  exact ⟨p, cap, e⟩
theorem TabAt.nil (w : World) (ty : TypeId) (x y : Int) (hi : Nat) (h : hi ≤ w.heap.size) : TabAt E hi ty (w.alloc (.cells #[.slice none 0 0, .int .i64 x, .int .i64 y] ty)) w.heap.size (.slice none 0 0) x y [] :=
  ⟨Blk.new w _ [.slice none 0 0, .int .i64 x, .int .i64 y], World.ownsRow_nil _ _ _ _, h⟩
/-- A struct's cells, where there is one. -/
theorem TabAt.cells (h : TabAt E hi ty w b v x y S) {k : Nat} (hk : k < S.length) : ∃ g cap, v = .slice (some ⟨g, 0, none⟩) S.length cap ∧ hi ≤ g ∧ (∀ i u, (E.cells S[k])[i]? = some u → w.cell? ⟨g, k * E.n + i, none⟩ = some u) ∧ ∀ j, w.frozen? ⟨g, j, none⟩ = false := by
  obtain ⟨p, cap, rfl, hat, _⟩ := rowS_at h.row
  obtain ⟨g, rfl⟩ : ∃ g, p = some ⟨g, 0, none⟩ := by
    rcases h.row.2 with ⟨_, h1⟩ | ⟨g, c, cur, h0, _⟩
    · omega
    · cases h0; exact ⟨g, rfl⟩
  obtain ⟨cs, hB, _, _, _, hg, _⟩ := rowS_blk h.row
  obtain ⟨g', off, e, _, hlt, hc⟩ := hat.place (k := k * E.n) (by rw [flat_length E]; exact Nat.mul_lt_mul_of_pos_right hk E.pos)
  cases e
  refine ⟨g, cap, rfl, hg, fun i u hu => ?_, fun j => hB.free j⟩
  have hin : i < E.n := by have := (List.getElem?_eq_some_iff.1 hu).1; rwa [E.len] at this
  have := hc (k * E.n + i) u (by rw [flat_get E S k i hk hin]; exact hu)
  rwa [Nat.zero_add] at this
/-- One cell of a struct laid. -/
theorem TabAt.stored {g cap k i : Nat} (h : TabAt E hi ty w b (.slice (some ⟨g, 0, none⟩) S.length cap) x y S) (hf : ty ≠ E.ty) (hk : k < S.length) (hin : i < E.n) (n : Value) (f : α → α) (hx : (E.cells S[k]).set i n = E.cells (f S[k])) :
    TabAt E hi ty (w.setCell ⟨g, k * E.n + i, none⟩ n) b (.slice (some ⟨g, 0, none⟩) S.length cap) x y (S.modify k f) ∧ Goes b (.slice (some ⟨g, 0, none⟩) S.length cap) (.slice (some ⟨g, 0, none⟩) S.length cap) w (w.setCell ⟨g, k * E.n + i, none⟩ n) := by
  obtain ⟨cs, hB, _, _, _, hg, _⟩ := rowS_blk h.row
  have hne : b ≠ g := fun e => by
    subst e
    have := hB.row.symm.trans h.box.row
    simp at this
    exact hf this.2.symm
  have hs := (h.row.stored (k * E.n + i) n).1
  rw [flat_set E S k i hk hin _ _ hx, ← modify_at hk] at hs
  have hB2 := but_set w g (k * E.n + i) n
  refine ⟨⟨h.box.but hB2 hne, ?_, h.hid⟩, ⟨hB2.os, hB2.tape, hB2.output, Nat.le_of_eq hB2.size.symm, fun j hj h1 h2 => hB2.block j fun e => h2 (by simp [Value.ownBlock, e]), fun _ h => .inl h⟩⟩
  show World.ownsRow _ hi _ E.n _ (S.modify k f).length _
  rw [List.length_modify]
  exact hs
/-- Its row laid anew. -/
theorem TabAt.laid {n : Nat} {p : Option Addr} {cap : Nat} (hb : Blk w b ty [v, .int .i64 x, .int .i64 y]) (hr : Row E hi w (.slice p n cap) S2) (hid : hi ≤ b) (hf : ty ≠ E.ty) : TabAt E hi ty (w.setCell ⟨b, 0, none⟩ (.slice p n cap)) b (.slice p n cap) x y S2 := by
  refine ⟨hb.set 0 _, ?_, hid⟩
  refine rowS_but (_t := ty) (_cs := []) hr (but_set _ _ _ _) (.inr fun g cap2 e e2 => ?_)
  subst e2
  obtain ⟨_, _, cs', fr, hg⟩ := own_at hr (g := g) (by rw [e]; simp [Value.ownBlock])
  have := hg.symm.trans hb.row
  simp at this
  exact hf this.2.1.symm
theorem goes_box {v' : Value} (h : Goes b v v1 w w1) (u : Value) (o : Nat) (hv : v'.ownBlock = v1.ownBlock) : Goes b v v' w (w1.setCell ⟨b, o, none⟩ u) := by
  have hB := but_set w1 b o u
  exact ⟨hB.os.trans h.os, hB.tape.trans h.tape, hB.output.trans h.output, by rw [hB.size]; exact h.size, fun k hk h1 h2 => (hB.block k h1).trans (h.block k hk h1 h2), fun z hz => h.lies z (by rw [← hv]; exact hz)⟩
theorem goes_grows {v' : Value} (h : Grows v v' w w1) : Goes b v v' w w1 := ⟨h.os, h.tape, h.output, h.size, fun k hk _ h2 => h.block k hk h2, h.lies⟩
variable (E) in
/-- A call on a table: what it answers, what it leaves. -/
def TPost (hi : Nat) (ty : TypeId) (b : Nat) (w : World) (v : Value) (x y : Int) (S : List α) (R : Value) (e : Ending) (w' : World) : Prop := e = .returned R ∧ ∃ v', TabAt E hi ty w' b v' x y S ∧ Goes b v v' w w'
end

end Go.Proofs.Ythmefiegoagkjaa.T
