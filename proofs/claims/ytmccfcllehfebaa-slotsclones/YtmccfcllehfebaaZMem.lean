/- Descriptors in memory: a table's box, its row of pointers, each descriptor's box; the reference's row; which blocks a table's calls turn. -/
import Derived.Test.YtmccfcllehfebaaA2
import Derived.Test.YtmccfcllehfebaaA6
import Derived.Test.YtmccfcllehfebaaZMod
namespace Go.Proofs.Ytmccfcllehfebaa.Z
open Go Go.RowKit

abbrev ptr (b : Nat) : Value := .pointer (some ⟨b, 0, none⟩)
/-- The blocks of which 'O' holds are as they were; more may be laid. -/
structure Keep (O : Nat → Prop) (w w' : World) : Prop where
  os : w'.os = w.os
  tape : w'.tape = w.tape
  output : w'.output = w.output
  size : w.heap.size ≤ w'.heap.size
  block : ∀ k, k < w.heap.size → O k → w'.heap[k]? = w.heap[k]?
section
variable {O O' : Nat → Prop} {w w' w0 w1 w2 : World} {b B : Nat} {t : TypeId} {cs : List Value}
theorem Keep.refl (O : Nat → Prop) (w : World) : Keep O w w := ⟨rfl, rfl, rfl, Nat.le_refl _, fun _ _ _ => rfl⟩
theorem Keep.trans (h : Keep O w w1) (k : Keep O w1 w2) : Keep O w w2 :=
  ⟨k.os.trans h.os, k.tape.trans h.tape, k.output.trans h.output, Nat.le_trans h.size k.size, fun j hj h1 => (k.block j (Nat.lt_of_lt_of_le hj h.size) h1).trans (h.block j hj h1)⟩
theorem Keep.mono (h : Keep O w w') (hO : ∀ k, k < w.heap.size → O' k → O k) : Keep O' w w' := ⟨h.os, h.tape, h.output, h.size, fun k hk h1 => h.block k hk (hO k hk h1)⟩
theorem keep_on (h : Below w.heap.size w w') : Keep O w w' := ⟨h.os, h.tape, h.output, h.size, fun k hk _ => h.block k hk⟩
theorem keep_but (h : But b w w') (hb : ¬ O b) : Keep O w w' := ⟨h.os, h.tape, h.output, Nat.le_of_eq h.size.symm, fun k _ h1 => h.block k fun e => hb (e ▸ h1)⟩
theorem Keep.below (h : Keep O w w') (h0 : Below B w0 w) (hO : ∀ k, k < B → O k) (hs : B ≤ w.heap.size) : Below B w0 w' :=
  ⟨h.os.trans h0.os, h.tape.trans h0.tape, h.output.trans h0.output, Nat.le_trans h0.size h.size, fun k hk => (h.block k (by omega) (hO k hk)).trans (h0.block k hk)⟩
theorem Keep.blk (h : Keep O w w') (hB : Blk w b t cs) (hO : O b) : Blk w' b t cs := ⟨(h.block b hB.lt hO).trans hB.row⟩
theorem blk_inj {t' : TypeId} {cs' : List Value} (h : Blk w b t cs) (h' : Blk w b t' cs') : t = t' := by
  have := h.row.symm.trans h'.row
  simp at this
  exact this.2
theorem blk_ne {c : Nat} {t' : TypeId} {cs' : List Value} (h : Blk w b t cs) (h' : Blk w c t' cs') (hne : t ≠ t') : b ≠ c := fun e => by
  subst e
  exact hne (blk_inj h h')
end

/-- A slice at 'p', in a block of which 'D' does not hold, reads as these values. -/
def AtD (D : Nat → Prop) (w : World) (p : Option Addr) (l : List Value) : Prop :=
  l = [] ∨ ∃ b off, p = some ⟨b, off, none⟩ ∧ ¬ D b ∧ b < w.heap.size ∧ ∀ (j : Nat) v, l[j]? = some v → w.cell? ⟨b, off + j, none⟩ = some v
/-- What grew lies above. -/
def Ups (D D' : Nat → Prop) (n : Nat) : Prop := ∀ k, D' k → D k ∨ n ≤ k
section
variable {D D' : Nat → Prop} {w w' : World} {p : Option Addr} {l : List Value} {base : Nat}
theorem AtD.keep (h : AtD D w p l) (hk : Keep (fun k => ¬ D k) w w') : AtD D w' p l := by
  rcases h with h | ⟨b, off, hp, hO, hlt, hc⟩
  · exact .inl h
  · refine .inr ⟨b, off, hp, hO, Nat.lt_of_lt_of_le hlt hk.size, fun j v hj => ?_⟩
    rw [← hc j v hj]
    simp only [World.cell?, hk.block b hlt hO]
theorem AtD.on (h : AtD D w p l) (hb : Below w.heap.size w w') : AtD D w' p l := h.keep (keep_on hb)
theorem AtD.up (h : AtD D w p l) (hD : Ups D D' w.heap.size) : AtD D' w p l := by
  rcases h with h | ⟨b, off, hp, h1, hlt, hc⟩
  · exact .inl h
  · refine .inr ⟨b, off, hp, fun h2 => ?_, hlt, hc⟩
    rcases hD b h2 with h3 | h3
    · exact h1 h3
    · omega
theorem AtD.at (h : AtD D w p l) : At w p l := by
  rcases h with h | ⟨b, off, hp, h1, hlt, hc⟩
  · exact .inl h
  · exact .inr ⟨b, off, hp, Nat.zero_le _, hlt, hc⟩
theorem AtD.of (h : AtF base w p l) (hD : ∀ k, D k → k < base) : AtD D w p l := by
  rcases h with h | ⟨b, off, hp, h1, hlt, hc⟩
  · exact .inl h
  · exact .inr ⟨b, off, hp, fun h2 => (by have := hD b h2; omega), hlt, hc⟩
theorem AtD.place (h : AtD D w p l) {k : Nat} (hk : k < l.length) : ∃ b off, p = some ⟨b, off, none⟩ ∧ ¬ D b ∧ b < w.heap.size ∧ ∀ (j : Nat) v, l[j]? = some v → w.cell? ⟨b, off + j, none⟩ = some v :=
  h.resolve_left fun e => by rw [e] at hk; simp at hk
theorem AtD.take (h : AtD D w p l) (k : Nat) : AtD D w p (l.take k) := by
  rcases h with rfl | ⟨b, off, hp, hl, hlt, hc⟩
  · exact .inl (by simp)
  · refine .inr ⟨b, off, hp, hl, hlt, fun j v hj => hc j v ?_⟩
    rw [List.getElem?_take] at hj
    split at hj
    · exact hj
    · cases hj
end

/-- Numbers of a list. -/
def IntD (D : Nat → Prop) (w : World) (v : Value) (l : List Int) : Prop := ∃ p cap, v = .slice p l.length cap ∧ AtD D w p (W.intsV l)
section
variable {D D' : Nat → Prop} {w w' : World} {v : Value} {l : List Int} {base : Nat}
theorem IntD.keep (h : IntD D w v l) (hk : Keep (fun k => ¬ D k) w w') : IntD D w' v l := by obtain ⟨p, c, h1, h3⟩ := h; exact ⟨p, c, h1, h3.keep hk⟩
theorem IntD.on (h : IntD D w v l) (hb : Below w.heap.size w w') : IntD D w' v l := h.keep (keep_on hb)
theorem IntD.up (h : IntD D w v l) (hD : Ups D D' w.heap.size) : IntD D' w v l := by obtain ⟨p, c, h1, h3⟩ := h; exact ⟨p, c, h1, h3.up hD⟩
theorem IntD.nil (D : Nat → Prop) (w : World) : IntD D w (.slice none 0 0) [] := ⟨none, 0, rfl, .inl rfl⟩
theorem IntD.at {p : Option Addr} {n c : Nat} (h : IntD D w (.slice p n c) l) : W.At w p l ∧ n = l.length := by
  obtain ⟨p', c', e, h⟩ := h
  cases e
  exact ⟨W.at_ints.2 h.at, rfl⟩
theorem IntD.of {p : Option Addr} {c : Nat} (h : W.AtF base w p l) (hD : ∀ k, D k → k < base) : IntD D w (.slice p l.length c) l := ⟨p, c, rfl, .of (W.atF_ints.1 h) hD⟩
theorem IntD.cell (h : IntD D w v l) : v.oneCell' = true := by obtain ⟨p, c, rfl, _⟩ := h; rfl
end

/-- A descriptor's cells, and those of a list. -/
def slC (x : Sl) (v : Value) : List Value := [.int .i64 x.file, .int .u32 (x.rights : Int), .bool x.all, v, .int .i64 x.fc]
abbrev SV := Sl × Value
def flat (M : List SV) : List Value := M.flatMap fun e => slC e.1 e.2
theorem flat_cons (e : SV) (M : List SV) : flat (e :: M) = slC e.1 e.2 ++ flat M := rfl
theorem flat_len : ∀ M : List SV, (flat M).length = M.length * 5
  | [] => rfl
  | e :: M => by rw [flat_cons, List.length_append, flat_len M, List.length_cons]; simp [slC]; omega
theorem flat_get : ∀ (M : List SV) (k i : Nat) (h : k < M.length) (_ : i < 5), (flat M)[k * 5 + i]? = (slC M[k].1 M[k].2)[i]?
  | e :: M, 0, i, _, hi => by
    rw [flat_cons, Nat.zero_mul, Nat.zero_add, List.getElem?_append_left (by simp [slC]; exact hi)]; rfl
  | e :: M, k + 1, i, h, hi => by
    rw [flat_cons, List.getElem?_append_right (by simp [slC]; omega), show (k + 1) * 5 + i - (slC e.1 e.2).length = k * 5 + i by simp [slC]; omega, flat_get M k i (by simpa using h) hi]; rfl
theorem flat_put : ∀ (M : List SV) (k : Nat) (_ : k < M.length) (x : SV), (flat M).take (k * 5) ++ slC x.1 x.2 ++ (flat M).drop (k * 5 + 5) = flat (M.set k x)
  | e :: M, 0, _, x => by
    rw [flat_cons, List.set_cons_zero, flat_cons]
    simp only [Nat.zero_mul, List.take_zero, List.nil_append, Nat.zero_add]
    rw [List.drop_append_of_le_length (by simp [slC])]
    simp [slC]
  | e :: M, k + 1, h, x => by
    rw [flat_cons, List.set_cons_succ, flat_cons, ← flat_put M k (by simpa using h) x]
    have e1 : (k + 1) * 5 = (slC e.1 e.2).length + k * 5 := by simp [slC]; omega
    have e2 : (k + 1) * 5 + 5 = (slC e.1 e.2).length + (k * 5 + 5) := by simp [slC]; omega
    rw [e2, List.drop_length_add_append, e1, List.take_length_add_append]
    simp [List.append_assoc]
/-- A descriptor as a value. -/
def SlD (D : Nat → Prop) (w : World) (u : Value) (x : Sl) : Prop := ∃ v, u = .agg (slC x v).toArray ∧ IntD D w v x.ints
/-- A row of descriptors that is only read. -/
structure RowM (D : Nat → Prop) (w : World) (v : Value) (M : List SV) : Prop where
  row : ∃ p cap, v = .slice p M.length cap ∧ AtD D w p (flat M)
  ints : ∀ e ∈ M, IntD D w e.2 e.1.ints
def RowAt (D : Nat → Prop) (w : World) (v : Value) (S : List Sl) : Prop := ∃ M : List SV, M.map Prod.fst = S ∧ RowM D w v M
section
variable {D D' : Nat → Prop} {w w' : World} {v u : Value} {M : List SV} {S : List Sl} {x : Sl}
theorem SlD.keep (h : SlD D w u x) (hk : Keep (fun k => ¬ D k) w w') : SlD D w' u x := by obtain ⟨v, h1, h2⟩ := h; exact ⟨v, h1, h2.keep hk⟩
theorem SlD.on (h : SlD D w u x) (hb : Below w.heap.size w w') : SlD D w' u x := h.keep (keep_on hb)
theorem SlD.up (h : SlD D w u x) (hD : Ups D D' w.heap.size) : SlD D' w u x := by obtain ⟨v, h1, h2⟩ := h; exact ⟨v, h1, h2.up hD⟩
theorem SlD.z (D : Nat → Prop) (w : World) : SlD D w (.agg #[.int .i64 0, .int .u32 0, .bool false, .slice none 0 0, .int .i64 0]) zS := ⟨.slice none 0 0, rfl, .nil _ _⟩
theorem RowM.keep (h : RowM D w v M) (hk : Keep (fun k => ¬ D k) w w') : RowM D w' v M := by
  obtain ⟨p, c, h1, h3⟩ := h.row
  exact ⟨⟨p, c, h1, h3.keep hk⟩, fun x hx => (h.ints x hx).keep hk⟩
theorem RowM.up (h : RowM D w v M) (hD : Ups D D' w.heap.size) : RowM D' w v M := by
  obtain ⟨p, c, h1, h3⟩ := h.row
  exact ⟨⟨p, c, h1, h3.up hD⟩, fun x hx => (h.ints x hx).up hD⟩
theorem RowAt.keep (h : RowAt D w v S) (hk : Keep (fun k => ¬ D k) w w') : RowAt D w' v S := by obtain ⟨M, h1, h2⟩ := h; exact ⟨M, h1, h2.keep hk⟩
theorem RowAt.on (h : RowAt D w v S) (hb : Below w.heap.size w w') : RowAt D w' v S := h.keep (keep_on hb)
theorem RowAt.up (h : RowAt D w v S) (hD : Ups D D' w.heap.size) : RowAt D' w v S := by obtain ⟨M, h1, h2⟩ := h; exact ⟨M, h1, h2.up hD⟩
theorem RowAt.slice (h : RowAt D w v S) : ∃ p cap, v = .slice p S.length cap := by
  obtain ⟨M, rfl, h2⟩ := h
  obtain ⟨p, c, h1, _⟩ := h2.row
  exact ⟨p, c, by rw [h1, List.length_map]⟩
/-- One of them. -/
theorem RowAt.cells (h : RowAt D w v S) {k : Nat} (hk : k < S.length) : ∃ b off cap lv, v = .slice (some ⟨b, off, none⟩) S.length cap ∧ IntD D w lv (S.getD k zS).ints ∧ ∀ i c, (slC (S.getD k zS) lv)[i]? = some c → w.cell? ⟨b, off + (k * 5 + i), none⟩ = some c := by
  obtain ⟨M, rfl, h2⟩ := h
  obtain ⟨p, cap, h1, hat⟩ := h2.row
  rw [List.length_map] at hk
  obtain ⟨b, off, rfl, _, _, hc⟩ := hat.place (k := k * 5) (by rw [flat_len]; omega)
  have e : (M.map Prod.fst).getD k zS = M[k].1 := by simp [List.getD, hk]
  rw [e]
  refine ⟨b, off, cap, M[k].2, by rw [h1, List.length_map], h2.ints _ (List.getElem_mem hk), fun i c hi => hc _ c ?_⟩
  have h5 : i < 5 := by have := (List.getElem?_eq_some_iff.1 hi).1; simpa [slC] using this
  rw [flat_get M k i hk h5, hi]
end

/-- A descriptor of a table: where its box lies, and its list. -/
structure Ent where
  sl : Sl
  bk : Nat
  lv : Value
def Ent.ptr (e : Ent) : Value := if e.sl.file = 0 then .pointer none else Z.ptr e.bk
def Ent.z : Ent := ⟨zS, 0, .slice none 0 0⟩
/-- A table in memory: 'F' are the blocks that it turns, 'D' those in which no list may lie. -/
structure TabM (D F : Nat → Prop) (w : World) (tb rb : Nat) (M : List Ent) : Prop where
  box : Blk w tb 67 [.slice (some ⟨rb, 0, none⟩) M.length M.length]
  row : Blk w rb 77 (M.map Ent.ptr)
  ent : ∀ (i : Nat) e, M[i]? = some e → e.sl.file ≠ 0 → F e.bk ∧ Blk w e.bk 34 (slC e.sl e.lv) ∧ IntD D w e.lv e.sl.ints
  apart : ∀ (i j : Nat) a b, M[i]? = some a → M[j]? = some b → i ≠ j → a.sl.file ≠ 0 → b.sl.file ≠ 0 → a.bk ≠ b.bk
  frow : F rb
  sub : ∀ k, F k → D k ∧ k < w.heap.size
  out : ¬ D tb
def TabAt (D F : Nat → Prop) (w : World) (tb : Nat) (S : List Sl) : Prop := ∃ rb M, M.map Ent.sl = S ∧ TabM D F w tb rb M
/-- What a table's call turns, and what is its own then. -/
structure Goes (F F' : Nat → Prop) (w w' : World) : Prop where
  keep : Keep (fun k => ¬ F k) w w'
  sub : Ups F F' w.heap.size
def Or (D F : Nat → Prop) (k : Nat) : Prop := D k ∨ F k
section
variable {D D' F F' G : Nat → Prop} {w w' w1 : World} {tb rb : Nat} {M : List Ent} {S : List Sl} {v : Value} {x : Sl} {l : List Int}
theorem TabM.keep (h : TabM D F w tb rb M) (hk : Keep (fun k => ¬ D k ∨ F k) w w') : TabM D F w' tb rb M :=
  ⟨hk.blk h.box (.inl h.out), hk.blk h.row (.inr h.frow), fun i e he hf => by
    obtain ⟨h1, h2, h3⟩ := h.ent i e he hf
    exact ⟨h1, hk.blk h2 (.inr h1), h3.keep (hk.mono fun _ _ h => .inl h)⟩, h.apart, h.frow, fun k hF => ⟨(h.sub k hF).1, Nat.lt_of_lt_of_le (h.sub k hF).2 hk.size⟩, h.out⟩
theorem TabM.up (h : TabM D F w tb rb M) (hD : Ups D D' w.heap.size) (hF : ∀ k, F k → D' k) : TabM D' F w tb rb M :=
  ⟨h.box, h.row, fun i e he hf => by
    obtain ⟨h1, h2, h3⟩ := h.ent i e he hf
    exact ⟨h1, h2, h3.up hD⟩, h.apart, h.frow, fun k hk => ⟨hF k hk, (h.sub k hk).2⟩, fun h1 => by
    rcases hD tb h1 with h2 | h2
    · exact h.out h2
    · have := h.box.lt; omega⟩
theorem TabAt.keep (h : TabAt D F w tb S) (hk : Keep (fun k => ¬ D k ∨ F k) w w') : TabAt D F w' tb S := by obtain ⟨rb, M, h1, h2⟩ := h; exact ⟨rb, M, h1, h2.keep hk⟩
theorem TabAt.on (h : TabAt D F w tb S) (hb : Below w.heap.size w w') : TabAt D F w' tb S := h.keep (keep_on hb)
theorem TabAt.up (h : TabAt D F w tb S) (hD : Ups D D' w.heap.size) (hF : ∀ k, F k → D' k) : TabAt D' F w tb S := by obtain ⟨rb, M, h1, h2⟩ := h; exact ⟨rb, M, h1, h2.up hD hF⟩
theorem TabAt.sub (h : TabAt D F w tb S) : ∀ k, F k → D k ∧ k < w.heap.size := by obtain ⟨rb, M, h1, h2⟩ := h; exact h2.sub
theorem TabAt.out (h : TabAt D F w tb S) : ¬ D tb := by obtain ⟨rb, M, h1, h2⟩ := h; exact h2.out
theorem Goes.refl (F : Nat → Prop) (w : World) : Goes F F w w := ⟨.refl _ _, fun _ h => .inl h⟩
theorem Goes.on (h : Below w.heap.size w w') : Goes F F w w' := ⟨keep_on h, fun _ h => .inl h⟩
theorem Goes.trans (h : Goes F F' w w') (k : Goes F' G w' w1) : Goes F G w w1 :=
  ⟨⟨k.keep.os.trans h.keep.os, k.keep.tape.trans h.keep.tape, k.keep.output.trans h.keep.output, Nat.le_trans h.keep.size k.keep.size, fun j hj h1 => (k.keep.block j (Nat.lt_of_lt_of_le hj h.keep.size) fun h2 => (h.sub j h2).elim h1 fun h3 => by omega).trans (h.keep.block j hj h1)⟩, fun j hj => by
    rcases k.sub j hj with h2 | h2
    · exact h.sub j h2
    · exact .inr (Nat.le_trans h.keep.size h2)⟩
theorem Goes.below {B : Nat} {w0 : World} (h : Goes F F' w w') (h0 : Below B w0 w) (hF : ∀ k, F k → B ≤ k) (hs : B ≤ w.heap.size) : Below B w0 w' := h.keep.below h0 (fun k hk h1 => by have := hF k h1; omega) hs
theorem Goes.ups (h : Goes F F' w w') (hF : ∀ k, F k → D k) : Ups D (Or D F') w.heap.size := fun k hk => by
  rcases hk with h1 | h1
  · exact .inl h1
  · rcases h.sub k h1 with h2 | h2
    · exact .inl (hF k h2)
    · exact .inr h2
theorem Goes.kept (h : Goes F F' w w') (hF : ∀ k, F k → D k) : Keep (fun k => ¬ Or D F' k) w w' := h.keep.mono fun k _ h1 h2 => h1 (.inl (hF k h2))
theorem RowAt.goes (h : RowAt D w v S) (g : Goes F F' w w') (hF : ∀ k, F k → D k) : RowAt (Or D F') w' v S := (h.up (g.ups hF)).keep (g.kept hF)
theorem IntD.goes (h : IntD D w v l) (g : Goes F F' w w') (hF : ∀ k, F k → D k) : IntD (Or D F') w' v l := (h.up (g.ups hF)).keep (g.kept hF)
theorem SlD.goes (h : SlD D w v x) (g : Goes F F' w w') (hF : ∀ k, F k → D k) : SlD (Or D F') w' v x := (h.up (g.ups hF)).keep (g.kept hF)
/-- Another table stays. -/
theorem TabAt.goes (h : TabAt D G w tb S) (g : Goes F F' w w') (hF : ∀ k, F k → D k) (ha : ∀ k, F k → ¬ G k) : TabAt (Or D F') G w' tb S :=
  (h.up (g.ups hF) fun k hk => .inl (h.sub k hk).1).keep (g.keep.mono fun k _ h1 h2 => by
    rcases h1 with h1 | h1
    · exact h1 (.inl (hF k h2))
    · exact ha k h2 h1)
end

theorem set_get {M : List Ent} {k i : Nat} {e a : Ent} (h : (M.set k e)[i]? = some a) : (i = k ∧ a = e) ∨ (i ≠ k ∧ M[i]? = some a) := by
  rw [List.getElem?_set] at h
  by_cases hki : k = i
  · subst hki
    rw [if_pos rfl] at h
    split at h
    · exact .inl ⟨rfl, (Option.some.inj h).symm⟩
    · cases h
  · rw [if_neg hki] at h
    exact .inr ⟨fun e => hki e.symm, h⟩
section
variable {D F : Nat → Prop} {w w' : World} {tb rb k : Nat} {M : List Ent} {S : List Sl} {e : Ent}
theorem TabM.rb_ne (h : TabM D F w tb rb M) {i : Nat} (hi : M[i]? = some e) (hf : e.sl.file ≠ 0) : e.bk ≠ rb := blk_ne (h.ent i e hi hf).2.1 h.row (by decide)
theorem TabM.tb_ne (h : TabM D F w tb rb M) : ∀ j, F j → tb ≠ j := fun j hj e => h.out (e ▸ (h.sub j hj).1)
/-- A descriptor laid. -/
theorem TabM.lay (h : TabM D F w tb rb M) (_hk : k < M.length) (e : Ent) (hf : e.sl.file ≠ 0) (hb : Blk w e.bk 34 (slC e.sl e.lv)) (hi : IntD D w e.lv e.sl.ints) (hD : D e.bk) (hn : ¬ F e.bk) :
    TabM D (Or F fun j => j = e.bk) (w.setCell ⟨rb, k, none⟩ (ptr e.bk)) tb rb (M.set k e) := by
  have hB := but_set w rb k (ptr e.bk)
  have hK : Keep (fun j => ¬ D j) w (w.setCell ⟨rb, k, none⟩ (ptr e.bk)) := keep_but hB fun h1 => h1 (h.sub rb h.frow).1
  refine ⟨?_, ?_, fun i a hia haf => ?_, fun i j a b hia hjb hne haf hbf => ?_, .inl h.frow, fun j hj => ?_, h.out⟩
  · rw [List.length_set]; exact hK.blk h.box h.out
  · have := h.row.set k (ptr e.bk)
    rw [List.map_set, show e.ptr = ptr e.bk by unfold Ent.ptr; rw [if_neg hf]]
    exact this
  · rcases set_get hia with ⟨rfl, rfl⟩ | ⟨_, h1⟩
    · exact ⟨.inr rfl, hb.but hB (blk_ne hb h.row (by decide)), hi.keep hK⟩
    · obtain ⟨h2, h3, h4⟩ := h.ent i a h1 haf
      exact ⟨.inl h2, h3.but hB (h.rb_ne h1 haf), h4.keep hK⟩
  · rcases set_get hia with ⟨rfl, rfl⟩ | ⟨hi1, h1⟩
    · rcases set_get hjb with ⟨rfl, rfl⟩ | ⟨_, h2⟩
      · exact absurd rfl hne
      · intro e1; exact hn (e1 ▸ (h.ent j b h2 hbf).1)
    · rcases set_get hjb with ⟨rfl, rfl⟩ | ⟨_, h2⟩
      · intro e1; exact hn (e1 ▸ (h.ent i a h1 haf).1)
      · exact h.apart i j a b h1 h2 hne haf hbf
  · rw [hB.size]
    rcases hj with hj | rfl
    · exact h.sub j hj
    · exact ⟨hD, hb.lt⟩
/-- One taken out. -/
theorem TabM.drop (h : TabM D F w tb rb M) (_hk : k < M.length) : TabM D F (w.setCell ⟨rb, k, none⟩ (.pointer none)) tb rb (M.set k Ent.z) := by
  have hB := but_set w rb k (.pointer none)
  have hK : Keep (fun j => ¬ D j) w (w.setCell ⟨rb, k, none⟩ (.pointer none)) := keep_but hB fun h1 => h1 (h.sub rb h.frow).1
  refine ⟨?_, ?_, fun i a hia haf => ?_, fun i j a b hia hjb hne haf hbf => ?_, h.frow, fun j hj => ?_, h.out⟩
  · rw [List.length_set]; exact hK.blk h.box h.out
  · have := h.row.set k (.pointer none)
    rw [List.map_set]
    exact this
  · rcases set_get hia with ⟨rfl, rfl⟩ | ⟨_, h1⟩
    · exact absurd rfl haf
    · obtain ⟨h2, h3, h4⟩ := h.ent i a h1 haf
      exact ⟨h2, h3.but hB (h.rb_ne h1 haf), h4.keep hK⟩
  · rcases set_get hia with ⟨rfl, rfl⟩ | ⟨hi1, h1⟩
    · exact absurd rfl haf
    · rcases set_get hjb with ⟨rfl, rfl⟩ | ⟨_, h2⟩
      · exact absurd rfl hbf
      · exact h.apart i j a b h1 h2 hne haf hbf
  · rw [hB.size]; exact h.sub j hj
/-- One turned in its place. -/
theorem TabM.turn (h : TabM D F w tb rb M) (hk : M[k]? = some e) (hf : e.sl.file ≠ 0) (hB : But e.bk w w') (x : Sl) (lv : Value) (hx : x.file ≠ 0) (hb : Blk w' e.bk 34 (slC x lv)) (hi : IntD D w' lv x.ints) :
    TabM D F w' tb rb (M.set k ⟨x, e.bk, lv⟩) := by
  have hFe := (h.ent k e hk hf).1
  have hK : Keep (fun j => ¬ D j) w w' := keep_but hB fun h1 => h1 (h.sub _ hFe).1
  refine ⟨?_, ?_, fun i a hia haf => ?_, fun i j a b hia hjb hne haf hbf => ?_, h.frow, fun j hj => ?_, h.out⟩
  · rw [List.length_set]; exact hK.blk h.box h.out
  · have h1 := h.row.but hB (Ne.symm (h.rb_ne hk hf))
    have e1 : (M.set k ⟨x, e.bk, lv⟩).map Ent.ptr = M.map Ent.ptr := by
      rw [List.map_set, show (Ent.mk x e.bk lv).ptr = e.ptr by unfold Ent.ptr; rw [if_neg hx, if_neg hf]]
      refine List.ext_getElem? fun i => ?_
      rw [List.getElem?_set]
      split
      · rename_i h2
        subst h2
        obtain ⟨hlt, h3⟩ := List.getElem?_eq_some_iff.1 hk
        rw [List.length_map, if_pos hlt, List.getElem?_map, hk]
        rfl
      · rfl
    rw [e1]; exact h1
  · rcases set_get hia with ⟨rfl, rfl⟩ | ⟨hne, h1⟩
    · exact ⟨hFe, hb, hi⟩
    · obtain ⟨h2, h3, h4⟩ := h.ent i a h1 haf
      exact ⟨h2, h3.but hB (h.apart i k a e h1 hk hne haf hf), h4.keep hK⟩
  · rcases set_get hia with ⟨rfl, rfl⟩ | ⟨hi1, h1⟩
    · rcases set_get hjb with ⟨rfl, rfl⟩ | ⟨_, h2⟩
      · exact absurd rfl hne
      · exact h.apart i j e b hk h2 hne hf hbf
    · rcases set_get hjb with ⟨rfl, rfl⟩ | ⟨_, h2⟩
      · exact h.apart i j a e h1 hk hne haf hf
      · exact h.apart i j a b h1 h2 hne haf hbf
  · rw [hB.size]; exact h.sub j hj
theorem goes_set (h : F rb) (o : Nat) (v : Value) : Goes F F w (w.setCell ⟨rb, o, none⟩ v) := ⟨keep_but (but_set w rb o v) fun h1 => h1 h, fun _ h => .inl h⟩
theorem goes_but {b : Nat} (h : F b) (hB : But b w w') : Goes F F w w' := ⟨keep_but hB fun h1 => h1 h, fun _ h => .inl h⟩
end
/-- A call on a table: what it answers, what it leaves. -/
def TPost (D F : Nat → Prop) (tb : Nat) (w : World) (S : List Sl) (R : Value) (e : Ending) (w' : World) : Prop := e = .returned R ∧ ∃ F', TabAt (Or D F') F' w' tb S ∧ Goes F F' w w'
/-- And what it hands out. -/
def UPost (D F : Nat → Prop) (tb : Nat) (w : World) (S : List Sl) (x : Sl) (R : Value → Value) (e : Ending) (w' : World) : Prop := ∃ F' u, e = .returned (R u) ∧ TabAt (Or D F') F' w' tb S ∧ Goes F F' w w' ∧ SlD (Or D F') w' u x

end Go.Proofs.Ytmccfcllehfebaa.Z
