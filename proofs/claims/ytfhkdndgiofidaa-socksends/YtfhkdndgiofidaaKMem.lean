/- What waits in memory: bytes, what is passed, parts; which blocks are a queue's own, and what its calls turn. -/
import Derived.Test.YtfhkdndgiofidaaProg
import Derived.Test.YtfhkdndgiofidaaGRowC
import Derived.Test.YtfhkdndgiofidaaGStep
namespace Go.Proofs.Ytfhkdndgiofidaa.K
open Go Go.RowKit

def byteV (c : UInt8) : Value := .int .u8 (c.toNat : Int)
abbrev bytesV (l : List UInt8) : List Value := l.map byteV
abbrev intsV (l : List Int) : List Value := l.map fun x => Value.int .i64 x
theorem bytesV_get {l : List UInt8} {j : Nat} (h : j < l.length) : (bytesV l)[j]? = some (.int .u8 ((l.getD j 0).toNat : Int)) := by simp [byteV, List.getD, h]
theorem one_bytes (l : List UInt8) : ∀ u ∈ bytesV l, u.oneCell' = true := fun u hu => by
  obtain ⟨c, _, rfl⟩ := List.mem_map.1 hu
  rfl
theorem one_ints (l : List Int) : ∀ u ∈ intsV l, u.oneCell' = true := fun u hu => by
  obtain ⟨c, _, rfl⟩ := List.mem_map.1 hu
  rfl
theorem elemByte : ElemOk Try.prog 28 5 (.int .u8 0) 1 := ⟨Try.underlying28, by kernel_rfl, rfl, by decide⟩
theorem elemInt : ElemOk Try.prog 42 3 (.int .i64 0) 8 := ⟨Try.underlying42, by kernel_rfl, rfl, by decide⟩
theorem elemPs : ElemS Try.prog 49 99 (.agg #[.int .i64 0, .int .u32 0, .bool false, .slice none 0 0, .int .i64 0]) 5 56 := ⟨by kernel_rfl, by kernel_rfl, rfl, by decide, by decide⟩
theorem elemPt : ElemS Try.prog 43 87 (.agg #[.slice none 0 0, .slice none 0 0]) 2 48 := ⟨by kernel_rfl, by kernel_rfl, rfl, by decide, by decide⟩

/-- The blocks of which 'O' holds are as they were; more may be laid. -/
structure Keep (O : Nat → Prop) (w w' : World) : Prop where
  os : w'.os = w.os
  tape : w'.tape = w.tape
  output : w'.output = w.output
  size : w.heap.size ≤ w'.heap.size
  block : ∀ k, k < w.heap.size → O k → w'.heap[k]? = w.heap[k]?
section
variable {O O' : Nat → Prop} {w w' w0 w1 w2 : World} {b B : Nat} {t : TypeId} {cs : List Value}
theorem Keep.refl (O : Nat → Prop) (w : World) : Keep O w w := ⟨rfl, rfl, rfl, Nat.le_refl _, fun _ _ _ => rfl⟩
theorem Keep.trans (h : Keep O w w1) (k : Keep O w1 w2) : Keep O w w2 :=
  ⟨k.os.trans h.os, k.tape.trans h.tape, k.output.trans h.output, Nat.le_trans h.size k.size, fun j hj h1 => (k.block j (Nat.lt_of_lt_of_le hj h.size) h1).trans (h.block j hj h1)⟩
theorem Keep.mono (h : Keep O w w') (hO : ∀ k, k < w.heap.size → O' k → O k) : Keep O' w w' := ⟨h.os, h.tape, h.output, h.size, fun k hk h1 => h.block k hk (hO k hk h1)⟩
theorem keep_on (h : Below w.heap.size w w') : Keep O w w' := ⟨h.os, h.tape, h.output, h.size, fun k hk _ => h.block k hk⟩
theorem keep_but (h : But b w w') (hb : ¬ O b) : Keep O w w' := ⟨h.os, h.tape, h.output, Nat.le_of_eq h.size.symm, fun k _ h1 => h.block k fun e => hb (e ▸ h1)⟩
theorem keep_grown {r : Option Nat} (h : w.grownBy w' r) (hr : ∀ k, r = some k → ¬ O k) : Keep O w w' := ⟨h.os, h.tape, h.output, h.size, fun k hk h1 => h.block k hk fun e => hr k e.symm h1⟩
theorem Keep.below (h : Keep O w w') (h0 : Below B w0 w) (hO : ∀ k, k < B → O k) (hs : B ≤ w.heap.size) : Below B w0 w' :=
  ⟨h.os.trans h0.os, h.tape.trans h0.tape, h.output.trans h0.output, Nat.le_trans h0.size h.size, fun k hk => (h.block k (by omega) (hO k hk)).trans (h0.block k hk)⟩
theorem Keep.blk (h : Keep O w w') (hB : Blk w b t cs) (hO : O b) : Blk w' b t cs := ⟨(h.block b hB.lt hO).trans hB.row⟩
end

/-- A block's type. -/
def typ (w : World) (k : Nat) (t : TypeId) : Prop := ∃ cs fr, w.heap[k]? = some (.cells cs t fr)
theorem typ_ne {w : World} {k j : Nat} {t t' : TypeId} (h : typ w k t) (h' : typ w j t') (hne : t ≠ t') : k ≠ j := fun e => by
  subst e
  obtain ⟨c, f, h⟩ := h
  obtain ⟨c', f', h'⟩ := h'
  rw [h] at h'
  simp at h'
  exact hne h'.2.1
theorem typ_blk {w : World} {b : Nat} {t : TypeId} {cs : List Value} (h : Blk w b t cs) : typ w b t := ⟨_, _, h.row⟩
/-- A slice at 'p', in a block of this type of which 'O' holds, reads as these values. -/
def AtO (t : TypeId) (O : Nat → Prop) (w : World) (p : Option Addr) (l : List Value) : Prop :=
  l = [] ∨ ∃ b off, p = some ⟨b, off, none⟩ ∧ O b ∧ b < w.heap.size ∧ typ w b t ∧ ∀ (j : Nat) v, l[j]? = some v → w.cell? ⟨b, off + j, none⟩ = some v
section
variable {O O' : Nat → Prop} {w w' : World} {p : Option Addr} {l : List Value} {base : Nat} {t : TypeId}
theorem AtO.keepT (h : AtO t O w p l) (hk : Keep (fun k => O k ∧ typ w k t) w w') : AtO t O w' p l := by
  rcases h with h | ⟨b, off, hp, hO, hlt, ht, hc⟩
  · exact .inl h
  · have hb := hk.block b hlt ⟨hO, ht⟩
    refine .inr ⟨b, off, hp, hO, Nat.lt_of_lt_of_le hlt hk.size, by unfold typ; rw [hb]; exact ht, fun j v hj => ?_⟩
    rw [← hc j v hj]
    simp only [World.cell?, hb]
theorem AtO.keep (h : AtO t O w p l) (hk : Keep O w w') : AtO t O w' p l := h.keepT (hk.mono fun _ _ h => h.1)
theorem AtO.mono (h : AtO t O w p l) (hO : ∀ k, k < w.heap.size → O k → O' k) : AtO t O' w p l := by
  rcases h with h | ⟨b, off, hp, h1, hlt, hc⟩
  · exact .inl h
  · exact .inr ⟨b, off, hp, hO b hlt h1, hlt, hc⟩
theorem AtO.at (h : AtO t O w p l) : At w p l := by
  rcases h with h | ⟨b, off, hp, h1, hlt, _, hc⟩
  · exact .inl h
  · exact .inr ⟨b, off, hp, Nat.zero_le _, hlt, hc⟩
theorem AtO.of {n size : Nat} {v : Value} (h : w.ownsRow base t size v n l) : ∃ p cap, v = .slice p n cap ∧ AtO t (fun k => base ≤ k) w p l ∧ n ≤ cap := by
  obtain ⟨p, cap, e, h1, h2⟩ := rowS_at h
  refine ⟨p, cap, e, ?_, h2⟩
  rcases h1 with h1 | ⟨b, off, hp, h3, hlt, hc⟩
  · exact .inl h1
  · refine .inr ⟨b, off, hp, h3, hlt, ?_, hc⟩
    rcases h.2 with ⟨h0, _⟩ | ⟨g, cap', cur, h0, _, hg, _⟩
    · rw [e, hp] at h0; cases h0
    · rw [e, hp] at h0; cases h0; exact ⟨_, _, hg⟩
theorem AtO.take (h : AtO t O w p l) (k : Nat) : AtO t O w p (l.take k) := by
  rcases h with rfl | ⟨b, off, hp, hl, hlt, ht, hc⟩
  · exact .inl (by simp)
  · refine .inr ⟨b, off, hp, hl, hlt, ht, fun j v hj => hc j v ?_⟩
    rw [List.getElem?_take] at hj
    split at hj
    · exact hj
    · cases hj
theorem AtO.drop {b off : Nat} (h : AtO t O w (some ⟨b, off, none⟩) l) (k : Nat) : AtO t O w (some ⟨b, off + k, none⟩) (l.drop k) := by
  rcases h with rfl | ⟨b', off', e, h1, h2, ht, h3⟩
  · exact .inl (by simp)
  · cases e
    refine .inr ⟨b, off + k, rfl, h1, h2, ht, fun j v hj => ?_⟩
    rw [Nat.add_assoc]
    refine h3 (k + j) v ?_
    rw [← hj, List.getElem?_drop]
end

/-- What is passed: its numbers; its list lies elsewhere. -/
structure Ps where
  file : Int
  rights : Int
  all : Bool
  ints : List Int
  fc : Int
abbrev PV := Ps × Value
def psC (x : PV) : List Value := [.int .i64 x.1.file, .int .u32 x.1.rights, .bool x.1.all, x.2, .int .i64 x.1.fc]
def flatP (M : List PV) : List Value := M.flatMap psC
theorem flatP_len (M : List PV) : (flatP M).length = M.length * 5 := by
  induction M with
  | nil => rfl
  | cons x r ih => simp only [flatP, List.flatMap_cons, List.length_append, List.length_cons] at ih ⊢; rw [ih]; simp [psC]; omega
theorem flatP_app (M N : List PV) : flatP (M ++ N) = flatP M ++ flatP N := by simp [flatP]
theorem flatP_take (M : List PV) (k : Nat) : (flatP M).take (k * 5) = flatP (M.take k) := by
  induction M generalizing k with
  | nil => simp [flatP]
  | cons x r ih =>
    cases k with
    | zero => simp [flatP]
    | succ k =>
      have e : (k + 1) * 5 = (psC x).length + k * 5 := by simp [psC]; omega
      simp only [flatP, List.flatMap_cons, List.take_succ_cons] at ih ⊢
      rw [e, List.take_length_add_append, ih]
theorem flatP_drop (M : List PV) (k : Nat) : (flatP M).drop (k * 5) = flatP (M.drop k) := by
  induction M generalizing k with
  | nil => simp [flatP]
  | cons x r ih =>
    cases k with
    | zero => simp [flatP]
    | succ k =>
      have e : (k + 1) * 5 = (psC x).length + k * 5 := by simp [psC]; omega
      simp only [flatP, List.flatMap_cons, List.drop_succ_cons] at ih ⊢
      rw [e, List.drop_length_add_append, ih]
theorem flatP_get {M : List PV} {i : Nat} {x : PV} (h : M[i]? = some x) {j : Nat} (hj : j < 5) : (flatP M)[i * 5 + j]? = (psC x)[j]? := by
  have h1 := List.getElem?_drop (xs := flatP M) (i := i * 5) (j := j)
  rw [flatP_drop] at h1
  rw [← h1]
  obtain ⟨hi, rfl⟩ := List.getElem?_eq_some_iff.1 h
  rw [List.drop_eq_getElem_cons hi]
  simp only [flatP, List.flatMap_cons]
  rw [List.getElem?_append_left (by simp [psC]; exact hj)]

/-- Numbers of a list. -/
def IntsO (O : Nat → Prop) (w : World) (v : Value) (l : List Int) : Prop := ∃ p cap, v = .slice p l.length cap ∧ l.length ≤ cap ∧ AtO 3 O w p (intsV l)
/-- Bytes. -/
def BytO (O : Nat → Prop) (w : World) (v : Value) (l : List UInt8) : Prop := ∃ p cap, v = .slice p l.length cap ∧ l.length ≤ cap ∧ AtO 5 O w p (bytesV l)
/-- A list of what is passed. -/
structure PasM (O : Nat → Prop) (w : World) (v : Value) (M : List PV) : Prop where
  row : ∃ p cap, v = .slice p M.length cap ∧ M.length ≤ cap ∧ AtO 99 O w p (flatP M)
  ints : ∀ x ∈ M, IntsO O w x.2 x.1.ints
def PasO (O : Nat → Prop) (w : World) (v : Value) (L : List Ps) : Prop := ∃ M : List PV, M.map Prod.fst = L ∧ PasM O w v M
section
variable {O O' : Nat → Prop} {w w' : World} {v : Value} {l : List Int} {B : List UInt8} {M : List PV} {L : List Ps}
theorem IntsO.keep (h : IntsO O w v l) (hk : Keep O w w') : IntsO O w' v l := by obtain ⟨p, c, h1, h2, h3⟩ := h; exact ⟨p, c, h1, h2, h3.keep hk⟩
theorem IntsO.mono (h : IntsO O w v l) (hO : ∀ k, k < w.heap.size → O k → O' k) : IntsO O' w v l := by obtain ⟨p, c, h1, h2, h3⟩ := h; exact ⟨p, c, h1, h2, h3.mono hO⟩
theorem BytO.keep (h : BytO O w v B) (hk : Keep O w w') : BytO O w' v B := by obtain ⟨p, c, h1, h2, h3⟩ := h; exact ⟨p, c, h1, h2, h3.keep hk⟩
theorem BytO.mono (h : BytO O w v B) (hO : ∀ k, k < w.heap.size → O k → O' k) : BytO O' w v B := by obtain ⟨p, c, h1, h2, h3⟩ := h; exact ⟨p, c, h1, h2, h3.mono hO⟩
theorem PasM.keepT (h : PasM O w v M) (hk : Keep (fun k => O k ∧ (typ w k 99 ∨ typ w k 3)) w w') : PasM O w' v M := by
  obtain ⟨p, c, h1, h2, h3⟩ := h.row
  refine ⟨⟨p, c, h1, h2, h3.keepT (hk.mono fun _ _ h => ⟨h.1, .inl h.2⟩)⟩, fun x hx => ?_⟩
  obtain ⟨p, c, h1, h2, h3⟩ := h.ints x hx
  exact ⟨p, c, h1, h2, h3.keepT (hk.mono fun _ _ h => ⟨h.1, .inr h.2⟩)⟩
theorem PasM.keep (h : PasM O w v M) (hk : Keep O w w') : PasM O w' v M := h.keepT (hk.mono fun _ _ h => h.1)
theorem PasM.mono (h : PasM O w v M) (hO : ∀ k, k < w.heap.size → O k → O' k) : PasM O' w v M := by
  obtain ⟨p, c, h1, h2, h3⟩ := h.row
  exact ⟨⟨p, c, h1, h2, h3.mono hO⟩, fun x hx => (h.ints x hx).mono hO⟩
theorem PasO.keep (h : PasO O w v L) (hk : Keep O w w') : PasO O w' v L := by obtain ⟨M, h1, h2⟩ := h; exact ⟨M, h1, h2.keep hk⟩
theorem PasO.mono (h : PasO O w v L) (hO : ∀ k, k < w.heap.size → O k → O' k) : PasO O' w v L := by obtain ⟨M, h1, h2⟩ := h; exact ⟨M, h1, h2.mono hO⟩
theorem PasO.nil (O : Nat → Prop) (w : World) : PasO O w (.slice none 0 0) [] := ⟨[], rfl, ⟨none, 0, rfl, Nat.le_refl _, .inl rfl⟩, fun x hx => by simp at hx⟩
theorem BytO.nil (O : Nat → Prop) (w : World) : BytO O w (.slice none 0 0) [] := ⟨none, 0, rfl, Nat.le_refl _, .inl rfl⟩
theorem PasM.one (h : PasM O w v M) : ∀ u ∈ flatP M, u.oneCell' = true := fun u hu => by
  simp only [flatP, List.mem_flatMap] at hu
  obtain ⟨x, hx, hu⟩ := hu
  obtain ⟨p, c, h1, _⟩ := h.ints x hx
  simp only [psC, List.mem_cons, List.not_mem_nil, or_false] at hu
  rcases hu with rfl | rfl | rfl | rfl | rfl
  · rfl
  · rfl
  · rfl
  · rw [h1]; rfl
  · rfl
end

theorem PasM.of_row {hi : Nat} {w : World} {v : Value} {N : List PV} {m : Nat} (h : w.ownsRow hi 99 5 v m (flatP N)) (hi' : ∀ x ∈ N, IntsO (fun k => hi ≤ k) w x.2 x.1.ints) : PasM (fun k => hi ≤ k) w v N := by
  obtain ⟨p, cap, e, hat, hc⟩ := AtO.of h
  obtain rfl : m = N.length := by have := h.1; rw [flatP_len] at this; omega
  exact ⟨⟨p, cap, e, hc, hat⟩, hi'⟩
theorem IntsO.of_own {hi : Nat} {w : World} {v : Value} {l : List Int} (h : OwnV hi 3 w v (intsV l)) : IntsO (fun k => hi ≤ k) w v l := by
  obtain ⟨p, cap, e, hat, hc⟩ := AtO.of h
  rw [List.length_map] at e hc
  exact ⟨p, cap, e, hc, hat⟩
theorem BytO.of_own {hi : Nat} {w : World} {v : Value} {l : List UInt8} (h : OwnV hi 5 w v (bytesV l)) : BytO (fun k => hi ≤ k) w v l := by
  obtain ⟨p, cap, e, hat, hc⟩ := AtO.of h
  rw [List.length_map] at e hc
  exact ⟨p, cap, e, hc, hat⟩
theorem flatP_set (A R : List PV) (x : PV) (v : Value) : (flatP (A ++ x :: R)).set (A.length * 5 + 3) v = flatP (A ++ (x.1, v) :: R) := by
  rw [flatP_app, flatP_app, List.set_append_right _ _ (by rw [flatP_len]; omega), flatP_len]
  rw [show A.length * 5 + 3 - A.length * 5 = 3 by omega]
  rfl

/-- A part. -/
abbrev Pt := List UInt8 × List Ps
/-- A part in memory. -/
structure PX where
  B : List UInt8
  bv : Value
  M : List PV
  lv : Value
def PX.pt (x : PX) : Pt := (x.B, x.M.map Prod.fst)
def PX.cells (x : PX) : List Value := [x.bv, x.lv]
def flatX (X : List PX) : List Value := X.flatMap PX.cells
theorem flatX_len (X : List PX) : (flatX X).length = X.length * 2 := by
  induction X with
  | nil => rfl
  | cons x r ih => simp only [flatX, List.flatMap_cons, List.length_append, List.length_cons] at ih ⊢; rw [ih]; simp [PX.cells]; omega
theorem flatX_app (X Y : List PX) : flatX (X ++ Y) = flatX X ++ flatX Y := by simp [flatX]
theorem flatX_drop (X : List PX) (k : Nat) : (flatX X).drop (k * 2) = flatX (X.drop k) := by
  induction X generalizing k with
  | nil => simp [flatX]
  | cons x r ih =>
    cases k with
    | zero => simp [flatX]
    | succ k =>
      have e : (k + 1) * 2 = x.cells.length + k * 2 := by simp [PX.cells]; omega
      simp only [flatX, List.flatMap_cons, List.drop_succ_cons] at ih ⊢
      rw [e, List.drop_length_add_append, ih]
theorem flatX_get {X : List PX} {i : Nat} {x : PX} (h : X[i]? = some x) : (flatX X)[i * 2]? = some x.bv ∧ (flatX X)[i * 2 + 1]? = some x.lv := by
  have h1 := fun j => List.getElem?_drop (xs := flatX X) (i := i * 2) (j := j)
  obtain ⟨hi, rfl⟩ := List.getElem?_eq_some_iff.1 h
  rw [flatX_drop, List.drop_eq_getElem_cons hi] at h1
  have h2 := h1 0
  have h3 := h1 1
  simp only [flatX, List.flatMap_cons, PX.cells, Nat.add_zero] at h2 h3
  exact ⟨by rw [flatX, ← h2]; rfl, by rw [flatX, ← h3]; rfl⟩

/-- A list of parts that is only read. -/
structure ParM (O : Nat → Prop) (w : World) (v : Value) (X : List PX) : Prop where
  row : ∃ p cap, v = .slice p X.length cap ∧ X.length ≤ cap ∧ AtO 87 O w p (flatX X)
  byt : ∀ x ∈ X, BytO O w x.bv x.B
  pas : ∀ x ∈ X, PasM O w x.lv x.M
def ParO (O : Nat → Prop) (w : World) (v : Value) (ps : List Pt) : Prop := ∃ X : List PX, X.map PX.pt = ps ∧ ParM O w v X
section
variable {O O' : Nat → Prop} {w w' : World} {v : Value} {X : List PX} {ps : List Pt}
theorem ParM.keep (h : ParM O w v X) (hk : Keep O w w') : ParM O w' v X := by
  obtain ⟨p, c, h1, h2, h3⟩ := h.row
  exact ⟨⟨p, c, h1, h2, h3.keep hk⟩, fun x hx => (h.byt x hx).keep hk, fun x hx => (h.pas x hx).keep hk⟩
theorem ParM.mono (h : ParM O w v X) (hO : ∀ k, k < w.heap.size → O k → O' k) : ParM O' w v X := by
  obtain ⟨p, c, h1, h2, h3⟩ := h.row
  exact ⟨⟨p, c, h1, h2, h3.mono hO⟩, fun x hx => (h.byt x hx).mono hO, fun x hx => (h.pas x hx).mono hO⟩
theorem ParO.keep (h : ParO O w v ps) (hk : Keep O w w') : ParO O w' v ps := by obtain ⟨X, h1, h2⟩ := h; exact ⟨X, h1, h2.keep hk⟩
theorem ParO.mono (h : ParO O w v ps) (hO : ∀ k, k < w.heap.size → O k → O' k) : ParO O' w v ps := by obtain ⟨X, h1, h2⟩ := h; exact ⟨X, h1, h2.mono hO⟩
theorem ParO.nil (O : Nat → Prop) (w : World) : ParO O w (.slice none 0 0) [] := ⟨[], rfl, ⟨none, 0, rfl, Nat.le_refl _, .inl rfl⟩, (fun x hx => by simp at hx), fun x hx => by simp at hx⟩
theorem ParM.one (h : ParM O w v X) : ∀ u ∈ flatX X, u.oneCell' = true := fun u hu => by
  simp only [flatX, List.mem_flatMap] at hu
  obtain ⟨x, hx, hu⟩ := hu
  obtain ⟨p, c, h1, _⟩ := h.byt x hx
  obtain ⟨p2, c2, h2, _⟩ := (h.pas x hx).row
  simp only [PX.cells, List.mem_cons, List.not_mem_nil, or_false] at hu
  rcases hu with rfl | rfl
  · rw [h1]; rfl
  · rw [h2]; rfl
end

/-- A part's bytes, in a row that may be written to. -/
structure BytM (F : Nat → Prop) (w : World) (v : Value) (B : List UInt8) : Prop where
  is : ∃ b off cap cs, v = .slice (some ⟨b, off, none⟩) B.length cap ∧ B.length ≤ cap ∧ F b ∧ Blk w b 5 cs ∧ off + cap ≤ cs.length ∧ (cs.drop off).take B.length = bytesV B
def blkOf : Value → Nat
  | .slice (some a) _ _ => a.block
  | _ => 0
section
variable {F F' : Nat → Prop} {w w' : World} {v : Value} {B : List UInt8}
theorem BytM.keep (h : BytM F w v B) (hk : Keep F w w') : BytM F w' v B := by
  obtain ⟨b, off, cap, cs, h1, h2, h3, h4, h5, h6⟩ := h.is
  exact ⟨b, off, cap, cs, h1, h2, h3, hk.blk h4 h3, h5, h6⟩
theorem BytM.mono (h : BytM F w v B) (hO : ∀ k, k < w.heap.size → F k → F' k) : BytM F' w v B := by
  obtain ⟨b, off, cap, cs, h1, h2, h3, h4, h5, h6⟩ := h.is
  exact ⟨b, off, cap, cs, h1, h2, hO b h4.lt h3, h4, h5, h6⟩
/-- Where its own block is as it was. -/
theorem BytM.same (h : BytM F w v B) (hb : w'.heap[blkOf v]? = w.heap[blkOf v]?) : BytM F w' v B := by
  obtain ⟨b, off, cap, cs, h1, h2, h3, h4, h5, h6⟩ := h.is
  subst h1
  exact ⟨b, off, cap, cs, rfl, h2, h3, ⟨hb.trans h4.row⟩, h5, h6⟩
theorem BytM.byt (h : BytM F w v B) : BytO F w v B := by
  obtain ⟨b, off, cap, cs, h1, h2, h3, h4, h5, h6⟩ := h.is
  refine ⟨_, cap, h1, h2, .inr ⟨b, off, rfl, h3, h4.lt, typ_blk h4, fun j u hj => h4.cell _ ?_⟩⟩
  rw [← h6, List.getElem?_take] at hj
  split at hj
  · rwa [List.getElem?_drop] at hj
  · cases hj
theorem BytM.blk (h : BytM F w v B) : F (blkOf v) ∧ ∃ cs, Blk w (blkOf v) 5 cs := by
  obtain ⟨b, off, cap, cs, h1, h2, h3, h4, h5, h6⟩ := h.is
  subst h1
  exact ⟨h3, cs, h4⟩
end

/-- A queue in memory: 'F' is what it writes to, 'G' where what is passed lies. -/
structure QM (F G : Nat → Prop) (w : World) (qb n : Nat) (X : List PX) : Prop where
  box : ∃ pv, Blk w qb 111 [.int .i64 (n : Int), pv] ∧ w.ownsRow 0 87 2 pv X.length (flatX X) ∧ ∀ g, pv.ownBlock = some g → F g
  own : F qb
  byt : ∀ x ∈ X, BytM F w x.bv x.B
  pas : ∀ x ∈ X, PasM G w x.lv x.M
  apart : X.Pairwise fun x y => blkOf x.bv ≠ blkOf y.bv
def total (ps : List Pt) : Nat := (ps.map fun x => x.1.length).sum
/-- What may be passed at once. -/
def Few (L : List Ps) : Prop := L.length ≤ 4 ∧ ∀ y ∈ L, y.ints.length ≤ 100
/-- What may wait. -/
structure Ok (n : Nat) (ps : List Pt) : Prop where
  pos : 1 ≤ n
  most : n ≤ 4096
  all : total ps ≤ n
  few : ps.length ≤ 16
  some : ∀ x ∈ ps, x.1 ≠ []
  tail : ∀ x ∈ ps.tail, x.2 ≠ []
  pass : ∀ x ∈ ps, Few x.2
/-- The types of what a queue writes to; of what is passed. -/
def Wr (w : World) (k : Nat) : Prop := typ w k 111 ∨ typ w k 87 ∨ typ w k 5
def Rd (w : World) (k : Nat) : Prop := typ w k 99 ∨ typ w k 3
theorem wr_rd {w : World} {k : Nat} (h : Wr w k) (h' : Rd w k) : False := by
  rcases h with h | h | h <;> rcases h' with h' | h' <;> exact typ_ne h h' (by decide) rfl
/-- A queue with room for n bytes, in which these parts wait. -/
def QAt (F G : Nat → Prop) (w : World) (qb n : Nat) (ps : List Pt) : Prop := ∃ X : List PX, X.map PX.pt = ps ∧ QM F G w qb n X ∧ Ok n ps ∧ (∀ k, F k → k < w.heap.size ∧ Wr w k) ∧ ∀ k, G k → k < w.heap.size
/-- What a queue's call leaves: all that it does not write to; what is its own now. -/
structure Goes (F G F' G' : Nat → Prop) (w w' : World) : Prop where
  keep : Keep (fun k => ¬ F k) w w'
  sub : ∀ k, F' k → F k ∨ w.heap.size ≤ k
  subG : ∀ k, G' k → G k ∨ w.heap.size ≤ k
section
variable {F F' G G' : Nat → Prop} {w w' w0 : World} {qb n : Nat} {X : List PX} {ps : List Pt} {v : Value} {hi : Nat} {e : TypeId} {size m : Nat} {s : List Value}
theorem rowS_keep {O : Nat → Prop} (h : w.ownsRow hi e size v m s) (hk : Keep O w w') (hO : ∀ g, v.ownBlock = some g → O g) : w'.ownsRow hi e size v m s := by
  refine ⟨h.1, ?_⟩
  rcases h.2 with h0 | ⟨g, cap, cur, rfl, hbs, hg, h3⟩
  · exact .inl h0
  · exact .inr ⟨g, cap, cur, rfl, hbs, (hk.block g (Array.getElem?_eq_some_iff.1 hg).1 (hO g rfl)).trans hg, h3⟩
theorem QM.keep (h : QM F G w qb n X) (hk : Keep (fun k => F k ∨ G k) w w') : QM F G w' qb n X := by
  obtain ⟨pv, h1, h2, h3⟩ := h.box
  have hF : Keep F w w' := hk.mono fun _ _ h => .inl h
  have hG : Keep G w w' := hk.mono fun _ _ h => .inr h
  exact ⟨⟨pv, hF.blk h1 h.own, rowS_keep h2 hF h3, h3⟩, h.own, fun x hx => (h.byt x hx).keep hF, fun x hx => (h.pas x hx).keep hG, h.apart⟩
theorem row_lt (h : w.ownsRow hi e size v m s) {g : Nat} (hg : v.ownBlock = some g) : hi ≤ g ∧ g < w.heap.size ∧ ∃ cur, w.heap[g]? = some (.cells cur e (0, 0)) := by
  rcases h.2 with ⟨rfl, _⟩ | ⟨g', cap, cur, rfl, hbs, hg2, _⟩
  · simp [Value.ownBlock] at hg
  · simp [Value.ownBlock] at hg
    subst hg
    exact ⟨hbs, (Array.getElem?_eq_some_iff.1 hg2).1, cur, hg2⟩
theorem typ_keep {t : TypeId} {k : Nat} (h : typ w k t) (hb : w'.heap[k]? = w.heap[k]?) : typ w' k t := by
  unfold typ
  rw [hb]
  exact h
theorem wr_keep {k : Nat} (h : Wr w k) (hb : w'.heap[k]? = w.heap[k]?) : Wr w' k := by
  rcases h with h | h | h
  · exact .inl (typ_keep h hb)
  · exact .inr (.inl (typ_keep h hb))
  · exact .inr (.inr (typ_keep h hb))
/-- Where a typed slice lies. -/
theorem AtO.sure {O O' : Nat → Prop} {t : TypeId} {p : Option Addr} {l : List Value} (h : AtO t O w p l) (hO : ∀ k, k < w.heap.size → typ w k t → O k → O' k) : AtO t O' w p l := by
  rcases h with h | ⟨b, off, hp, h1, hlt, ht, hc⟩
  · exact .inl h
  · exact .inr ⟨b, off, hp, hO b hlt ht h1, hlt, ht, hc⟩
theorem PasM.sure {O O' : Nat → Prop} {M : List PV} (h : PasM O w v M) (hO : ∀ k, k < w.heap.size → Rd w k → O k → O' k) : PasM O' w v M := by
  obtain ⟨p, c, h1, h2, h3⟩ := h.row
  refine ⟨⟨p, c, h1, h2, h3.sure fun k h1 h2 => hO k h1 (.inl h2)⟩, fun x hx => ?_⟩
  obtain ⟨p, c, h1, h2, h3⟩ := h.ints x hx
  exact ⟨p, c, h1, h2, h3.sure fun k h1 h2 => hO k h1 (.inr h2)⟩
theorem QM.sure (h : QM F G w qb n X) (hF : ∀ k, k < w.heap.size → Wr w k → F k → F' k) (hG : ∀ k, k < w.heap.size → Rd w k → G k → G' k) : QM F' G' w qb n X := by
  obtain ⟨pv, h1, h2, h3⟩ := h.box
  refine ⟨⟨pv, h1, h2, fun g hg => ?_⟩, hF _ h1.lt (.inl (typ_blk h1)) h.own, fun x hx => ?_, fun x hx => (h.pas x hx).sure hG, h.apart⟩
  · obtain ⟨_, h4, cur, h5⟩ := row_lt h2 hg
    exact hF g h4 (.inr (.inl ⟨_, _, h5⟩)) (h3 g hg)
  · obtain ⟨b, off, cap, cs, h1, h2, h3, h4, h5, h6⟩ := (h.byt x hx).is
    exact ⟨b, off, cap, cs, h1, h2, hF b h4.lt (.inr (.inr (typ_blk h4))) h3, h4, h5, h6⟩
theorem QAt.keep (h : QAt F G w qb n ps) (hk : Keep (fun k => F k ∨ G k) w w') : QAt F G w' qb n ps := by
  obtain ⟨X, h1, h2, h3, h4, h5⟩ := h
  exact ⟨X, h1, h2.keep hk, h3, fun k hF => ⟨Nat.lt_of_lt_of_le (h4 k hF).1 hk.size, wr_keep (h4 k hF).2 (hk.block k (h4 k hF).1 (.inl hF))⟩, fun k hG => Nat.lt_of_lt_of_le (h5 k hG) hk.size⟩
theorem QAt.on (h : QAt F G w qb n ps) (hb : Below w.heap.size w w') : QAt F G w' qb n ps := h.keep (keep_on hb)
theorem QAt.ok (h : QAt F G w qb n ps) : Ok n ps := by obtain ⟨X, h1, h2, h3, _⟩ := h; exact h3
theorem QAt.lt (h : QAt F G w qb n ps) : ∀ k, F k → k < w.heap.size := by obtain ⟨X, h1, h2, h3, h4, _⟩ := h; exact fun k hk => (h4 k hk).1
theorem QAt.wr (h : QAt F G w qb n ps) : ∀ k, F k → Wr w k := by obtain ⟨X, h1, h2, h3, h4, _⟩ := h; exact fun k hk => (h4 k hk).2
theorem QAt.ltG (h : QAt F G w qb n ps) : ∀ k, G k → k < w.heap.size := by obtain ⟨X, h1, h2, h3, _, h4⟩ := h; exact h4
theorem QAt.own (h : QAt F G w qb n ps) : F qb := by obtain ⟨X, h1, h2, h3, _⟩ := h; exact h2.own
theorem Goes.on (h : Below w.heap.size w w') : Goes F G F G w w' := ⟨keep_on h, fun _ h => .inl h, fun _ h => .inl h⟩
theorem Goes.below {B : Nat} (h : Goes F G F' G' w w') (h0 : Below B w0 w) (hF : ∀ k, F k → B ≤ k) (hs : B ≤ w.heap.size) : Below B w0 w' := h.keep.below h0 (fun k hk h7 => by have := hF k h7; omega) hs
/-- What was its own, and all above. -/
def Up (F : Nat → Prop) (m k : Nat) : Prop := F k ∨ m ≤ k
/-- Of these the ones of their types. -/
def UpF (F : Nat → Prop) (w w' : World) (k : Nat) : Prop := Up F w.heap.size k ∧ k < w'.heap.size ∧ Wr w' k
def UpG (G : Nat → Prop) (w w' : World) (k : Nat) : Prop := Up G w.heap.size k ∧ k < w'.heap.size ∧ Rd w' k
theorem QAt.of_up (h : QM (Up F w.heap.size) (Up G w.heap.size) w' qb n X) (hok : Ok n (X.map PX.pt)) (hk : Keep (fun k => ¬ F k) w w') : QAt (UpF F w w') (UpG G w w') w' qb n (X.map PX.pt) ∧ Goes F G (UpF F w w') (UpG G w w') w w' :=
  ⟨⟨X, rfl, h.sure (fun _ h1 h2 h3 => ⟨h3, h1, h2⟩) (fun _ h1 h2 h3 => ⟨h3, h1, h2⟩), hok, fun _ h => h.2, fun _ h => h.2.1⟩, hk, fun _ h => h.1, fun _ h => h.1⟩
/-- What is not the queue's stays so. -/
theorem Goes.out (h : Goes F G F' G' w w') : ∀ k, k < w.heap.size → ¬ F k → ¬ F' k := fun k hk h1 h2 => by
  rcases h.sub k h2 with h3 | h3
  · exact h1 h3
  · omega
end

end Go.Proofs.Ytfhkdndgiofidaa.K
