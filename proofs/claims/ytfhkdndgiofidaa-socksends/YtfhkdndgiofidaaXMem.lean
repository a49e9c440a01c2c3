/- A store of sockets in memory: its box, its map, each socket's box, its queue and the list of those that wait at it; which blocks are its own, and what its calls turn. -/
import Derived.Test.YtfhkdndgiofidaaKDump
import Derived.Test.YtfhkdndgiofidaaSMap
namespace Go.Proofs.Ytfhkdndgiofidaa.X
open Go Go.RowKit Go.Maps Go.Proofs.Ytfhkdndgiofidaa.K

theorem lawInt : Keyed Try.prog 3 := int_keyed Try.underlying3
theorem ky_wf {k : Nat} (h : k ≤ 9000000000) : (ky k).wf = true := WalkArith.wf_i64 (by omega)
abbrev ptr (b : Nat) : Value := .pointer (some ⟨b, 0, none⟩)
theorem zeroSk (w : World) : (zeroValue 76).run Try.prog w = .ok (.pointer none) w := by kernel_rfl

/-- A socket. -/
structure Sk where
  st : Nat
  peer : Nat
  bound : Int
  most : Nat
  door : Nat
  waits : List Nat
  sr : Bool
  sw : Bool
  ps : List Pt
/-- Sockets by their numbers. -/
abbrev Tb := Nat → Option Sk
def hasT (T : Tb) (k : Nat) : Bool := (T k).isSome
def setT (T : Tb) (k : Nat) (x : Option Sk) : Tb := fun j => if j = k then x else T j
section
variable {T : Tb} {j k : Nat} {x y : Sk} {o : Option Sk}
theorem setT_same (T : Tb) (k : Nat) (o : Option Sk) : setT T k o k = o := by simp [setT]
theorem setT_other (T : Tb) (o : Option Sk) (h : j ≠ k) : setT T k o j = T j := by simp [setT, h]
theorem hasT_of (h : T k = some x) : hasT T k = true := by simp [hasT, h]
theorem hasT_ex (h : hasT T k = true) : ∃ x, T k = some x := Option.isSome_iff_exists.1 h
theorem hasT_set (h : hasT T k = true) : hasT (setT T k (some y)) = hasT T := by
  funext i
  by_cases e : i = k
  · subst e; rw [h]; simp [hasT, setT]
  · simp [hasT, setT, e]
theorem hasT_put : hasT (setT T k (some y)) = upd (hasT T) k true := by
  funext i
  by_cases e : i = k
  · subst e; simp [hasT, setT, upd]
  · simp [hasT, setT, upd, e]
theorem hasT_del : hasT (setT T k none) = upd (hasT T) k false := by
  funext i
  by_cases e : i = k
  · subst e; simp [hasT, setT, upd]
  · simp [hasT, setT, upd, e]
theorem hasT_no (h : T k = none) : hasT T k = false := by simp [hasT, h]
end

abbrev natsV (l : List Nat) : List Value := l.map fun (k : Nat) => Value.int .i64 (k : Int)
def skC (x : Sk) (qb : Nat) (wv : Value) : List Value := [ptr qb, .int .i64 x.st, .int .i64 x.peer, .int .i64 x.bound, .int .i64 x.most, .int .i64 x.door, wv, .bool x.sr, .bool x.sw]
/-- A socket in memory. -/
structure SkM (F G : Nat → Prop) (w : World) (g n : Nat) (x : Sk) (qb : Nat) (wv : Value) : Prop where
  box : Blk w g 79 (skC x qb wv)
  q : QAt F G w qb n x.ps
  row : w.ownsRow 0 3 1 wv x.waits.length (natsV x.waits)
  rd : ∀ b, G b → Rd w b
  gw : ∀ b, G b → wv.ownBlock ≠ some b
section
variable {F G : Nat → Prop} {w w' : World} {g n qb b : Nat} {x x' : Sk} {wv : Value}
theorem rd_keep (h : Rd w b) (hb : w'.heap[b]? = w.heap[b]?) : Rd w' b := h.imp (fun h => typ_keep h hb) (fun h => typ_keep h hb)
theorem SkM.keep (h : SkM F G w g n x qb wv) (hk : Keep (fun b => b = g ∨ F b ∨ G b ∨ wv.ownBlock = some b) w w') : SkM F G w' g n x qb wv :=
  ⟨hk.blk h.box (.inl rfl), h.q.keep (hk.mono fun _b _ h => h.elim (fun h => .inr (.inl h)) (fun h => .inr (.inr (.inl h)))), rowS_keep h.row hk fun _b e => .inr (.inr (.inr e)),
   fun b hb => rd_keep (h.rd b hb) (hk.block b (h.q.ltG b hb) (.inr (.inr (.inl hb)))), h.gw⟩
theorem SkM.vt (h : SkM F G w g n x qb wv) (e : wv.ownBlock = some b) : typ w b 3 := by
  obtain ⟨_, _, cur, h1⟩ := row_lt h.row e
  exact ⟨_, _, h1⟩
theorem SkM.vlt (h : SkM F G w g n x qb wv) (e : wv.ownBlock = some b) : b < w.heap.size := (row_lt h.row e).2.1
theorem wr_int (h : Wr w b) (h' : typ w b 3) : False := wr_rd h (.inr h')
theorem wr_sk (h : Wr w b) (h' : typ w b 79) : False := by
  rcases h with h | h | h <;> exact typ_ne h h' (by decide) rfl
theorem rd_sk (h : Rd w b) (h' : typ w b 79) : False := by
  rcases h with h | h <;> exact typ_ne h h' (by decide) rfl
theorem int_sk (h : typ w b 3) (h' : typ w b 79) : False := typ_ne h h' (by decide) rfl
theorem wr_st (h : Wr w b) (h' : typ w b 65) : False := by
  rcases h with h | h | h <;> exact typ_ne h h' (by decide) rfl
theorem rd_st (h : Rd w b) (h' : typ w b 65) : False := by
  rcases h with h | h <;> exact typ_ne h h' (by decide) rfl
theorem int_st (h : typ w b 3) (h' : typ w b 65) : False := typ_ne h h' (by decide) rfl
theorem sk_st (h : typ w b 79) (h' : typ w b 65) : False := typ_ne h h' (by decide) rfl
/-- Its box is turned, its queue and its list stay. -/
theorem SkM.boxed (h : SkM F G w g n x qb wv) (hb : But g w w') (hB : Blk w' g 79 (skC x' qb wv)) (e1 : x'.ps = x.ps) (e2 : x'.waits = x.waits) : SkM F G w' g n x' qb wv := by
  have ht := typ_blk h.box
  have hk : Keep (fun b => F b ∨ G b ∨ wv.ownBlock = some b) w w' := keep_but hb fun h7 => by
    rcases h7 with h7 | h7 | h7
    · exact wr_sk (h.q.wr g h7) ht
    · exact rd_sk (h.rd g h7) ht
    · exact int_sk (h.vt h7) ht
  refine ⟨hB, ?_, ?_, fun b h7 => rd_keep (h.rd b h7) (hk.block b (h.q.ltG b h7) (.inr (.inl h7))), h.gw⟩
  · rw [e1]; exact h.q.keep (hk.mono fun b _ h => h.elim .inl fun h => .inr (.inl h))
  · rw [e2]; exact rowS_keep h.row hk fun b e => .inr (.inr e)
end

/-- Where a store's sockets lie. -/
structure Lay where
  D : DataW Nat
  Q : Nat → Nat
  V : Nat → Value
  F : Nat → Nat → Prop
  G : Nat → Nat → Prop
def Lay.put (y : Lay) (k : Nat) (D : DataW Nat) (q : Nat) (v : Value) (F G : Nat → Prop) : Lay :=
  ⟨D, fun j => if j = k then q else y.Q j, fun j => if j = k then v else y.V j, fun j => if j = k then F else y.F j, fun j => if j = k then G else y.G j⟩
/-- A store. -/
structure StM (w : World) (sb mb n next : Nat) (y : Lay) (T : Tb) : Prop where
  box : Blk w sb 65 [.map (some mb), .int .i64 (n : Int), .int .i64 (next : Int)]
  map : w.ownsMap Try.prog 3 ptrElem mb (Maps.size y.D) y.D
  is : MapIs y.D (hasT T)
  sk : ∀ k x, T k = some x → SkM (y.F k) (y.G k) w (gOf y.D k) n x (y.Q k) (y.V k)
  fa : ∀ i j, hasT T i = true → hasT T j = true → i ≠ j → ∀ b, y.F i b → ¬ y.F j b
  wa : ∀ i j, hasT T i = true → hasT T j = true → i ≠ j → ∀ b, (y.V i).ownBlock = some b → (y.V j).ownBlock ≠ some b
  ga : ∀ i j, hasT T i = true → hasT T j = true → i ≠ j → ∀ b, y.G i b → (y.V j).ownBlock ≠ some b
/-- What of memory is a socket's; a store's. -/
def own (y : Lay) (k b : Nat) : Prop := b = gOf y.D k ∨ y.F k b ∨ y.G k b ∨ (y.V k).ownBlock = some b
def foot (sb mb : Nat) (y : Lay) (T : Tb) (b : Nat) : Prop := b = sb ∨ b = mb ∨ ∃ k, hasT T k = true ∧ own y k b
def StAt (P : Nat → Prop) (w : World) (sb n next : Nat) (T : Tb) : Prop := ∃ mb y, StM w sb mb n next y T ∧ P = foot sb mb y T
/-- What a store's call turns. -/
structure Moves (P P' : Nat → Prop) (w w' : World) : Prop where
  keep : Keep (fun k => ¬ P k) w w'
  sub : ∀ k, P' k → P k ∨ w.heap.size ≤ k
section
variable {P P' P1 P2 : Nat → Prop} {w w' w0 w1 w2 : World} {sb mb n next : Nat} {y : Lay} {T : Tb}
theorem Moves.on (h : Below w.heap.size w w') : Moves P P w w' := ⟨keep_on h, fun _ h => .inl h⟩
theorem Moves.refl (P : Nat → Prop) (w : World) : Moves P P w w := .on (Below.refl _ _)
theorem Moves.trans (h : Moves P P1 w w1) (k : Moves P1 P2 w1 w2) : Moves P P2 w w2 := by
  refine ⟨⟨k.keep.os.trans h.keep.os, k.keep.tape.trans h.keep.tape, k.keep.output.trans h.keep.output, Nat.le_trans h.keep.size k.keep.size, fun j hj hn => ?_⟩, fun x hx => ?_⟩
  · refine (k.keep.block j (Nat.lt_of_lt_of_le hj h.keep.size) fun e => ?_).trans (h.keep.block j hj hn)
    rcases h.sub j e with h1 | h1
    · exact hn h1
    · omega
  · rcases k.sub x hx with h1 | h1
    · exact h.sub x h1
    · exact .inr (Nat.le_trans h.keep.size h1)
theorem Moves.below {B : Nat} (h : Moves P P' w w') (h0 : Below B w0 w) (hP : ∀ k, P k → B ≤ k) (hs : B ≤ w.heap.size) : Below B w0 w' ∧ ∀ k, P' k → B ≤ k :=
  ⟨h.keep.below h0 (fun k hk h7 => by have := hP k h7; omega) hs, fun k hk => by
    rcases h.sub k hk with h7 | h7
    · exact hP k h7
    · omega⟩
theorem StM.mbt (h : StM w sb mb n next y T) {b : Nat} {t : TypeId} (ht : typ w b t) : b ≠ mb := fun e => by
  subst e
  obtain ⟨es, clock, hb⟩ := owns_is h.map
  obtain ⟨c, f, h1⟩ := ht
  rw [hb] at h1
  cases h1
theorem StM.lt (h : StM w sb mb n next y T) {b : Nat} (hb : foot sb mb y T b) : b < w.heap.size := by
  rcases hb with rfl | rfl | ⟨k, hk, hb⟩
  · exact h.box.lt
  · exact h.map.lt
  · obtain ⟨x, hx⟩ := hasT_ex hk
    have hs := h.sk k x hx
    rcases hb with rfl | hb | hb | hb
    · exact hs.box.lt
    · exact hs.q.lt b hb
    · exact hs.q.ltG b hb
    · exact hs.vlt hb
theorem StM.keep (h : StM w sb mb n next y T) (hk : Keep (foot sb mb y T) w w') : StM w' sb mb n next y T :=
  ⟨hk.blk h.box (.inl rfl), owns_block h.map (hk.block mb h.map.lt (.inr (.inl rfl))), h.is, fun k x hx => (h.sk k x hx).keep (hk.mono fun _b _ hb => .inr (.inr ⟨k, hasT_of hx, hb⟩)), h.fa, h.wa, h.ga⟩
theorem StM.on (h : StM w sb mb n next y T) (hb : Below w.heap.size w w') : StM w' sb mb n next y T := h.keep (keep_on hb)
theorem StAt.keep (h : StAt P w sb n next T) (hk : Keep P w w') : StAt P w' sb n next T := by
  obtain ⟨mb, y, h1, rfl⟩ := h
  exact ⟨mb, y, h1.keep hk, rfl⟩
theorem StAt.on (h : StAt P w sb n next T) (hb : Below w.heap.size w w') : StAt P w' sb n next T := h.keep (keep_on hb)
theorem StAt.lt (h : StAt P w sb n next T) {b : Nat} (hb : P b) : b < w.heap.size := by
  obtain ⟨mb, y, h1, rfl⟩ := h
  exact h1.lt hb
/-- A socket's own blocks are no other's. -/
theorem StM.other (h : StM w sb mb n next y T) {i j : Nat} (hi : hasT T i = true) (hj : hasT T j = true) (hne : i ≠ j) {b : Nat} (hb : own y i b) : ¬ (b = gOf y.D j ∨ y.F j b ∨ (y.V j).ownBlock = some b) := by
  obtain ⟨xi, hxi⟩ := hasT_ex hi
  obtain ⟨xj, hxj⟩ := hasT_ex hj
  have si := h.sk i xi hxi
  have sj := h.sk j xj hxj
  have ti := typ_blk si.box
  have tj := typ_blk sj.box
  rintro h7
  rcases hb with rfl | hb | hb | hb
  · rcases h7 with h7 | h7 | h7
    · exact hne (h.is.inj i j hi hj h7)
    · exact wr_sk (sj.q.wr _ h7) ti
    · exact int_sk (sj.vt h7) ti
  · rcases h7 with rfl | h7 | h7
    · exact wr_sk (si.q.wr _ hb) tj
    · exact h.fa i j hi hj hne b hb h7
    · exact wr_int (si.q.wr _ hb) (sj.vt h7)
  · rcases h7 with rfl | h7 | h7
    · exact rd_sk (si.rd _ hb) tj
    · exact wr_rd (sj.q.wr _ h7) (si.rd _ hb)
    · exact h.ga i j hi hj hne b hb h7
  · rcases h7 with rfl | h7 | h7
    · exact int_sk (si.vt hb) tj
    · exact wr_int (sj.q.wr _ h7) (si.vt hb)
    · exact h.wa i j hi hj hne b hb h7
/-- The store's own two blocks are no socket's. -/
theorem StM.apart (h : StM w sb mb n next y T) {j : Nat} (hj : hasT T j = true) {b : Nat} (hb : own y j b) : b ≠ sb ∧ b ≠ mb := by
  obtain ⟨xj, hxj⟩ := hasT_ex hj
  have sj := h.sk j xj hxj
  have ts := typ_blk h.box
  rcases hb with rfl | hb | hb | hb
  · exact ⟨fun e => sk_st (typ_blk sj.box) (by rw [e]; exact ts), h.mbt (typ_blk sj.box)⟩
  · refine ⟨fun e => wr_st (sj.q.wr b hb) (by rw [e]; exact ts), ?_⟩
    rcases sj.q.wr b hb with h7 | h7 | h7 <;> exact h.mbt h7
  · refine ⟨fun e => rd_st (sj.rd b hb) (by rw [e]; exact ts), ?_⟩
    rcases sj.rd b hb with h7 | h7 <;> exact h.mbt h7
  · exact ⟨fun e => int_st (sj.vt hb) (by rw [e]; exact ts), h.mbt (sj.vt hb)⟩
end

end Go.Proofs.Ytfhkdndgiofidaa.X
