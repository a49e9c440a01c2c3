/- What the laws' regions need: steps, what is kept. -/
import Derived.Test.YtfdpiinkjgepkaaBLives
import Derived.Test.YtfdpiinkjgepkaaBNews
namespace Go.Proofs.Ytfdpiinkjgepkaa.B
open Go Go.RowKit

theorem en_take : ∀ args w, (callFunc 9 args).run Try.prog w = .ok (.enter 9 args) w := fun _ _ => by simp [callFunc, Try.func9]; rfl
theorem en_peek : ∀ args w, (callFunc 10 args).run Try.prog w = .ok (.enter 10 args) w := fun _ _ => by simp [callFunc, Try.func10]; rfl
theorem en_lives : ∀ args w, (callFunc 16 args).run Try.prog w = .ok (.enter 16 args) w := fun _ _ => by simp [callFunc, Try.func16]; rfl
section
variable {o : Oper} {ρ : Operand → Value} {w : World} {post : Value → World → Prop}
theorem leaves_text (x : Operand) {p : Option Addr} {c : Nat} {l : List UInt8} (ho : o.op = .convert 26 9 x) (hx : ρ x = .slice p l.length c) (hat : At w p (bytesV l)) (h : post (.string ⟨l.toArray⟩) w) : leaves Try.prog o ρ w post := by
  refine leaves_value (v := .string ⟨l.toArray⟩) (w' := w) ?_ h
  have ht := text_of (c := c) hat
  obtain ⟨dst, op, ty, pos, after, guard⟩ := o
  simp only at ho
  subst ho
  simp [execOp, hx, ht, Result.andThen]
theorem leaves_textO (x : Operand) {l : List UInt8} (ho : o.op = .convert 26 9 x) (hx : OwnV 0 5 w (ρ x) (bytesV l)) (h : post (.string ⟨l.toArray⟩) w) : leaves Try.prog o ρ w post := by
  obtain ⟨p, c, e, hat, _⟩ := ownV_at hx
  exact leaves_text (c := c) x ho (by rw [e]; simp) hat h
theorem leaves_eqlS (x y : Operand) {a : ByteArray} (ho : o.op = .binOp .eql 9 x y 9) (hx : ρ x = .string a) (hy : ρ y = .string a) (h : post (.bool true) w) : leaves Try.prog o ρ w post := by
  refine leaves_value (v := .bool true) (w' := w) ?_ h
  obtain ⟨dst, op, ty, pos, after, guard⟩ := o
  simp only at ho
  subst ho
  simp [go_sem, hx, hy]
theorem leaves_neqS (x y : Operand) {a : ByteArray} (ho : o.op = .binOp .neq 9 x y 9) (hx : ρ x = .string a) (hy : ρ y = .string a) (h : post (.bool false) w) : leaves Try.prog o ρ w post := by
  refine leaves_value (v := .bool false) (w' := w) ?_ h
  obtain ⟨dst, op, ty, pos, after, guard⟩ := o
  simp only at ho
  subst ho
  simp [go_sem, hx, hy]
end

/-- A buffer, ahead of one call and behind it, and what is kept beside it. -/
structure RS (w : World) (rb pb n : Nat) (B B' : List UInt8) (A : World → Prop) (f : Bool) (W : World) : Prop where
  one : f = true → RingAt W rb pb n B
  two : f = false → RingAt W rb pb n B'
  below : Below w.heap.size w W
  size : w.heap.size ≤ W.heap.size
  also : A W
/-- What growth and a buffer's calls keep. -/
structure Kept (rb pb : Nat) (A : World → Prop) : Prop where
  on : ∀ W W', A W → Below W.heap.size W W' → A W'
  two : ∀ W W', A W → Two rb pb W W' → A W'
section
variable {w W W' : World} {rb pb n : Nat} {B B' : List UInt8} {A : World → Prop} {f : Bool}
theorem RS.on (h : RS w rb pb n B B' A f W) (k : Kept rb pb A) (hb : Below W.heap.size W W') : RS w rb pb n B B' A f W' :=
  ⟨fun e => (h.one e).on hb, fun e => (h.two e).on hb, h.below.trans (hb.mono h.size), Nat.le_trans h.size hb.size, k.on _ _ h.also hb⟩
theorem RS.did (h : RS w rb pb n B B' A true W) (k : Kept rb pb A) (ht : Two rb pb W W') (hr : RingAt W' rb pb n B') (h1 : w.heap.size ≤ rb ∧ w.heap.size ≤ pb) : RS w rb pb n B B' A false W' :=
  ⟨(fun e => by cases e), fun _ => hr, ht.below h.below h1.1 h1.2 h.size, Nat.le_trans h.size ht.size, k.two _ _ h.also ht⟩
theorem Kept.and {A' : World → Prop} (h : Kept rb pb A) (h' : Kept rb pb A') : Kept rb pb fun W => A W ∧ A' W :=
  ⟨fun _ _ a b => ⟨h.on _ _ a.1 b, h'.on _ _ a.2 b⟩, fun _ _ a b => ⟨h.two _ _ a.1 b, h'.two _ _ a.2 b⟩⟩
theorem kept_true : Kept rb pb fun _ => True := ⟨fun _ _ _ _ => trivial, fun _ _ _ _ => trivial⟩
theorem kept_at {hi : Nat} {p : Option Addr} {l : List Value} (hr : rb < hi) (hp : pb < hi) : Kept rb pb fun W => AtF hi W p l := ⟨fun _ _ a b => a.on b, fun _ _ a b => b.at a hr hp⟩
theorem kept_sl {hi : Nat} {v : Value} {L : List UInt8} (hr : rb < hi) (hp : pb < hi) : Kept rb pb fun W => SlAt hi W v L := ⟨fun _ _ a b => a.on b, fun _ _ a b => a.two b hr hp⟩
theorem kept_own {hi : Nat} {v : Value} {e : TypeId} {L : List Value} (hr : rb < hi) (hp : pb < hi) : Kept rb pb fun W => OwnV hi e W v L := ⟨fun _ _ a b => ownV_on a b, fun _ _ a b => b.own a hr hp⟩
theorem kept_blk {c : Nat} {t : TypeId} {cs : List Value} (hr : c ≠ rb) (hp : c ≠ pb) : Kept rb pb fun W => Blk W c t cs := ⟨fun _ _ a b => a.on b, fun _ _ a b => b.blk a hr hp⟩
end

end Go.Proofs.Ytfdpiinkjgepkaa.B
