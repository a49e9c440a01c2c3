/- The reference's Write: a file of one's own in a box, and what it grows to. -/
import Derived.Test.YtigkelcmiknfjaaSRefWrite
namespace Go.Proofs.Ytigkelcmiknfjaa
open Go Go.RowKit

/-- How long the slice in a cell is. -/
def lenAt (b k : Nat) (w : World) : Nat := match w.cell? ⟨b, k, none⟩ with | some (.slice _ n _) => n | _ => 0
theorem lenAt_of {b k : Nat} {w : World} {p : Option Addr} {n c : Nat} (h : w.cell? ⟨b, k, none⟩ = some (.slice p n c)) : lenAt b k w = n := by simp [lenAt, h]

/-- Two boxes, and a third with a file of one's own. -/
structure WrI (w : World) (f0 f1 : Value) (b : Nat) (v1 v2 : Value) (B : List UInt8) (H : List Bool) (wr : World) : Prop where
  two : Two w w.heap.size f0 f1 wr
  box : Blk wr b 28 [v1, v2]
  bs : OwnV w.heap.size 5 wr v1 (bytesV B)
  hs : OwnV w.heap.size 4 wr v2 (boolsV H)
theorem WrI.drew {w wr : World} {f0 f1 v1 v2 : Value} {b : Nat} {B : List UInt8} {H : List Bool} (h : WrI w f0 f1 b v1 v2 B H wr) : WrI w f0 f1 b v1 v2 B H wr.drew :=
  ⟨⟨h.two.fst.drew, h.two.snd.drew, on_drew h.two.below⟩, h.box.drew, h.bs, h.hs⟩

section
variable {w wr W' : World} {f0 f1 v1 v2 v' : Value} {b n : Nat} {B : List UInt8} {H : List Bool}
theorem WrI.set0 (h : WrI w f0 f1 b v1 v2 B H wr) (hb : w.heap.size + 2 ≤ b) (hG : RowGrow w.heap.size 5 wr W') {B' : List UInt8} (hO : OwnV w.heap.size 5 W' v' (bytesV B')) :
    W'.cell? ⟨b, 0, none⟩ = some v1 ∧ W'.frozen? ⟨b, 0, none⟩ = false ∧ WrI w f0 f1 b v' v2 B' H (W'.setCell ⟨b, 0, none⟩ v') := by
  have hbx := hG.blk h.box (by decide)
  have hbut := but_set W' b 0 v'
  have hl := h.two.below.size
  refine ⟨hbx.cell 0 rfl, hbx.free 0, ⟨(hG.blk h.two.fst (by decide)).but hbut (by omega), (hG.blk h.two.snd (by decide)).but hbut (by omega), below_but (hG.below h.two.below (Nat.le_refl _) hl) hbut (by omega)⟩, hbx.set 0 v', ownV_ty hO hbut hbx (by decide), ownV_ty (ownV_grow h.hs hG (by decide)) hbut hbx (by decide)⟩
theorem WrI.set1 (h : WrI w f0 f1 b v1 v2 B H wr) (hb : w.heap.size + 2 ≤ b) (hG : RowGrow w.heap.size 4 wr W') {H' : List Bool} (hO : OwnV w.heap.size 4 W' v' (boolsV H')) :
    W'.cell? ⟨b, 1, none⟩ = some v2 ∧ W'.frozen? ⟨b, 1, none⟩ = false ∧ WrI w f0 f1 b v1 v' B H' (W'.setCell ⟨b, 1, none⟩ v') := by
  have hbx := hG.blk h.box (by decide)
  have hbut := but_set W' b 1 v'
  have hl := h.two.below.size
  refine ⟨hbx.cell 1 rfl, hbx.free 1, ⟨(hG.blk h.two.fst (by decide)).but hbut (by omega), (hG.blk h.two.snd (by decide)).but hbut (by omega), below_but (hG.below h.two.below (Nat.le_refl _) hl) hbut (by omega)⟩, hbx.set 1 v', ownV_ty (ownV_grow h.bs hG (by decide)) hbut hbx (by decide), ownV_ty hO hbut hbx (by decide)⟩
/-- One byte more. -/
theorem WrI.byte (h : WrI w f0 f1 b v1 v2 B H wr) (hb : w.heap.size + 2 ≤ b) (hn : B.length = n) (hl : n ≤ 1000000) (x : UInt8) :
    ∃ p' c' W', (Builtin.append_ #[25, 25] 25 #[v1, .slice (some ⟨wr.heap.size, 0, none⟩) 1 1]).run Try.prog (wr.alloc (.cells #[.int .u8 (x.toNat : Int)] 5)) = .ok (.slice p' (n + 1) c') W' ∧
      W'.cell? ⟨b, 0, none⟩ = some v1 ∧ W'.frozen? ⟨b, 0, none⟩ = false ∧ Hid (WrI w f0 f1 b (.slice p' (n + 1) c') v2 (B ++ [x]) H (W'.setCell ⟨b, 0, none⟩ (.slice p' (n + 1) c'))) := by
  obtain ⟨v', W', hrun, hO, hG⟩ := append_one_grow elemByte w.heap.size v1 (bytesV B) (.int .u8 (x.toNat : Int)) wr (by simp; omega) rfl h.bs h.two.below.size
  have hO' : OwnV w.heap.size 5 W' v' (bytesV (B ++ [x])) := by simpa [byteV] using hO
  obtain ⟨p', c', e, _⟩ := ownV_at hO'
  rw [show (bytesV (B ++ [x])).length = n + 1 by simp [hn]] at e
  subst e
  have := h.set0 hb hG hO'
  exact ⟨p', c', W', hrun, this.1, this.2.1, this.2.2⟩
/-- One block more. -/
theorem WrI.flag (h : WrI w f0 f1 b v1 v2 B H wr) (hb : w.heap.size + 2 ≤ b) (hn : H.length = n) (hl : n ≤ 1000000) (x : Bool) :
    ∃ p' c' W', (Builtin.append_ #[26, 26] 26 #[v2, .slice (some ⟨wr.heap.size, 0, none⟩) 1 1]).run Try.prog (wr.alloc (.cells #[.bool x] 4)) = .ok (.slice p' (n + 1) c') W' ∧
      W'.cell? ⟨b, 1, none⟩ = some v2 ∧ W'.frozen? ⟨b, 1, none⟩ = false ∧ Hid (WrI w f0 f1 b v1 (.slice p' (n + 1) c') B (H ++ [x]) (W'.setCell ⟨b, 1, none⟩ (.slice p' (n + 1) c'))) := by
  obtain ⟨v', W', hrun, hO, hG⟩ := append_one_grow elemBool w.heap.size v2 (boolsV H) (.bool x) wr (by simp; omega) rfl h.hs h.two.below.size
  have hO' : OwnV w.heap.size 4 W' v' (boolsV (H ++ [x])) := by simpa using hO
  obtain ⟨p', c', e, _⟩ := ownV_at hO'
  rw [show (boolsV (H ++ [x])).length = n + 1 by simp [hn]] at e
  subst e
  have := h.set1 hb hG hO'
  exact ⟨p', c', W', hrun, this.1, this.2.1, this.2.2⟩
theorem WrI.sliceB (h : WrI w f0 f1 b v1 v2 B H wr) : ∃ p c, v1 = .slice p B.length c := by
  obtain ⟨p, c, e, _⟩ := ownV_at h.bs
  exact ⟨p, c, by simpa using e⟩
theorem WrI.sliceH (h : WrI w f0 f1 b v1 v2 B H wr) : ∃ p c, v2 = .slice p H.length c := by
  obtain ⟨p, c, e, _⟩ := ownV_at h.hs
  exact ⟨p, c, by simpa using e⟩
end

theorem WrI.lenB {w wr : World} {f0 f1 v2 : Value} {b n cc : Nat} {pp : Option Addr} {B : List UInt8} {H : List Bool} (h : WrI w f0 f1 b (.slice pp n cc) v2 B H wr) : B.length = n := by
  obtain ⟨p, c, e⟩ := h.sliceB
  cases e; rfl
theorem WrI.lenH {w wr : World} {f0 f1 v1 : Value} {b n cc : Nat} {pp : Option Addr} {B : List UInt8} {H : List Bool} (h : WrI w f0 f1 b v1 (.slice pp n cc) B H wr) : H.length = n := by
  obtain ⟨p, c, e⟩ := h.sliceH
  cases e; rfl

/-- Bytes laid one by one. -/
def setsB (P : List UInt8) (o : Nat) (D : List UInt8) : Nat → List UInt8
  | 0 => P
  | i + 1 => (setsB P o D i).set (o + i) (D.getD i 0)
def setsH (Q : List Bool) (o : Nat) : Nat → List Bool
  | 0 => Q
  | i + 1 => (setsH Q o i).set ((o + i) / 64) true
theorem setsB_len (P : List UInt8) (o : Nat) (D : List UInt8) : ∀ i, (setsB P o D i).length = P.length
  | 0 => rfl
  | i + 1 => by rw [setsB, List.length_set, setsB_len P o D i]
theorem setsH_len (Q : List Bool) (o : Nat) : ∀ i, (setsH Q o i).length = Q.length
  | 0 => rfl
  | i + 1 => by rw [setsH, List.length_set, setsH_len Q o i]
def padB (B : List UInt8) (n : Nat) : List UInt8 := B ++ List.replicate (n - B.length) 0
def padH (H : List Bool) (n : Nat) : List Bool := H ++ List.replicate (n - H.length) false
theorem padB_len (B : List UInt8) (n : Nat) : (padB B n).length = max B.length n := by simp [padB]; omega
theorem padH_len (H : List Bool) (n : Nat) : (padH H n).length = max H.length n := by simp [padH]; omega
theorem padB_le {B : List UInt8} {n : Nat} (h : n ≤ B.length) : padB B n = B := by simp [padB, show n - B.length = 0 by omega]
theorem padH_le {H : List Bool} {n : Nat} (h : n ≤ H.length) : padH H n = H := by simp [padH, show n - H.length = 0 by omega]
theorem padB_succ {B : List UInt8} {n : Nat} (h : B.length ≤ n) : padB B (n + 1) = padB B n ++ [0] := by
  rw [padB, padB, show n + 1 - B.length = (n - B.length) + 1 by omega, List.replicate_succ', List.append_assoc]
theorem padH_succ {H : List Bool} {n : Nat} (h : H.length ≤ n) : padH H (n + 1) = padH H n ++ [false] := by
  rw [padH, padH, show n + 1 - H.length = (n - H.length) + 1 by omega, List.replicate_succ', List.append_assoc]
/-- What a write makes of a file. -/
def wrB (B : List UInt8) (o : Nat) (D : List UInt8) : List UInt8 := setsB (padB B (o + D.length)) o D D.length
def wrH (H : List Bool) (o n : Nat) : List Bool := setsH (padH H ((o + n + 63) / 64)) o n

end Go.Proofs.Ytigkelcmiknfjaa
