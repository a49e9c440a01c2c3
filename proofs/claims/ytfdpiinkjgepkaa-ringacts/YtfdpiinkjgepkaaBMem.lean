/- A buffer in memory: what it is, and what its calls turn. -/
import Derived.Test.YtfdpiinkjgepkaaProg
import Derived.Test.YtfdpiinkjgepkaaGCopy
namespace Go.Proofs.Ytfdpiinkjgepkaa.B
open Go Go.RowKit

def byteV (c : UInt8) : Value := .int .u8 (c.toNat : Int)
abbrev bytesV (l : List UInt8) : List Value := l.map byteV
theorem bytesV_get {l : List UInt8} {j : Nat} (h : j < l.length) : (bytesV l)[j]? = some (.int .u8 ((l.getD j 0).toNat : Int)) := by simp [byteV, List.getD, h]
theorem one_bytes (l : List UInt8) : ∀ u ∈ bytesV l, u.oneCell' = true := fun u hu => by
  obtain ⟨c, _, rfl⟩ := List.mem_map.1 hu
  rfl
theorem elemByte : ElemOk Try.prog 26 5 (.int .u8 0) 1 := ⟨Try.underlying26, by kernel_rfl, rfl, by decide⟩

/-- All blocks but two are as they were; more may be laid. -/
structure Two (r p : Nat) (w w' : World) : Prop where
  os : w'.os = w.os
  tape : w'.tape = w.tape
  output : w'.output = w.output
  size : w.heap.size ≤ w'.heap.size
  block : ∀ k, k < w.heap.size → k ≠ r → k ≠ p → w'.heap[k]? = w.heap[k]?
section
variable {r p hi c B : Nat} {w w' w0 w1 w2 : World} {t e : TypeId} {cs l s : List Value} {q : Option Addr} {v : Value}
theorem Two.refl (r p : Nat) (w : World) : Two r p w w := ⟨rfl, rfl, rfl, Nat.le_refl _, fun _ _ _ _ => rfl⟩
theorem Two.trans (h : Two r p w w1) (k : Two r p w1 w2) : Two r p w w2 :=
  ⟨k.os.trans h.os, k.tape.trans h.tape, k.output.trans h.output, Nat.le_trans h.size k.size, fun j hj h1 h2 => (k.block j (Nat.lt_of_lt_of_le hj h.size) h1 h2).trans (h.block j hj h1 h2)⟩
theorem two_on (h : Below w.heap.size w w') : Two r p w w' := ⟨h.os, h.tape, h.output, h.size, fun k hk _ _ => h.block k hk⟩
theorem two_one (h : But r w w') : Two r p w w' := ⟨h.os, h.tape, h.output, Nat.le_of_eq h.size.symm, fun k _ h1 _ => h.block k h1⟩
theorem two_two (h : But p w w') : Two r p w w' := ⟨h.os, h.tape, h.output, Nat.le_of_eq h.size.symm, fun k _ _ h2 => h.block k h2⟩
theorem Two.below (h : Two r p w w') (h0 : Below B w0 w) (hr : B ≤ r) (hp : B ≤ p) (hs : B ≤ w.heap.size) : Below B w0 w' :=
  ⟨h.os.trans h0.os, h.tape.trans h0.tape, h.output.trans h0.output, Nat.le_trans h0.size h.size, fun k hk => (h.block k (by omega) (by omega) (by omega)).trans (h0.block k hk)⟩
theorem Two.at (h : Two r p w w') (a : AtF hi w q l) (hr : r < hi) (hp : p < hi) : AtF hi w' q l := by
  rcases a with a | ⟨g, off, hq, hl, hlt, hc⟩
  · exact .inl a
  · refine .inr ⟨g, off, hq, hl, Nat.lt_of_lt_of_le hlt h.size, fun j v hj => ?_⟩
    rw [← hc j v hj]
    simp only [World.cell?, h.block g hlt (by omega) (by omega)]
theorem Two.own (h : Two r p w w') (a : OwnV hi e w v s) (hr : r < hi) (hp : p < hi) : OwnV hi e w' v s := by
  refine ⟨a.1, ?_⟩
  rcases a.2 with h0 | ⟨g, cap, cur, rfl, hbs, hg, h3⟩
  · exact .inl h0
  · exact .inr ⟨g, cap, cur, rfl, hbs, (h.block g (Array.getElem?_eq_some_iff.1 hg).1 (by omega) (by omega)).trans hg, h3⟩
theorem Two.blk (h : Two r p w w') (a : Blk w c t cs) (hr : c ≠ r) (hp : c ≠ p) : Blk w' c t cs := ⟨(h.block c a.lt hr hp).trans a.row⟩
/-- A block as a row of one's own. -/
theorem own_blk (h : Blk w c t s) (hc : hi ≤ c) (hl : s.length ≤ 1000000) : OwnV hi t w (.slice (some ⟨c, 0, none⟩) s.length s.length) s :=
  ⟨by simp, .inr ⟨c, s.length, s.toArray, rfl, hc, h.row, Nat.le_refl _, by unfold maxLen; omega, by simp, by simp⟩⟩
end

/-- A buffer: its box, its places, the first one, how many. -/
structure RingM (w : World) (rb pb n f : Nat) (C B : List UInt8) : Prop where
  box : Blk w rb 40 [.slice (some ⟨pb, 0, none⟩) n n, .int .i64 f, .int .i64 (B.length : Nat)]
  row : Blk w pb 5 (bytesV C)
  len : C.length = n
  pos : f < n
  few : B.length ≤ n
  most : n ≤ 4096
  get : ∀ i, i < B.length → C.getD ((f + i) % n) 0 = B.getD i 0
/-- A buffer of n places with these bytes. -/
def RingAt (w : World) (rb pb n : Nat) (B : List UInt8) : Prop := ∃ f C, RingM w rb pb n f C B
section
variable {w w' : World} {rb pb n f : Nat} {C B : List UInt8}
theorem RingM.ne (h : RingM w rb pb n f C B) : rb ≠ pb := fun e => by
  have h1 := h.box.row
  rw [e, h.row.row] at h1
  simp at h1
theorem RingM.on (h : RingM w rb pb n f C B) (hb : Below w.heap.size w w') : RingM w' rb pb n f C B := ⟨h.box.on hb, h.row.on hb, h.len, h.pos, h.few, h.most, h.get⟩
theorem RingAt.on (h : RingAt w rb pb n B) (hb : Below w.heap.size w w') : RingAt w' rb pb n B := by obtain ⟨f, C, h⟩ := h; exact ⟨f, C, h.on hb⟩
theorem RingAt.drewN (h : RingAt w rb pb n B) (q : Nat) : RingAt (w.drewN q) rb pb n B := h.on (on_drewN (Below.refl _ _) q)
theorem RingAt.few (h : RingAt w rb pb n B) : B.length ≤ n := by obtain ⟨f, C, h⟩ := h; exact h.few
theorem RingAt.most (h : RingAt w rb pb n B) : n ≤ 4096 := by obtain ⟨f, C, h⟩ := h; exact h.most
theorem RingAt.lt (h : RingAt w rb pb n B) : rb < w.heap.size ∧ pb < w.heap.size := by obtain ⟨f, C, h⟩ := h; exact ⟨h.box.lt, h.row.lt⟩
theorem RingAt.ne (h : RingAt w rb pb n B) : rb ≠ pb := by obtain ⟨f, C, h⟩ := h; exact h.ne
theorem RingAt.but {b : Nat} (h : RingAt w rb pb n B) (hb : But b w w') (h1 : rb ≠ b) (h2 : pb ≠ b) : RingAt w' rb pb n B := by
  obtain ⟨f, C, h⟩ := h
  exact ⟨f, C, h.box.but hb h1, h.row.but hb h2, h.len, h.pos, h.few, h.most, h.get⟩
/-- One byte more. -/
theorem RingM.snoc (h : RingM w rb pb n f C B) (hb : B.length < n) (x : UInt8) : RingM ((w.setCell ⟨pb, (f + B.length) % n, none⟩ (byteV x)).setCell ⟨rb, 2, none⟩ (.int .i64 ((B.length + 1 : Nat) : Int))) rb pb n f (C.set ((f + B.length) % n) x) (B ++ [x]) := by
  have hne := h.ne
  have h0 := h.pos
  have hlt : (f + B.length) % n < n := Nat.mod_lt _ (by omega)
  refine ⟨?_, ?_, by simp [h.len], h.pos, by simp; omega, h.most, fun i hi => ?_⟩
  · have := (h.box.but (but_set w pb ((f + B.length) % n) (byteV x)) hne).set 2 (.int .i64 ((B.length + 1 : Nat) : Int))
    simpa using this
  · have := (h.row.set ((f + B.length) % n) (byteV x)).but (but_set _ rb 2 (.int .i64 ((B.length + 1 : Nat) : Int))) hne.symm
    simpa [bytesV, List.map_set] using this
  · simp at hi
    by_cases hi2 : i < B.length
    · have hm : (f + B.length) % n ≠ (f + i) % n := fun e => by
        have hq1 : f + B.length < 2 * n := by omega
        have hq2 : f + i < 2 * n := by omega
        have e1 : (f + B.length) % n = if f + B.length < n then f + B.length else f + B.length - n := by
          split
          · exact Nat.mod_eq_of_lt (by assumption)
          · rw [Nat.mod_eq_sub_mod (by omega), Nat.mod_eq_of_lt (by omega)]
        have e2 : (f + i) % n = if f + i < n then f + i else f + i - n := by
          split
          · exact Nat.mod_eq_of_lt (by assumption)
          · rw [Nat.mod_eq_sub_mod (by omega), Nat.mod_eq_of_lt (by omega)]
        rw [e1, e2] at e
        split at e <;> split at e <;> omega
      have h7 := h.get i hi2
      simp only [List.getD_eq_getElem?_getD] at h7 ⊢
      rw [List.getElem?_set_ne hm, List.getElem?_append_left hi2]
      exact h7
    · obtain rfl : i = B.length := by omega
      simp only [List.getD_eq_getElem?_getD]
      rw [List.getElem?_set_self (by rw [h.len]; exact hlt)]
      simp
/-- The first bytes gone. -/
theorem RingM.drop (h : RingM w rb pb n f C B) (k : Nat) (hk : k ≤ B.length) : RingM ((w.setCell ⟨rb, 1, none⟩ (.int .i64 (((f + k) % n : Nat) : Int))).setCell ⟨rb, 2, none⟩ (.int .i64 ((B.length - k : Nat) : Int))) rb pb n ((f + k) % n) C (B.drop k) := by
  have h0 := h.pos
  refine ⟨?_, (h.row.but (but_set _ rb 1 _) h.ne.symm).but (but_set _ rb 2 _) h.ne.symm, h.len, Nat.mod_lt _ (by omega), by have := h.few; simp; omega, h.most, fun i hi => ?_⟩
  · have := (h.box.set 1 (.int .i64 (((f + k) % n : Nat) : Int))).set 2 (.int .i64 ((B.length - k : Nat) : Int))
    simpa using this
  · simp at hi
    have h7 := h.get (k + i) (by omega)
    rw [Nat.mod_add_mod, Nat.add_assoc, h7]
    simp [List.getD_eq_getElem?_getD]
/-- Nothing left. -/
theorem RingM.clear (h : RingM w rb pb n f C B) : RingM (w.setCell ⟨rb, 2, none⟩ (.int .i64 0)) rb pb n f C [] := by
  refine ⟨?_, h.row.but (but_set _ rb 2 _) h.ne.symm, h.len, h.pos, Nat.zero_le _, h.most, fun i hi => by simp at hi⟩
  have := h.box.set 2 (.int .i64 0)
  simpa using this
end

end Go.Proofs.Ytfdpiinkjgepkaa.B
