/- The laws over both: what holds of both while acts are done; the region of one act. -/
import Derived.Test.YtigkelcmiknfjaaSAlike
import Derived.Test.YtigkelcmiknfjaaBlocksWalk
import Derived.Test.YtigkelcmiknfjaaSRefRead
import Derived.Test.YtigkelcmiknfjaaReg5
namespace Go.Proofs.Ytigkelcmiknfjaa
open Go Go.RowKit Go.Maps

theorem en_does : ∀ args w, (callFunc 9 args).run Try.prog w = .ok (.enter 9 args) w := fun _ _ => by simp [callFunc, Try.func9]; rfl
theorem en_read : ∀ args w, (callFunc 11 args).run Try.prog w = .ok (.enter 11 args) w := fun _ _ => by simp [callFunc, Try.func11]; rfl
theorem en_rread : ∀ args w, (callFunc 13 args).run Try.prog w = .ok (.enter 13 args) w := fun _ _ => by simp [callFunc, Try.func13]; rfl
theorem en_sneed : ∀ args w, (callFunc 14 args).run Try.prog w = .ok (.enter 14 args) w := fun _ _ => by simp [callFunc, Try.func14]; rfl
theorem en_lives : ∀ args w, (callFunc 12 args).run Try.prog w = .ok (.enter 12 args) w := fun _ _ => by simp [callFunc, Try.func12]; rfl
theorem infoAct : (Try.prog.info? 33).map (·.size) = some 4 := by kernel_rfl

section
variable {o : Oper} {ρ : Operand → Value} {w : World} {post : Value → World → Prop}
theorem leaves_actLoad {b k : Nat} {cs : List Value} (hl : cs.length = 4) (x : Operand) (ho : o.op = .load 33 x) (hx : ρ x = .pointer (some ⟨b, k, none⟩)) (hc : ∀ i, i < 4 → ∀ v, cs[i]? = some v → w.cell? ⟨b, k + i, none⟩ = some v) (h : post (.agg cs.toArray) w) : leaves Try.prog o ρ w post := by
  refine leaves_value (v := .agg cs.toArray) (w' := w) ?_ h
  have hl2 : (loadCells ⟨b, k, none⟩ 4).run Try.prog w = .ok cs.toArray w := by
    rw [← hl]
    exact run_loadCells_list (P := Try.prog) w ⟨b, k, none⟩ cs (fun j v hv => by
      have hj : j < 4 := by have := (List.getElem?_eq_some_iff.1 hv).1; omega
      have e : (⟨b, k, none⟩ : Addr).add j = ⟨b, k + j, none⟩ := by unfold Addr.add; split <;> simp_all
      rw [e]; exact hc j hj v hv)
  have hi := infoAct
  cases hq : Try.prog.info? 33 with
  | none => simp [hq] at hi
  | some i =>
    have hs : i.size = 4 := by simpa [hq] using hi
    unfold execOp
    simp only [ho, hx, Instr.loadAt, Instr.sureAddr, Sem.run_bind, Sem.run_pure, Result.andThen_ok]
    simp [loadVar, Sem.run_bind, Try.isAgg33, sizeOf, typeInfo, hq, hs, hl2]
theorem leaves_newRef (ho : o.op = .alloc 28) (h : post (.pointer (some ⟨w.heap.size, 0, none⟩)) (w.alloc (.cells #[.slice none 0 0, .slice none 0 0] 28))) : leaves Try.prog o ρ w post := by
  refine leaves_value (v := .pointer (some ⟨w.heap.size, 0, none⟩)) (w' := w.alloc (.cells #[.slice none 0 0, .slice none 0 0] 28)) ?_ h
  obtain ⟨dst, op, ty, pos, after, guard⟩ := o
  simp only at ho
  subst ho
  simp [go_sem]
theorem leaves_text (x : Operand) {p : Option Addr} {c : Nat} {l : List UInt8} (ho : o.op = .convert 25 9 x) (hx : ρ x = .slice p l.length c) (hl : l.length ≤ 1000000) (hat : At w p (bytesV l)) (h : post (.string ⟨l.toArray⟩) w) : leaves Try.prog o ρ w post := by
  refine leaves_value (v := .string ⟨l.toArray⟩) (w' := w) ?_ h
  have ht := text_of (c := c) hl hat
  obtain ⟨dst, op, ty, pos, after, guard⟩ := o
  simp only at ho
  subst ho
  simp [execOp, hx, ht, Result.andThen]
theorem leaves_eqlS (x y : Operand) {a : ByteArray} (ho : o.op = .binOp .eql 9 x y 9) (hx : ρ x = .string a) (hy : ρ y = .string a) (h : post (.bool true) w) : leaves Try.prog o ρ w post := by
  refine leaves_value (v := .bool true) (w' := w) ?_ h
  obtain ⟨dst, op, ty, pos, after, guard⟩ := o
  simp only at ho
  subst ho
  simp [go_sem, hx, hy]
end

/-- What holds of both while acts are done. -/
structure LawG (w : World) (q : Option Addr) (L : List ActV) (gb : Nat) (s : St) (F : Nat → Prop) (g0 g1 : Value) (B : List UInt8) (H : List Bool) (wr : World) : Prop where
  law : LawI w q L s F wr
  gbox : Blk wr gb 28 [g0, g1]
  ref : RefAt F wr (.agg #[g0, g1]) B H
  rel : Rel s B H
theorem AtC.butOther {F : Nat → Prop} {w w' : World} {b off g : Nat} {l : List Value} (h : AtC F w (some ⟨b, off, none⟩) l) (hb : But g w w') (hne : b ≠ g) : AtC F w' (some ⟨b, off, none⟩) l := by
  rcases h with h | ⟨b', off', e, hn, hlt, hc⟩
  · exact .inl h
  · cases e
    refine .inr ⟨b, off, rfl, hn, by rw [hb.size]; exact hlt, fun j u hu => ?_⟩
    rw [← hc j u hu]
    simp only [World.cell?, hb.block b hne]
theorem LawI.but {w wr w' : World} {b off g : Nat} {L : List ActV} {s : St} {F : Nat → Prop} {cs : List Value} (h : LawI w (some ⟨b, off, none⟩) L s F wr) (hb : But g wr w') (hk : Blk wr g 28 cs) (hne : b ≠ g) (hlo : w.heap.size ≤ g) : LawI w (some ⟨b, off, none⟩) L s F w' :=
  ⟨⟨h.file.1.butBlk hb hk (by decide) (by decide), h.file.2⟩, h.lo, below_but h.below hb hlo, by rw [hb.size]; exact h.size, h.acts.butOther hb hne⟩

/-- What is known of the act's answer. -/
def AnsP (w : World) (b off : Nat) (L : List ActV) (gb : Nat) (hv : Value) (W : World) : Prop :=
  ∃ s' F' B' H', LawI w (some ⟨b, off, none⟩) L s' F' W ∧ (∃ p1 n1 c1 p2 n2 c2, Blk W gb 28 [.slice p1 n1 c1, .slice p2 n2 c2]) ∧ RefAt F' W hv B' H' ∧ Rel s' B' H'
section
variable {w W W' : World} {b off gb g : Nat} {L : List ActV} {hv : Value}
theorem AnsP.on (h : AnsP w b off L gb hv W) (hb : Below W.heap.size W W') : AnsP w b off L gb hv W' := by
  obtain ⟨s', F', B', H', h1, ⟨p1, n1, c1, p2, n2, c2, h2⟩, h3, h4⟩ := h
  exact ⟨s', F', B', H', h1.on hb, ⟨p1, n1, c1, p2, n2, c2, h2.on hb⟩, h3.on hb, h4⟩
theorem AnsP.but {p1 p2 : Option Addr} {n1 c1 n2 c2 : Nat} (h : AnsP w b off L gb hv W) (hb : But g W W') (hk : Blk W g 28 [.slice p1 n1 c1, .slice p2 n2 c2]) (hne : b ≠ g) (hgb : gb ≠ g) (hlo : w.heap.size ≤ g) : AnsP w b off L gb hv W' := by
  obtain ⟨s', F', B', H', h1, ⟨p3, n3, c3, p4, n4, c4, h2⟩, h3, h4⟩ := h
  exact ⟨s', F', B', H', h1.but hb hk hne hlo, ⟨p3, n3, c3, p4, n4, c4, h2.but hb hgb⟩, h3.butBlk hb hk, h4⟩
end
/-- A box of the document's answers, made in the region. -/
def BoxP (lo : Nat) (x : Value) (W : World) : Prop := ∃ hb p1 n1 c1 p2 n2 c2, x = .pointer (some ⟨hb, 0, none⟩) ∧ lo ≤ hb ∧ Blk W hb 28 [.slice p1 n1 c1, .slice p2 n2 c2]
/-- The region's condition. -/
structure ActS (w : World) (b off k lo gb : Nat) (L : List ActV) (s : St) (F : Nat → Prop) (g0 g1 : Value) (B : List UInt8) (H : List Bool) (act : ActV) (f f2 : Bool) (x : Value) (W : World) : Prop where
  cells : ∀ i, i < 4 → ∀ v, (act.cells)[i]? = some v → W.cell? ⟨b, off + k * 4 + i, none⟩ = some v
  gb1 : f2 = true → LawG w (some ⟨b, off, none⟩) L gb s F g0 g1 B H W
  size : lo ≤ W.heap.size
  box : f = false → BoxP lo x W
/-- What operations leave. -/
def actG (w : World) (b off lo gb : Nat) (L : List ActV) (vs : List Value) (x : Value) (j : Nat) (v : Value) (W : World) : Prop :=
  if j = 6 ∨ j = 7 then ∃ hv, v = .tuple #[hv, .bool true] ∧ AnsP w b off L gb hv W
  else if j = 8 then AnsP w b off L gb v W
  else if j = 10 then True
  else if j = 11 then ∃ hb p1 n1 c1 p2 n2 c2, x = .pointer (some ⟨hb, 0, none⟩) ∧ lo ≤ hb ∧ Blk W hb 28 [.slice p1 n1 c1, .slice p2 n2 c2] ∧ AnsP w b off L gb (.agg #[.slice p1 n1 c1, .slice p2 n2 c2]) W
  else v = vs.getD j undef
def ActK (lo : Nat) (i : Nat) (W W' : World) : Prop :=
  i = 6 ∨ (i = 11 ∧ ∃ hb p1 n1 c1 p2 n2 c2, lo ≤ hb ∧ Blk W hb 28 [.slice p1 n1 c1, .slice p2 n2 c2] ∧ But hb W W') ∨ (i ≠ 6 ∧ i ≠ 11 ∧ Below W.heap.size W W')
theorem actK_on {lo i : Nat} {W W' : World} (h6 : i ≠ 6) (h11 : i ≠ 11) (h : Below W.heap.size W W') : ActK lo i W W' := .inr (.inr ⟨h6, h11, h⟩)
theorem act_keep {w : World} {b off lo gb : Nat} {L : List ActV} {vs : List Value} {ops : Array Oper} (hlo : w.heap.size ≤ lo) (hb : b < lo) (hgb : gb < lo) (e76 : edge ops 7 6 = true) (e87 : edge ops 8 7 = true) (e11 : edge ops 11 6 = true) :
    ∀ x i j v W W', ActK lo i W W' → j ≠ i → edge ops j i = false → (∀ k, edge ops j k = true → edge ops k i = false) → (∀ u, ([] : Till).lookup j = some u → u ≠ i ∧ edge ops i u = false) → actG w b off lo gb L vs x j v W → actG w b off lo gb L vs x j v W' := by
  intro x i j v W W' hk hne hed hed2 _ hg
  unfold actG at *
  by_cases h67 : j = 6 ∨ j = 7
  · rw [if_pos h67] at hg ⊢
    obtain ⟨hv, e, hp⟩ := hg
    refine ⟨hv, e, ?_⟩
    rcases hk with h | ⟨h, hb', p1, n1, c1, p2, n2, c2, hl, hbk, hbut⟩ | ⟨_, _, h⟩
    · exfalso
      rcases h67 with h7 | h7
      · exact hne (h7.trans h.symm)
      · rw [h7, h, e76] at hed; cases hed
    · exact hp.but hbut hbk (by omega) (by omega) (by omega)
    · exact hp.on h
  rw [if_neg h67] at hg ⊢
  by_cases h8 : j = 8
  · rw [if_pos h8] at hg ⊢
    rcases hk with h | ⟨h, hb', p1, n1, c1, p2, n2, c2, hl, hbk, hbut⟩ | ⟨_, _, h⟩
    · exfalso
      have := hed2 7 (by rw [h8]; exact e87)
      rw [h, e76] at this; cases this
    · exact AnsP.but hg hbut hbk (by omega) (by omega) (by omega)
    · exact AnsP.on hg h
  rw [if_neg h8] at hg ⊢
  by_cases h10 : j = 10
  · rw [if_pos h10]; trivial
  rw [if_neg h10] at hg ⊢
  by_cases h11 : j = 11
  · rw [if_pos h11] at hg ⊢
    rcases hk with h | ⟨h, _⟩ | ⟨_, _, h⟩
    · exfalso; rw [h11, h, e11] at hed; cases hed
    · exact absurd (h11.trans h.symm) hne
    · obtain ⟨hb', p1, n1, c1, p2, n2, c2, e, hl, hbk, hp⟩ := hg
      exact ⟨hb', p1, n1, c1, p2, n2, c2, e, hl, hbk.on h, hp.on h⟩
  rw [if_neg h11] at hg ⊢
  exact hg
theorem act_x {w : World} {b off lo gb : Nat} {L : List ActV} {vs : List Value} {ops : Array Oper} (e : edge ops 11 10 = true) : ∀ j x x' v W, edge ops j 10 = false → j ≠ 10 → actG w b off lo gb L vs x j v W → actG w b off lo gb L vs x' j v W := by
  intro j x x' v W hed _ hg
  unfold actG at *
  by_cases h11 : j = 11
  · rw [h11, e] at hed; cases hed
  · simp only [if_neg h11] at hg ⊢
    exact hg
theorem BoxP.on {lo : Nat} {x : Value} {W W' : World} (h : BoxP lo x W) (hb : Below W.heap.size W W') : BoxP lo x W' := by
  obtain ⟨hb', p1, n1, c1, p2, n2, c2, e, hl, hk⟩ := h
  exact ⟨hb', p1, n1, c1, p2, n2, c2, e, hl, hk.on hb⟩
theorem LawG.on {w wr w' : World} {q : Option Addr} {L : List ActV} {gb : Nat} {s : St} {F : Nat → Prop} {g0 g1 : Value} {B : List UInt8} {H : List Bool} (h : LawG w q L gb s F g0 g1 B H wr) (hb : Below wr.heap.size wr w') : LawG w q L gb s F g0 g1 B H w' :=
  ⟨h.law.on hb, h.gbox.on hb, h.ref.on hb, h.rel⟩
theorem ActS.on {w W W' : World} {b off k lo gb : Nat} {L : List ActV} {s : St} {F : Nat → Prop} {g0 g1 x : Value} {B : List UInt8} {H : List Bool} {act : ActV} {f f2 : Bool} (h : ActS w b off k lo gb L s F g0 g1 B H act f f2 x W) (hb : Below W.heap.size W W') : ActS w b off k lo gb L s F g0 g1 B H act f f2 x W' :=
  ⟨fun i hi v hv => by have h1 := h.cells i hi v hv; exact (hb.cell (p := ⟨b, off + k * 4 + i, none⟩) (World.block_lt_of_cell? W _ h1)).trans h1, fun e => (h.gb1 e).on hb, Nat.le_trans h.size hb.size, fun e => (h.box e).on hb⟩

/-- What both tell of a place. -/
theorem readF_readL {s : St} {B : List UInt8} {H : List Bool} (R : Rel s B H) (off n : Int) : readF s.sz s.C off n = readL B off n := by
  unfold readF readL
  rw [R.size]
  by_cases h1 : off < 0 ∨ (B.length : Int) ≤ off
  · rw [if_pos (by omega), if_pos h1]
  · rw [if_neg h1]
    by_cases h2 : n < 0
    · rw [if_pos (by omega), show n.toNat = 0 by omega, List.take_zero]
    · rw [if_neg (by omega)]
      refine List.ext_getElem? fun j => ?_
      rw [List.getElem?_map]
      by_cases hj : j < (min n ((B.length : Int) - off)).toNat
      · rw [List.getElem?_range hj, List.getElem?_take_of_lt (by omega), List.getElem?_drop, Option.map_some, R.byte, List.getD_eq_getElem?_getD, List.getElem?_eq_getElem (by omega)]
        rfl
      · rw [List.getElem?_eq_none (by simp; omega), List.getElem?_eq_none (by simp; omega)]; rfl
theorem readF_all {s : St} {B : List UInt8} {H : List Bool} (R : Rel s B H) : readF s.sz s.C 0 (B.length : Nat) = B := by
  rw [readF_readL R]
  unfold readL
  by_cases h : (0 : Int) < 0 ∨ (B.length : Int) ≤ 0
  · rw [if_pos h]
    exact (List.eq_nil_of_length_eq_zero (by omega)).symm
  · rw [if_neg h]
    simp

/-- A slice that reads as bytes. -/
def Kd.sl2 (l : List UInt8) : Kd 0 := ⟨fun v W => ∃ p c, v = .slice p l.length c ∧ At W p (bytesV l), none, fun _ _ _ ⟨p, c, e, h⟩ hb => ⟨p, c, e, h.on hb⟩, fun _ _ _ _ _ _ hlt _ => absurd hlt (by omega)⟩
theorem refAt_b {F : Nat → Prop} {w : World} {p q : Option Addr} {n m c d : Nat} {B : List UInt8} {H : List Bool} (h : RefAt F w (.agg #[.slice p n c, .slice q m d]) B H) : At w p (bytesV B) := by
  obtain ⟨p', q', c', d', e, h1, _⟩ := h
  injection e with e2
  injection e2 with e3
  injection e3 with e4 e5
  injection e4 with e6
  rw [e6]; exact h1.at
theorem refAt_h {F : Nat → Prop} {w : World} {p q : Option Addr} {n m c d : Nat} {B : List UInt8} {H : List Bool} (h : RefAt F w (.agg #[.slice p n c, .slice q m d]) B H) : At w q (boolsV H) := by
  obtain ⟨p', q', c', d', e, _, h1⟩ := h
  injection e with e2
  injection e2 with e3
  injection e3 with e4 e5
  injection e5 with e6 _
  injection e6 with e7
  rw [e7]; exact h1.at
theorem readL_len (B : List UInt8) (off n : Int) : (readL B off n).length ≤ B.length := by
  unfold readL
  split
  · simp
  · rw [List.length_take, List.length_drop]; omega

end Go.Proofs.Ytigkelcmiknfjaa
