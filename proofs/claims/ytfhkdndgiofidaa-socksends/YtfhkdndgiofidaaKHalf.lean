/- What Put does to a queue's memory, step by step: a part more, bytes at the end of the last part. -/
import Derived.Test.YtfhkdndgiofidaaKQueue
import Derived.Test.YtfhkdndgiofidaaKFresh
namespace Go.Proofs.Ytfhkdndgiofidaa.K
open Go Go.RowKit

/-- Bytes to which more are laid: none yet, or a row. -/
def BytA (F : Nat → Prop) (w : World) (v : Value) (B : List UInt8) : Prop := (v = .slice none 0 0 ∧ B = []) ∨ BytM F w v B
/-- Bytes laid to a part's. -/
theorem byt_append {F : Nat → Prop} {w : World} {v : Value} {B l : List UInt8} (m : Nat) (hm : ∀ k, w.heap.size ≤ k → F k) (h : BytA F w v B) (p : Option Addr) (cap : Nat) (hat : At w p (bytesV l)) (hl : l ≠ []) (h1 : B.length ≤ 100000) (h2 : l.length ≤ 100000) (hml : l.length = m) :
    ∃ v' w', (Builtin.append_ #[28, 28] 28 #[v, .slice p m cap]).run Try.prog w = .ok v' w' ∧ BytM F w' v' (B ++ l) ∧ w.grownBy w' v.ownBlock ∧ (v'.ownBlock = v.ownBlock ∨ w.heap.size ≤ blkOf v') := by
  obtain ⟨i0, hi0, hz0, hz1, hz2⟩ := info_parts elemByte.info
  have hlp : 0 < l.length := List.length_pos_iff.2 hl
  obtain ⟨sb, so, rfl, _, _, _⟩ := hat.place (k := 0) (by simpa using hlp)
  subst hml
  have own_byt : ∀ {v' w'}, w'.ownsRow w.heap.size 5 1 v' (B.length + l.length) (bytesV B ++ bytesV l) → BytM F w' v' (B ++ l) ∧ w.heap.size ≤ blkOf v' := fun {v' w'} ho => by
    rcases ho.2 with ⟨_, h9⟩ | ⟨g, cp, cur, rfl, h6, h7, h8, _, h10, h11⟩
    · omega
    · refine ⟨⟨g, 0, cp, cur.toList, by simp, by simpa using h8, hm g h6, ⟨h7⟩, by simp; omega, ?_⟩, h6⟩
      rw [List.drop_zero, List.length_append, ← List.map_append] at *
      simpa using h11
  rcases h with ⟨rfl, rfl⟩ | h
  · obtain ⟨v', w', hrun, ho, hg, _⟩ := run_append_own (P := Try.prog) w w.heap.size 28 28 5 i0 (.int .u8 0) 1 1 elemByte.slice hi0 hz0 hz1 hz2 rfl (by decide) (.slice none 0 0) 0 [] (World.ownsRow_nil _ _ _ _)
      ⟨sb, so, none⟩ l.length cap (bytesV l) (by simp) (at_news hat) (one_bytes _) (by unfold maxLen; omega) (by omega) (Nat.le_refl _)
    obtain ⟨h7, h8⟩ := own_byt (v' := v') (w' := w') (by simpa using ho)
    exact ⟨v', w', hrun, h7, hg, .inr h8⟩
  · obtain ⟨b, off, bc, cs, rfl, hbc, hF, hB, hcs, htk⟩ := h.is
    have hcell : ∀ j u, (bytesV B)[j]? = some u → w.cell? ((⟨b, off, none⟩ : Addr).add j) = some u := fun j u hj => by
      rw [Addr.add_lit]
      refine hB.cell _ ?_
      rw [← htk, List.getElem?_take] at hj
      split at hj
      · rwa [List.getElem?_drop] at hj
      · cases hj
    by_cases hr : B.length + l.length ≤ bc
    · have hrun := run_append_room_cells (P := Try.prog) w 28 28 5 i0 elemByte.slice hi0 b off B.length bc ⟨sb, so, none⟩ l.length cap (bytesV l) (by rw [hz1]; simp) (at_news hat) (one_bytes _) hr
        (fun j hj => by
          rw [hz1, Nat.mul_one]
          have hj' : j < l.length := by simpa using hj
          rw [hB.cell (off + B.length + j) (List.getElem?_eq_getElem (by omega))]; rfl)
        (fun j hj => hB.free _)
      rw [hz1, Nat.mul_one] at hrun
      have hB2 := blk_setCells (bytesV l) (off + B.length) w cs hB (by simp; omega)
      have hbut := but_setCells b (bytesV l) (off + B.length) w
      refine ⟨_, _, hrun, ⟨b, off, bc, _, by rw [List.length_append], by rw [List.length_append]; exact hr, hF, hB2, ?_, ?_⟩, ⟨hbut.os, hbut.tape, hbut.output, Nat.le_of_eq hbut.size.symm, fun k _ hk => hbut.block k fun e => hk (by rw [e]; rfl)⟩, .inl rfl⟩
      · simp only [List.length_append, List.length_take, List.length_drop, List.length_map]
        omega
      · have hol : off + B.length ≤ cs.length := by omega
        rw [List.append_assoc, List.drop_append_of_le_length (by rw [List.length_take]; omega), List.drop_take, show off + B.length - off = B.length by omega, htk, List.length_append, ← List.append_assoc]
        rw [show B.length + l.length = (bytesV B ++ bytesV l).length by simp, List.take_left]
        simp
    · obtain ⟨v', w', hrun, hown, hg⟩ := run_append_arg_grows (P := Try.prog) w 28 28 5 i0 (.int .u8 0) 1 1 elemByte.slice hi0 hz0 hz1 hz2 rfl (by decide) ⟨b, off, none⟩ B.length bc (bytesV B) (by simp)
        hcell ⟨sb, so, none⟩ l.length cap (bytesV l) (by simp) (at_news hat) (by omega) (by unfold maxLen; omega) (by omega)
      obtain ⟨h7, h8⟩ := own_byt hown
      exact ⟨v', w', hrun, h7, ⟨hg.os, hg.tape, hg.output, hg.size, fun k hk _ => hg.block k hk (by simp)⟩, .inr h8⟩

/-- A queue whose last part may have no bytes yet. -/
structure QH (F G : Nat → Prop) (w : World) (qb n : Nat) (X : List PX) (x : PX) : Prop where
  box : ∃ pv, Blk w qb 111 [.int .i64 (n : Int), pv] ∧ w.ownsRow 0 87 2 pv (X.length + 1) (flatX (X ++ [x])) ∧ ∀ g, pv.ownBlock = some g → F g
  own : F qb
  byt : ∀ y ∈ X, BytM F w y.bv y.B
  last : BytA F w x.bv x.B
  pas : ∀ y ∈ X, PasM G w y.lv y.M
  plast : PasM G w x.lv x.M
  apart : X.Pairwise fun y z => blkOf y.bv ≠ blkOf z.bv
  apart2 : ∀ y ∈ X, x.bv.ownBlock ≠ some (blkOf y.bv)
section
variable {F G : Nat → Prop} {w w' W : World} {qb n : Nat} {X : List PX} {x : PX}
theorem byt_own {v : Value} {B : List UInt8} (h : BytM F w v B) : v.ownBlock = some (blkOf v) := by
  obtain ⟨b, off, cap, cs, rfl, _⟩ := h.is
  rfl
theorem QM.half (h : QM F G w qb n (X ++ [x])) : QH F G w qb n X x := by
  obtain ⟨pv, h1, h2, h3⟩ := h.box
  have ha := List.pairwise_append.1 h.apart
  refine ⟨⟨pv, h1, by simpa using h2, h3⟩, h.own, fun y hy => h.byt y (by simp [hy]), .inr (h.byt x (by simp)), fun y hy => h.pas y (by simp [hy]), h.pas x (by simp), ha.1, fun y hy e => ?_⟩
  rw [byt_own (h.byt x (by simp))] at e
  exact ha.2.2 y hy x (by simp) (Option.some.inj e).symm
theorem QH.on (h : QH F G w qb n X x) (hb : Below w.heap.size w w') : QH F G w' qb n X x := by
  obtain ⟨pv, h1, h2, h3⟩ := h.box
  refine ⟨⟨pv, h1.on hb, rowS_on h2 hb, h3⟩, h.own, fun y hy => (h.byt y hy).keep (keep_on hb), ?_, fun y hy => (h.pas y hy).keep (keep_on hb), h.plast.keep (keep_on hb), h.apart, h.apart2⟩
  rcases h.last with h7 | h7
  · exact .inl h7
  · exact .inr (h7.keep (keep_on hb))
theorem QH.view (h : QH F G w qb n X x) : ∃ g cap, Blk w qb 111 [.int .i64 (n : Int), .slice (some ⟨g, 0, none⟩) (X.length + 1) cap] ∧ F g ∧ g < w.heap.size ∧ typ w g 87 ∧ w.cell? ⟨g, X.length * 2, none⟩ = some x.bv ∧ w.frozen? ⟨g, X.length * 2, none⟩ = false := by
  obtain ⟨pv, h1, h2, h3⟩ := h.box
  obtain ⟨g, cap, rfl, _, hg, hf, hc⟩ := rowS_form h2 (by omega)
  refine ⟨g, cap, h1, h3 g rfl, hg, ?_, hc _ _ ?_, hf _⟩
  · obtain ⟨_, _, cur, h7⟩ := row_lt h2 (g := g) rfl
    exact ⟨_, _, h7⟩
  · have := (flatX_get (X := X ++ [x]) (i := X.length) (x := x) (by simp)).1
    exact this

/-- A part laid behind the others, ahead of the store to the box. -/
structure Mid (F : Nat → Prop) (w : World) (X : List PX) (pv : Value) (M : List PV) (v : Value) (W : World) : Prop where
  is : ∃ lv N, N.map Prod.fst = M.map Prod.fst ∧ W.ownsRow 0 87 2 v (X.length + 1) (flatX X ++ [.slice none 0 0, lv]) ∧ PasM (fun k => w.heap.size ≤ k) W lv N
  keep : Keep (fun k => pv.ownBlock ≠ some k) w W
  lies : ∀ g, v.ownBlock = some g → pv.ownBlock = some g ∨ w.heap.size ≤ g
theorem Mid.on {pv v : Value} {M : List PV} (h : Mid F w X pv M v W) (hb : Below W.heap.size W w') : Mid F w X pv M v w' := by
  obtain ⟨lv, N, h1, h2, h3⟩ := h.is
  exact ⟨⟨lv, N, h1, rowS_on h2 hb, h3.keep (keep_on hb)⟩, h.keep.trans (keep_on hb), h.lies⟩
/-- What the store leaves. -/
def Fin (F G : Nat → Prop) (w : World) (qb n : Nat) (X : List PX) (M : List PV) (W : World) : Prop := ∃ lv N, N.map Prod.fst = M.map Prod.fst ∧ QH (Up F w.heap.size) (Up G w.heap.size) W qb n X ⟨[], .slice none 0 0, N, lv⟩ ∧ Keep (fun k => ¬ F k) w W
theorem Fin.on {M : List PV} (h : Fin F G w qb n X M W) (hb : Below W.heap.size W w') : Fin F G w qb n X M w' := by
  obtain ⟨lv, N, h1, h2, h3⟩ := h
  exact ⟨lv, N, h1, h2.on hb, h3.trans (keep_on hb)⟩
theorem Mid.fin {pv v : Value} {M : List PV} (h : Mid F w X pv M v W) (hM : QM F G w qb n X) (hB : Blk w qb 111 [.int .i64 (n : Int), pv]) (hrow : w.ownsRow 0 87 2 pv X.length (flatX X)) (hF : ∀ g, pv.ownBlock = some g → F g) (_hlt : ∀ k, F k → k < w.heap.size) : Fin F G w qb n X M (W.setCell ⟨qb, 1, none⟩ v) := by
  obtain ⟨lv, N, h1, h2, h3⟩ := h.is
  have tq := typ_blk hB
  have hne : ∀ {k t}, typ w k t → t ≠ 87 → pv.ownBlock ≠ some k := fun {k t} hk ht e => by
    obtain ⟨_, _, cur, h7⟩ := row_lt hrow e
    exact typ_ne hk ⟨_, _, h7⟩ ht rfl
  have hbut := but_set W qb 1 v
  have hk2 : Keep (fun k => pv.ownBlock ≠ some k ∧ k ≠ qb) w (W.setCell ⟨qb, 1, none⟩ v) := (h.keep.mono fun _ _ h => h.1).trans (keep_but hbut fun h => h.2 rfl)
  have hqlt := hB.lt
  refine ⟨lv, N, h1, ⟨⟨v, ?_, ?_, fun g hg => ?_⟩, .inl hM.own, fun y hy => ?_, .inl ⟨rfl, rfl⟩, fun y hy => ?_, ?_, hM.apart, fun y hy e => by cases e⟩, hk2.mono fun k _ h7 => ⟨fun e => h7 (hF k e), fun e => h7 (e ▸ hM.own)⟩⟩
  · exact (h.keep.blk hB (hne tq (by decide))).set 1 v
  · rw [flatX_app]
    refine rowS_keep h2 (O := fun k => k ≠ qb) (keep_but hbut fun h => h rfl) fun g hg e => ?_
    subst e
    rcases h.lies g hg with h7 | h7
    · exact hne tq (by decide) h7
    · omega
  · rcases h.lies g hg with h7 | h7
    · exact .inl (hF g h7)
    · exact .inr h7
  · have hy' := hM.byt y hy
    obtain ⟨_, cs, hyb⟩ := hy'.blk
    refine (hy'.same (hk2.block _ hyb.lt ⟨hne (typ_blk hyb) (by decide), typ_ne (typ_blk hyb) tq (by decide)⟩)).mono fun k _ h => .inl h
  · refine ((hM.pas y hy).keepT (hk2.mono fun k _ h7 => ?_)).mono fun k _ h => .inl h
    rcases h7.2 with h8 | h8
    · exact ⟨hne h8 (by decide), typ_ne h8 tq (by decide)⟩
    · exact ⟨hne h8 (by decide), typ_ne h8 tq (by decide)⟩
  · refine (h3.keep (w' := W.setCell ⟨qb, 1, none⟩ v) (keep_but hbut fun h7 => ?_)).mono fun k _ h => .inr h
    omega

/-- Bytes laid, ahead of the store to the part. -/
structure Mid2 (F : Nat → Prop) (w : World) (x : PX) (l : List UInt8) (v : Value) (W : World) : Prop where
  byt : BytM F W v (x.B ++ l)
  keep : w.grownBy W x.bv.ownBlock
  lies : v.ownBlock = x.bv.ownBlock ∨ w.heap.size ≤ blkOf v
theorem Mid2.on {v : Value} {l : List UInt8} (h : Mid2 F w x l v W) (hb : Below W.heap.size W w') : Mid2 F w x l v w' :=
  ⟨h.byt.keep (keep_on hb), ⟨hb.os.trans h.keep.os, hb.tape.trans h.keep.tape, hb.output.trans h.keep.output, Nat.le_trans h.keep.size hb.size, fun k hk hne => (hb.block k (Nat.lt_of_lt_of_le hk h.keep.size)).trans (h.keep.block k hk hne)⟩, h.lies⟩
/-- What that store leaves. -/
def Fin2 (F G : Nat → Prop) (w : World) (qb n : Nat) (X : List PX) (x : PX) (l : List UInt8) (W : World) : Prop := ∃ v, QM F G W qb n (X ++ [⟨x.B ++ l, v, x.M, x.lv⟩]) ∧ ∀ O : Nat → Prop, (∀ k, k < w.heap.size → O k → ¬ F k) → Keep O w W
theorem Fin2.on {l : List UInt8} (h : Fin2 F G w qb n X x l W) (hb : Below W.heap.size W w') : Fin2 F G w qb n X x l w' := by
  obtain ⟨v, h1, h2⟩ := h
  exact ⟨v, h1.keep (keep_on hb), fun O hO => (h2 O hO).trans (keep_on hb)⟩
theorem Mid2.fin {g cap : Nat} {v : Value} {l : List UInt8} (h : Mid2 F w x l v W) (hH : QH F G w qb n X x) (hB : Blk w qb 111 [.int .i64 (n : Int), .slice (some ⟨g, 0, none⟩) (X.length + 1) cap]) : Fin2 F G w qb n X x l (W.setCell ⟨g, X.length * 2, none⟩ v) := by
  obtain ⟨pv, h1, h2, h3⟩ := hH.box
  obtain rfl : pv = .slice (some ⟨g, 0, none⟩) (X.length + 1) cap := by
    have := h1.row
    rw [hB.row] at this
    simp at this
    exact this.symm
  have hFg := h3 g rfl
  obtain ⟨_, hglt, cur, hgr⟩ := row_lt h2 (g := g) rfl
  have tg : typ w g 87 := ⟨_, _, hgr⟩
  have tq := typ_blk h1
  have hbut := but_set W g (X.length * 2) v
  -- the block that the bytes turn
  have hrow : ∀ k, x.bv.ownBlock = some k → F k ∧ typ w k 5 := fun k e => by
    rcases hH.last with ⟨h7, _⟩ | h7
    · rw [h7] at e; cases e
    · rw [byt_own h7] at e
      cases e
      obtain ⟨h8, cs, h9⟩ := h7.blk
      exact ⟨h8, typ_blk h9⟩
  have hk2 : Keep (fun k => x.bv.ownBlock ≠ some k ∧ k ≠ g) w (W.setCell ⟨g, X.length * 2, none⟩ v) := (Keep.mono (O := fun k => x.bv.ownBlock ≠ some k) ⟨h.keep.os, h.keep.tape, h.keep.output, h.keep.size, fun k hk hO => h.keep.block k hk fun e => hO e.symm⟩ fun _ _ h => h.1).trans (keep_but hbut fun h => h.2 rfl)
  have hne : ∀ {k t}, typ w k t → t ≠ 5 → x.bv.ownBlock ≠ some k := fun {k t} hk ht e => typ_ne hk (hrow k e).2 ht rfl
  have hnew : ∀ k, k < w.heap.size → (∀ j, x.bv.ownBlock = some j → j ≠ k) → blkOf v ≠ k := fun k hk hx e => by
    rcases h.lies with h7 | h7
    · rw [byt_own h.byt] at h7
      exact hx _ h7.symm e
    · omega
  refine ⟨v, ⟨⟨.slice (some ⟨g, 0, none⟩) (X.length + 1) cap, ?_, ?_, h3⟩, hH.own, fun y hy => ?_, fun y hy => ?_, ?_⟩, fun O hO => hk2.mono fun k hk h7 => ⟨fun e => hO k hk h7 (hrow k e).1, fun e => hO k hk h7 (e ▸ hFg)⟩⟩
  · exact hk2.blk h1 ⟨hne tq (by decide), typ_ne tq tg (by decide)⟩
  · have h7 := rowS_keep h2 (O := fun k => x.bv.ownBlock ≠ some k) (w' := W) ⟨h.keep.os, h.keep.tape, h.keep.output, h.keep.size, fun k hk hO => h.keep.block k hk fun e => hO e.symm⟩ fun k e => by cases e; exact hne tg (by decide)
    have h8 := (h7.stored (X.length * 2) v).1
    have e : (flatX (X ++ [x])).set (X.length * 2) v = flatX (X ++ [⟨x.B ++ l, v, x.M, x.lv⟩]) := by
      rw [flatX_app, flatX_app, List.set_append_right _ _ (by rw [flatX_len]; omega), flatX_len, Nat.sub_self]
      rfl
    rw [e] at h8
    simpa using h8
  · rw [List.mem_append] at hy
    rcases hy with hy | hy
    · have hy' := hH.byt y hy
      obtain ⟨_, cs, hyb⟩ := hy'.blk
      exact hy'.same (hk2.block _ hyb.lt ⟨hH.apart2 y hy, typ_ne (typ_blk hyb) tg (by decide)⟩)
    · simp at hy
      subst hy
      refine BytM.same h.byt (hbut.block _ ?_)
      refine hnew g hglt fun j e => ?_
      exact typ_ne (hrow j e).2 tg (by decide)
  · rw [List.mem_append] at hy
    have hall : ∀ z : PX, PasM G w z.lv z.M → PasM G (W.setCell ⟨g, X.length * 2, none⟩ v) z.lv z.M := fun z hz => hz.keepT (hk2.mono fun k _ h7 => by
      rcases h7.2 with h8 | h8
      · exact ⟨hne h8 (by decide), typ_ne h8 tg (by decide)⟩
      · exact ⟨hne h8 (by decide), typ_ne h8 tg (by decide)⟩)
    rcases hy with hy | hy
    · exact hall y (hH.pas y hy)
    · simp at hy
      subst hy
      exact hall x hH.plast
  · refine List.pairwise_append.2 ⟨hH.apart, List.pairwise_singleton _ _, fun y hy z hz => ?_⟩
    simp at hz
    subst hz
    obtain ⟨_, cs, hyb⟩ := (hH.byt y hy).blk
    exact fun e => hnew _ hyb.lt (fun j hj e2 => hH.apart2 y hy (by rw [hj, e2])) e.symm
end

end Go.Proofs.Ytfhkdndgiofidaa.K
