/- The file and the document's answer: of the same bytes and blocks, behind a write and a cut too. -/
import Derived.Test.YtigkelcmiknfjaaSAll
import Derived.Test.YtigkelcmiknfjaaSWrite
import Derived.Test.YtigkelcmiknfjaaSRefCut
namespace Go.Proofs.Ytigkelcmiknfjaa
open Go Go.RowKit Go.Maps

/-- The same bytes and blocks. -/
structure Rel (s : St) (B : List UInt8) (H : List Bool) : Prop where
  size : s.sz = B.length
  byte : ∀ i, s.C i = B.getD i 0
  has : ∀ k, s.h k = H.getD k false
  lenB : B.length ≤ 65536
  lenH : H.length ≤ 1024
theorem Rel.hs {s : St} {B : List UInt8} {H : List Bool} (r : Rel s B H) : s.h = fun k => H.getD k false := funext r.has
theorem Rel.need {s : St} {B : List UInt8} {H : List Bool} (r : Rel s B H) (off n : Int) : needN H off n = needF s.h off n := by rw [needF_list, r.hs]
theorem many_cntF (H : List Bool) : ∀ n, H.length ≤ n → many H = cntF n (fun k => H.getD k false) := by
  have key : ∀ k, k ≤ H.length → many (H.take k) = cntF k (fun j => H.getD j false) := fun k => by
    induction k with
    | zero => intro _; rfl
    | succ k ih => intro hk; rw [many_snoc (by omega), cntF_succ, ih (by omega)]
  intro n
  induction n with
  | zero => intro h; have e : H = [] := List.eq_nil_of_length_eq_zero (by omega); subst e; rfl
  | succ n ih =>
    intro h
    by_cases e : H.length = n + 1
    · have := key (n + 1) (by omega)
      rwa [List.take_of_length_le (by omega)] at this
    · rw [cntF_succ, ← ih (by omega)]
      have : H.getD n false = false := by simp [List.getD, show H.length ≤ n by omega]
      rw [this]; rfl
theorem Rel.blocks {s : St} {B : List UInt8} {H : List Bool} (r : Rel s B H) : s.blocks = many H := by
  unfold St.blocks
  rw [many_cntF H 1024 r.lenH, r.hs]
theorem wrE_wrF {s : St} {B : List UInt8} {H : List Bool} (r : Rel s B H) (off : Int) (n : Nat) (room : Int) : wrE H off n room = wrF s.h off n room := by
  unfold wrE wrF
  rw [r.need]
  by_cases h1 : off < 0
  · rw [if_pos h1, if_pos h1]
  · rw [if_neg h1, if_neg h1]
    by_cases h2 : 65536 - (n : Int) < off
    · rw [if_pos h2, if_pos (by omega)]
    · rw [if_neg h2, if_neg (by omega)]

theorem setsB_get (P : List UInt8) (o : Nat) (D : List UInt8) (j : Nat) : ∀ i, o + i ≤ P.length → (setsB P o D i).getD j 0 = if o ≤ j ∧ j < o + i then D.getD (j - o) 0 else P.getD j 0
  | 0, _ => by rw [setsB, if_neg (by omega)]
  | i + 1, h => by
    rw [setsB, List.getD_eq_getElem?_getD, List.getElem?_set]
    by_cases e : o + i = j
    · subst e
      rw [if_pos rfl, if_pos (by rw [setsB_len]; omega), if_pos (by omega), show o + i - o = i by omega]; rfl
    · rw [if_neg e, ← List.getD_eq_getElem?_getD, setsB_get P o D j i (by omega)]
      by_cases h2 : o ≤ j ∧ j < o + i
      · rw [if_pos h2, if_pos (by omega)]
      · rw [if_neg h2, if_neg (by omega)]
theorem setsH_get (Q : List Bool) (o j : Nat) : ∀ i, o + i ≤ Q.length * 64 → (setsH Q o i).getD j false = (Q.getD j false || decide (0 < i ∧ o / 64 ≤ j ∧ 64 * j < o + i))
  | 0, _ => by simp [setsH]
  | i + 1, h => by
    rw [setsH, List.getD_eq_getElem?_getD, List.getElem?_set]
    by_cases e : (o + i) / 64 = j
    · subst e
      rw [if_pos rfl, if_pos (by rw [setsH_len]; omega), decide_eq_true (by omega)]
      simp
    · rw [if_neg e, ← List.getD_eq_getElem?_getD, setsH_get Q o j i (by omega)]
      congr 1
      rw [decide_eq_decide]
      omega
theorem padB_get (B : List UInt8) (n j : Nat) : (padB B n).getD j 0 = B.getD j 0 := by
  unfold padB
  rw [List.getD_eq_getElem?_getD, List.getElem?_append, List.getD_eq_getElem?_getD]
  split
  · rfl
  · rename_i h
    rw [List.getElem?_replicate, List.getElem?_eq_none (by omega : B.length ≤ j)]
    split <;> rfl
theorem padH_get (H : List Bool) (n j : Nat) : (padH H n).getD j false = H.getD j false := by
  unfold padH
  rw [List.getD_eq_getElem?_getD, List.getElem?_append, List.getD_eq_getElem?_getD]
  split
  · rfl
  · rename_i h
    rw [List.getElem?_replicate, List.getElem?_eq_none (by omega : H.length ≤ j)]
    split <;> rfl
theorem wrF_in {h : Nat → Bool} {off room : Int} {n : Nat} (e : wrF h off n room = 0) : ¬ off < 0 ∧ ¬ 65536 - (n : Int) < off ∧ ¬ room < needF h off n := by
  unfold wrF at e
  by_cases h4 : off < 0
  · rw [if_pos h4] at e; cases e
  · rw [if_neg h4] at e
    by_cases h5 : 65536 - (n : Int) < off
    · rw [if_pos h5] at e; cases e
    · rw [if_neg h5] at e
      by_cases h6 : room < needF h off n
      · rw [if_pos h6] at e; cases e
      · exact ⟨h4, h5, h6⟩
/-- Behind a write. -/
theorem Rel.wrote {s : St} {B D : List UInt8} {H : List Bool} (r : Rel s B H) {off room : Int} (he : wrF s.h off D.length room = 0) (hD : D ≠ []) : Rel (s.wrote off D room) (wrB B off.toNat D) (wrH H off.toNat D.length) := by
  obtain ⟨h1, h2, _⟩ := wrF_in he
  have hp : 0 < D.length := List.length_pos_iff.2 hD
  have e1 : s.wrote off D room = ⟨max s.sz (off.toNat + D.length), putC s.C off.toNat D D.length, layH s.h off.toNat D.length⟩ := if_pos ⟨he, hD⟩
  rw [e1]
  have hlB := r.lenB
  have hlH := r.lenH
  have l1 : (wrB B off.toNat D).length = max B.length (off.toNat + D.length) := by rw [wrB, setsB_len, padB_len]
  have l2 : (wrH H off.toNat D.length).length = max H.length ((off.toNat + D.length + 63) / 64) := by rw [wrH, setsH_len, padH_len]
  refine ⟨?_, fun i => ?_, fun k => ?_, by rw [l1]; omega, by rw [l2]; omega⟩
  · show max s.sz _ = _
    rw [l1, r.size]
  · show putC s.C off.toNat D D.length i = _
    rw [wrB, setsB_get _ _ _ _ _ (by rw [padB_len]; omega), padB_get, ← r.byte]
    rfl
  · show layH s.h off.toNat D.length k = _
    rw [wrH, setsH_get _ _ _ _ (by rw [padH_len]; omega), padH_get, ← r.has]
    rfl
/-- Behind a cut. -/
theorem Rel.cut {s : St} {B : List UInt8} {H : List Bool} (r : Rel s B H) {n : Nat} (hn : n ≤ 65536) : Rel ⟨n, cutC s.C n, cutH s.h n⟩ (cutL B n) (H.take ((n + 63) / 64)) := by
  refine ⟨(cutL_len B n).symm, fun i => ?_, fun k => ?_, by rw [cutL_len]; exact hn, by have := r.lenH; rw [List.length_take]; omega⟩
  · show cutC s.C n i = _
    rw [cutL_get, ← r.byte]; rfl
  · show cutH s.h n k = _
    unfold cutH
    rw [r.has, List.getD_eq_getElem?_getD, List.getD_eq_getElem?_getD, List.getElem?_take]
    by_cases h : k < (n + 63) / 64
    · rw [if_pos h, decide_eq_true (by omega)]; simp
    · rw [if_neg h, decide_eq_false (by omega)]; simp
theorem rel_new : Rel ⟨0, fun _ => 0, fun _ => false⟩ [] [] := ⟨rfl, fun _ => rfl, fun _ => rfl, by simp, by simp⟩
theorem cutE_in {n : Int} (he : cutE n = 0) : 0 ≤ n ∧ n ≤ 65536 := by
  unfold cutE at he
  by_cases h4 : n < 0
  · rw [if_pos h4] at he; cases he
  · rw [if_neg h4] at he
    by_cases h5 : 65536 < n
    · rw [if_pos h5] at he; cases he
    · omega

/-- The document's answer in memory that is not the file's. -/
def RefAt (F : Nat → Prop) (w : World) (v : Value) (B : List UInt8) (H : List Bool) : Prop := ∃ p q c d, v = fileV p q c d B.length H.length ∧ AtC F w p (bytesV B) ∧ AtC F w q (boolsV H)
section
variable {F F' : Nat → Prop} {w w' : World} {v : Value} {B : List UInt8} {H : List Bool}
theorem RefAt.goes (h : RefAt F w v B H) (g : Goes F F' w w') : RefAt F' w' v B H := by
  obtain ⟨p, q, c, d, e, h1, h2⟩ := h
  exact ⟨p, q, c, d, e, h1.goes g, h2.goes g⟩
theorem RefAt.on (h : RefAt F w v B H) (hb : Below w.heap.size w w') : RefAt F w' v B H := h.goes (Goes.of_below hb)
theorem refAt_own {fb hi : Nat} {s : St} (f : s.at w fb F) (h : OwnFile hi w v B H) : RefAt F w v B H := by
  obtain ⟨v1, v2, rfl, h1, h2⟩ := h
  obtain ⟨p, c, e1, a1, _⟩ := f.1.atC h1 (by decide) (by decide)
  obtain ⟨q, d, e2, a2, _⟩ := f.1.atC h2 (by decide) (by decide)
  rw [List.length_map] at e1 e2
  exact ⟨p, q, c, d, by rw [e1, e2], a1, a2⟩
end

theorem AtC.butBlk {F : Nat → Prop} {w w' : World} {p : Option Addr} {l cs : List Value} {b : Nat} {t : TypeId} (h : AtC F w p l) (hb : But b w w') (hk : Blk w b t cs) (hd : ∀ v ∈ l, v ∉ cs) : AtC F w' p l := by
  rcases h with h | ⟨g, off, e, hn, hlt, hc⟩
  · exact .inl h
  · cases l with
    | nil => exact .inl rfl
    | cons v r =>
      have hne : g ≠ b := fun e' => by
        subst e'
        have h1 := hc 0 v rfl
        rw [cell_of_row _ _ _ _ _ _ hk.row] at h1
        have h2 : v ∈ cs := by
          have := List.mem_of_getElem? (l := cs) (i := off + 0) (a := v) (by simpa using h1)
          exact this
        exact hd v (by simp) h2
      refine .inr ⟨g, off, e, hn, by rw [hb.size]; exact hlt, fun j u hu => ?_⟩
      rw [← hc j u hu]
      simp only [World.cell?, hb.block g hne]
theorem RefAt.butBlk {F : Nat → Prop} {w w' : World} {v : Value} {B : List UInt8} {H : List Bool} {b : Nat} {t : TypeId} {p1 p2 : Option Addr} {n1 c1 n2 c2 : Nat} (h : RefAt F w v B H) (hb : But b w w') (hk : Blk w b t [.slice p1 n1 c1, .slice p2 n2 c2]) : RefAt F w' v B H := by
  obtain ⟨p, q, c, d, e, h1, h2⟩ := h
  refine ⟨p, q, c, d, e, h1.butBlk hb hk fun u hu => ?_, h2.butBlk hb hk fun u hu => ?_⟩
  · obtain ⟨x, _, rfl⟩ := List.mem_map.1 hu
    simp [byteV]
  · obtain ⟨x, _, rfl⟩ := List.mem_map.1 hu
    simp
theorem FileAt.butBlk {F : Nat → Prop} {w w' : World} {fb sz b : Nat} {C : Nat → UInt8} {h : Nat → Bool} {t : TypeId} {cs : List Value} (f : FileAt w fb F sz C h) (hb : But b w w') (hk : Blk w b t cs) (h1 : t ≠ 51) (h2 : t ≠ 63) : FileAt w' fb F sz C h := by
  obtain ⟨mv, D, f, e⟩ := f
  refine ⟨mv, D, f.same fun x hx => hb.block x fun e' => ?_, e⟩
  subst e'
  rcases f.kind hx hk.row with h7 | h7
  · exact h1 h7
  · exact h2 h7
theorem Goes.but {F F' : Nat → Prop} {w W W' : World} {b : Nat} (g : Goes F F' w W) (hb : But b W W') (hlt : w.heap.size ≤ b) : Goes F F' w W' :=
  ⟨⟨hb.os.trans g.foot.os, hb.tape.trans g.foot.tape, hb.output.trans g.foot.output, by rw [hb.size]; exact g.foot.size, fun k hk hn => (hb.block k (by omega)).trans (g.foot.block k hk hn)⟩, g.new⟩
/-- The reference's write, whatever it is. -/
theorem ref_write_all (F : Nat → Prop) (fb : Nat) (s s1 : St) (p q r : Option Addr) (c d k : Nat) (B D : List UInt8) (H : List Bool) (off room : Int) (w : World) (f : s1.at w fb F) (R : Rel s B H) (hD : D.length ≤ 1000000) (hp : AtC F w p (bytesV B)) (hq : AtC F w q (boolsV H)) (hr : At w r (bytesV D)) :
    Calls Try.prog 22 #[fileV p q c d B.length H.length, .int .i64 off, .slice r D.length k, .int .i64 room] w fun e w' => ∃ v B' H', e = .returned (.tuple #[v, .int .i64 (s.wroteN off D.length room : Nat), .int .i64 (wrF s.h off D.length room : Nat)]) ∧ RefAt F w' v B' H' ∧ Rel (s.wrote off D room) B' H' ∧ Below w.heap.size w w' := by
  have hlH := R.lenH
  by_cases hbad : wrF s.h off D.length room ≠ 0 ∨ D.length = 0
  · have hw := ref_write_bad p q r c d k B D H off room (wrF s.h off D.length room) w (by omega) (by omega) hq.at (wrE_wrF R off _ room) hbad
    refine hw.mono ?_
    rintro e w' ⟨rfl, hb⟩
    have e1 : s.wrote off D room = s := if_neg fun h => by
      rcases hbad with h7 | h7
      · exact h7 h.1
      · exact h.2 (List.eq_nil_of_length_eq_zero h7)
    have e2 : s.wroteN off D.length room = 0 := by
      unfold St.wroteN
      split
      · rename_i h7
        rcases hbad with h8 | h8
        · exact absurd h7 h8
        · rw [h8]; exact needF_zero s.h off
      · rfl
    rw [e1, e2]
    exact ⟨_, B, H, rfl, ⟨p, q, c, d, rfl, hp.on hb, hq.on hb⟩, R, hb⟩
  · have hw : wrF s.h off D.length room = 0 := by
      rcases Nat.eq_zero_or_pos (wrF s.h off D.length room) with h | h
      · exact h
      · exact absurd (.inl (by omega)) hbad
    have hp0 : 0 < D.length := by
      rcases Nat.eq_zero_or_pos D.length with h | h
      · exact absurd (.inr h) hbad
      · exact h
    have hne : D ≠ [] := fun e => by rw [e] at hp0; simp at hp0
    obtain ⟨h1, h2, h3⟩ := wrF_in hw
    have hz : ((off.toNat : Nat) : Int) = off := by omega
    have hd := ref_write_do p q r c d k B D H off.toNat room w R.lenB R.lenH hp.at hq.at hr hp0 (by omega) (by rw [hz, R.need]; omega)
    rw [hz] at hd
    refine hd.mono ?_
    rintro e w' ⟨v, rfl, ho, hb⟩
    have e2 : s.wroteN off D.length room = needF s.h off D.length := if_pos hw
    rw [e2, hw, R.need]
    exact ⟨v, _, _, rfl, refAt_own (f.on hb) ho, R.wrote hw hne, hb⟩
/-- The reference's cut, whatever it is. -/
theorem ref_cut_all (F : Nat → Prop) (fb : Nat) (s s1 : St) (p q : Option Addr) (c d : Nat) (B : List UInt8) (H : List Bool) (n : Int) (w : World) (f : s1.at w fb F) (R : Rel s B H) (hp : AtC F w p (bytesV B)) (hq : AtC F w q (boolsV H)) :
    Calls Try.prog 21 #[fileV p q c d B.length H.length, .int .i64 n] w fun e w' => ∃ v B' H', e = .returned (.tuple #[v, .int .i64 (s.cutN n), .int .i64 (cutE n : Nat)]) ∧ RefAt F w' v B' H' ∧ Rel (s.cut n) B' H' ∧ Below w.heap.size w w' := by
  by_cases he : cutE n = 0
  · have h3 := cutE_in he
    have hz : ((n.toNat : Nat) : Int) = n := by omega
    have hd := ref_cut_do p q c d B H n.toNat w (by omega) R.lenB R.lenH hp.at hq.at
    rw [hz] at hd
    refine hd.mono ?_
    rintro e w' ⟨v, rfl, ho, hb⟩
    have e1 : s.cut n = ⟨n.toNat, cutC s.C n.toNat, cutH s.h n.toNat⟩ := if_pos he
    have R2 := R.cut (n := n.toNat) (by omega)
    rw [← e1] at R2
    refine ⟨v, _, _, ?_, refAt_own (f.on hb) ho, R2, hb⟩
    unfold St.cutN
    rw [R.blocks, R2.blocks, he]
    rfl
  · have hb0 : n < 0 ∨ 65536 < n := by
      by_cases h4 : n < 0
      · exact .inl h4
      · by_cases h5 : 65536 < n
        · exact .inr h5
        · exact absurd (by unfold cutE; rw [if_neg h4, if_neg h5]) he
    refine (ref_cut_bad p q c d B H n w hb0).mono ?_
    rintro e w' ⟨rfl, hb⟩
    have e1 : s.cut n = s := if_neg he
    have e2 : s.cutN n = 0 := by unfold St.cutN; rw [e1, Int.sub_self]
    have e3 : cutE n = if n < 0 then 22 else 27 := by
      unfold cutE
      by_cases h4 : n < 0
      · rw [if_pos h4, if_pos h4]
      · rw [if_neg h4, if_neg h4, if_pos (by omega)]
    rw [e1, e2, e3]
    exact ⟨_, B, H, rfl, ⟨p, q, c, d, rfl, hp.on hb, hq.on hb⟩, R, hb⟩

end Go.Proofs.Ytigkelcmiknfjaa
