/- The reference's Take: what it lays in memory. -/
import Derived.Test.YtmhkfapafedglaaKRef
namespace Go.Proofs.Ytmhkfapafedglaa.K
open Go Go.RowKit

/-- Two lists in an array, beside the result's box. -/
structure TM (w : World) (rb pb : Nat) (u0 u1 v0 v1 : Value) (A B : List PV) (W : World) : Prop where
  res : Blk W rb 52 [.slice none 0 0, .slice none 0 0]
  arr : Blk W pb 52 [u0, u1]
  r0 : W.ownsRow w.heap.size 64 5 v0 A.length (flatP A)
  r1 : W.ownsRow w.heap.size 64 5 v1 B.length (flatP B)
  apart : ∀ g, v0.ownBlock = some g → v1.ownBlock ≠ some g
  ints : ∀ x ∈ A ++ B, IntsO (fun k => k < w.heap.size) W x.2 x.1.ints
  below : Below w.heap.size w W
  lo : w.heap.size ≤ rb ∧ w.heap.size ≤ pb ∧ rb ≠ pb
section
variable {w W W' : World} {rb pb nb : Nat} {u0 u1 v0 v1 : Value} {A B : List PV} {x : PV}
/-- What is of another type may be turned. -/
theorem TM.keep (h : TM w rb pb u0 u1 v0 v1 A B W) (hk : Keep (fun k => k < w.heap.size ∨ typ W k 52 ∨ typ W k 64) W W') : TM w rb pb u0 u1 v0 v1 A B W' := by
  refine ⟨hk.blk h.res (.inr (.inl (typ_blk h.res))), hk.blk h.arr (.inr (.inl (typ_blk h.arr))), rowS_keep h.r0 hk fun g e => ?_, rowS_keep h.r1 hk fun g e => ?_, h.apart, fun x hx => (h.ints x hx).keep (hk.mono fun _ _ h => .inl h), hk.below h.below (fun k hk => .inl hk) h.below.size, h.lo⟩
  · obtain ⟨_, _, cur, h7⟩ := row_lt h.r0 e
    exact .inr (.inr ⟨_, _, h7⟩)
  · obtain ⟨_, _, cur, h7⟩ := row_lt h.r1 e
    exact .inr (.inr ⟨_, _, h7⟩)
theorem TM.on (h : TM w rb pb u0 u1 v0 v1 A B W) (hb : Below W.heap.size W W') : TM w rb pb u0 u1 v0 v1 A B W' := h.keep (keep_on hb)
theorem TM.swap (h : TM w rb pb u0 u1 v0 v1 A B W) : W.ownsRow w.heap.size 64 5 v1 B.length (flatP B) ∧ ∀ g, v1.ownBlock = some g → v0.ownBlock ≠ some g := ⟨h.r1, fun g e e2 => h.apart g e2 e⟩
theorem psC_one {O : Nat → Prop} (hx : IntsO O W x.2 x.1.ints) : ∀ u ∈ psC x, u.oneCell' = true := fun u hu => by
  obtain ⟨p, c, h1, _⟩ := hx
  simp only [psC, List.mem_cons, List.not_mem_nil, or_false] at hu
  rcases hu with rfl | rfl | rfl | rfl | rfl
  · rfl
  · rfl
  · rfl
  · rw [h1]; rfl
  · rfl
theorem TM.app0 (h : TM w rb pb u0 u1 v0 v1 A B W) (hB : Blk W nb 64 (psC x)) (hx : IntsO (fun k => k < w.heap.size) W x.2 x.1.ints) (hA : A.length ≤ 1000) :
    ∃ v' W', (∀ ty, (Builtin.append_ #[26, 26] ty #[v0, .slice (some ⟨nb, 0, none⟩) 1 1]).run Try.prog W = .ok v' W') ∧ TM w rb pb u0 u1 v' v1 (A ++ [x]) B W' ∧ Below w.heap.size W W' ∧ Keep (fun k => ¬ typ W k 64) W W' := by
  have hat : At W (some ⟨nb, 0, none⟩) (psC x) := .inr ⟨nb, 0, rfl, Nat.zero_le _, hB.lt, fun j u hj => by rw [Nat.zero_add]; exact hB.cell j hj⟩
  obtain ⟨v', W', hrun, ho, _, hg⟩ := append_rowA elemPs w.heap.size v0 A.length (flatP A) (some ⟨nb, 0, none⟩) 1 1 (psC x) W (by omega) (by omega) rfl (psC_one hx) h.r0 hat h.below.size
  have hk : Keep (fun k => v0.ownBlock ≠ some k) W W' := ⟨hg.os, hg.tape, hg.output, hg.size, hg.block⟩
  have hb : Below w.heap.size W W' := ⟨hg.os, hg.tape, hg.output, hg.size, fun k hk => hg.block k (Nat.lt_of_lt_of_le hk h.below.size) fun e => by have := (row_lt h.r0 e).1; omega⟩
  have hne : ∀ {k t}, typ W k t → t ≠ 64 → v0.ownBlock ≠ some k := fun {k t} h7 hne e => by
    obtain ⟨_, _, cur, h8⟩ := row_lt h.r0 e
    exact typ_ne h7 ⟨_, _, h8⟩ hne rfl
  have hlt : ∀ k, k < w.heap.size → v0.ownBlock ≠ some k := fun k hk e => by have := (row_lt h.r0 e).1; omega
  refine ⟨v', W', hrun, ⟨hk.blk h.res (hne (typ_blk h.res) (by decide)), hk.blk h.arr (hne (typ_blk h.arr) (by decide)), ?_, rowS_keep h.r1 hk fun g e e2 => h.apart g e2 e, fun g e e2 => ?_, fun y hy => ?_, h.below.trans hb, h.lo⟩, hb, hk.mono fun k _ h7 e => by
    obtain ⟨_, _, cur, h8⟩ := row_lt h.r0 e
    exact h7 ⟨_, _, h8⟩⟩
  · rw [List.length_append, flatP_app]
    exact ho
  · rcases hg.lies g e with h7 | h7
    · exact h.apart g h7 e2
    · have := (row_lt h.r1 e2).2.1; omega
  · have : IntsO (fun k => k < w.heap.size) W y.2 y.1.ints := by
      simp only [List.mem_append, List.mem_singleton] at hy
      rcases hy with (hy | hy) | hy
      · exact h.ints y (List.mem_append_left _ hy)
      · subst hy; exact hx
      · exact h.ints y (List.mem_append_right _ hy)
    exact this.keep (hk.mono fun k _ h7 => hlt k h7)
theorem TM.app1 (h : TM w rb pb u0 u1 v0 v1 A B W) (hB : Blk W nb 64 (psC x)) (hx : IntsO (fun k => k < w.heap.size) W x.2 x.1.ints) (hA : B.length ≤ 1000) :
    ∃ v' W', (∀ ty, (Builtin.append_ #[26, 26] ty #[v1, .slice (some ⟨nb, 0, none⟩) 1 1]).run Try.prog W = .ok v' W') ∧ TM w rb pb u0 u1 v0 v' A (B ++ [x]) W' ∧ Below w.heap.size W W' ∧ Keep (fun k => ¬ typ W k 64) W W' := by
  have h' : TM w rb pb u0 u1 v1 v0 B A W := ⟨h.res, h.arr, h.r1, h.r0, h.swap.2, fun y hy => h.ints y (by simp only [List.mem_append] at hy ⊢; exact hy.symm), h.below, h.lo⟩
  obtain ⟨v', W', h1, h2, h3⟩ := h'.app0 hB hx hA
  exact ⟨v', W', h1, ⟨h2.res, h2.arr, h2.r1, h2.r0, fun g e e2 => h2.apart g e2 e, fun y hy => h2.ints y (by simp only [List.mem_append, List.mem_singleton] at hy ⊢; rcases hy with hy | hy | hy; exact .inr hy; exact .inl (.inl hy); exact .inl (.inr hy)), h2.below, h2.lo⟩, h3⟩
theorem TM.st (h : TM w rb pb u0 u1 v0 v1 A B W) (i : Nat) (v : Value) (u0' u1' : Value) (he : [u0, u1].set i v = [u0', u1']) : TM w rb pb u0' u1' v0 v1 A B (W.setCell ⟨pb, i, none⟩ v) := by
  have hbut := but_set W pb i v
  have tp := typ_blk h.arr
  have hk : Keep (fun k => k ≠ pb) W (W.setCell ⟨pb, i, none⟩ v) := keep_but hbut fun h => h rfl
  have hlo := h.lo
  refine ⟨h.res.but hbut hlo.2.2, ?_, rowS_keep h.r0 hk fun g e => ?_, rowS_keep h.r1 hk fun g e => ?_, h.apart, fun x hx => (h.ints x hx).keep (hk.mono fun k _ h7 => by omega), below_but h.below hbut hlo.2.1, hlo⟩
  · have := h.arr.set i v
    rw [he] at this
    exact this
  · obtain ⟨_, _, cur, h7⟩ := row_lt h.r0 e
    exact typ_ne ⟨_, _, h7⟩ tp (by decide)
  · obtain ⟨_, _, cur, h7⟩ := row_lt h.r1 e
    exact typ_ne ⟨_, _, h7⟩ tp (by decide)
/-- The two lists, as they are told. -/
theorem TM.pas (h : TM w rb pb u0 u1 v0 v1 A B W) : PasO (fun _ => True) W v0 (A.map Prod.fst) ∧ PasO (fun _ => True) W v1 (B.map Prod.fst) := by
  obtain ⟨p, c, e, hat, hc⟩ := AtO.of h.r0
  obtain ⟨p', c', e', hat', hc'⟩ := AtO.of h.r1
  exact ⟨⟨A, rfl, ⟨p, c, e, hc, hat.mono fun _ _ _ => trivial⟩, fun x hx => (h.ints x (List.mem_append_left _ hx)).mono fun _ _ _ => trivial⟩, ⟨B, rfl, ⟨p', c', e', hc', hat'.mono fun _ _ _ => trivial⟩, fun x hx => (h.ints x (List.mem_append_right _ hx)).mono fun _ _ _ => trivial⟩⟩
end
theorem grow_keep {hi : Nat} {e : TypeId} {w w' : World} (h : RowGrow hi e w w') : Keep (fun k => ¬ typ w k e) w w' := by
  obtain ⟨r, h1, h2⟩ := h.block
  exact ⟨h.os, h.tape, h.output, h.size, fun k hk h7 => h2 k hk fun e' => by
    obtain ⟨_, cs, fr, h8⟩ := h1 k e'
    exact h7 ⟨cs, fr, h8⟩⟩
theorem results_ttc {P : Program} {fn : Func} {p u x : Tmp} {t : TypeId} {cs : List Value} {v1 v2 : Value} (hagg : ∀ w, (isAgg t).run P w = .ok true w) (hi : (P.info? t).map (·.size) = some cs.length) (h : fn.results = #[.tmp u, .tmp x, .cell p t]) (tmps : Array Value) (w : World) {b : Nat}
    (hp : tmps.getD p undef = .pointer (some ⟨b, 0, none⟩)) (h1 : tmps.getD u undef = v1) (h2 : tmps.getD x undef = v2) (hb : Blk w b t cs) : (results fn tmps).run P w = .ok (.tuple #[v1, v2, .agg cs.toArray]) w := by
  have hp' : tmps[p]?.getD undef = .pointer (some ⟨b, 0, none⟩) := by simpa using hp
  have h1' : tmps[u]?.getD undef = v1 := by simpa using h1
  have h2' : tmps[x]?.getD undef = v2 := by simpa using h2
  simp [results, h, hp', h1', h2', asAddr, run_loadVar_blk hagg hi hb]
theorem info52 : (Try.prog.info? 52).map (·.size) = some 2 := by kernel_rfl
theorem agg52 : ∀ w, (isAgg 52).run Try.prog w = .ok true w := fun w => by kernel_rfl

end Go.Proofs.Ytmhkfapafedglaa.K
