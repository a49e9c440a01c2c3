/- What the laws of layer 13 share: both made, the state of a round. -/
import Derived.Test.YtmccfcllehfebaaZAlike
import Derived.Test.YtmccfcllehfebaaZOpen
namespace Go.Proofs.Ytmccfcllehfebaa.Z
open Go Go.RowKit

/-- Table and reference, since 'w0'. -/
structure Rn (w0 : World) (tb : Nat) (v : Value) (S : List Sl) (n : Nat) (w : World) : Prop where
  is : ∃ D F, TabAt D F w tb S ∧ RowAt D w v S ∧ Lt D w ∧ (∀ k, F k → w0.heap.size ≤ k)
  below : Below w0.heap.size w0 w
  fits : Fits S
  len : S.length = n
theorem Rn.on {w0 w w' : World} {tb n : Nat} {v : Value} {S : List Sl} (h : Rn w0 tb v S n w) (hb : Below w.heap.size w w') : Rn w0 tb v S n w' := by
  obtain ⟨D, F, h1, h2, h3, h4⟩ := h.is
  exact ⟨⟨D, F, h1.on hb, h2.on hb, h3.on hb, h4⟩, on_trans h.below hb, h.fits, h.len⟩
/-- A round. -/
theorem Rn.does {w0 w : World} {tb n : Nat} {v : Value} {S : List Sl} (h : Rn w0 tb v S n w) (hn : n ≤ 64) {a : ActV} (ha : ActOk w0 a) :
    Calls Try.prog 9 #[ptr tb, v, .agg a.cells.toArray] w fun e w' => ∃ v' S', e = .returned (.tuple #[v', .bool true]) ∧ Rn w0 tb v' S' n w' := by
  obtain ⟨D, F, h1, h2, h3, h4⟩ := h.is
  refine (does_any h1 h2 h3 h.fits (by rw [h.len]; exact hn) a.k a.d a.x a.p a.q a.c a.e a.m (ha.sl.at_.below h.below (Nat.le_refl _)) (ha.at_.below h.below (Nat.le_refl _)) ha.sl.cap ha.cap ha.sl.rights).mono ?_
  rintro e w' ⟨F', v', rfl, g1, g2, g3⟩
  exact ⟨v', _, rfl, ⟨_, F', g1, g2, h3.goes g1 g3, fun k hk => by
    rcases g3.sub k hk with h7 | h7
    · exact h4 k h7
    · exact Nat.le_trans h.below.size h7⟩, g3.below h.below h4 h.below.size, doX_fits h.fits _ _ _ ha.sl.rights, by rw [doX_len]; exact h.len⟩
theorem Rn.alike {w0 w : World} {tb n : Nat} {v : Value} {S : List Sl} (h : Rn w0 tb v S n w) (hn : n ≤ 64) :
    Calls Try.prog 10 #[ptr tb, v] w fun e w' => e = .returned (.bool true) ∧ Rn w0 tb v S n w' := by
  obtain ⟨D, F, h1, h2, h3, h4⟩ := h.is
  exact (alike_any h1 h2 h3 h.fits (by rw [h.len]; exact hn)).mono fun e w' ⟨g1, g2⟩ => ⟨g1, h.on g2⟩
theorem en_new : ∀ args w, (callFunc 8 args).run Try.prog w = .ok (.enter 8 args) w := fun _ _ => by simp [callFunc, Try.func8]; rfl
def zRow (n : Nat) : List SV := List.replicate n (zS, .slice none 0 0)
set_option maxRecDepth 100000 in
theorem make_slots : ∀ (n : Nat) (_ : 1 ≤ n) (_ : n ≤ 8) (w : World), (Instr.makeSlice 25 (.int .i64 (n : Int)) (.int .i64 (n : Int))).run Try.prog w = .ok (.slice (some ⟨w.heap.size, 0, none⟩) n n) (w.alloc (.cells (flat (zRow n)).toArray 34))
  | 1, _, _, w => by kernel_rfl
  | 2, _, _, w => by kernel_rfl
  | 3, _, _, w => by kernel_rfl
  | 4, _, _, w => by kernel_rfl
  | 5, _, _, w => by kernel_rfl
  | 6, _, _, w => by kernel_rfl
  | 7, _, _, w => by kernel_rfl
  | 8, _, _, w => by kernel_rfl
  | 0, h, _, _ => absurd h (by decide)
  | n + 9, _, h, _ => absurd h (by omega)
/-- A table just made. -/
def kt (w : World) (n : Nat) : Kd 0 := ⟨fun v Y => ∃ tb rb cs, v = ptr tb ∧ TabAt (fun j => j = rb) (fun j => j = rb) Y tb (List.replicate n zS) ∧ Blk Y rb 77 cs ∧ w.heap.size ≤ rb, none, fun _ _ _ ⟨tb, rb, cs, e, h1, h2, h3⟩ hb => ⟨tb, rb, cs, e, h1.on hb, h2.on hb, h3⟩, fun _ _ _ _ _ _ hlt _ => absurd hlt (by omega)⟩
/-- A row of the reference's, just made. -/
def kz (n : Nat) : Kd 0 := ⟨fun v Y => ∃ g, v = .slice (some ⟨g, 0, none⟩) n n ∧ Blk Y g 34 (flat (zRow n)), none, fun _ _ _ ⟨g, e, h1⟩ hb => ⟨g, e, h1.on hb⟩, fun _ _ _ _ _ _ hlt _ => absurd hlt (by omega)⟩
theorem new_kt (n : Nat) (w Y : World) (h1 : 1 ≤ n) (h2 : n ≤ 64) (hb : Below w.heap.size w Y) : Calls Try.prog 8 #[.int .i64 (n : Int)] Y fun e Y' => ∃ v, e = .returned v ∧ (kt w n).ok v Y' ∧ Below Y.heap.size Y Y' := by
  refine (new_in noD n Y (lt_no Y) h1 h2).mono ?_
  rintro e Y' ⟨tb, F, rfl, ⟨rb, M, hM, ht⟩, hb2, hlow⟩
  have hz : ∀ (i : Nat) a, M[i]? = some a → a.sl.file = 0 := fun i a hi => by
    have : a.sl ∈ M.map Ent.sl := List.mem_map.2 ⟨a, List.mem_of_getElem? hi, rfl⟩
    rw [hM] at this
    rw [List.eq_of_mem_replicate this]; rfl
  refine ⟨_, rfl, ⟨tb, rb, _, rfl, ⟨rb, M, hM, ht.box, ht.row, fun i a hi hf => absurd (hz i a hi) hf, fun i j a b hi _ _ hf => absurd (hz i a hi) hf, rfl, fun k hk => ⟨hk, by rw [hk]; exact ht.row.lt⟩, fun h => ?_⟩, ht.row, Nat.le_trans hb.size (hlow rb ht.frow)⟩, hb2⟩
  have h' : tb = rb := h
  subst h'
  exact blk_ne ht.box ht.row (by decide) rfl
/-- Both made. -/
theorem rn_start {w Y : World} {n : Nat} {v u : Value} (hb : Below w.heap.size w Y) (h1 : (kt w n).ok v Y) (h2 : (kz n).ok u Y) : ∃ tb, v = ptr tb ∧ Rn w tb u (List.replicate n zS) n Y := by
  obtain ⟨tb, rb, cs, rfl, ht, hB, hl⟩ := h1
  obtain ⟨g, rfl, hG⟩ := h2
  refine ⟨tb, rfl, ⟨⟨_, _, ht, ⟨zRow n, by simp [zRow], ⟨some ⟨g, 0, none⟩, n, by simp [zRow], .inr ⟨g, 0, rfl, fun h => blk_ne hG hB (by decide) h, hG.lt, fun j u hj => by rw [Nat.zero_add]; exact hG.cell j hj⟩⟩, fun e he => ?_⟩, fun k hk => (ht.sub k hk).2, fun k hk => by rw [show k = rb from hk]; exact hl⟩, hb, Fits.rep n, by simp⟩⟩
  rw [List.eq_of_mem_replicate he]
  exact .nil _ _

end Go.Proofs.Ytmccfcllehfebaa.Z
