/- Two joined sockets, and two rows of a law's own beside them. -/
import Derived.Test.YtfhkdndgiofidaaXLives
import Derived.Test.YtfhkdndgiofidaaXPassed
import Derived.Test.YtfhkdndgiofidaaXOpen
import Derived.Test.YtfhkdndgiofidaaKIO
namespace Go.Proofs.Ytfhkdndgiofidaa.X
open Go Go.RowKit Go.Maps Go.Proofs.Ytfhkdndgiofidaa.K

/-- Two sockets, and two rows beside them. -/
structure X2 (w : World) (P : Nat → Prop) (W : World) (sb mb n : Nat) (g : Nat → Nat) (sa : Bool) (ps : List Pt) (iv ov : Value) (I O : List UInt8) : Prop where
  xs : XS w P W sb mb n 3 g (twoT sa ps)
  inn : W.ownsRow w.heap.size 5 1 iv I.length (bytesV I)
  out : W.ownsRow w.heap.size 5 1 ov O.length (bytesV O)
  apart : ∀ b, iv.ownBlock = some b → ov.ownBlock ≠ some b
  free : ∀ b, iv.ownBlock = some b ∨ ov.ownBlock = some b → ¬ P b
  eq : I = O ++ bytesF ps
section
variable {w W W' : World} {P P' : Nat → Prop} {sb mb n m : Nat} {g : Nat → Nat} {sa sa' : Bool} {ps ps' : List Pt} {iv ov v' : Value} {I O L : List UInt8}
theorem X2.lt (h : X2 w P W sb mb n g sa ps iv ov I O) : ∀ b, iv.ownBlock = some b ∨ ov.ownBlock = some b → w.heap.size ≤ b ∧ b < W.heap.size := fun b hb => by
  rcases hb with hb | hb
  · exact ⟨(row_lt h.inn hb).1, (row_lt h.inn hb).2.1⟩
  · exact ⟨(row_lt h.out hb).1, (row_lt h.out hb).2.1⟩
/-- The store is turned. -/
theorem X2.moves (h : X2 w P W sb mb n g sa ps iv ov I O) (hs : StG P' W' sb mb n 3 g (twoT sa' ps')) (hm : Moves P P' W W') : XS w P' W' sb mb n 3 g (twoT sa' ps') ∧ W'.ownsRow w.heap.size 5 1 iv I.length (bytesV I) ∧ W'.ownsRow w.heap.size 5 1 ov O.length (bytesV O) ∧ ∀ b, iv.ownBlock = some b ∨ ov.ownBlock = some b → ¬ P' b := by
  refine ⟨h.xs.moves hs hm, rowS_keep h.inn hm.keep fun b e => h.free b (.inl e), rowS_keep h.out hm.keep fun b e => h.free b (.inr e), fun b e h7 => ?_⟩
  rcases hm.sub b h7 with h8 | h8
  · exact h.free b e h8
  · have := (h.lt b e).2; omega
/-- A row beside grows. -/
theorem grown_xs (hx : XS w P W sb mb n 3 g (twoT sa ps)) (hf : ∀ b, iv.ownBlock = some b → ¬ P b ∧ w.heap.size ≤ b) (hg : Grows iv v' W W') : XS w P W' sb mb n 3 g (twoT sa ps) :=
  ⟨hx.st.keep ⟨hg.os, hg.tape, hg.output, hg.size, fun k hk h7 => hg.block k hk fun e => (hf k e).1 h7⟩, hx.lo, hx.below.trans ⟨hg.os, hg.tape, hg.output, hg.size, fun k hk => hg.block k (Nat.lt_of_lt_of_le hk hx.below.size) fun e => by have := (hf k e).2; omega⟩⟩
theorem X2.put (h : X2 w P W sb mb n g sa ps iv ov I O) {w1 : World} (hs : StG P' w1 sb mb n 3 g (twoT sa ps')) (hm : Moves P P' W w1) {Y : List UInt8} (ho : W'.ownsRow w.heap.size 5 1 v' m (bytesV (I ++ Y))) (hg : Grows iv v' w1 W') (heq : bytesF ps' = bytesF ps ++ Y) : X2 w P' W' sb mb n g sa ps' v' ov (I ++ Y) O := by
  obtain ⟨h1, h2, h3, h4⟩ := h.moves hs hm
  obtain rfl : m = (I ++ Y).length := by have := ho.1; simpa using this.symm
  have hlt := fun b e => (row_lt h2 (g := b) e)
  refine ⟨grown_xs h1 (fun b e => ⟨h4 b (.inl e), (hlt b e).1⟩) hg, ho, rowS_keep h3 (O := fun k => iv.ownBlock ≠ some k) ⟨hg.os, hg.tape, hg.output, hg.size, hg.block⟩ fun b e e2 => h.apart b e2 e, fun b e e2 => ?_, fun b e => ?_, by rw [heq, h.eq, List.append_assoc]⟩
  · rcases hg.lies b e with h7 | h7
    · exact h.apart b h7 e2
    · have := (row_lt h3 e2).2.1; omega
  · rcases e with e | e
    · rcases hg.lies b e with h7 | h7
      · exact h4 b (.inl h7)
      · exact fun h8 => by have := h1.st.lt h8; omega
    · exact h4 b (.inr e)
theorem X2.take (h : X2 w P W sb mb n g sa ps iv ov I O) {w1 : World} (hs : StG P' w1 sb mb n 3 g (twoT sa ps')) (hm : Moves P P' W w1) {Y : List UInt8} (ho : W'.ownsRow w.heap.size 5 1 v' m (bytesV (O ++ Y))) (hg : Grows ov v' w1 W') (heq : bytesF ps = Y ++ bytesF ps') : X2 w P' W' sb mb n g sa ps' iv v' I (O ++ Y) := by
  obtain ⟨h1, h2, h3, h4⟩ := h.moves hs hm
  obtain rfl : m = (O ++ Y).length := by have := ho.1; simpa using this.symm
  have hlt := fun b e => (row_lt h3 (g := b) e)
  refine ⟨grown_xs h1 (fun b e => ⟨h4 b (.inr e), (hlt b e).1⟩) hg, rowS_keep h2 (O := fun k => ov.ownBlock ≠ some k) ⟨hg.os, hg.tape, hg.output, hg.size, hg.block⟩ (fun b e e2 => h.apart b e e2), ho, fun b e e2 => ?_, fun b e => ?_, by rw [h.eq, heq, List.append_assoc]⟩
  · rcases hg.lies b e2 with h7 | h7
    · exact h.apart b e h7
    · have := (row_lt h2 e).2.1; omega
  · rcases e with e | e
    · exact h4 b (.inl e)
    · rcases hg.lies b e with h7 | h7
      · exact h4 b (.inr h7)
      · exact fun h8 => by have := h1.st.lt h8; omega
theorem X2.ok (h : X2 w P W sb mb n g sa ps iv ov I O) : Ok n ps := by
  obtain ⟨_, _, _, _, _, hq, _⟩ := h.xs.st.queue (k := 2) (x := twoK ps) rfl
  exact hq.ok
end
/-- A store ahead of a call and behind it. -/
structure SnS (w wa : World) (P : Nat → Prop) (sb mb n : Nat) (g : Nat → Nat) (T' : Tb) (f : Bool) (W : World) : Prop where
  one : f = true → Below wa.heap.size wa W
  two : f = false → ∃ P', StG P' W sb mb n 3 g T' ∧ Moves P P' wa W
  below : Below w.heap.size w W
  size : wa.heap.size ≤ W.heap.size
section
variable {w wa W W' : World} {P P' : Nat → Prop} {sb mb n : Nat} {g : Nat → Nat} {T' : Tb} {f : Bool}
theorem SnS.on (h : SnS w wa P sb mb n g T' f W) (hb : Below W.heap.size W W') : SnS w wa P sb mb n g T' f W' :=
  ⟨fun e => on_trans (h.one e) hb, fun e => by obtain ⟨P', h1, h2⟩ := h.two e; exact ⟨P', h1.on hb, h2.trans (.on hb)⟩, on_trans h.below hb, Nat.le_trans h.size hb.size⟩
theorem SnS.did (h : SnS w wa P sb mb n g T' true W) (hs : StG P' W' sb mb n 3 g T') (hm : Moves P P' W W') (hP : ∀ k, P k → w.heap.size ≤ k) : SnS w wa P sb mb n g T' false W' :=
  ⟨(fun e => by cases e), fun _ => ⟨P', hs, (Moves.on (h.one rfl)).trans hm⟩, (hm.below h.below hP h.below.size).1, Nat.le_trans h.size hm.keep.size⟩
end
def km (w : World) : Kd 0 := Kd.st (fun v W => ∃ b, v = .slice (some ⟨b, 0, none⟩) 0 0 ∧ OwnV w.heap.size 5 W v [] ∧ w.heap.size ≤ b) fun _ _ _ ⟨b, h1, h2, h3⟩ hb => ⟨b, h1, ownV_on h2 hb, h3⟩
def kp (w : World) (L : List Ps) : Kd 0 := Kd.st (fun v W => PasO (fun k => w.heap.size ≤ k) W v L) fun _ _ _ h hb => h.keep (keep_on hb)
def IsSl2 (v : Value) : Prop := ∃ p l c, v = .slice p l c
/-- What Recv tells. -/
def krt (w : World) (T : List UInt8) (E : Int) : Kd 0 := Kd.st (fun v W => ∃ v1 v2 v3, v = .tuple #[v1, v2, v3, .int .i64 E] ∧ BytO (fun k => w.heap.size ≤ k) W v1 T ∧ IsSl2 v2 ∧ IsSl2 v3) fun _ _ _ ⟨v1, v2, v3, h1, h2, h3⟩ hb => ⟨v1, v2, v3, h1, h2.keep (keep_on hb), h3⟩
def ks2 : Kd 0 := Kd.st (fun v _ => IsSl2 v) fun _ _ _ h _ => h
section
variable {F : Nat → Prop} {w : World} {L : List Ps} {T : List UInt8} {E : Int}
theorem km_stays (h : ∀ k, F k → k < w.heap.size) : Stays F (km w) := fun _ _ _ ⟨b, h1, h2, h3⟩ hk => ⟨b, h1, rowS_keep h2 hk fun g e h7 => by rw [h1] at e; cases e; have : b < w.heap.size := h _ h7; omega, h3⟩
theorem kp_stays (h : ∀ k, F k → k < w.heap.size) : Stays F (kp w L) := fun _ _ _ h1 hk => PasO.keep h1 (hk.mono fun k _ h7 h8 => by have := h k h8; omega)
theorem krt_stays (h : ∀ k, F k → k < w.heap.size) : Stays F (krt w T E) := fun _ _ _ ⟨v1, v2, v3, h1, h2, h3⟩ hk => ⟨v1, v2, v3, h1, h2.keep (hk.mono fun k _ h7 h8 => by have := h k h8; omega), h3⟩
theorem ks2_stays : Stays F ks2 := fun _ _ _ h _ => h
end
theorem elemByteS : ElemS Try.prog 28 5 (.int .u8 0) 1 1 := ⟨Try.underlying28, by kernel_rfl, rfl, by decide, by decide⟩
theorem en_passed : ∀ args w, (callFunc 27 args).run Try.prog w = .ok (.enter 27 args) w := fun _ _ => by simp [callFunc, Try.func27]; rfl
theorem en_send : ∀ args w, (callFunc 24 args).run Try.prog w = .ok (.enter 24 args) w := fun _ _ => by simp [callFunc, Try.func24]; rfl
theorem en_recv : ∀ args w, (callFunc 25 args).run Try.prog w = .ok (.enter 25 args) w := fun _ _ => by simp [callFunc, Try.func25]; rfl
/-- Two that are joined, in a new store. -/
theorem pair2 {P : Nat → Prop} {w : World} {sb mb n : Nat} {g : Nat → Nat} (h : StG P w sb mb n 1 g (fun _ => none)) (hn : 1 ≤ n ∧ n ≤ 4096) : Calls Try.prog 26 #[ptr sb] w fun e w' => e = .returned (.tuple #[.int .i64 1, .int .i64 2]) ∧ ∃ g' P', StG P' w' sb mb n 3 g' (twoT false []) ∧ Moves P P' w w' := by
  refine (pair_any h hn (by omega) rfl rfl (by omega)).mono ?_
  rintro e w' ⟨h1, g', P', h2, h3⟩
  rw [pair_two] at h2
  exact ⟨by rw [h1]; rfl, g', P', h2, h3⟩
/-- Shut of the first one for writing. -/
theorem shut2 {P : Nat → Prop} {w : World} {sb mb n : Nat} {g : Nat → Nat} {ps : List Pt} (h : StG P w sb mb n 3 g (twoT false ps)) : Calls Try.prog 28 #[ptr sb, .int .i64 1, .int .i64 1] w fun e w' => ∃ P' p l c, e = .returned (.tuple #[.slice p l c, .int .i64 0]) ∧ StG P' w' sb mb n 3 g (twoT true ps) ∧ Moves P P' w w' := by
  refine (shut_w (k := 1) (x := oneK false) h rfl rfl).mono ?_
  rintro e w' ⟨P', p, l, c, h1, h2, h3⟩
  rw [two_shut] at h2
  exact ⟨P', p, l, c, h1, h2, h3⟩
theorem take_less {n : Nat} {ps : List Pt} (h : Ok n ps) (h0 : ps ≠ []) : total (takeF ps 100 0).1 + 1 ≤ total ps := by
  have h1 := congrArg List.length (take_bytes ps 100 0)
  rw [List.length_append, bytesF_len, bytesF_len] at h1
  have h2 : (takeF ps 100 0).2.1 ≠ [] := by
    cases ps with
    | nil => exact absurd rfl h0
    | cons x r =>
      have := h.some x (by simp)
      simp [takeF]
      exact this
  have := List.length_pos_iff.2 h2
  omega

end Go.Proofs.Ytfhkdndgiofidaa.X
