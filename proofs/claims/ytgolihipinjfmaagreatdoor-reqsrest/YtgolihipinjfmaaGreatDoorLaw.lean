/- A range over a function whose iterator keeps its place in a cell of its own: what the caller owes for the statement, proved for every program. -/
import Derived.RangeFuncFrom
import Derived.RangeFuncLeaves
import Derived.RangeFuncCalls
namespace Go.Proofs.YtgolihipinjfmaaGreatDoor
open Go Go.RowKit

/-- The blocks of a set of numbers lie in W as in A. -/
def Same (p : Nat → Prop) (A W : World) : Prop := ∀ b, p b → W.heap[b]? = A.heap[b]?
theorem Same.trans {p : Nat → Prop} {A B C : World} (h : Same p A B) (k : Same p B C) : Same p A C := fun b hb => (k b hb).trans (h b hb)
theorem Same.put {p : Nat → Prop} (W : World) (l : Nat) (o : Obj) (h : ¬ p l) : Same p W (W.putObj l o) := fun _ hb => World.putObj_heap_other (fun e => h (e ▸ hb))

/-- The loop's record, and the block of its rounds' deferred calls ahead of it. -/
def Book (l : Nat) (r : Loop) (W : World) : Prop := W.heap[l + 1]? = some (.loop r) ∧ W.heap[l]? = some (.deferred (some []))
theorem Book.others {l : Nat} {r : Loop} {A B : World} (h : Book l r A) (k : KeepsOthers A B) : Book l r B := ⟨k.same _ _ h.1 rfl, k.same _ _ h.2 rfl⟩
theorem Book.turn {l : Nat} {r : Loop} {W : World} (h : Book l r W) (r' : Loop) : Book l r' (W.putObj (l + 1) (.loop r')) :=
  ⟨World.putObj_heap_same (Array.getElem?_eq_some_iff.1 h.1).1, (World.putObj_heap_other (by omega)).trans h.2⟩

variable {F : Fence} {n : Nat} {P : Program}

/-- What such an iterator promises: begun where Pre holds it hands out the pieces of a list that S allows, in whatever way the rounds go that leave the blocks of p alone; it stores into block s by itself. -/
def SeqCell {α : Type} (F : Fence) (n : Nat) (P : Program) (g : Nat) (lb : Array Value) (encs : α → Array Value) (Pre : World → Prop) (s : Nat) (p : Nat → Prop) (S Sp : List α → Prop) : Prop :=
  ∀ (l : Nat) (J Jx : List α → World → Prop) (W : World), Pre W → (∀ q A v, J q A → J q (A.setCell ⟨s, 0, none⟩ v)) →
    (∀ q x A, J q A → YieldAt F (n - 1) P l (encs x) A fun e B =>
      (e = .returned (.bool true) ∧ J (q ++ [x]) B ∧ Same p A B) ∨ (e = .returned (.bool false) ∧ Jx (q ++ [x]) B)) →
    J [] W →
    CallsIn F n P g (#[.func (.yield l) #[] #[]] ++ lb) W fun e B => (∃ v, e = .returned v) ∧ ((∃ xs, S xs ∧ J xs B) ∨ (∃ q, Sp q ∧ Jx q B))

/-- A round's end, by the way in which its body is left. -/
theorem round_ends {α : Type} {p : Nat → Prop} {I : List α → World → Prop} {Ix : Code → List α → World → Prop} {b : Nat} {r : Loop} (hb : ¬ p (b + 1)) (hI : OwnFrom b I) (hIx : ∀ c, OwnFrom b (Ix c)) {q : List α} {W W1 : World} (h1 : Same p W W1) (hbk : Book b { r with state := .busy } W1)
    {e : Exit} {a : Act} {W2 : World} (h : ownPostK (Same p) I Ix q W1 e a W2) :
    roundPost P (b + 1) (fun e B => (e = .returned (.bool true) ∧ (I q B ∧ Book b { r with state := .ready, pending := none } B) ∧ Same p W B) ∨ (e = .returned (.bool false) ∧ ∃ c, Ix c q B ∧ Book b { r with state := .done, pending := some c } B)) e a W2 := by
  have leave : ∀ c, KeepsOthers W1 W2 ∧ Ix c q W2 → ∃ v B, (Instr.endRound (b + 1) (some c)).run P W2 = .ok v B ∧
      ((Ending.returned v = .returned (.bool true) ∧ (I q B ∧ Book b { r with state := .ready, pending := none } B) ∧ Same p W B) ∨ (Ending.returned v = .returned (.bool false) ∧ ∃ c, Ix c q B ∧ Book b { r with state := .done, pending := some c } B)) := fun c hc => by
    have k := hbk.others hc.1
    exact ⟨_, _, run_endRound (some c) k.1, .inr ⟨rfl, c, (hIx c).putObj _ hc.2 (by omega) k.1 rfl, k.turn _⟩⟩
  cases e with
  | normal =>
    have k := hbk.others h.1
    exact ⟨_, _, run_endRound none k.1, .inl ⟨rfl, ⟨hI.putObj _ h.2.2 (by omega) k.1 rfl, k.turn _⟩, (h1.trans h.2.1).trans (Same.put _ _ _ hb)⟩⟩
  | ret => exact leave .ret h
  | exit id => exact leave (.exit id) h
  | goto t => exact leave (.goto t) h
  | panic _ => exact h.elim
  | outgrown => exact h.elim

theorem wpIn_rangeFunc_cell {α : Type} {g : Operand} {ps : Array Tmp} {assign body : Code} {Q : Exit → Act → World → Prop} {a : Act} {w : World}
    (hro : F.round = none) (h1 : 1 ≤ n) {gf : Nat} {lb : Array Value} (hg : a.eval g = .func (.func gf) #[] lb) (hFg : F.fn gf) (eg : ∀ args w, (callFunc gf args).run P w = .ok (.enter gf args) w)
    {encs : α → Array Value} {Pre : World → Prop} {s : Nat} {p : Nat → Prop} {S Sp : List α → Prop} (hseq : SeqCell F (n - 1) P gf lb encs Pre s p S Sp)
    (hPre : ∀ o1 o2, Pre ((w.alloc o1).alloc o2)) (hp : ∀ b, p b → b < w.heap.size) (hps : ∀ x, (encs x).size = ps.size)
    (I : List α → World → Prop) (Ix : Code → List α → World → Prop) (hI : OwnFrom w.heap.size I) (hIx : ∀ c, OwnFrom w.heap.size (Ix c)) (hIs : ∀ q A v, I q A → I q (A.setCell ⟨s, 0, none⟩ v)) (h0 : I [] w) (a₁ : α → Act)
    (hassign : ∀ (l : Nat) (x : α) (W : World) (K : Act → World → Prop), K (a₁ x) W →
      assign.wpIn (F.inRound l) (n - 1 - 1) P (Exit.then K (fun _ _ _ => False)) { tmps := (ps.zip (encs x)).foldl (fun t (i, v) => t.setIfInBounds i v) a.tmps, defers := [] } W)
    (hbody : ∀ (l : Nat) (q : List α) (x : α) (W : World), I q W → body.wpIn (F.inRound l) (n - 1 - 1) P (ownPostK (Same p) I Ix (q ++ [x]) W) (a₁ x) W)
    (hdone : ∀ (D : Nat) (xs : List α) (W : World), w.heap.size ≤ D → S xs → I xs W → W.heap[D]? = some (.deferred (some [])) → Q .normal { a with defers := { target := .collected D, args := #[] } :: a.defers } W)
    (hstop : ∀ (D : Nat) (c : Code) (q : List α) (W : World), w.heap.size ≤ D → Sp q → Ix c q W → W.heap[D]? = some (.deferred (some [])) → c.wpIn F n P Q { a with defers := { target := .collected D, args := #[] } :: a.defers } W) :
    (Code.rangeFunc g ps assign body).wpIn F n P Q a w := by
  have hb : ¬ p (w.heap.size + 1) := fun h => by have := hp _ h; omega
  refine wpIn_rangeFunc fun fn hfn => ?_
  obtain ⟨r, hr⟩ : ∃ r : Loop, r = { state := .ready, pending := none, fn, tmps := a.tmps, params := ps, assign, body, defers := w.heap.size } := ⟨_, rfl⟩
  have en : (Instr.enterLoop fn a.tmps ps assign body F.round).run P w = .ok (w.heap.size + 1, [{ target := .collected w.heap.size, args := #[] }]) ((w.alloc (.deferred (some []))).alloc (.loop r)) := by
    rw [hro, hr]; exact run_enterLoop_outer fn a.tmps ps assign body
  have hk : Book w.heap.size r ((w.alloc (.deferred (some []))).alloc (.loop r)) := by
    refine ⟨?_, (Below.heap_alloc _ _ _ (by simp)).trans (World.alloc_heap_new w _)⟩
    have := World.alloc_heap_new (w.alloc (.deferred (some []))) (.loop r)
    rwa [World.size_alloc] at this
  have hI1 := hI.alloc (.loop r) (hI.alloc (.deferred (some [])) h0)
  have hP1 := hPre (.deferred (some [])) (.loop r)
  generalize (w.alloc (.deferred (some []))).alloc (.loop r) = W1 at en hk hI1 hP1
  refine ⟨_, _, W1, { target := .fn (.func gf) lb, args := #[.func (.yield (w.heap.size + 1)) #[] #[]] }, W1, gf, #[.func (.yield (w.heap.size + 1)) #[] #[]] ++ lb, W1, en, ?_, fun f' hf' => ?_, ?_, fun _ => h1, ?_⟩
  · simp only [resolve, hg]; simp [go_sem]
  · simp [Target.leads] at hf'; subst hf'; exact hFg
  · simp [invoke, go_sem, eg]
  have hr1 : r.state = .ready := by rw [hr]
  have hr2 : { r with state := .ready, pending := none } = r := by rw [hr]
  refine (hseq (w.heap.size + 1) (fun q W => I q W ∧ Book w.heap.size r W) (fun q W => ∃ c, Ix c q W ∧ Book w.heap.size { r with state := .done, pending := some c } W) W1 hP1
    (fun q A v h => ⟨hIs q A v h.1, h.2.others (KeepsOthers.setCell _ _ _)⟩) (fun q x W h => ?_) ⟨hI1, hk⟩).mono ?_
  · have hy := run_yield (P := P) (args := encs x) h.2.1 (by rw [hr]; exact hps x)
    rw [hr] at hy
    refine ⟨fn, _, assign, body, hy, roundIn_of_wpIn hfn (hassign _ x W _ ⟨_, run_beginRound h.2.1 hr1, ?_⟩)⟩
    refine wpIn_mono (hbody _ q x _ (hI.putObj _ h.1 (by omega) h.2.1 rfl)) fun e a3 W3 hpost => ?_
    have := round_ends (P := P) hb hI hIx (Same.put W _ _ hb) (h.2.turn { r with state := .busy }) hpost
    rw [hr2] at this
    exact this
  · rintro e W2 ⟨⟨v, rfl⟩, (⟨xs, hS, hi, hkx⟩ | ⟨q, hSp, c, hi, hkx⟩)⟩
    · exact ⟨none, _, by have := run_endLoop (P := P) hkx.1 (by rw [hr1]; simp); rwa [show r.pending = none by rw [hr]] at this, hdone _ xs _ (Nat.le_refl _) hS (hI.putObj _ hi (by omega) hkx.1 rfl) ((World.putObj_heap_other (by omega)).trans hkx.2)⟩
    · exact ⟨some c, _, run_endLoop hkx.1 (by simp), hstop _ c q _ (Nat.le_refl _) hSp ((hIx c).putObj _ hi (by omega) hkx.1 rfl) ((World.putObj_heap_other (by omega)).trans hkx.2)⟩

end Go.Proofs.YtgolihipinjfmaaGreatDoor
