/- A range over a function, for an iterator whose contract names what it does to memory and what its rounds must keep: the law, of no program. -/
import Derived.RangeFuncNested
namespace Go.Proofs.YtgolihipinjfmaaGreatDoor.C
open Go Go.RowKit

/-- The loop's record, and the block of its rounds' deferred calls ahead of it. -/
def Book (l : Nat) (r : Loop) (W : World) : Prop := W.heap[l + 1]? = some (.loop r) ∧ W.heap[l]? = some (.deferred (some []))
theorem Book.others {l : Nat} {r : Loop} {A B : World} (h : Book l r A) (k : KeepsFrom l A B) : Book l r B := ⟨k.same _ _ (by omega) h.1 rfl, k.same _ _ (Nat.le_refl _) h.2 rfl⟩
theorem Book.turn {l : Nat} {r : Loop} {W : World} (h : Book l r W) (r' : Loop) : Book l r' (W.putObj (l + 1) (.loop r')) :=
  ⟨World.putObj_heap_same (Array.getElem?_eq_some_iff.1 h.1).1, (World.putObj_heap_other (by omega)).trans h.2⟩

variable {F : Fence} {n : Nat} {P : Program}

/-- What such an iterator promises, begun where Pre holds: it does to memory what st allows while the rounds go on, what sx allows behind a round that has left; each round keeps kp. -/
def SeqG {α : Type} (F : Fence) (n : Nat) (P : Program) (g : Nat) (lb : Array Value) (encs : α → Array Value) (Pre : World → Prop) (st sx kp : Nat → World → World → Prop) (S : List α → Prop) : Prop :=
  ∀ (l : Nat) (J Jx : List α → World → Prop) (W : World), Pre W →
    (∀ q A B, J q A → st W.heap.size A B → J q B) → (∀ q A B, Jx q A → sx W.heap.size A B → Jx q B) →
    (∀ q x A, J q A → YieldAt F (n - 1) P l (encs x) A fun e B =>
      (e = .returned (.bool true) ∧ J (q ++ [x]) B ∧ kp W.heap.size A B) ∨ (e = .returned (.bool false) ∧ Jx (q ++ [x]) B ∧ kp W.heap.size A B)) →
    J [] W →
    CallsIn F n P g (#[.func (.yield l) #[] #[]] ++ lb) W fun e B => (∃ v, e = .returned v) ∧ ((∃ xs, S xs ∧ J xs B) ∨ (∃ q, Jx q B))

/-- The ways in which a round may be left: it goes on, or the function returns. -/
def postG {α : Type} (B : Nat) (kp : World → World → Prop) (I Ix : List α → World → Prop) (xs : List α) (W : World) : Exit → Act → World → Prop
  | .normal, _, W' => KeepsFrom B W W' ∧ kp W W' ∧ I xs W'
  | .ret, _, W' => KeepsFrom B W W' ∧ kp W W' ∧ Ix xs W'
  | _, _, _ => False

theorem round_ends {α : Type} {kp : World → World → Prop} {I Ix : List α → World → Prop} {b : Nat} {r : Loop} (hkp : ∀ W o, kp W (W.putObj (b + 1) o)) (hkt : ∀ A B C, kp A B → kp B C → kp A C) (hI : OwnFrom b I) (hIx : OwnFrom b Ix) {q : List α} {W W1 : World} (h1 : kp W W1) (hbk : Book b { r with state := .busy } W1)
    {e : Exit} {a : Act} {W2 : World} (h : postG b kp I Ix q W1 e a W2) :
    roundPost P (b + 1) (fun e B => (e = .returned (.bool true) ∧ (I q B ∧ Book b { r with state := .ready, pending := none } B) ∧ kp W B) ∨ (e = .returned (.bool false) ∧ (Ix q B ∧ Book b { r with state := .done, pending := some .ret } B) ∧ kp W B)) e a W2 := by
  cases e with
  | normal =>
    have k := hbk.others h.1
    exact ⟨_, _, run_endRound none k.1, .inl ⟨rfl, ⟨hI.putObj _ h.2.2 (by omega) k.1 rfl, k.turn _⟩, hkt _ _ _ (hkt _ _ _ h1 h.2.1) (hkp _ _)⟩⟩
  | ret =>
    have k := hbk.others h.1
    exact ⟨_, _, run_endRound (some .ret) k.1, .inr ⟨rfl, ⟨hIx.putObj _ h.2.2 (by omega) k.1 rfl, k.turn _⟩, hkt _ _ _ (hkt _ _ _ h1 h.2.1) (hkp _ _)⟩⟩
  | exit _ => exact h.elim
  | goto _ => exact h.elim
  | panic _ => exact h.elim
  | outgrown => exact h.elim

theorem wpIn_rangeFunc_G {α : Type} {g : Operand} {ps : Array Tmp} {assign body : Code} {Q : Exit → Act → World → Prop} {a : Act} {w : World}
    (hro : F.round = none) (h1 : 1 ≤ n) {gf : Nat} {lb : Array Value} (hg : a.eval g = .func (.func gf) #[] lb) (hFg : F.fn gf) (eg : ∀ args w, (callFunc gf args).run P w = .ok (.enter gf args) w)
    {encs : α → Array Value} {Pre : World → Prop} {st sx kp : Nat → World → World → Prop} {S : List α → Prop} (hseq : SeqG F (n - 1) P gf lb encs Pre st sx kp S)
    (hPre : ∀ o1 o2, Pre ((w.alloc o1).alloc o2)) (hps : ∀ x, (encs x).size = ps.size)
    (hst : ∀ r A B, Book w.heap.size r A → st (w.heap.size + 2) A B → Book w.heap.size r B) (hsx : ∀ r A B, Book w.heap.size r A → sx (w.heap.size + 2) A B → Book w.heap.size r B)
    (hkp : ∀ W o, kp (w.heap.size + 2) W (W.putObj (w.heap.size + 1) o)) (hkt : ∀ A B C, kp (w.heap.size + 2) A B → kp (w.heap.size + 2) B C → kp (w.heap.size + 2) A C)
    (I Ix : List α → World → Prop) (hI : OwnFrom w.heap.size I) (hIx : OwnFrom w.heap.size Ix) (hIs : ∀ q A B, I q A → st (w.heap.size + 2) A B → I q B) (hIxs : ∀ q A B, Ix q A → sx (w.heap.size + 2) A B → Ix q B) (h0 : I [] w) (a₁ : α → Act)
    (hassign : ∀ (l : Nat) (x : α) (W : World) (K : Act → World → Prop), K (a₁ x) W →
      assign.wpIn (F.inRound l) (n - 1 - 1) P (Exit.then K (fun _ _ _ => False)) { tmps := (ps.zip (encs x)).foldl (fun t (i, v) => t.setIfInBounds i v) a.tmps, defers := [] } W)
    (hbody : ∀ (l : Nat) (q : List α) (x : α) (W : World), I q W → body.wpIn (F.inRound l) (n - 1 - 1) P (postG w.heap.size (kp (w.heap.size + 2)) I Ix (q ++ [x]) W) (a₁ x) W)
    (hdone : ∀ (D : Nat) (xs : List α) (W : World), w.heap.size ≤ D → S xs → I xs W → W.heap[D]? = some (.deferred (some [])) → Q .normal { a with defers := { target := .collected D, args := #[] } :: a.defers } W)
    (hstop : ∀ (D : Nat) (q : List α) (W : World), w.heap.size ≤ D → Ix q W → W.heap[D]? = some (.deferred (some [])) → Code.ret.wpIn F n P Q { a with defers := { target := .collected D, args := #[] } :: a.defers } W) :
    (Code.rangeFunc g ps assign body).wpIn F n P Q a w := by
  refine wpIn_rangeFunc fun fn hfn => ?_
  obtain ⟨r, hr⟩ : ∃ r : Loop, r = { state := .ready, pending := none, fn, tmps := a.tmps, params := ps, assign, body, defers := w.heap.size } := ⟨_, rfl⟩
  have en : (Instr.enterLoop fn a.tmps ps assign body F.round).run P w = .ok (w.heap.size + 1, [{ target := .collected w.heap.size, args := #[] }]) ((w.alloc (.deferred (some []))).alloc (.loop r)) := by
    rw [hro, hr]; exact run_enterLoop_outer fn a.tmps ps assign body
  have hk : Book w.heap.size r ((w.alloc (.deferred (some []))).alloc (.loop r)) := by
    refine ⟨?_, (Below.heap_alloc _ _ _ (by simp)).trans (World.alloc_heap_new w _)⟩
    have := World.alloc_heap_new (w.alloc (.deferred (some []))) (.loop r)
    rwa [World.size_alloc] at this
  have hI1 := hI.alloc (.loop r) (hI.alloc (.deferred (some [])) h0)
  have hP1 := hPre (.deferred (some [])) (.loop r)
  have hz : ((w.alloc (.deferred (some []))).alloc (.loop r)).heap.size = w.heap.size + 2 := by simp
  generalize (w.alloc (.deferred (some []))).alloc (.loop r) = W1 at en hk hI1 hP1 hz
  refine ⟨_, _, W1, { target := .fn (.func gf) lb, args := #[.func (.yield (w.heap.size + 1)) #[] #[]] }, W1, gf, #[.func (.yield (w.heap.size + 1)) #[] #[]] ++ lb, W1, en, ?_, fun f' hf' => ?_, ?_, fun _ => h1, ?_⟩
  · simp only [resolve, hg]; simp [go_sem]
  · simp [Target.leads] at hf'; subst hf'; exact hFg
  · simp [invoke, go_sem, eg]
  have hr1 : r.state = .ready := by rw [hr]
  have hr2 : { r with state := .ready, pending := none } = r := by rw [hr]
  refine (hseq (w.heap.size + 1) (fun q W => I q W ∧ Book w.heap.size r W) (fun q W => Ix q W ∧ Book w.heap.size { r with state := .done, pending := some .ret } W) W1 hP1
    (fun q A B h hs => by rw [hz] at hs; exact ⟨hIs q A B h.1 hs, hst _ A B h.2 hs⟩) (fun q A B h hs => by rw [hz] at hs; exact ⟨hIxs q A B h.1 hs, hsx _ A B h.2 hs⟩) (fun q x W h => ?_) ⟨hI1, hk⟩).mono ?_
  · rw [hz]
    have hy := run_yield (P := P) (args := encs x) h.2.1 (by rw [hr]; exact hps x)
    rw [hr] at hy
    refine ⟨fn, _, assign, body, hy, roundIn_of_wpIn hfn (hassign _ x W _ ⟨_, run_beginRound h.2.1 hr1, ?_⟩)⟩
    refine wpIn_mono (hbody _ q x _ (hI.putObj _ h.1 (by omega) h.2.1 rfl)) fun e a3 W3 hpost => ?_
    have := round_ends (P := P) hkp hkt hI hIx (hkp W _) (h.2.turn { r with state := .busy }) hpost
    rw [hr2] at this
    exact this
  · rintro e W2 ⟨⟨v, rfl⟩, (⟨xs, hS, hi, hkx⟩ | ⟨q, hi, hkx⟩)⟩
    · exact ⟨none, _, by have := run_endLoop (P := P) hkx.1 (by rw [hr1]; simp); rwa [show r.pending = none by rw [hr]] at this, hdone _ xs _ (Nat.le_refl _) hS (hI.putObj _ hi (by omega) hkx.1 rfl) ((World.putObj_heap_other (by omega)).trans hkx.2)⟩
    · exact ⟨some .ret, _, run_endLoop hkx.1 (by simp), hstop _ q _ (Nat.le_refl _) (hIx.putObj _ hi (by omega) hkx.1 rfl) ((World.putObj_heap_other (by omega)).trans hkx.2)⟩

/-- Where no depth is asked the figures are all one. -/
theorem room_of_none {F : Fence} (hd : F.depth = none) (k : Nat) : F.room k := fun d h => by rw [hd] at h; cases h
theorem yield_any {F : Fence} (hd : F.depth = none) {m : Nat} (m' : Nat) {P : Program} {l : Nat} {args : Array Value} {W : World} {R : Ending → World → Prop} (h : YieldAt F m P l args W R) : YieldAt F m' P l args W R := by
  obtain ⟨fn, tmps, assign, body, hy, hR⟩ := h
  exact ⟨fn, tmps, assign, body, hy, hR.1, fun c cs _ => hR.2 c cs (room_of_none hd _)⟩

end Go.Proofs.YtgolihipinjfmaaGreatDoor.C
