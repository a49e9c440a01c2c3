/- Descriptors as lists: what each call answers and leaves, no program. -/
import Derived.Test.YtmccfcllehfebaaA9
import Derived.Test.YtmccfcllehfebaaA8
import Derived.Test.YtmccfcllehfebaaA3
namespace Go.Proofs.Ytmccfcllehfebaa.Z
open Go Go.RowKit

/-- A descriptor; of file 0: none. -/
structure Sl where
  file : Int
  rights : Nat
  all : Bool
  ints : List Int
  fc : Int
def zS : Sl := ⟨0, 0, false, [], 0⟩
def fullS (n : Int) : Sl := ⟨n, 4294967295, true, [], 120⟩
def fcB (m : Int) : Bool := decide (W.maskE 120 m = 0)
def canS (x : Sl) : Bool := decide (0 < x.file) && W.canB x.all x.ints && fcB x.fc
def oneB (x y : Sl) : Bool := decide (x.file = y.file) && decide (x.rights = y.rights) && decide (x.fc = y.fc) && ((x.all == y.all) && decide (x.ints = y.ints))
def withinB (x y : Sl) : Bool := R.subB x.rights y.rights && W.subB x.all x.ints y.all y.ints && decide (W.maskE y.fc x.fc = 0)
theorem one_self (x : Sl) : oneB x x = true := by simp [oneB]

theorem bit120 (i : Nat) : bitI 120 i = true ↔ 3 ≤ i ∧ i ≤ 6 := by
  unfold bitI
  rw [decide_eq_true_iff]
  by_cases h : i < 7
  · have : i = 0 ∨ i = 1 ∨ i = 2 ∨ i = 3 ∨ i = 4 ∨ i = 5 ∨ i = 6 := by omega
    rcases this with rfl | rfl | rfl | rfl | rfl | rfl | rfl <;> decide
  · have h2 : (128 : Nat) ≤ 2 ^ i := by
      calc (128 : Nat) = 2 ^ 7 := rfl
        _ ≤ 2 ^ i := Nat.pow_le_pow_right (by omega) (by omega)
    have h3 : (120 : Int) / 2 ^ i = 0 := by
      refine Int.ediv_eq_zero_of_lt (by omega) ?_
      have : ((2 ^ i : Nat) : Int) = 2 ^ i := by simp
      omega
    rw [h3]
    constructor
    · intro h; exact absurd h (by decide)
    · omega
theorem more_bad {m : Int} (h : mMore 120 m = false) : mBad 120 m = false := by
  unfold mMore at h
  unfold mBad
  rw [List.any_eq_false] at h ⊢
  intro i hi
  have h1 := h i hi
  intro h2
  rw [Bool.and_eq_true, Bool.or_eq_true, Bool.or_eq_true, decide_eq_true_iff, decide_eq_true_iff] at h2
  have hn : bitI 120 i = false := by
    rw [← Bool.not_eq_true, bit120]; omega
  rcases h2.2 with h3 | h3
  · rw [hn] at h3; exact absurd h3 (by decide)
  · rw [hn, h3] at h1; exact h1 rfl
theorem fcB_iff (m : Int) : bits .andNot .i64 m 120 = 0 ↔ fcB m = true := by
  rw [less_iff, fcB, decide_eq_true_iff, W.maskE]
  constructor
  · intro h; rw [more_bad h, h]; rfl
  · intro h
    cases hm : mMore 120 m with
    | false => rfl
    | true =>
      rw [hm] at h
      split at h <;> simp at h
/-- What is within has its bits within. -/
theorem mask_fc {o m : Int} (h : W.maskE o m = 0) : fcB m = true := by
  unfold W.maskE at h
  have hb : mBad o m = false := by
    cases hb : mBad o m with
    | false => rfl
    | true => rw [hb] at h; simp at h
  rw [← fcB_iff, less_iff]
  unfold mBad at hb
  unfold mMore
  rw [List.any_eq_false] at hb ⊢
  intro i hi h2
  rw [Bool.and_eq_true] at h2
  refine hb i hi ?_
  rw [Bool.and_eq_true, Bool.or_eq_true, Bool.or_eq_true, decide_eq_true_iff, decide_eq_true_iff]
  refine ⟨?_, .inr h2.1⟩
  have : ¬ (3 ≤ i ∧ i ≤ 6) := fun h => by
    have := (bit120 i).2 h
    rw [this] at h2
    simp at h2
  omega
theorem mask_self {m : Int} (h : fcB m = true) : W.maskE m m = 0 := by
  have h1 := (fcB_iff m).2 h
  rw [less_iff] at h1
  unfold W.maskE
  have h2 : mBad m m = false := by
    unfold mMore at h1
    unfold mBad
    rw [List.any_eq_false] at h1 ⊢
    intro i hi h2
    rw [Bool.and_eq_true, Bool.or_self, Bool.or_eq_true, decide_eq_true_iff, decide_eq_true_iff] at h2
    refine h1 i hi ?_
    rw [h2.2, Bool.true_and]
    have hn : bitI 120 i = false := by rw [← Bool.not_eq_true, bit120]; omega
    rw [hn]; rfl
  have h3 : mMore m m = false := by
    unfold mMore
    rw [List.any_eq_false]
    intro i _
    cases bitI m i <;> simp
  rw [h2, h3]; rfl
theorem bit0 (i : Nat) : bitI 0 i = false := by simp [bitI]
theorem mask_zero {o : Int} (h : fcB o = true) : W.maskE o 0 = 0 := by
  have h1 := (fcB_iff o).2 h
  rw [less_iff] at h1
  unfold W.maskE
  have h2 : mBad o 0 = false := by
    unfold mMore at h1
    unfold mBad
    rw [List.any_eq_false] at h1 ⊢
    intro i hi h2
    rw [bit0, Bool.or_false, Bool.and_eq_true, Bool.or_eq_true, decide_eq_true_iff, decide_eq_true_iff] at h2
    refine h1 i hi ?_
    rw [h2.2, Bool.true_and]
    have hn : bitI 120 i = false := by rw [← Bool.not_eq_true, bit120]; omega
    rw [hn]; rfl
  have h3 : mMore o 0 = false := by
    unfold mMore
    rw [List.any_eq_false]
    intro i _
    simp [bit0]
  rw [h2, h3]; rfl
theorem fc_zero : fcB 0 = true := by
  unfold fcB
  rw [decide_eq_true_iff]
  exact mask_zero (by rw [← fcB_iff]; decide)
theorem fc_all : fcB 120 = true := by rw [← fcB_iff]; decide

/-- A number that may be one. -/
def inB (S : List Sl) (fd : Int) : Bool := decide (0 ≤ fd) && decide (fd < (S.length : Int))
def atS (S : List Sl) (fd : Int) : Sl := S.getD fd.toNat zS
def liveB (S : List Sl) (fd : Int) : Bool := inB S fd && decide ((atS S fd).file ≠ 0)
def heldE (S : List Sl) (fd : Int) : Int := if liveB S fd then 0 else 9
def getE (S : List Sl) (fd : Int) (need : Nat) : Int := if liveB S fd then (if R.subB need (atS S fd).rights then 0 else 93) else 9
def getX (S : List Sl) (fd : Int) (need : Nat) : Sl := if liveB S fd && R.subB need (atS S fd).rights then atS S fd else zS
/-- The first free one from there on. -/
def frF (S : List Sl) (k : Nat) : Nat := k + ((S.drop k).takeWhile fun x => decide (x.file ≠ 0)).length
def freeN (S : List Sl) (k : Int) : Int := if inB S k && decide (frF S k.toNat < S.length) then (frF S k.toNat : Int) else 0
def freeE (S : List Sl) (k : Int) : Int := if inB S k then (if frF S k.toNat < S.length then 0 else 24) else 22
def putE (S : List Sl) (k : Int) (x : Sl) : Int := if canS x then freeE S k else 22
def putN (S : List Sl) (k : Int) (x : Sl) : Int := if canS x then freeN S k else 0
def putS (S : List Sl) (k : Int) (x : Sl) : List Sl := if canS x && (inB S k && decide (frF S k.toNat < S.length)) then S.set (frF S k.toNat) x else S
def setE (S : List Sl) (fd : Int) (x : Sl) : Int := if canS x then (if inB S fd then 0 else 9) else 22
def setS (S : List Sl) (fd : Int) (x : Sl) : List Sl := if canS x && inB S fd then S.set fd.toNat x else S
def setX (S : List Sl) (fd : Int) (x : Sl) : Sl := if canS x && inB S fd then atS S fd else zS
def setB (S : List Sl) (fd : Int) (x : Sl) : Bool := canS x && liveB S fd
def takeS (S : List Sl) (fd : Int) : List Sl := if liveB S fd then S.set fd.toNat zS else S
def takeX (S : List Sl) (fd : Int) : Sl := if liveB S fd then atS S fd else zS
/-- Fewer rights. -/
def lessR (r : Nat) (x : Sl) : Sl := ⟨x.file, r, if r.testBit 28 then x.all else false, if r.testBit 28 then x.ints else [], if r.testBit 9 then x.fc else 0⟩
def lessI (l : List Int) (x : Sl) : Sl := ⟨x.file, x.rights, false, W.limV x.all x.ints l, x.fc⟩
def lessF (m : Int) (x : Sl) : Sl := ⟨x.file, x.rights, x.all, x.ints, W.maskV x.fc m⟩
def limS (S : List Sl) (fd : Int) (r : Nat) : List Sl := if liveB S fd && R.subB r (atS S fd).rights then S.set fd.toNat (lessR r (atS S fd)) else S
def ioE (S : List Sl) (fd : Int) (l : List Int) : Int := if liveB S fd then W.limE (atS S fd).all (atS S fd).ints l else 9
def ioS (S : List Sl) (fd : Int) (l : List Int) : List Sl := if liveB S fd && decide (W.limE (atS S fd).all (atS S fd).ints l = 0) then S.set fd.toNat (lessI l (atS S fd)) else S
def fcE (S : List Sl) (fd m : Int) : Int := if liveB S fd then W.maskE (atS S fd).fc m else 9
def fcS (S : List Sl) (fd m : Int) : List Sl := if liveB S fd && decide (W.maskE (atS S fd).fc m = 0) then S.set fd.toNat (lessF m (atS S fd)) else S
def liveAt (S : List Sl) (i : Nat) : Bool := decide ((S.getD i zS).file ≠ 0)
def allK (S : List Sl) (k : Nat) : List Int := ((List.range k).filter (liveAt S)).map Int.ofNat
abbrev allS (S : List Sl) : List Int := allK S S.length

/-- What may lie there. -/
def Fit (x : Sl) : Prop := x.rights < 4294967296 ∧ (x = zS ∨ canS x = true)
def Fits (S : List Sl) : Prop := ∀ x ∈ S, Fit x

theorem sub_zero (y : Nat) : R.subB 0 y = true := by simp [R.subB]
theorem getE_zero (S : List Sl) (fd : Int) : getE S fd 0 = heldE S fd := by unfold getE heldE; rw [sub_zero]; simp
theorem fit_z : Fit zS := ⟨by decide, .inl rfl⟩
theorem can_file {x : Sl} (h : canS x = true) : 0 < x.file := by
  unfold canS at h
  simp only [Bool.and_eq_true, decide_eq_true_iff] at h
  exact h.1.1
theorem can_canB {x : Sl} (h : canS x = true) : W.canB x.all x.ints = true := by
  unfold canS at h
  simp only [Bool.and_eq_true, decide_eq_true_iff] at h
  exact h.1.2
theorem can_fc {x : Sl} (h : canS x = true) : fcB x.fc = true := by
  unfold canS at h
  simp only [Bool.and_eq_true, decide_eq_true_iff] at h
  exact h.2
theorem canB_len {a : Bool} {l : List Int} (h : W.canB a l = true) : l.length ≤ 32 := by
  unfold W.canB at h
  split at h
  · rw [decide_eq_true_iff] at h; omega
  · rw [Bool.and_eq_true, decide_eq_true_iff] at h; exact h.1
theorem Fit.len {x : Sl} (h : Fit x) : x.ints.length ≤ 32 := by
  rcases h.2 with rfl | h2
  · exact Nat.zero_le _
  · exact canB_len (can_canB h2)
theorem Fit.pos {x : Sl} (h : Fit x) : 0 ≤ x.file := by
  rcases h.2 with rfl | h2
  · exact Int.le_refl _
  · have := can_file h2; omega
theorem Fit.live {x : Sl} (h : Fit x) (hf : x.file ≠ 0) : canS x = true := by
  rcases h.2 with rfl | h2
  · exact absurd rfl hf
  · exact h2
theorem Fit.none {x : Sl} (h : Fit x) (hf : x.file = 0) : x = zS := by
  rcases h.2 with h2 | h2
  · exact h2
  · have := can_file h2; omega
theorem Fits.at {S : List Sl} (h : Fits S) (fd : Int) : Fit (atS S fd) := by
  unfold atS
  rw [List.getD_eq_getElem?_getD]
  cases hx : S[fd.toNat]? with
  | none => exact fit_z
  | some x => exact h x (List.mem_of_getElem? hx)
theorem Fits.set {S : List Sl} (h : Fits S) (k : Nat) {x : Sl} (hx : Fit x) : Fits (S.set k x) := fun y hy => by
  rcases List.mem_or_eq_of_mem_set hy with h1 | h1
  · exact h y h1
  · rw [h1]; exact hx
theorem Fits.rep (n : Nat) : Fits (List.replicate n zS) := fun x hx => by rw [List.eq_of_mem_replicate hx]; exact fit_z
theorem in_iff {S : List Sl} {fd : Int} : inB S fd = true ↔ 0 ≤ fd ∧ fd < (S.length : Int) := by simp [inB]
theorem live_in {S : List Sl} {fd : Int} (h : liveB S fd = true) : ∃ k : Nat, fd = (k : Int) ∧ k < S.length ∧ (S.getD k zS).file ≠ 0 := by
  unfold liveB at h
  rw [Bool.and_eq_true, in_iff, decide_eq_true_iff] at h
  refine ⟨fd.toNat, by omega, by omega, h.2⟩
theorem live_of {S : List Sl} {k : Nat} (hk : k < S.length) : liveB S (k : Int) = decide ((S.getD k zS).file ≠ 0) := by
  unfold liveB
  rw [in_iff.2 ⟨by omega, by omega⟩, Bool.true_and]
  rfl

theorem frF_ge (S : List Sl) (k : Nat) : k ≤ frF S k := Nat.le_add_right _ _
theorem frF_end {S : List Sl} {k : Nat} (h : S.length ≤ k) : frF S k = k := by
  unfold frF
  rw [List.drop_eq_nil_of_le h]
  rfl
theorem drop_get {S : List Sl} {k : Nat} (hk : k < S.length) : S.drop k = S.getD k zS :: S.drop (k + 1) := by
  rw [List.drop_eq_getElem_cons hk]
  simp [List.getD, hk]
theorem frF_hit {S : List Sl} {k : Nat} (hk : k < S.length) (h : (S.getD k zS).file = 0) : frF S k = k := by
  unfold frF
  rw [drop_get hk, List.takeWhile_cons_of_neg (by simpa using h)]
  rfl
theorem frF_next {S : List Sl} {k : Nat} (hk : k < S.length) (h : (S.getD k zS).file ≠ 0) : frF S k = frF S (k + 1) := by
  unfold frF
  rw [drop_get hk, List.takeWhile_cons_of_pos (by simpa using h), List.length_cons]
  omega
theorem allK_succ (S : List Sl) (k : Nat) : allK S (k + 1) = if liveAt S k then allK S k ++ [(k : Int)] else allK S k := by
  unfold allK
  rw [List.range_succ, List.filter_append, List.map_append]
  cases h : liveAt S k <;> simp [h]
theorem allK_len (S : List Sl) (k : Nat) : (allK S k).length ≤ k := by
  unfold allK
  rw [List.length_map]
  exact Nat.le_trans (List.length_filter_le _ _) (by simp)

theorem limV_can {a : Bool} {lo l : List Int} (h : W.limE a lo l = 0) : W.canB false (W.limV a lo l) = true ∧ W.subB false (W.limV a lo l) a lo = true := by
  unfold W.limE at h
  unfold W.limV
  cases h1 : W.canB false (W.srt l) <;> cases h2 : W.canB a lo <;> simp [h1, h2] at h
  cases h3 : W.subB false (W.mkV l) a lo <;> simp [h3] at h
  simp only [Bool.and_true, if_true]
  refine ⟨?_, h3⟩
  unfold W.mkV
  rw [h1]
  exact h1
theorem fit_r {x : Sl} (h : Fit x) (hf : x.file ≠ 0) {r : Nat} (hr : r < 4294967296) : Fit (lessR r x) := by
  have hc := h.live hf
  refine ⟨hr, .inr ?_⟩
  unfold canS lessR
  simp only [Bool.and_eq_true, decide_eq_true_iff]
  refine ⟨⟨can_file hc, ?_⟩, ?_⟩
  · split
    · exact can_canB hc
    · exact W.canB_nil _
  · split
    · exact can_fc hc
    · exact fc_zero
theorem fit_i {x : Sl} (h : Fit x) (hf : x.file ≠ 0) {l : List Int} (hl : W.limE x.all x.ints l = 0) : Fit (lessI l x) := by
  have hc := h.live hf
  refine ⟨h.1, .inr ?_⟩
  unfold canS lessI
  simp only [Bool.and_eq_true, decide_eq_true_iff]
  exact ⟨⟨can_file hc, (limV_can hl).1⟩, can_fc hc⟩
theorem fit_f {x : Sl} (h : Fit x) (hf : x.file ≠ 0) {m : Int} (hm : W.maskE x.fc m = 0) : Fit (lessF m x) := by
  have hc := h.live hf
  refine ⟨h.1, .inr ?_⟩
  unfold canS lessF
  simp only [Bool.and_eq_true, decide_eq_true_iff]
  refine ⟨⟨can_file hc, can_canB hc⟩, ?_⟩
  have : W.maskV x.fc m = m := by
    unfold W.maskE at hm
    unfold W.maskV
    cases h1 : mBad x.fc m <;> simp [h1] at hm
    cases h2 : mMore x.fc m <;> simp [h2] at hm
    simp
  rw [this]
  exact mask_fc hm

theorem Fits.put {S : List Sl} (h : Fits S) (k : Int) {x : Sl} (hx : x.rights < 4294967296) : Fits (putS S k x) := by
  unfold putS
  split
  · rename_i h1
    rw [Bool.and_eq_true] at h1
    exact h.set _ ⟨hx, .inr h1.1⟩
  · exact h
theorem Fits.setS {S : List Sl} (h : Fits S) (k : Int) {x : Sl} (hx : x.rights < 4294967296) : Fits (setS S k x) := by
  unfold Z.setS
  split
  · rename_i h1
    rw [Bool.and_eq_true] at h1
    exact h.set _ ⟨hx, .inr h1.1⟩
  · exact h
theorem Fits.take {S : List Sl} (h : Fits S) (k : Int) : Fits (takeS S k) := by
  unfold takeS
  split
  · exact h.set _ fit_z
  · exact h
theorem live_ne {S : List Sl} {fd : Int} (h : liveB S fd = true) : (atS S fd).file ≠ 0 := by
  unfold liveB at h
  rw [Bool.and_eq_true, decide_eq_true_iff] at h
  exact h.2
theorem Fits.lim {S : List Sl} (h : Fits S) (k : Int) {r : Nat} (hr : r < 4294967296) : Fits (limS S k r) := by
  unfold limS
  split
  · rename_i h1
    rw [Bool.and_eq_true] at h1
    exact h.set _ (fit_r (h.at k) (live_ne h1.1) hr)
  · exact h
theorem Fits.io {S : List Sl} (h : Fits S) (k : Int) (l : List Int) : Fits (ioS S k l) := by
  unfold ioS
  split
  · rename_i h1
    rw [Bool.and_eq_true, decide_eq_true_iff] at h1
    exact h.set _ (fit_i (h.at k) (live_ne h1.1) h1.2)
  · exact h
theorem Fits.fc {S : List Sl} (h : Fits S) (k m : Int) : Fits (fcS S k m) := by
  unfold fcS
  split
  · rename_i h1
    rw [Bool.and_eq_true, decide_eq_true_iff] at h1
    exact h.set _ (fit_f (h.at k) (live_ne h1.1) h1.2)
  · exact h
theorem len_put (S : List Sl) (k : Int) (x : Sl) : (putS S k x).length = S.length := by unfold putS; split <;> simp
theorem len_set (S : List Sl) (k : Int) (x : Sl) : (setS S k x).length = S.length := by unfold setS; split <;> simp
theorem len_take (S : List Sl) (k : Int) : (takeS S k).length = S.length := by unfold takeS; split <;> simp
theorem len_lim (S : List Sl) (k : Int) (r : Nat) : (limS S k r).length = S.length := by unfold limS; split <;> simp
theorem len_io (S : List Sl) (k : Int) (l : List Int) : (ioS S k l).length = S.length := by unfold ioS; split <;> simp
theorem len_fc (S : List Sl) (k m : Int) : (fcS S k m).length = S.length := by unfold fcS; split <;> simp

end Go.Proofs.Ytmccfcllehfebaa.Z
