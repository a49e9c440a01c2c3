/- A map from numbers to blocks, of no program's text: what it has, where, how many. -/
import Derived.Maps.OwnSet
import Derived.Maps.RangeWalk
import Derived.Test.YtfhkdndgiofidaaGMem
namespace Go.Proofs.Ytfhkdndgiofidaa
open Go Go.RowKit Go.Maps

/-- One place of a function turned. -/
def upd (h : Nat → Bool) (k : Nat) (b : Bool) : Nat → Bool := fun j => if j = k then b else h j
theorem upd_same (h : Nat → Bool) (k : Nat) (b : Bool) : upd h k b k = b := by simp [upd]
theorem upd_other {h : Nat → Bool} {j k : Nat} (b : Bool) (e : j ≠ k) : upd h k b j = h j := by simp [upd, e]
theorem upd_id {h : Nat → Bool} {k : Nat} {b : Bool} (e : h k = b) : upd h k b = h := by
  funext j
  by_cases ej : j = k
  · subst ej; rw [upd_same, e]
  · rw [upd_other b ej]

/-- How many there are, among the first. -/
def cntF (n : Nat) (h : Nat → Bool) : Nat := (List.range n).countP h
theorem cntF_succ (n : Nat) (h : Nat → Bool) : cntF (n + 1) h = cntF n h + (if h n then 1 else 0) := by
  unfold cntF
  rw [List.range_succ, List.countP_append]
  cases hn : h n <;> simp [hn]
theorem cntF_out {n k : Nat} (h : Nat → Bool) (b : Bool) (hk : n ≤ k) : cntF n (upd h k b) = cntF n h := by
  induction n with
  | zero => rfl
  | succ n ih => rw [cntF_succ, cntF_succ, ih (by omega), upd_other b (by omega)]
theorem cntF_true {n k : Nat} {h : Nat → Bool} (hk : k < n) (hf : h k = false) : cntF n (upd h k true) = cntF n h + 1 := by
  induction n with
  | zero => omega
  | succ n ih =>
    rw [cntF_succ, cntF_succ]
    by_cases e : k = n
    · subst e; rw [cntF_out h true (Nat.le_refl _), upd_same, hf]; simp
    · rw [ih (by omega), upd_other true (fun e' => e e'.symm)]; omega
theorem cntF_false {n k : Nat} {h : Nat → Bool} (hk : k < n) (hf : h k = true) : cntF n (upd h k false) + 1 = cntF n h := by
  induction n with
  | zero => omega
  | succ n ih =>
    rw [cntF_succ, cntF_succ]
    by_cases e : k = n
    · subst e; rw [cntF_out h false (Nat.le_refl _), upd_same, hf]; simp
    · rw [← ih (by omega), upd_other false (fun e' => e e'.symm)]; omega
theorem cntF_le (n : Nat) (h : Nat → Bool) : cntF n h ≤ n := by
  have := List.countP_le_length (p := h) (l := List.range n)
  simpa [cntF] using this
theorem cntF_none {n : Nat} {h : Nat → Bool} (hn : ∀ k, h k = false) : cntF n h = 0 := by
  induction n with
  | zero => rfl
  | succ n ih => rw [cntF_succ, ih, hn]; rfl

/-- How a pointer reads: as the number of its block. -/
def ptrElem (v : Value) : Option (DataW Nat × List MemPlace) :=
  match v with
  | .pointer none => some (.nil, [])
  | .pointer (some ⟨g, 0, none⟩) => some (.held g, [])
  | _ => none
theorem ptrElem_nil : ptrElem (.pointer none) = some (.nil, []) := rfl
theorem ptrElem_mk (g : Nat) : ptrElem (.pointer (some ⟨g, 0, none⟩)) = some (.held g, []) := rfl
theorem ptrElem_inv {v : Value} {d : DataW Nat} {ps : List MemPlace} (h : ptrElem v = some (d, ps)) : (v = .pointer none ∧ d = .nil) ∨ ∃ g, v = .pointer (some ⟨g, 0, none⟩) ∧ d = .held g := by
  unfold ptrElem at h
  split at h
  · simp at h; exact .inl ⟨rfl, h.1.symm⟩
  · simp at h; exact .inr ⟨_, rfl, h.1.symm⟩
  · cases h
theorem ptrElem_of_nil {v : Value} {ps : List MemPlace} (h : ptrElem v = some (.nil, ps)) : v = .pointer none := by
  rcases ptrElem_inv h with ⟨h1, _⟩ | ⟨g, _, h2⟩
  · exact h1
  · cases h2
theorem ptrElem_of_held {v : Value} {g : Nat} {ps : List MemPlace} (h : ptrElem v = some (.held g, ps)) : v = .pointer (some ⟨g, 0, none⟩) := by
  rcases ptrElem_inv h with ⟨_, h2⟩ | ⟨g', h1, h2⟩
  · cases h2
  · cases h2; exact h1

abbrev ky (k : Nat) : Lit := .int .i64 (k : Int)
theorem ky_inj {j k : Nat} (h : ky j = ky k) : j = k := by
  unfold ky at h
  simp at h
  omega
theorem ky_ne {j k : Nat} (h : j ≠ k) : ky j ≠ ky k := fun e => h (ky_inj e)
theorem ky_key (k : Nat) : WideAt.IsKeyLit (ky k) := trivial

/-- The block of a number. -/
def gOf (D : DataW Nat) (k : Nat) : Nat := match D.atKey (ky k) .nil with | .held g => g | _ => 0

/-- What a map of blocks is: which numbers it has, each a block of its own. -/
structure MapIs (D : DataW Nat) (h : Nat → Bool) : Prop where
  tidy : Tidy D
  keys : ∀ kl, Maps.has D kl = true → ∃ k : Nat, kl = ky k ∧ h k = true
  held : ∀ k, h k = true → Maps.has D (ky k) = true ∧ D.atKey (ky k) .nil = .held (gOf D k)
  inj : ∀ j k, h j = true → h k = true → gOf D j = gOf D k → j = k
  small : ∀ k, h k = true → k < 1024
  count : Maps.size D = cntF 1024 h

theorem MapIs.not {D : DataW Nat} {h : Nat → Bool} (m : MapIs D h) {k : Nat} (hk : h k = false) : Maps.has D (ky k) = false := by
  cases hh : Maps.has D (ky k)
  · rfl
  · obtain ⟨j, e, hj⟩ := m.keys _ hh
    rw [ky_inj e] at hk
    rw [hk] at hj; cases hj
theorem MapIs.none {D : DataW Nat} {h : Nat → Bool} (m : MapIs D h) {x : Int} (hk : ∀ k : Nat, x = k → h k = false) : D.atKey (.int .i64 x) .nil = .nil := by
  refine atKey_of_not_has ?_ _
  cases hh : Maps.has D (.int .i64 x)
  · rfl
  · obtain ⟨j, e, hj⟩ := m.keys _ hh
    have e' : x = (j : Int) := by unfold ky at e; simpa using e
    rw [hk j e'] at hj; cases hj
theorem mapIs_empty : MapIs (.map []) (fun _ => false) :=
  ⟨tidy_empty, fun kl h => by simp [Maps.has] at h, fun k h => by simp at h, fun j k h => by simp at h, fun k h => by simp at h, (cntF_none fun _ => rfl).symm⟩
theorem gOf_put {D : DataW Nat} (hD : IsMap D) (k g : Nat) : gOf (D.put (ky k) (.held g)) k = g := by
  unfold gOf
  rw [atKey_put_same hD (ky_key k)]
theorem gOf_put_other {D : DataW Nat} {j k : Nat} (g : Nat) (e : j ≠ k) : gOf (D.put (ky k) (.held g)) j = gOf D j := by
  unfold gOf
  rw [atKey_put_other (ky_ne e)]
theorem gOf_del_other {D : DataW Nat} {j k : Nat} (e : j ≠ k) : gOf (D.del (ky k)) j = gOf D j := by
  unfold gOf
  rw [atKey_del_other (ky_ne e)]
theorem MapIs.put {D : DataW Nat} {h : Nat → Bool} (m : MapIs D h) {k g : Nat} (hk : h k = false) (hl : k < 1024) (hg : ∀ j, h j = true → gOf D j ≠ g) : MapIs (D.put (ky k) (.held g)) (upd h k true) := by
  refine ⟨m.tidy.put (ky_key k) _, fun kl hh => ?_, fun j hj => ?_, fun i j hi hj e => ?_, fun j hj => ?_, ?_⟩
  · by_cases e : kl = ky k
    · exact ⟨k, e, upd_same _ _ _⟩
    · rw [has_put_other e] at hh
      obtain ⟨j, ej, hj⟩ := m.keys kl hh
      subst ej
      exact ⟨j, rfl, by rw [upd_other true fun e' => e (by rw [e'])]; exact hj⟩
  · by_cases e : j = k
    · subst e
      rw [gOf_put m.tidy.isMap]
      exact ⟨has_put_same m.tidy.isMap (ky_key j) _, atKey_put_same m.tidy.isMap (ky_key j) _ _⟩
    · rw [upd_other true e] at hj
      rw [gOf_put_other g e, has_put_other (ky_ne e), atKey_put_other (ky_ne e)]
      exact m.held j hj
  · by_cases ei : i = k
    · by_cases ej : j = k
      · rw [ei, ej]
      · subst ei
        rw [gOf_put m.tidy.isMap, gOf_put_other g ej] at e
        rw [upd_other true ej] at hj
        exact absurd e.symm (hg j hj)
    · rw [upd_other true ei] at hi
      by_cases ej : j = k
      · subst ej
        rw [gOf_put m.tidy.isMap, gOf_put_other g ei] at e
        exact absurd e (hg i hi)
      · rw [upd_other true ej] at hj
        rw [gOf_put_other g ei, gOf_put_other g ej] at e
        exact m.inj i j hi hj e
  · by_cases e : j = k
    · omega
    · rw [upd_other true e] at hj; exact m.small j hj
  · rw [size_put m.tidy, m.not hk, cntF_true hl hk, m.count]; rfl
theorem MapIs.del {D : DataW Nat} {h : Nat → Bool} (m : MapIs D h) {k : Nat} (hk : h k = true) : MapIs (D.del (ky k)) (upd h k false) := by
  refine ⟨m.tidy.del _, fun kl hh => ?_, fun j hj => ?_, fun i j hi hj e => ?_, fun j hj => ?_, ?_⟩
  · by_cases e : kl = ky k
    · subst e; rw [has_del_same] at hh; cases hh
    · rw [has_del_other e] at hh
      obtain ⟨j, ej, hj⟩ := m.keys kl hh
      subst ej
      exact ⟨j, rfl, by rw [upd_other false fun e' => e (by rw [e'])]; exact hj⟩
  · by_cases e : j = k
    · subst e; rw [upd_same] at hj; cases hj
    · rw [upd_other false e] at hj
      rw [gOf_del_other e, has_del_other (ky_ne e), atKey_del_other (ky_ne e)]
      exact m.held j hj
  · have ei : i ≠ k := fun e' => by subst e'; rw [upd_same] at hi; cases hi
    have ej : j ≠ k := fun e' => by subst e'; rw [upd_same] at hj; cases hj
    rw [upd_other false ei] at hi
    rw [upd_other false ej] at hj
    rw [gOf_del_other ei, gOf_del_other ej] at e
    exact m.inj i j hi hj e
  · have ej : j ≠ k := fun e' => by subst e'; rw [upd_same] at hj; cases hj
    rw [upd_other false ej] at hj
    exact m.small j hj
  · have h1 := size_del (k := ky k) m.tidy
    rw [(m.held k hk).1] at h1
    have h2 := cntF_false (m.small k hk) hk
    rw [← m.count] at h2
    simp at h1
    omega

theorem owns_exact {P : Program} {k : TypeId} {R : Value → Option (DataW Nat × List MemPlace)} {w : World} {b n : Nat} {D : DataW Nat} (h : w.ownsMap P k R b n D) : w.ownsMap P k R b (Maps.size D) D := by
  obtain ⟨es, clock, hb, F, hs, rfl⟩ := h
  exact ⟨es, clock, hb, F, by simp [Maps.size, length_sorted], rfl⟩
theorem owns_block {P : Program} {k : TypeId} {R : Value → Option (DataW Nat × List MemPlace)} {w w' : World} {b n : Nat} {D : DataW Nat} (h : w.ownsMap P k R b n D) (e : w'.heap[b]? = w.heap[b]?) : w'.ownsMap P k R b n D := by
  obtain ⟨es, clock, hb, r⟩ := h
  exact ⟨es, clock, e.trans hb, r⟩
theorem owns_is {P : Program} {k : TypeId} {R : Value → Option (DataW Nat × List MemPlace)} {w : World} {b n : Nat} {D : DataW Nat} (h : w.ownsMap P k R b n D) : ∃ es clock, w.heap[b]? = some (.map es clock) := by
  obtain ⟨es, clock, hb, _⟩ := h
  exact ⟨es, clock, hb⟩

end Go.Proofs.Ytfhkdndgiofidaa
