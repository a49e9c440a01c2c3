/- A region that draws its order, by what each operation leaves: one assertion an operation, kept by whatever may come between (till the operation that is named for it); no order is branched over. -/
import Derived.Orders
import Derived.Below
namespace Go.Proofs.YtgolihipinjfmaaGreatDoor
open Go

section
variable {P : Program} {ops : Array Oper} {Q : Exit → Act → World → Prop}

/-- Operation 'o', carried out, leaves a value and a world of which 'post' holds. -/
def leaves (P : Program) (o : Oper) (ρ : Operand → Value) (w : World) (post : Value → World → Prop) : Prop :=
  match (execOp ρ o).run P w with
  | .ok (.value v) w' => post v w'
  | .ok .skip w' => post undef w'
  | .ok (.enter f args) w' => Calls P f args w' fun e w'' => ∃ v, e = .returned v ∧ post v w''
  | _ => False

theorem leaves_value {o : Oper} {ρ : Operand → Value} {w w' : World} {v : Value} {post : Value → World → Prop} (h : (execOp ρ o).run P w = .ok (.value v) w') (hp : post v w') : leaves P o ρ w post := by
  unfold leaves; rw [h]; exact hp
theorem leaves_skip {o : Oper} {ρ : Operand → Value} {w w' : World} {post : Value → World → Prop} (h : (execOp ρ o).run P w = .ok .skip w') (hp : post undef w') : leaves P o ρ w post := by
  unfold leaves; rw [h]; exact hp
theorem leaves_enter {o : Oper} {ρ : Operand → Value} {w w' : World} {f : FuncId} {args : Array Value} {post : Value → World → Prop} (h : (execOp ρ o).run P w = .ok (.enter f args) w')
    (hp : Calls P f args w' fun e w'' => ∃ v, e = .returned v ∧ post v w'') : leaves P o ρ w post := by
  unfold leaves; rw [h]; exact hp

theorem leaves_wp {o : Oper} {a : Act} {w : World} {post : Value → World → Prop} {K : Act → World → Prop} (h : leaves P o a.eval w post)
    (hK : ∀ v w', post v w' → K (a.put o.dst v) w') : o.wp P a w K Q := by
  unfold leaves at h
  unfold Oper.wp
  generalize (execOp a.eval o).run P w = r at *
  cases r with
  | ok n w' =>
    cases n <;> simp only [Oper.upon] at h ⊢
    case value v => exact hK _ _ h
    case skip => exact hK _ _ h
    case enter f args =>
      refine Calls.mono h fun e w'' he => ?_
      obtain ⟨v, rfl, hv⟩ := he
      exact hK _ _ hv
    all_goals exact h.elim
  | halt x w' => exact h.elim

abbrev Tab := List (List (Tmp × Option Nat))
abbrev Till := List (Nat × Nat)

/-- What is known of the slots that an operation looks at. -/
def seen (a0 : Act) (ρ : Operand → Value) (g : Nat → Value → World → Prop) (w : World) : List (Tmp × Option Nat) → Prop
  | [] => True
  | (t, none) :: r => ρ (.tmp t) = a0.eval (.tmp t) ∧ seen a0 ρ g w r
  | (t, some j) :: r => g j (ρ (.tmp t)) w ∧ seen a0 ρ g w r

/-- What operands that are no slots come to. -/
structure Reads (ρ : Operand → Value) : Prop where
  const : ∀ v, ρ (.const v) = v
  glob : ∀ n, ρ (.global n) = .pointer (some ⟨n, 0, none⟩)
  fn : ∀ f, ρ (.func f) = .func (.func f) #[] #[]

/-- What is said of an operation that has no slot of its own is said of 'undef'. -/
def kept (d : Option Tmp) (v : Value) : Value := match d with | some _ => v | none => undef

/-- One operation's own step. -/
def oneStep (P : Program) (ops : Array Oper) (S : World → Prop) (Keep : Nat → World → World → Prop) (g : Nat → Value → World → Prop) (i : Nat) (o : Oper) (ρ : Operand → Value) (w : World) : Prop :=
  match o.guard with
  | none => leaves P o ρ w fun v w' => g i (kept o.dst v) w' ∧ S w' ∧ Keep i w w'
  | some (j, want) => match (ops[j]?).bind (·.dst) with
    | some d => (ρ (.tmp d) = .bool want ∧ leaves P o ρ w fun v w' => g i (kept o.dst v) w' ∧ S w' ∧ Keep i w w') ∨ (ρ (.tmp d) ≠ .bool want ∧ g i undef w ∧ S w)
    | none => False

def steps (P : Program) (ops : Array Oper) (S : World → Prop) (Keep : Nat → World → World → Prop) (g : Nat → Value → World → Prop) (a0 : Act) : Nat → List Oper → Tab → Prop
  | i, o :: os, tb :: tbs => (∀ ρ w, Reads ρ → S w → seen a0 ρ g w tb → oneStep P ops S Keep g i o ρ w) ∧ steps P ops S Keep g a0 (i + 1) os tbs
  | _, [], [] => True
  | _, _, _ => False

/-- The same with two conditions on the world, one till operation 'u' has come up, one behind it. -/
def steps2 (P : Program) (ops : Array Oper) (S : Bool → World → Prop) (u : Nat) (Keep : Nat → World → World → Prop) (g : Nat → Value → World → Prop) (a0 : Act) : Nat → List Oper → Tab → Prop
  | i, o :: os, tb :: tbs => (∀ ρ w f, ((i == u || ((ops[u]?).map fun o => o.after.any fun e => Region.binds .any e && e.on == i).getD false) = true → f = true) → Reads ρ → S f w → seen a0 ρ g w tb → oneStep P ops (S (f && i != u)) Keep g i o ρ w) ∧ steps2 P ops S u Keep g a0 (i + 1) os tbs
  | _, [], [] => True
  | _, _, _ => False

theorem steps2_of {P : Program} {ops : Array Oper} {S : World → Prop} {u : Nat} {Keep : Nat → World → World → Prop} {g : Nat → Value → World → Prop} {a0 : Act} : ∀ (i : Nat) (os : List Oper) (tbs : Tab), steps P ops S Keep g a0 i os tbs → steps2 P ops (fun _ => S) u Keep g a0 i os tbs
  | _, [], [], h => h
  | _, [], _ :: _, h => h.elim
  | _, _ :: _, [], h => h.elim
  | i, _ :: os, _ :: tbs, h => ⟨fun ρ w _ _ hr hS hs => h.1 ρ w hr hS hs, steps2_of (i + 1) os tbs h.2⟩

/-- What is asked at the end: the values come in the order of the text. -/
def ends (tl : Till) (g : Nat → Value → World → Prop) (w : World) (Q : Act → Prop) : Nat → List Oper → Act → Prop
  | _, [], a => Q a
  | i, o :: os, a => match o.dst with
    | some d => ∀ v, (tl.lookup i = none → g i v w) → ends tl g w Q (i + 1) os (a.put (some d) v)
    | none => (tl.lookup i = none → g i undef w) → ends tl g w Q (i + 1) os a

def dstAt (ops : Array Oper) (j : Nat) : Option Tmp := (ops[j]?).bind (·.dst)
def edge (ops : Array Oper) (i j : Nat) : Bool := ((ops[i]?).map fun o => o.after.any fun e => Region.binds .any e && e.on == j).getD false

/-- The table tells the truth of the region. -/
def tabOk (ops : Array Oper) (n : Nat) (tab : Tab) (tl : Till) : Bool :=
  tab.length == ops.size &&
  ((List.range ops.size).all fun i =>
    ((tab.getD i []).all fun x => match x.2 with
      | some j => dstAt ops j == some x.1 && edge ops i j && (match tl.lookup j with | none => true | some u => u == i || edge ops u i)
      | none => (List.range ops.size).all fun j => dstAt ops j != some x.1 || edge ops j i || j == i) &&
    (((ops[i]?).map fun o => (o.after.all fun e => !Region.binds .any e || decide (e.on < i)) && (o.dst.all fun d => decide (d < n)) &&
      (match o.guard with | none => true | some (j, _) => edge ops i j)).getD true) &&
    ((List.range i).all fun j => (dstAt ops i).isNone || dstAt ops j != dstAt ops i))

structure State (ops : Array Oper) (tl : Till) (S : Bool → World → Prop) (u : Nat) (g : Nat → Value → World → Prop) (a0 : Act) (l : Array Bool) (a : Act) (w : World) : Prop where
  size : l.size = ops.size
  held : S (!l.getD u false) w
  defers : a.defers = a0.defers
  slots : a.tmps.size = a0.tmps.size
  down : ∀ j o, ops[j]? = some o → l.getD j false = true → ∀ e ∈ o.after, Region.binds .any e = true → l.getD e.on false = true
  free : ∀ t, (∀ j, l.getD j false = true → dstAt ops j ≠ some t) → a.tmps[t]? = a0.tmps[t]?
  here : ∀ j d, l.getD j false = true → (∀ u, tl.lookup j = some u → l.getD u false = false) → dstAt ops j = some d → g j (a.eval (.tmp d)) w
  bare : ∀ j o, l.getD j false = true → (∀ u, tl.lookup j = some u → l.getD u false = false) → ops[j]? = some o → o.dst = none → g j undef w

section
variable {S : World → Prop} {Keep : Nat → World → World → Prop} {g : Nat → Value → World → Prop} {i : Nat} {o : Oper} {ρ : Operand → Value} {w : World}
theorem step_plain (h : o.guard = none) (hl : leaves P o ρ w fun v w' => g i (kept o.dst v) w' ∧ S w' ∧ Keep i w w') : oneStep P ops S Keep g i o ρ w := by
  unfold oneStep; rw [h]; exact hl
theorem step_want {j d : Nat} {want : Bool} (h : o.guard = some (j, want)) (hd : (ops[j]?).bind (·.dst) = some d) (hv : ρ (.tmp d) = .bool want) (hl : leaves P o ρ w fun v w' => g i (kept o.dst v) w' ∧ S w' ∧ Keep i w w') : oneStep P ops S Keep g i o ρ w := by
  unfold oneStep; rw [h]; simp only [hd]; exact .inl ⟨hv, hl⟩
theorem step_pass {j d : Nat} {want : Bool} (h : o.guard = some (j, want)) (hd : (ops[j]?).bind (·.dst) = some d) (hv : ρ (.tmp d) ≠ .bool want) (hl : g i undef w) (hS : S w) : oneStep P ops S Keep g i o ρ w := by
  unfold oneStep; rw [h]; simp only [hd]; exact .inr ⟨hv, hl, hS⟩
theorem leaves_move {post : Value → World → Prop} (x : Operand) (ho : o.op = .move x) (h : post (ρ x) w) : leaves P o ρ w post := by
  unfold leaves execOp; rw [ho]; exact h
theorem leaves_assign {post : Value → World → Prop} (x : Operand) (ho : o.op = .assign x) (h : post (ρ x) w) : leaves P o ρ w post := by
  unfold leaves execOp; rw [ho]; exact h
end

theorem eval_of_slot {a b : Act} {t : Tmp} (h : a.tmps[t]? = b.tmps[t]?) : a.eval (.tmp t) = b.eval (.tmp t) := by
  simp only [Act.eval, Array.getD_eq_getD_getElem?, h]

theorem edge_spec {i j : Nat} (h : edge ops i j = true) : ∃ o, ops[i]? = some o ∧ ∃ e ∈ o.after, Region.binds .any e = true ∧ e.on = j := by
  unfold edge at h
  cases ho : ops[i]? with
  | none => simp [ho] at h
  | some o =>
    simp only [ho, Option.map_some, Option.getD_some] at h
    obtain ⟨e, he, hb⟩ := Array.any_eq_true'.1 h
    simp only [Bool.and_eq_true, beq_iff_eq] at hb
    exact ⟨o, rfl, e, he, hb.1, hb.2⟩

theorem listed_true {l : Array Bool} {j : Nat} (h : l.getD j false = true) : j < l.size := by
  rcases Nat.lt_or_ge j l.size with h' | h'
  · exact h'
  · simp [Array.getElem?_eq_none h'] at h

theorem set_getD {l : Array Bool} {i j : Nat} (h : (l.setIfInBounds i true).getD j false = true) : j = i ∨ l.getD j false = true := by
  by_cases hij : i = j
  · exact .inl hij.symm
  · rw [getD_set_ne false hij] at h; exact .inr h
theorem set_getD_self {l : Array Bool} {i : Nat} (h : i < l.size) : (l.setIfInBounds i true).getD i false = true := by simp [h]

variable {S : World → Prop} {Keep : Nat → World → World → Prop} {g : Nat → Value → World → Prop} {a0 : Act} {tab : Tab} {tl : Till}

theorem steps_at {S : Bool → World → Prop} {u : Nat} : ∀ (k : Nat) (os : List Oper) (tbs : Tab) (i : Nat) (o : Oper), steps2 P ops S u Keep g a0 k os tbs → os[i]? = some o →
    ∀ ρ w f, ((k + i == u || edge ops u (k + i)) = true → f = true) → Reads ρ → S f w → seen a0 ρ g w (tbs.getD i []) → oneStep P ops (S (f && k + i != u)) Keep g (k + i) o ρ w
  | _, [], _, _, _, _, h => by simp at h
  | k, o' :: os, [], _, _, h, _ => h.elim
  | k, o' :: os, tb :: tbs, 0, o, h, hi => by
    obtain rfl : o' = o := by simpa using hi
    exact fun ρ w f hf hr hS hs => h.1 ρ w f hf hr hS (by simpa using hs)
  | k, o' :: os, tb :: tbs, i + 1, o, h, hi => fun ρ w f hf hr hS hs => by
    have := steps_at (k + 1) os tbs i o h.2 (by simpa using hi) ρ w f (by rwa [show k + 1 + i = k + (i + 1) by omega]) hr hS (by simpa using hs)
    rwa [show k + 1 + i = k + (i + 1) by omega] at this

theorem ends_at (w : World) (Qn : Act → Prop) (a : Act) : ∀ (os : List Oper) (k : Nat) (b : Act), (∀ i, os[i]? = ops[k + i]?) → ends tl g w Qn k os b →
    a.defers = b.defers → a.tmps.size = b.tmps.size → (∀ t, (∀ j, k ≤ j → dstAt ops j ≠ some t) → a.tmps[t]? = b.tmps[t]?) →
    (∀ j d, k ≤ j → dstAt ops j = some d → (tl.lookup j = none → g j (a.eval (.tmp d)) w) ∧ d < a.tmps.size) →
    (∀ j o, k ≤ j → ops[j]? = some o → o.dst = none → tl.lookup j = none → g j undef w) → Qn a
  | [], k, b, hos, h, hd, hs, hf, _, _ => by
    have hab : a.tmps = b.tmps := by
      refine Array.ext_getElem? fun t => hf t fun j hj => ?_
      have := hos (j - k)
      rw [show k + (j - k) = j by omega] at this
      simp [dstAt, ← this]
    have : a = b := by cases a; cases b; simp_all
    exact this ▸ h
  | o :: os, k, b, hos, h, hd, hs, hf, hg, hbare => by
    have ho : ops[k]? = some o := by have := hos 0; simpa using this.symm
    have hos' : ∀ i, os[i]? = ops[k + 1 + i]? := fun i => by
      have := hos (i + 1)
      rw [show k + 1 + i = k + (i + 1) by omega, ← this]; simp
    have hdk : dstAt ops k = o.dst := by simp [dstAt, ho]
    unfold ends at h
    cases hdo : o.dst with
    | none =>
      simp only [hdo] at h
      refine ends_at w Qn a os (k + 1) b hos' (h (hbare k o (Nat.le_refl _) ho hdo)) hd hs (fun t ht => hf t fun j hj => ?_) (fun j d hj => hg j d (by omega)) (fun j o hj => hbare j o (by omega))
      by_cases e : j = k
      · subst e; rw [hdk, hdo]; simp
      · exact ht j (by omega)
    | some d =>
      simp only [hdo] at h
      obtain ⟨hgk, hlt⟩ := hg k d (Nat.le_refl _) (hdk.trans hdo)
      refine ends_at w Qn a os (k + 1) (b.put (some d) (a.eval (.tmp d))) hos' (h _ hgk) hd (by simpa [Act.put] using hs) (fun t ht => ?_) (fun j d hj => hg j d (by omega)) (fun j o hj => hbare j o (by omega))
      by_cases e : d = t
      · subst e
        simp only [Act.put, Act.eval, Array.getD_eq_getD_getElem?]
        rw [Array.getElem?_setIfInBounds_self_of_lt (Nat.lt_of_lt_of_le hlt (Nat.le_of_eq hs))]
        simp [hlt]
      · rw [show (b.put (some d) (a.eval (.tmp d))).tmps[t]? = b.tmps[t]? by simp [Act.put, Array.getElem?_setIfInBounds_ne e]]
        refine hf t fun j hj => ?_
        by_cases ej : j = k
        · subst ej; rw [hdk, hdo]; simpa using e
        · exact ht j (by omega)

/-- The law. -/
theorem wp_region_two {id : Nat} {w : World} (S : Bool → World → Prop) (u : Nat) (Keep : Nat → World → World → Prop) (g : Nat → Value → World → Prop) (tab : Tab) (tl : Till) (n : Nat)
    (hm : P.follows .mixedOrders = true) (hn : a0.tmps.size = n) (htab : tabOk ops n tab tl = true)
    (hK : ∀ i j v w w', Keep i w w' → j ≠ i → edge ops j i = false → (∀ u, tl.lookup j = some u → u ≠ i ∧ edge ops i u = false) → g j v w → g j v w') (hS : S true w.drew) (hsteps : steps2 P ops S u Keep g a0 0 ops.toList tab)
    (hend : ∀ f w', (u < ops.size → f = false) → S f w' → ends tl g w' (fun a => Q .normal a w') 0 ops.toList a0) : (Code.region id ops true).wp P Q a0 w := by
  refine wp_region_any hm ?_
  have T : ∀ i, i < ops.size → _ := fun i hi => by
    have h := htab
    unfold tabOk at h
    rw [Bool.and_eq_true, List.all_eq_true] at h
    exact h.2 i (List.mem_range.2 hi)
  simp only [Bool.and_eq_true] at T
  have Hlex : ∀ i o, ops[i]? = some o → (∀ e ∈ o.after, Region.binds .any e = true → e.on < i) ∧ (∀ d, o.dst = some d → d < n) ∧ (∀ j want, o.guard = some (j, want) → edge ops i j = true) := fun i o ho => by
    have h := (T i (Array.getElem?_eq_some_iff.1 ho).1).1.2
    simp only [ho, Option.map_some, Option.getD_some, Bool.and_eq_true, Array.all_eq_true_iff_forall_mem] at h
    refine ⟨fun e he hb => ?_, fun d hd => ?_, fun j want hg => ?_⟩
    · have := h.1.1 e he
      simpa [hb] using this
    · have := h.1.2
      simpa [hd] using this
    · have := h.2
      simpa [hg] using this
  have Hdist : ∀ i j d, dstAt ops i = some d → dstAt ops j = some d → i = j := by
    have key : ∀ i j d, j < i → dstAt ops i = some d → dstAt ops j = some d → False := fun i j d hji hi hj => by
      have hlt : i < ops.size := by
        rcases Nat.lt_or_ge i ops.size with h | h
        · exact h
        · simp [dstAt, Array.getElem?_eq_none h] at hi
      have h := (T i hlt).2
      rw [List.all_eq_true] at h
      have := h j (List.mem_range.2 hji)
      simp [hi, hj] at this
    intro i j d hi hj
    rcases Nat.lt_trichotomy i j with h | h | h
    · exact (key j i d h hj hi).elim
    · exact h
    · exact (key i j d h hi hj).elim
  have Hsize : ∀ j d, dstAt ops j = some d → d < n := fun j d hd => by
    cases ho : ops[j]? with
    | none => simp [dstAt, ho] at hd
    | some o => exact (Hlex j o ho).2.1 d (by simpa [dstAt, ho] using hd)
  have main : ∀ (fuel : Nat) (l : Array Bool) (a : Act) (w : World), State ops tl S u g a0 l a w → l.toList.count false ≤ fuel → wpAny P .any ops Q fuel l a w := by
    have stop : ∀ (l : Array Bool) (a : Act) (w : World), State ops tl S u g a0 l a w → Region.ready .any ops l = [] → Q .normal a w := fun l a w st hr => by
      have hall : ∀ k, k < ops.size → ∀ j, j ≤ k → l.getD j false = true := by
        intro k
        induction k using Nat.strongRecOn with
        | ind k ih =>
          intro hk j hj
          by_cases hlt : j < k
          · exact ih j hlt (by omega) j (Nat.le_refl _)
          · obtain rfl : j = k := by omega
            cases hb : l.getD j false with
            | true => rfl
            | false =>
              have hmem : j ∈ Region.ready .any ops l := by
                have hj1 : j < l.size := by rw [st.size]; exact hk
                obtain ⟨o, ho⟩ : ∃ o, ops[j]? = some o := ⟨ops[j], by simp [hk]⟩
                refine mem_ready.2 ⟨by simpa [hj1] using hb, o, ho, fun e he hbi => ?_⟩
                exact ih e.on ((Hlex j o ho).1 e he hbi) (by have := (Hlex j o ho).1 e he hbi; omega) e.on (Nat.le_refl _)
              rw [hr] at hmem; cases hmem
      have hall' : ∀ j d, dstAt ops j = some d → l.getD j false = true := fun j d hd => by
        have hlt : j < ops.size := by
          rcases Nat.lt_or_ge j ops.size with h | h
          · exact h
          · simp [dstAt, Array.getElem?_eq_none h] at hd
        exact hall j hlt j (Nat.le_refl _)
      refine ends_at w (fun a => Q .normal a w) a ops.toList 0 a0 (fun i => by simp) (hend (!l.getD u false) w (fun hu => by rw [hall u hu u (Nat.le_refl _)]; rfl) st.held) st.defers st.slots (fun t ht => st.free t fun j _ => ht j (Nat.zero_le _)) (fun j d _ hd => ⟨fun ht => st.here j d (hall' j d hd) (fun u hu => by rw [ht] at hu; cases hu) hd, ?_⟩)
        (fun j o _ ho hd ht => st.bare j o (hall j (Array.getElem?_eq_some_iff.1 ho).1 j (Nat.le_refl _)) (fun u hu => by rw [ht] at hu; cases hu) ho hd)
      rw [st.slots, hn]; exact Hsize j d hd
    intro fuel
    induction fuel with
    | zero =>
      intro l a w st hc
      have hr : Region.ready .any ops l = [] := by
        refine List.eq_nil_iff_forall_not_mem.2 fun i hi => ?_
        obtain ⟨h0, o, ho, _⟩ := mem_ready.1 hi
        have hlt : i < l.size := by rw [st.size]; exact (Array.getElem?_eq_some_iff.1 ho).1
        have hmem : false ∈ l.toList := by
          have : l[i] = false := by simpa [hlt] using h0
          exact this ▸ Array.getElem_mem_toList _
        have := List.count_pos_iff.2 hmem
        omega
      exact ⟨hr, stop l a w st hr⟩
    | succ fuel ih =>
      intro l a w st hc
      refine ⟨stop l a w st, fun i hi => ?_⟩
      obtain ⟨h0, o, ho, hpre⟩ := mem_ready.1 hi
      have hio : i < ops.size := (Array.getElem?_eq_some_iff.1 ho).1
      have hlt : i < l.size := by rw [st.size]; exact hio
      have hfalse : l[i] = false := by simpa [hlt] using h0
      have hif : l.getD i false = false := by simpa [hlt] using hfalse
      have hcount : (l.setIfInBounds i true).toList.count false ≤ fuel := by
        rw [Array.toList_setIfInBounds, List.count_set (by simpa using hlt)]
        have : l.toList[i] = false := by simpa using hfalse
        simp only [this, beq_self_eq_true, if_true, show (true == false) = false from rfl, Bool.false_eq_true, if_false]
        omega
      -- what is known
      have hseen : seen a0 a.eval g w (tab.getD i []) := by
        have h := (T i hio).1.1
        rw [List.all_eq_true] at h
        generalize tab.getD i [] = tb at h
        induction tb with
        | nil => trivial
        | cons x r ihr =>
          obtain ⟨t, src⟩ := x
          have h1 := h (t, src) (by simp)
          have h2 := ihr fun y hy => h y (by simp [hy])
          cases src with
          | none =>
            refine ⟨eval_of_slot (st.free t fun j hj hd => ?_), h2⟩
            simp only [List.all_eq_true, List.mem_range] at h1
            have hj' : j < ops.size := by rw [← st.size]; exact listed_true hj
            have := h1 j hj'
            simp only [hd, bne_self_eq_false, Bool.false_or, Bool.or_eq_true, beq_iff_eq] at this
            rcases this with he | he
            · obtain ⟨oj, hoj, e, hem, hb, hon⟩ := edge_spec he
              have := st.down j oj hoj hj e hem hb
              rw [hon, hif] at this; cases this
            · subst he; rw [hif] at hj; cases hj
          | some j =>
            simp only [Bool.and_eq_true, beq_iff_eq] at h1
            obtain ⟨o', ho', e, hem, hb, hon⟩ := edge_spec h1.1.2
            obtain rfl : o = o' := Option.some.inj (ho.symm.trans ho')
            refine ⟨st.here j t (by rw [← hon]; exact hpre e hem hb) (fun u hu => ?_) h1.1.1, h2⟩
            have h3 := h1.2
            simp only [hu, Bool.or_eq_true, beq_iff_eq] at h3
            rcases h3 with h3 | h3
            · rw [h3]; exact hif
            · obtain ⟨ou, hou, e', hem', hb', hon'⟩ := edge_spec h3
              cases hlu : l.getD u false with
              | false => rfl
              | true =>
                have := st.down u ou hou hlu e' hem' hb'
                rw [hon', hif] at this; cases this
      have hfl : (i == u || edge ops u i) = true → (!l.getD u false) = true := fun h => by
        simp only [Bool.or_eq_true, beq_iff_eq] at h
        rcases h with h | h
        · rw [← h, hif]; rfl
        · obtain ⟨ou, hou, e', hem', hb', hon'⟩ := edge_spec h
          cases hlu : l.getD u false with
          | false => rfl
          | true =>
            have := st.down u ou hou hlu e' hem' hb'
            rw [hon', hif] at this; cases this
      have hone := steps_at 0 ops.toList tab i o hsteps (by simpa using ho) a.eval w (!l.getD u false) (by rwa [Nat.zero_add]) ⟨fun _ => rfl, fun _ => rfl, fun _ => rfl⟩ st.held hseen
      rw [Nat.zero_add] at hone
      have hflag : (!(l.setIfInBounds i true).getD u false) = (!l.getD u false && i != u) := by
        by_cases e : i = u
        · subst e; rw [set_getD_self hlt]; simp
        · rw [getD_set_ne false e]; simp [e]
      have noEdge : ∀ j, l.getD j false = true → edge ops j i = false := fun j hj => by
        cases hed : edge ops j i with
        | false => rfl
        | true =>
          obtain ⟨oj, hoj, e', hem', hb', hon'⟩ := edge_spec hed
          have := st.down j oj hoj hj e' hem' hb'
          rw [hon', hif] at this; cases this
      -- the state behind the step
      have next : ∀ v w', g i (kept o.dst v) w' → S (!l.getD u false && i != u) w' → (∀ j u, j ≠ i → edge ops j i = false → (∀ u, tl.lookup j = some u → u ≠ i ∧ edge ops i u = false) → g j u w → g j u w') → State ops tl S u g a0 (l.setIfInBounds i true) (a.put o.dst v) w' := fun v w' hg hS' hk => by
        have hds : ∀ t, (∀ d, o.dst = some d → d ≠ t) → (a.put o.dst v).tmps[t]? = a.tmps[t]? := fun t ht => by
          cases hd : o.dst with
          | none => rfl
          | some d => simp [Act.put, Array.getElem?_setIfInBounds_ne (ht d hd)]
        refine ⟨by simpa using st.size, hflag ▸ hS', by cases o.dst <;> exact st.defers, by cases hd : o.dst <;> simpa [Act.put] using st.slots, ?_, fun t ht => ?_, fun j d hj hun hd => ?_, fun j oj hj hun hoj hdj => ?_⟩
        · intro j oj hoj hj e he hb
          rcases set_getD hj with rfl | hj
          · obtain rfl : o = oj := Option.some.inj (ho.symm.trans hoj)
            exact getD_set_true (hpre e he hb)
          · exact getD_set_true (st.down j oj hoj hj e he hb)
        · rw [hds t fun d hd hdt => ht i (set_getD_self hlt) (by simp [dstAt, ho, hd, hdt])]
          exact st.free t fun j hj => ht j (getD_set_true hj)
        · rcases set_getD hj with rfl | hl2
          · have hod : o.dst = some d := by simpa [dstAt, ho] using hd
            have hdn : d < a.tmps.size := by rw [st.slots, hn]; exact Hsize j d hd
            have : (a.put o.dst v).eval (.tmp d) = v := by simp [hod, Act.put, Act.eval, hdn]
            rw [this]; rw [hod] at hg; exact hg
          · have hne : ∀ d', o.dst = some d' → d' ≠ d := fun d' hd' e => by
              have : i = j := Hdist i j d (by simp [dstAt, ho, hd', e]) hd
              subst this; rw [hif] at hl2; cases hl2
            rw [eval_of_slot (hds d hne)]
            refine hk j _ (fun e => by subst e; rw [hif] at hl2; cases hl2) (noEdge j hl2) (fun u hu => ⟨fun e => ?_, ?_⟩) (st.here j d hl2 (fun u hu => ?_) hd)
            · have := hun u hu
              rw [e, set_getD_self hlt] at this; cases this
            · cases hed : edge ops i u with
              | false => rfl
              | true =>
                obtain ⟨o', ho', e', hem', hb', hon'⟩ := edge_spec hed
                obtain rfl : o = o' := Option.some.inj (ho.symm.trans ho')
                have h1 := hun u hu
                rw [getD_set_true (by rw [← hon']; exact hpre e' hem' hb')] at h1; cases h1
            · cases hlu : l.getD u false with
              | false => rfl
              | true =>
                have := hun u hu
                rw [getD_set_true hlu] at this; cases this
        · rcases set_getD hj with rfl | hl2
          · obtain rfl : o = oj := Option.some.inj (ho.symm.trans hoj)
            rw [hdj] at hg; exact hg
          · refine hk j _ (fun e => by subst e; rw [hif] at hl2; cases hl2) (noEdge j hl2) (fun u hu => ⟨fun e => ?_, ?_⟩) (st.bare j oj hl2 (fun u hu => ?_) hoj hdj)
            · have := hun u hu
              rw [e, set_getD_self hlt] at this; cases this
            · cases hed : edge ops i u with
              | false => rfl
              | true =>
                obtain ⟨o', ho', e', hem', hb', hon'⟩ := edge_spec hed
                obtain rfl : o = o' := Option.some.inj (ho.symm.trans ho')
                have h1 := hun u hu
                rw [getD_set_true (by rw [← hon']; exact hpre e' hem' hb')] at h1; cases h1
            · cases hlu : l.getD u false with
              | false => rfl
              | true =>
                have := hun u hu
                rw [getD_set_true hlu] at this; cases this
      have goal : ∀ v w', (g i (kept o.dst v) w' ∧ S (!l.getD u false && i != u) w' ∧ Keep i w w') → wpAny P .any ops Q fuel (l.setIfInBounds i true) (a.put o.dst v) w' := fun v w' h =>
        ih _ _ _ (next v w' h.1 h.2.1 fun j u hne hed ht hu => hK i j u _ _ h.2.2 hne hed ht hu) hcount
      unfold wpOp
      simp only [ho]
      unfold oneStep at hone
      cases hgd : o.guard with
      | none =>
        simp only [hgd] at hone
        rw [if_pos (by simp [Region.wanted, hgd])]
        exact .inl (leaves_wp hone goal)
      | some gw =>
        obtain ⟨j, want⟩ := gw
        simp only [hgd] at hone
        cases hdj : (ops[j]?).bind (·.dst) with
        | none => simp only [hdj] at hone
        | some d =>
          simp only [hdj] at hone
          have hdn : d < a.tmps.size := by rw [st.slots, hn]; exact Hsize j d hdj
          have hev : a.eval (.tmp d) = a.tmps[d] := by simp [Act.eval, hdn]
          have hy : yielded ops a.tmps j = match a.tmps[d] with | .bool b => some b | _ => none := by
            unfold yielded
            rw [hdj]
            simp only [Option.bind_some, Array.getElem?_eq_getElem hdn]
            cases a.tmps[d] <;> rfl
          rcases hone with ⟨he, hl⟩ | ⟨he, hg', hS'⟩
          · rw [hev] at he
            rw [if_pos (by simp [Region.wanted, hgd, hy, he])]
            exact .inl (leaves_wp hl goal)
          · rw [hev] at he
            have hw : Region.wanted o (yielded ops a.tmps) = false := by
              simp only [Region.wanted, hgd, hy]
              split
              · rename_i b hb
                have : b ≠ want := fun e => he (by rw [hb, e])
                simpa using this
              · rfl
            rw [if_neg (by rw [hw]; exact Bool.false_ne_true)]
            exact ih _ _ _ (next undef w (by cases o.dst <;> exact hg') hS' fun _ _ _ _ _ h => h) hcount
  refine main ops.size _ a0 _ ⟨by simp, by rw [show (Array.replicate ops.size false).getD u false = false by simp [Array.getElem?_replicate]; split <;> rfl]; exact hS, rfl, rfl, fun j o _ hj => ?_, fun t _ => rfl, fun j d hj => ?_, fun j o hj => ?_⟩ (by simp)
  · simp [Array.getElem?_replicate] at hj
    split at hj <;> simp at hj
  · simp [Array.getElem?_replicate] at hj
    split at hj <;> simp at hj
  · simp [Array.getElem?_replicate] at hj
    split at hj <;> simp at hj

/-- One condition on the world. -/
theorem wp_region_left {id : Nat} {w : World} (S : World → Prop) (Keep : Nat → World → World → Prop) (g : Nat → Value → World → Prop) (tab : Tab) (tl : Till) (n : Nat)
    (hm : P.follows .mixedOrders = true) (hn : a0.tmps.size = n) (htab : tabOk ops n tab tl = true)
    (hK : ∀ i j v w w', Keep i w w' → j ≠ i → edge ops j i = false → (∀ u, tl.lookup j = some u → u ≠ i ∧ edge ops i u = false) → g j v w → g j v w') (hS : S w.drew) (hsteps : steps P ops S Keep g a0 0 ops.toList tab)
    (hend : ∀ w', S w' → ends tl g w' (fun a => Q .normal a w') 0 ops.toList a0) : (Code.region id ops true).wp P Q a0 w :=
  wp_region_two (fun _ => S) ops.size Keep g tab tl n hm hn htab hK hS (steps2_of 0 _ _ hsteps) (fun _ w' _ h => hend w' h)

end
end Go.Proofs.YtgolihipinjfmaaGreatDoor
