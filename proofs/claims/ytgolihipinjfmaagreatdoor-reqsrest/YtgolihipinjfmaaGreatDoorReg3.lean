/- The law on regions that draw their order, where the value of one operation (a block that is made there) may be spoken of by those that wait for it. -/
import Derived.Test.YtgolihipinjfmaaGreatDoorReg2
namespace Go.Proofs.YtgolihipinjfmaaGreatDoor
open Go

/-- The watched value behind operation i. -/
def gv (i u : Nat) (v x : Value) : Value := if i = u then v else x

def oneStep4 (P : Program) (ops : Array Oper) (S : Value → World → Prop) (Keep : Nat → World → World → Prop) (g : Value → Nat → Value → World → Prop) (tu u i : Nat) (o : Oper) (ρ : Operand → Value) (w : World) : Prop :=
  match o.guard with
  | none => leaves P o ρ w fun v w' => g (gv i u v (ρ (.tmp tu))) i (kept o.dst v) w' ∧ S (gv i u v (ρ (.tmp tu))) w' ∧ Keep i w w'
  | some (j, want) => match (ops[j]?).bind (·.dst) with
    | some d => (ρ (.tmp d) = .bool want ∧ leaves P o ρ w fun v w' => g (gv i u v (ρ (.tmp tu))) i (kept o.dst v) w' ∧ S (gv i u v (ρ (.tmp tu))) w' ∧ Keep i w w') ∨ (ρ (.tmp d) ≠ .bool want ∧ g (gv i u undef (ρ (.tmp tu))) i undef w ∧ S (gv i u undef (ρ (.tmp tu))) w)
    | none => False

def steps4 (P : Program) (ops : Array Oper) (S : Bool → Value → World → Prop) (u tu : Nat) (Keep : Nat → World → World → Prop) (g : Value → Nat → Value → World → Prop) (a0 : Act) : Nat → List Oper → Tab → Prop
  | i, o :: os, tb :: tbs => (∀ ρ w f, ((i == u || ((ops[u]?).map fun o => o.after.any fun e => Region.binds .any e && e.on == i).getD false) = true → f = true) → (edge ops i u = true → f = false) → Reads ρ → S f (ρ (.tmp tu)) w → seen a0 ρ (g (ρ (.tmp tu))) w tb → oneStep4 P ops (S (f && i != u)) Keep g tu u i o ρ w) ∧ steps4 P ops S u tu Keep g a0 (i + 1) os tbs
  | _, [], [] => True
  | _, _, _ => False

section
variable {P : Program} {ops : Array Oper} {Q : Exit → Act → World → Prop} {Keep : Nat → World → World → Prop} {g : Value → Nat → Value → World → Prop} {a0 : Act} {tab : Tab} {tl : Till}

theorem steps_at4 {S : Bool → Value → World → Prop} {u tu : Nat} : ∀ (k : Nat) (os : List Oper) (tbs : Tab) (i : Nat) (o : Oper), steps4 P ops S u tu Keep g a0 k os tbs → os[i]? = some o →
    ∀ ρ w f, ((k + i == u || edge ops u (k + i)) = true → f = true) → (edge ops (k + i) u = true → f = false) → Reads ρ → S f (ρ (.tmp tu)) w → seen a0 ρ (g (ρ (.tmp tu))) w (tbs.getD i []) → oneStep4 P ops (S (f && k + i != u)) Keep g tu u (k + i) o ρ w
  | _, [], _, _, _, _, h => by simp at h
  | k, o' :: os, [], _, _, h, _ => h.elim
  | k, o' :: os, tb :: tbs, 0, o, h, hi => by
    obtain rfl : o' = o := by simpa using hi
    exact fun ρ w f hf hf2 hr hS hs => h.1 ρ w f hf hf2 hr hS (by simpa using hs)
  | k, o' :: os, tb :: tbs, i + 1, o, h, hi => fun ρ w f hf hf2 hr hS hs => by
    have := steps_at4 (k + 1) os tbs i o h.2 (by simpa using hi) ρ w f (by rwa [show k + 1 + i = k + (i + 1) by omega]) (by rwa [show k + 1 + i = k + (i + 1) by omega]) hr hS (by simpa using hs)
    rwa [show k + 1 + i = k + (i + 1) by omega] at this

section
variable {S : Value → World → Prop} {i u tu : Nat} {o : Oper} {ρ : Operand → Value} {w : World}
theorem step4_plain (h : o.guard = none) (hne : i ≠ u) (hl : leaves P o ρ w fun v w' => g (ρ (.tmp tu)) i (kept o.dst v) w' ∧ S (ρ (.tmp tu)) w' ∧ Keep i w w') : oneStep4 P ops S Keep g tu u i o ρ w := by
  unfold oneStep4; rw [h]; simp only [gv, if_neg hne]; exact hl
theorem step4_made (h : o.guard = none) (hl : leaves P o ρ w fun v w' => g v i (kept o.dst v) w' ∧ S v w' ∧ Keep i w w') : oneStep4 P ops S Keep g tu i i o ρ w := by
  unfold oneStep4; rw [h]; simp only [gv, if_pos]; exact hl
end

theorem wp_region_four {id : Nat} {w : World} (S : Bool → Value → World → Prop) (u tu : Nat) (Keep : Nat → World → World → Prop) (g : Value → Nat → Value → World → Prop) (tab : Tab) (tl : Till) (n : Nat)
    (hm : P.follows .mixedOrders = true) (hn : a0.tmps.size = n) (htab : tabOk ops n tab tl = true)
    (htu : dstAt ops u = some tu) (hx : ∀ j x x' v w, edge ops j u = false → j ≠ u → g x j v w → g x' j v w)
    (hK : ∀ x i j v w w', Keep i w w' → j ≠ i → edge ops j i = false → (∀ k, edge ops j k = true → edge ops k i = false) → (∀ u, tl.lookup j = some u → u ≠ i ∧ edge ops i u = false) → g x j v w → g x j v w') (hS : S true (a0.eval (.tmp tu)) w.drew) (hsteps : steps4 P ops S u tu Keep g a0 0 ops.toList tab)
    (hend : ∀ x f w', (u < ops.size → f = false) → S f x w' → ends tl (g x) w' (fun a => a.eval (.tmp tu) = x → Q .normal a w') 0 ops.toList a0) : (Code.region id ops true).wp P Q a0 w := by
  refine wp_region_any hm ?_
  have T : ∀ i, i < ops.size → _ := fun i hi => by
    have h := htab
    unfold tabOk at h
    rw [Bool.and_eq_true, List.all_eq_true] at h
    exact h.2 i (List.mem_range.2 hi)
  simp only [Bool.and_eq_true] at T
  have Hlex : ∀ i o, ops[i]? = some o → (∀ e ∈ o.after, Region.binds .any e = true → e.on < i) ∧ (∀ d, o.dst = some d → d < n) ∧ (∀ j want, o.guard = some (j, want) → edge ops i j = true) := fun i o ho => by
    have h := (T i (Array.getElem?_eq_some_iff.1 ho).1).1.2
    simp only [ho, Option.map_some, Option.getD_some, Bool.and_eq_true, Array.all_eq_true_iff_forall_mem] at h
    refine ⟨fun e he hb => ?_, fun d hd => ?_, fun j want hg => ?_⟩
    · have := h.1.1 e he
      simpa [hb] using this
    · have := h.1.2
      simpa [hd] using this
    · have := h.2
      simpa [hg] using this
  have Hdist : ∀ i j d, dstAt ops i = some d → dstAt ops j = some d → i = j := by
    have key : ∀ i j d, j < i → dstAt ops i = some d → dstAt ops j = some d → False := fun i j d hji hi hj => by
      have hlt : i < ops.size := by
        rcases Nat.lt_or_ge i ops.size with h | h
        · exact h
        · simp [dstAt, Array.getElem?_eq_none h] at hi
      have h := (T i hlt).2
      rw [List.all_eq_true] at h
      have := h j (List.mem_range.2 hji)
      simp [hi, hj] at this
    intro i j d hi hj
    rcases Nat.lt_trichotomy i j with h | h | h
    · exact (key j i d h hj hi).elim
    · exact h
    · exact (key i j d h hi hj).elim
  have Hsize : ∀ j d, dstAt ops j = some d → d < n := fun j d hd => by
    cases ho : ops[j]? with
    | none => simp [dstAt, ho] at hd
    | some o => exact (Hlex j o ho).2.1 d (by simpa [dstAt, ho] using hd)
  have main : ∀ (fuel : Nat) (l : Array Bool) (a : Act) (w : World), State ops tl (fun f => S f (a.eval (.tmp tu))) u (g (a.eval (.tmp tu))) a0 l a w → l.toList.count false ≤ fuel → wpAny P .any ops Q fuel l a w := by
    have stop : ∀ (l : Array Bool) (a : Act) (w : World), State ops tl (fun f => S f (a.eval (.tmp tu))) u (g (a.eval (.tmp tu))) a0 l a w → Region.ready .any ops l = [] → Q .normal a w := fun l a w st hr => by
      have hall : ∀ k, k < ops.size → ∀ j, j ≤ k → l.getD j false = true := by
        intro k
        induction k using Nat.strongRecOn with
        | ind k ih =>
          intro hk j hj
          by_cases hlt : j < k
          · exact ih j hlt (by omega) j (Nat.le_refl _)
          · obtain rfl : j = k := by omega
            cases hb : l.getD j false with
            | true => rfl
            | false =>
              have hmem : j ∈ Region.ready .any ops l := by
                have hj1 : j < l.size := by rw [st.size]; exact hk
                obtain ⟨o, ho⟩ : ∃ o, ops[j]? = some o := ⟨ops[j], by simp [hk]⟩
                refine mem_ready.2 ⟨by simpa [hj1] using hb, o, ho, fun e he hbi => ?_⟩
                exact ih e.on ((Hlex j o ho).1 e he hbi) (by have := (Hlex j o ho).1 e he hbi; omega) e.on (Nat.le_refl _)
              rw [hr] at hmem; cases hmem
      have hall' : ∀ j d, dstAt ops j = some d → l.getD j false = true := fun j d hd => by
        have hlt : j < ops.size := by
          rcases Nat.lt_or_ge j ops.size with h | h
          · exact h
          · simp [dstAt, Array.getElem?_eq_none h] at hd
        exact hall j hlt j (Nat.le_refl _)
      refine ends_at w (fun b => b.eval (.tmp tu) = a.eval (.tmp tu) → Q .normal b w) a ops.toList 0 a0 (fun i => by simp) (hend (a.eval (.tmp tu)) (!l.getD u false) w (fun hu => by rw [hall u hu u (Nat.le_refl _)]; rfl) st.held) st.defers st.slots (fun t ht => st.free t fun j _ => ht j (Nat.zero_le _)) (fun j d _ hd => ⟨fun ht => st.here j d (hall' j d hd) (fun u hu => by rw [ht] at hu; cases hu) hd, ?_⟩)
        (fun j o _ ho hd ht => st.bare j o (hall j (Array.getElem?_eq_some_iff.1 ho).1 j (Nat.le_refl _)) (fun u hu => by rw [ht] at hu; cases hu) ho hd) rfl
      rw [st.slots, hn]; exact Hsize j d hd
    intro fuel
    induction fuel with
    | zero =>
      intro l a w st hc
      have hr : Region.ready .any ops l = [] := by
        refine List.eq_nil_iff_forall_not_mem.2 fun i hi => ?_
        obtain ⟨h0, o, ho, _⟩ := mem_ready.1 hi
        have hlt : i < l.size := by rw [st.size]; exact (Array.getElem?_eq_some_iff.1 ho).1
        have hmem : false ∈ l.toList := by
          have : l[i] = false := by simpa [hlt] using h0
          exact this ▸ Array.getElem_mem_toList _
        have := List.count_pos_iff.2 hmem
        omega
      exact ⟨hr, stop l a w st hr⟩
    | succ fuel ih =>
      intro l a w st hc
      refine ⟨stop l a w st, fun i hi => ?_⟩
      obtain ⟨h0, o, ho, hpre⟩ := mem_ready.1 hi
      have hio : i < ops.size := (Array.getElem?_eq_some_iff.1 ho).1
      have hlt : i < l.size := by rw [st.size]; exact hio
      have hfalse : l[i] = false := by simpa [hlt] using h0
      have hif : l.getD i false = false := by simpa [hlt] using hfalse
      have hcount : (l.setIfInBounds i true).toList.count false ≤ fuel := by
        rw [Array.toList_setIfInBounds, List.count_set (by simpa using hlt)]
        have : l.toList[i] = false := by simpa using hfalse
        simp only [this, beq_self_eq_true, if_true, show (true == false) = false from rfl, Bool.false_eq_true, if_false]
        omega
      -- what is known
      have hseen : seen a0 a.eval (g (a.eval (.tmp tu))) w (tab.getD i []) := by
        have h := (T i hio).1.1
        rw [List.all_eq_true] at h
        generalize tab.getD i [] = tb at h
        induction tb with
        | nil => trivial
        | cons x r ihr =>
          obtain ⟨t, src⟩ := x
          have h1 := h (t, src) (by simp)
          have h2 := ihr fun y hy => h y (by simp [hy])
          cases src with
          | none =>
            refine ⟨eval_of_slot (st.free t fun j hj hd => ?_), h2⟩
            simp only [List.all_eq_true, List.mem_range] at h1
            have hj' : j < ops.size := by rw [← st.size]; exact listed_true hj
            have := h1 j hj'
            simp only [hd, bne_self_eq_false, Bool.false_or, Bool.or_eq_true, beq_iff_eq] at this
            rcases this with he | he
            · obtain ⟨oj, hoj, e, hem, hb, hon⟩ := edge_spec he
              have := st.down j oj hoj hj e hem hb
              rw [hon, hif] at this; cases this
            · subst he; rw [hif] at hj; cases hj
          | some j =>
            simp only [Bool.and_eq_true, beq_iff_eq] at h1
            obtain ⟨o', ho', e, hem, hb, hon⟩ := edge_spec h1.1.2
            obtain rfl : o = o' := Option.some.inj (ho.symm.trans ho')
            refine ⟨st.here j t (by rw [← hon]; exact hpre e hem hb) (fun u hu => ?_) h1.1.1, h2⟩
            have h3 := h1.2
            simp only [hu, Bool.or_eq_true, beq_iff_eq] at h3
            rcases h3 with h3 | h3
            · rw [h3]; exact hif
            · obtain ⟨ou, hou, e', hem', hb', hon'⟩ := edge_spec h3
              cases hlu : l.getD u false with
              | false => rfl
              | true =>
                have := st.down u ou hou hlu e' hem' hb'
                rw [hon', hif] at this; cases this
      have hfl : (i == u || edge ops u i) = true → (!l.getD u false) = true := fun h => by
        simp only [Bool.or_eq_true, beq_iff_eq] at h
        rcases h with h | h
        · rw [← h, hif]; rfl
        · obtain ⟨ou, hou, e', hem', hb', hon'⟩ := edge_spec h
          cases hlu : l.getD u false with
          | false => rfl
          | true =>
            have := st.down u ou hou hlu e' hem' hb'
            rw [hon', hif] at this; cases this
      have hfl2 : edge ops i u = true → (!l.getD u false) = false := fun h => by
        obtain ⟨o', ho', e', hem', hb', hon'⟩ := edge_spec h
        obtain rfl : o = o' := Option.some.inj (ho.symm.trans ho')
        rw [← hon', hpre e' hem' hb']; rfl
      have hone := steps_at4 0 ops.toList tab i o hsteps (by simpa using ho) a.eval w (!l.getD u false) (by rwa [Nat.zero_add]) (by rwa [Nat.zero_add]) ⟨fun _ => rfl, fun _ => rfl, fun _ => rfl⟩ st.held hseen
      rw [Nat.zero_add] at hone
      have hflag : (!(l.setIfInBounds i true).getD u false) = (!l.getD u false && i != u) := by
        by_cases e : i = u
        · subst e; rw [set_getD_self hlt]; simp
        · rw [getD_set_ne false e]; simp [e]
      have noEdge : ∀ j, l.getD j false = true → edge ops j i = false := fun j hj => by
        cases hed : edge ops j i with
        | false => rfl
        | true =>
          obtain ⟨oj, hoj, e', hem', hb', hon'⟩ := edge_spec hed
          have := st.down j oj hoj hj e' hem' hb'
          rw [hon', hif] at this; cases this
      have listed : ∀ j k, l.getD j false = true → edge ops j k = true → l.getD k false = true := fun j k hj hjk => by
        obtain ⟨oj, hoj, e', hem', hb', hon'⟩ := edge_spec hjk
        rw [← hon']; exact st.down j oj hoj hj e' hem' hb'
      -- the state behind the step
      have hval : ∀ v, (a.put o.dst v).eval (.tmp tu) = gv i u v (a.eval (.tmp tu)) := fun v => by
        unfold gv
        by_cases e : i = u
        · rw [if_pos e]
          have hod : o.dst = some tu := by rw [← e] at htu; simpa [dstAt, ho] using htu
          have hdn : tu < a.tmps.size := by rw [st.slots, hn]; exact Hsize u tu htu
          simp [hod, Act.put, Act.eval, hdn]
        · rw [if_neg e]
          refine eval_of_slot ?_
          cases hd : o.dst with
          | none => rfl
          | some d => simp [Act.put, Array.getElem?_setIfInBounds_ne (fun e2 : d = tu => e (Hdist i u tu (by simp [dstAt, ho, hd, e2]) htu))]
      have next : ∀ v w', g (gv i u v (a.eval (.tmp tu))) i (kept o.dst v) w' → S (!l.getD u false && i != u) (gv i u v (a.eval (.tmp tu))) w' → (∀ j y, j ≠ i → edge ops j i = false → (∀ k, edge ops j k = true → edge ops k i = false) → (∀ u, tl.lookup j = some u → u ≠ i ∧ edge ops i u = false) → g (a.eval (.tmp tu)) j y w → g (gv i u v (a.eval (.tmp tu))) j y w') → State ops tl (fun f => S f ((a.put o.dst v).eval (.tmp tu))) u (g ((a.put o.dst v).eval (.tmp tu))) a0 (l.setIfInBounds i true) (a.put o.dst v) w' := fun v w' hg hS' hk => by
        rw [hval v]
        have hds : ∀ t, (∀ d, o.dst = some d → d ≠ t) → (a.put o.dst v).tmps[t]? = a.tmps[t]? := fun t ht => by
          cases hd : o.dst with
          | none => rfl
          | some d => simp [Act.put, Array.getElem?_setIfInBounds_ne (ht d hd)]
        refine ⟨by simpa using st.size, hflag ▸ hS', by cases o.dst <;> exact st.defers, by cases hd : o.dst <;> simpa [Act.put] using st.slots, ?_, fun t ht => ?_, fun j d hj hun hd => ?_, fun j oj hj hun hoj hdj => ?_⟩
        · intro j oj hoj hj e he hb
          rcases set_getD hj with rfl | hj
          · obtain rfl : o = oj := Option.some.inj (ho.symm.trans hoj)
            exact getD_set_true (hpre e he hb)
          · exact getD_set_true (st.down j oj hoj hj e he hb)
        · rw [hds t fun d hd hdt => ht i (set_getD_self hlt) (by simp [dstAt, ho, hd, hdt])]
          exact st.free t fun j hj => ht j (getD_set_true hj)
        · rcases set_getD hj with rfl | hl2
          · have hod : o.dst = some d := by simpa [dstAt, ho] using hd
            have hdn : d < a.tmps.size := by rw [st.slots, hn]; exact Hsize j d hd
            have : (a.put o.dst v).eval (.tmp d) = v := by simp [hod, Act.put, Act.eval, hdn]
            rw [this]; rw [hod] at hg; exact hg
          · have hne : ∀ d', o.dst = some d' → d' ≠ d := fun d' hd' e => by
              have : i = j := Hdist i j d (by simp [dstAt, ho, hd', e]) hd
              subst this; rw [hif] at hl2; cases hl2
            rw [eval_of_slot (hds d hne)]
            refine hk j _ (fun e => by subst e; rw [hif] at hl2; cases hl2) (noEdge j hl2) (fun k hjk => noEdge k (listed j k hl2 hjk)) (fun u hu => ⟨fun e => ?_, ?_⟩) (st.here j d hl2 (fun u hu => ?_) hd)
            · have := hun u hu
              rw [e, set_getD_self hlt] at this; cases this
            · cases hed : edge ops i u with
              | false => rfl
              | true =>
                obtain ⟨o', ho', e', hem', hb', hon'⟩ := edge_spec hed
                obtain rfl : o = o' := Option.some.inj (ho.symm.trans ho')
                have h1 := hun u hu
                rw [getD_set_true (by rw [← hon']; exact hpre e' hem' hb')] at h1; cases h1
            · cases hlu : l.getD u false with
              | false => rfl
              | true =>
                have := hun u hu
                rw [getD_set_true hlu] at this; cases this
        · rcases set_getD hj with rfl | hl2
          · obtain rfl : o = oj := Option.some.inj (ho.symm.trans hoj)
            rw [hdj] at hg; exact hg
          · refine hk j _ (fun e => by subst e; rw [hif] at hl2; cases hl2) (noEdge j hl2) (fun k hjk => noEdge k (listed j k hl2 hjk)) (fun u hu => ⟨fun e => ?_, ?_⟩) (st.bare j oj hl2 (fun u hu => ?_) hoj hdj)
            · have := hun u hu
              rw [e, set_getD_self hlt] at this; cases this
            · cases hed : edge ops i u with
              | false => rfl
              | true =>
                obtain ⟨o', ho', e', hem', hb', hon'⟩ := edge_spec hed
                obtain rfl : o = o' := Option.some.inj (ho.symm.trans ho')
                have h1 := hun u hu
                rw [getD_set_true (by rw [← hon']; exact hpre e' hem' hb')] at h1; cases h1
            · cases hlu : l.getD u false with
              | false => rfl
              | true =>
                have := hun u hu
                rw [getD_set_true hlu] at this; cases this
      have swap : ∀ v j y W, j ≠ i → edge ops j i = false → g (a.eval (.tmp tu)) j y W → g (gv i u v (a.eval (.tmp tu))) j y W := fun v j y W hne hed h => by
        unfold gv
        by_cases e : i = u
        · rw [if_pos e]; exact hx j _ _ y W (e ▸ hed) (e ▸ hne) h
        · rw [if_neg e]; exact h
      have goal : ∀ v w', (g (gv i u v (a.eval (.tmp tu))) i (kept o.dst v) w' ∧ S (!l.getD u false && i != u) (gv i u v (a.eval (.tmp tu))) w' ∧ Keep i w w') → wpAny P .any ops Q fuel (l.setIfInBounds i true) (a.put o.dst v) w' := fun v w' h =>
        ih _ _ _ (next v w' h.1 h.2.1 fun j y hne hed h2 ht hu => hK _ i j y _ _ h.2.2 hne hed h2 ht (swap v j y _ hne hed hu)) hcount
      unfold wpOp
      simp only [ho]
      unfold oneStep4 at hone
      cases hgd : o.guard with
      | none =>
        simp only [hgd] at hone
        rw [if_pos (by simp [Region.wanted, hgd])]
        exact .inl (leaves_wp hone goal)
      | some gw =>
        obtain ⟨j, want⟩ := gw
        simp only [hgd] at hone
        cases hdj : (ops[j]?).bind (·.dst) with
        | none => simp only [hdj] at hone
        | some d =>
          simp only [hdj] at hone
          have hdn : d < a.tmps.size := by rw [st.slots, hn]; exact Hsize j d hdj
          have hev : a.eval (.tmp d) = a.tmps[d] := by simp [Act.eval, hdn]
          have hy : yielded ops a.tmps j = match a.tmps[d] with | .bool b => some b | _ => none := by
            unfold yielded
            rw [hdj]
            simp only [Option.bind_some, Array.getElem?_eq_getElem hdn]
            cases a.tmps[d] <;> rfl
          rcases hone with ⟨he, hl⟩ | ⟨he, hg', hS'⟩
          · rw [hev] at he
            rw [if_pos (by simp [Region.wanted, hgd, hy, he])]
            exact .inl (leaves_wp hl goal)
          · rw [hev] at he
            have hw : Region.wanted o (yielded ops a.tmps) = false := by
              simp only [Region.wanted, hgd, hy]
              split
              · rename_i b hb
                have : b ≠ want := fun e => he (by rw [hb, e])
                simpa using this
              · rfl
            rw [if_neg (by rw [hw]; exact Bool.false_ne_true)]
            exact ih _ _ _ (next undef w (by cases o.dst <;> exact hg') hS' fun j y hne hed _ _ h => swap undef j y _ hne hed h) hcount
  refine main ops.size _ a0 _ ⟨by simp, by rw [show (Array.replicate ops.size false).getD u false = false by simp [Array.getElem?_replicate]; split <;> rfl]; exact hS, rfl, rfl, fun j o _ hj => ?_, fun t _ => rfl, fun j d hj => ?_, fun j o hj => ?_⟩ (by simp)
  · simp [Array.getElem?_replicate] at hj
    split at hj <;> simp at hj
  · simp [Array.getElem?_replicate] at hj
    split at hj <;> simp at hj
  · simp [Array.getElem?_replicate] at hj
    split at hj <;> simp at hj

end
end Go.Proofs.YtgolihipinjfmaaGreatDoor
