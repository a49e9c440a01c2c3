/- A store of sockets in memory: one socket turned, one more, one less; what is found. -/
import Derived.Test.YtfhkdndgiofidaaXMem
namespace Go.Proofs.Ytfhkdndgiofidaa.X
open Go Go.RowKit Go.Maps Go.Proofs.Ytfhkdndgiofidaa.K

section
variable {P P' : Nat → Prop} {w w' w0 : World} {sb mb n next k : Nat} {y : Lay} {T : Tb} {x x' : Sk} {F G : Nat → Prop} {v : Value}
theorem put_own_same {D : DataW Nat} {q b : Nat} (e : gOf D k = b) : own (y.put k D q v F G) k = fun c => c = b ∨ F c ∨ G c ∨ v.ownBlock = some c := by
  funext c
  simp [own, Lay.put, e]
theorem put_own_other {D : DataW Nat} {q j : Nat} (h : j ≠ k) (e : gOf D j = gOf y.D j) : own (y.put k D q v F G) j = own y j := by
  funext c
  simp [own, Lay.put, h, e]
/-- One socket is turned. -/
theorem StM.turn (h : StM w sb mb n next y T) (hk : T k = some x) (hK : Keep (fun b => ¬ (b = gOf y.D k ∨ y.F k b ∨ (y.V k).ownBlock = some b)) w w') (hS : SkM F G w' (gOf y.D k) n x' (y.Q k) v)
    (hF : ∀ b, F b → y.F k b ∨ w.heap.size ≤ b) (hG : ∀ b, G b → y.G k b ∨ w.heap.size ≤ b) (hV : ∀ b, v.ownBlock = some b → (y.V k).ownBlock = some b ∨ w.heap.size ≤ b) :
    StM w' sb mb n next (y.put k y.D (y.Q k) v F G) (setT T k (some x')) ∧ Moves (foot sb mb y T) (foot sb mb (y.put k y.D (y.Q k) v F G) (setT T k (some x'))) w w' := by
  have hh := hasT_of hk
  have eh : hasT (setT T k (some x')) = hasT T := hasT_set hh
  have hlt : ∀ {j b}, hasT T j = true → own y j b → b < w.heap.size := fun {j b} h1 h2 => h.lt (.inr (.inr ⟨j, h1, h2⟩))
  have hown : ∀ {b}, (F b ∨ G b ∨ v.ownBlock = some b) → own y k b ∨ w.heap.size ≤ b := fun {b} h7 => by
    rcases h7 with h7 | h7 | h7
    · exact (hF b h7).imp_left fun h => .inr (.inl h)
    · exact (hG b h7).imp_left fun h => .inr (.inr (.inl h))
    · exact (hV b h7).imp_left fun h => .inr (.inr (.inr h))
  have hmine : ∀ b, (b = gOf y.D k ∨ y.F k b ∨ (y.V k).ownBlock = some b) → own y k b := fun b h7 => by
    rcases h7 with h7 | h7 | h7
    · exact .inl h7
    · exact .inr (.inl h7)
    · exact .inr (.inr (.inr h7))
  have ksb : w'.heap[sb]? = w.heap[sb]? := hK.block sb h.box.lt fun h7 => (h.apart hh (hmine _ h7)).1 rfl
  have kmb : w'.heap[mb]? = w.heap[mb]? := hK.block mb h.map.lt fun h7 => (h.apart hh (hmine _ h7)).2 rfl
  refine ⟨⟨⟨ksb.trans h.box.row⟩, owns_block h.map kmb, by rw [eh]; exact h.is, fun j z hz => ?_, fun i j hi hj hne b h1 h2 => ?_, fun i j hi hj hne b h1 h2 => ?_, fun i j hi hj hne b h1 h2 => ?_⟩, hK.mono fun b _ h7 h8 => h7 (.inr (.inr ⟨k, hh, hmine b h8⟩)), fun b hb => ?_⟩
  · by_cases e : j = k
    · subst e
      rw [setT_same] at hz
      cases hz
      simpa [Lay.put] using hS
    · rw [setT_other T _ e] at hz
      have := (h.sk j z hz).keep (hK.mono fun b _ hb => h.other (hasT_of hz) hh e hb)
      simpa [Lay.put, e] using this
  · rw [eh] at hi hj
    by_cases ei : i = k
    · subst ei
      have ej : ¬ j = i := fun e => hne e.symm
      simp [Lay.put, ej] at h1 h2
      rcases hF b h1 with h3 | h3
      · exact h.fa i j hi hj hne b h3 h2
      · have := hlt hj (.inr (.inl h2)); omega
    · by_cases ej : j = k
      · subst ej
        simp [Lay.put, ei] at h1 h2
        rcases hF b h2 with h3 | h3
        · exact h.fa i j hi hj hne b h1 h3
        · have := hlt hi (.inr (.inl h1)); omega
      · simp [Lay.put, ei, ej] at h1 h2
        exact h.fa i j hi hj hne b h1 h2
  · rw [eh] at hi hj
    by_cases ei : i = k
    · subst ei
      have ej : ¬ j = i := fun e => hne e.symm
      simp [Lay.put, ej] at h1 h2
      rcases hV b h1 with h3 | h3
      · exact h.wa i j hi hj hne b h3 h2
      · have := hlt hj (.inr (.inr (.inr h2))); omega
    · by_cases ej : j = k
      · subst ej
        simp [Lay.put, ei] at h1 h2
        rcases hV b h2 with h3 | h3
        · exact h.wa i j hi hj hne b h1 h3
        · have := hlt hi (.inr (.inr (.inr h1))); omega
      · simp [Lay.put, ei, ej] at h1 h2
        exact h.wa i j hi hj hne b h1 h2
  · rw [eh] at hi hj
    by_cases ei : i = k
    · subst ei
      have ej : ¬ j = i := fun e => hne e.symm
      simp [Lay.put, ej] at h1 h2
      rcases hG b h1 with h3 | h3
      · exact h.ga i j hi hj hne b h3 h2
      · have := hlt hj (.inr (.inr (.inr h2))); omega
    · by_cases ej : j = k
      · subst ej
        simp [Lay.put, ei] at h1 h2
        rcases hV b h2 with h3 | h3
        · exact h.ga i j hi hj hne b h1 h3
        · have := hlt hi (.inr (.inr (.inl h1))); omega
      · simp [Lay.put, ei, ej] at h1 h2
        exact h.ga i j hi hj hne b h1 h2
  · rcases hb with hb | hb | ⟨j, hj, hb⟩
    · exact .inl (.inl hb)
    · exact .inl (.inr (.inl hb))
    · rw [eh] at hj
      by_cases e : j = k
      · subst e
        rw [put_own_same rfl] at hb
        rcases hb with hb | hb
        · exact .inl (.inr (.inr ⟨j, hj, .inl hb⟩))
        · exact (hown hb).imp_left fun h7 => .inr (.inr ⟨j, hj, h7⟩)
      · rw [put_own_other e rfl] at hb
        exact .inl (.inr (.inr ⟨j, hj, hb⟩))
/-- The store's box. -/
theorem StM.boxed {next' : Nat} (h : StM w sb mb n next y T) (hb : But sb w w') (hB : Blk w' sb 65 [.map (some mb), .int .i64 (n : Int), .int .i64 (next' : Int)]) : StM w' sb mb n next' y T ∧ Moves (foot sb mb y T) (foot sb mb y T) w w' := by
  have hk : Keep (fun b => b ≠ sb) w w' := keep_but hb fun h => h rfl
  refine ⟨⟨hB, owns_block h.map (hb.block mb fun e => ?_), h.is, fun j z hz => (h.sk j z hz).keep (hk.mono fun b _ h7 => (h.apart (hasT_of hz) h7).1), h.fa, h.wa, h.ga⟩, hk.mono fun b _ h7 e => h7 (.inl e), fun _ h => .inl h⟩
  exact h.mbt (typ_blk h.box) e.symm
/-- One more. -/
theorem StM.more {g q m : Nat} (h0 : StM w0 sb mb n next y T) (hb : Below w0.heap.size w0 w) (hk : T k = none) (hl : k < 1024) (hS : SkM F G w g n x q v) (hg : w0.heap.size ≤ g) (hF : ∀ b, F b ∨ G b ∨ v.ownBlock = some b → w0.heap.size ≤ b)
    (ho : w'.ownsMap Try.prog 3 ptrElem mb m (y.D.put (ky k) (.held g))) (hgr : w.grownBy w' (some mb)) :
    StM w' sb mb n next (y.put k (y.D.put (ky k) (.held g)) q v F G) (setT T k (some x)) ∧ Moves (foot sb mb y T) (foot sb mb (y.put k (y.D.put (ky k) (.held g)) q v F G) (setT T k (some x))) w0 w' := by
  have h := h0.on hb
  have hlt : ∀ {j b}, hasT T j = true → own y j b → b < w0.heap.size := fun {j b} h1 h2 => h0.lt (.inr (.inr ⟨j, h1, h2⟩))
  have hn := hasT_no hk
  have hkk : Keep (fun b => b ≠ mb) w w' := keep_grown hgr fun b e => by cases e; exact fun h => h rfl
  have hg2 : ∀ j, hasT T j = true → gOf y.D j ≠ g := fun j hj e => by have := hlt hj (.inl rfl); omega
  have eo : ∀ {j}, j ≠ k → gOf (y.D.put (ky k) (.held g)) j = gOf y.D j := fun {j} e => gOf_put_other g e
  have es : gOf (y.D.put (ky k) (.held g)) k = g := gOf_put h.is.tidy.isMap k g
  have hold : ∀ {j}, j ≠ k → hasT (setT T k (some x)) j = true → hasT T j = true := fun {j} e h7 => by simpa [hasT, setT, e] using h7
  refine ⟨⟨hkk.blk h.box (h.mbt (typ_blk h.box)), owns_exact ho, by rw [hasT_put]; exact h.is.put hn hl hg2, fun j z hz => ?_, fun i j hi hj hne b h1 h2 => ?_, fun i j hi hj hne b h1 h2 => ?_, fun i j hi hj hne b h1 h2 => ?_⟩, ?_, fun b hb' => ?_⟩
  · by_cases e : j = k
    · subst e
      rw [setT_same] at hz
      cases hz
      have hlm : mb < w0.heap.size := h0.map.lt
      have := hS.keep (w' := w') (hkk.mono fun b _ hb' => by
        rcases hb' with rfl | hb'
        · omega
        · have := hF b hb'; omega)
      simpa [Lay.put, es] using this
    · rw [setT_other T _ e] at hz
      have := (h.sk j z hz).keep (hkk.mono fun b _ hb' => (h.apart (hasT_of hz) hb').2)
      simpa [Lay.put, e, eo e] using this
  · by_cases ei : i = k
    · subst ei
      have ej : ¬ j = i := fun e => hne e.symm
      simp [Lay.put, ej] at h1 h2
      have := hlt (hold ej hj) (.inr (.inl h2))
      have := hF b (.inl h1)
      omega
    · by_cases ej : j = k
      · subst ej
        simp [Lay.put, ei] at h1 h2
        have := hlt (hold ei hi) (.inr (.inl h1))
        have := hF b (.inl h2)
        omega
      · simp [Lay.put, ei, ej] at h1 h2
        exact h.fa i j (hold ei hi) (hold ej hj) hne b h1 h2
  · by_cases ei : i = k
    · subst ei
      have ej : ¬ j = i := fun e => hne e.symm
      simp [Lay.put, ej] at h1 h2
      have := hlt (hold ej hj) (.inr (.inr (.inr h2)))
      have := hF b (.inr (.inr h1))
      omega
    · by_cases ej : j = k
      · subst ej
        simp [Lay.put, ei] at h1 h2
        have := hlt (hold ei hi) (.inr (.inr (.inr h1)))
        have := hF b (.inr (.inr h2))
        omega
      · simp [Lay.put, ei, ej] at h1 h2
        exact h.wa i j (hold ei hi) (hold ej hj) hne b h1 h2
  · by_cases ei : i = k
    · subst ei
      have ej : ¬ j = i := fun e => hne e.symm
      simp [Lay.put, ej] at h1 h2
      have := hlt (hold ej hj) (.inr (.inr (.inr h2)))
      have := hF b (.inr (.inl h1))
      omega
    · by_cases ej : j = k
      · subst ej
        simp [Lay.put, ei] at h1 h2
        have := hlt (hold ei hi) (.inr (.inr (.inl h1)))
        have := hF b (.inr (.inr h2))
        omega
      · simp [Lay.put, ei, ej] at h1 h2
        exact h.ga i j (hold ei hi) (hold ej hj) hne b h1 h2
  · exact (keep_on hb).trans (hkk.mono fun b _ h7 e => h7 (.inr (.inl e)))
  · rcases hb' with hb' | hb' | ⟨j, hj, hb'⟩
    · exact .inl (.inl hb')
    · exact .inl (.inr (.inl hb'))
    · by_cases e : j = k
      · subst e
        rw [put_own_same es] at hb'
        rcases hb' with rfl | hb'
        · exact .inr hg
        · exact .inr (hF b hb')
      · rw [put_own_other e (eo e)] at hb'
        exact .inl (.inr (.inr ⟨j, hold e hj, hb'⟩))
/-- One less; it lies where it lay, apart from the others. -/
theorem StM.less {m : Nat} (h : StM w sb mb n next y T) (hk : T k = some x) (ho : w'.ownsMap Try.prog 3 ptrElem mb m (y.D.del (ky k))) (hgr : w.grownBy w' (some mb)) :
    StM w' sb mb n next { y with D := y.D.del (ky k) } (setT T k none) ∧ SkM (y.F k) (y.G k) w' (gOf y.D k) n x (y.Q k) (y.V k) ∧ (∀ b, foot sb mb { y with D := y.D.del (ky k) } (setT T k none) b → foot sb mb y T b ∧ ¬ (b = gOf y.D k ∨ y.F k b ∨ (y.V k).ownBlock = some b)) ∧ Keep (fun b => b ≠ mb) w w' := by
  have hh := hasT_of hk
  have hkk : Keep (fun b => b ≠ mb) w w' := keep_grown hgr fun b e => by cases e; exact fun h => h rfl
  have hold : ∀ {j}, hasT (setT T k none) j = true → j ≠ k ∧ hasT T j = true := fun {j} h7 => by
    by_cases e : j = k
    · subst e; simp [hasT, setT] at h7
    · exact ⟨e, by simpa [hasT, setT, e] using h7⟩
  have eo : ∀ {j}, j ≠ k → gOf (y.D.del (ky k)) j = gOf y.D j := fun {j} e => gOf_del_other e
  refine ⟨⟨hkk.blk h.box (h.mbt (typ_blk h.box)), owns_exact ho, by rw [hasT_del]; exact h.is.del hh, fun j z hz => ?_, fun i j hi hj => h.fa i j (hold hi).2 (hold hj).2, fun i j hi hj => h.wa i j (hold hi).2 (hold hj).2, fun i j hi hj => h.ga i j (hold hi).2 (hold hj).2⟩, (h.sk k x hk).keep (hkk.mono fun b _ hb => (h.apart hh hb).2), fun b hb => ?_, hkk⟩
  · have e : j ≠ k := (hold (hasT_of hz)).1
    rw [setT_other T _ e] at hz
    have := (h.sk j z hz).keep (hkk.mono fun b _ hb' => (h.apart (hasT_of hz) hb').2)
    simpa [eo e] using this
  · rcases hb with rfl | rfl | ⟨j, hj, hb⟩
    · refine ⟨.inl rfl, fun h7 => ?_⟩
      refine (h.apart (b := b) hh ?_).1 rfl
      rcases h7 with h7 | h7 | h7
      · exact .inl h7
      · exact .inr (.inl h7)
      · exact .inr (.inr (.inr h7))
    · refine ⟨.inr (.inl rfl), fun h7 => ?_⟩
      refine (h.apart (b := b) hh ?_).2 rfl
      rcases h7 with h7 | h7 | h7
      · exact .inl h7
      · exact .inr (.inl h7)
      · exact .inr (.inr (.inr h7))
    · obtain ⟨e, hj⟩ := hold hj
      have hb2 : own y j b := by simpa [own, eo e] using hb
      exact ⟨.inr (.inr ⟨j, hj, hb2⟩), h.other hj hh e hb2⟩
/-- What is found. -/
theorem StM.look_yes (h : StM w sb mb n next y T) (hk : T k = some x) : (Instr.lookup 63 (.map (some mb)) (.int .i64 (k : Int)) false).run Try.prog w = .ok (ptr (gOf y.D k)) w := by
  have hh := hasT_of hk
  have hl := h.is.small _ hh
  obtain ⟨h1, h2⟩ := h.is.held _ hh
  obtain ⟨v, ps, hrun, hv⟩ := h.map.lookup lawInt Try.underlying63 (zeroSk w) ptrElem_nil (keyOf_int_mk Try.underlying3 (ky_wf (k := k) (by omega)))
  rw [h2] at hv
  rw [ptrElem_of_held hv] at hrun
  exact hrun
theorem StM.look_no (h : StM w sb mb n next y T) {z : Int} (hw : (Lit.int .i64 z).wf = true) (hz : ∀ k : Nat, z = k → T k = none) : (Instr.lookup 63 (.map (some mb)) (.int .i64 z) false).run Try.prog w = .ok (.pointer none) w := by
  obtain ⟨v, ps, hrun, hv⟩ := h.map.lookup lawInt Try.underlying63 (zeroSk w) ptrElem_nil (keyOf_int_mk Try.underlying3 hw)
  rw [h.is.none (x := z) (fun k e => hasT_no (hz k e))] at hv
  rw [ptrElem_of_nil hv] at hrun
  exact hrun
end

end Go.Proofs.Ytfhkdndgiofidaa.X
