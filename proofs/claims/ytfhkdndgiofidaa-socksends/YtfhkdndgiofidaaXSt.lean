/- A store of sockets whose blocks are known: what is read of it, and how it is turned. -/
import Derived.Test.YtfhkdndgiofidaaXMem2
namespace Go.Proofs.Ytfhkdndgiofidaa.X
open Go Go.RowKit Go.Maps Go.Proofs.Ytfhkdndgiofidaa.K

/-- A store, its sockets at known blocks. -/
def StG (P : Nat → Prop) (w : World) (sb mb n next : Nat) (g : Nat → Nat) (T : Tb) : Prop := ∃ y, StM w sb mb n next y T ∧ P = foot sb mb y T ∧ ∀ k, hasT T k = true → gOf y.D k = g k
def putG (g : Nat → Nat) (k b : Nat) : Nat → Nat := fun j => if j = k then b else g j
theorem putG_same (g : Nat → Nat) (k b : Nat) : putG g k b k = b := by simp [putG]
theorem putG_other {g : Nat → Nat} {j k b : Nat} (h : j ≠ k) : putG g k b j = g j := by simp [putG, h]
section
variable {P : Nat → Prop} {w w' w1 : World} {sb mb n next k qb : Nat} {g : Nat → Nat} {T : Tb} {x x' : Sk} {wv : Value}
theorem StG.box (h : StG P w sb mb n next g T) : Blk w sb 65 [.map (some mb), .int .i64 (n : Int), .int .i64 (next : Int)] := by
  obtain ⟨y, h1, _⟩ := h
  exact h1.box
theorem StG.keep (h : StG P w sb mb n next g T) (hk : Keep P w w') : StG P w' sb mb n next g T := by
  obtain ⟨y, h1, rfl, h3⟩ := h
  exact ⟨y, h1.keep hk, rfl, h3⟩
theorem StG.on (h : StG P w sb mb n next g T) (hb : Below w.heap.size w w') : StG P w' sb mb n next g T := h.keep (keep_on hb)
theorem StG.lt (h : StG P w sb mb n next g T) {b : Nat} (hb : P b) : b < w.heap.size := by
  obtain ⟨y, h1, rfl, h3⟩ := h
  exact h1.lt hb
theorem StG.look_yes (h : StG P w sb mb n next g T) (hk : T k = some x) : (Instr.lookup 63 (.map (some mb)) (.int .i64 (k : Int)) false).run Try.prog w = .ok (ptr (g k)) w := by
  obtain ⟨y, h1, _, h3⟩ := h
  rw [← h3 k (hasT_of hk)]
  exact h1.look_yes hk
theorem StG.look_no (h : StG P w sb mb n next g T) {z : Int} (hw : (Lit.int .i64 z).wf = true) (hz : ∀ k : Nat, z = k → T k = none) : (Instr.lookup 63 (.map (some mb)) (.int .i64 z) false).run Try.prog w = .ok (.pointer none) w := by
  obtain ⟨y, h1, _, h3⟩ := h
  exact h1.look_no hw hz
theorem StG.small (h : StG P w sb mb n next g T) (hk : T k = some x) : k < 1024 := by
  obtain ⟨y, h1, _, h3⟩ := h
  exact h1.is.small k (hasT_of hk)
theorem StG.gne (h : StG P w sb mb n next g T) {a b : Nat} {xa xb : Sk} (ha : T a = some xa) (hb : T b = some xb) (hne : a ≠ b) : g a ≠ g b := by
  obtain ⟨y, h1, _, h3⟩ := h
  rw [← h3 a (hasT_of ha), ← h3 b (hasT_of hb)]
  exact fun e => hne (h1.is.inj a b (hasT_of ha) (hasT_of hb) e)
theorem blk_one {t : TypeId} {b : Nat} {c c' : List Value} (h : Blk w b t c) (h' : Blk w b t c') : c = c' := by
  have := h.row.symm.trans h'.row
  simp at this
  exact this
theorem skC_one {q q' : Nat} {v v' : Value} (h : skC x q v = skC x q' v') : q = q' ∧ v = v' := by
  unfold skC at h
  injection h with h1 h2
  injection h1 with h1
  injection h1 with h1
  injection h1 with h1
  injection h2 with _ h2
  injection h2 with _ h2
  injection h2 with _ h2
  injection h2 with _ h2
  injection h2 with _ h2
  injection h2 with h2 _
  exact ⟨h1, h2⟩
/-- What a socket has. -/
theorem StG.at (h : StG P w sb mb n next g T) (hk : T k = some x) : ∃ qb p c, Blk w (g k) 79 (skC x qb (.slice p x.waits.length c)) ∧ x.waits.length ≤ c ∧ At w p (natsV x.waits) := by
  obtain ⟨y, h1, _, h3⟩ := h
  have hs := h1.sk k x hk
  rw [h3 k (hasT_of hk)] at hs
  have hB := hs.box
  have hr := hs.row
  rcases hr.2 with ⟨e, e2⟩ | ⟨b, cap, cur, e, hbs, hg, hc, _, h5, ht⟩
  · rw [e] at hB
    exact ⟨_, none, 0, by rw [e2]; exact hB, by omega, .inl (by
      have : x.waits = [] := List.length_eq_zero_iff.1 e2
      rw [this]; rfl)⟩
  · rw [e] at hB
    refine ⟨_, _, cap, hB, hc, .inr ⟨b, 0, rfl, Nat.zero_le _, (Array.getElem?_eq_some_iff.1 hg).1, fun j v hj => ?_⟩⟩
    rw [← ht] at hj
    rw [List.getElem?_take] at hj
    split at hj
    · simp only [World.cell?, hg]
      simpa using hj
    · cases hj
/-- A socket's box is turned. -/
theorem StG.set (h : StG P w sb mb n next g T) (hk : T k = some x) (hB : Blk w (g k) 79 (skC x qb wv)) (hb : But (g k) w w') (hB' : Blk w' (g k) 79 (skC x' qb wv)) (e1 : x'.ps = x.ps) (e2 : x'.waits = x.waits) :
    ∃ P', StG P' w' sb mb n next g (setT T k (some x')) ∧ Moves P P' w w' := by
  obtain ⟨y, h1, rfl, h3⟩ := h
  have hs := h1.sk k x hk
  have eg := h3 k (hasT_of hk)
  rw [eg] at hs
  obtain ⟨rfl, rfl⟩ := skC_one (blk_one hs.box hB)
  have hS := hs.boxed hb hB' e1 e2
  rw [← eg] at hS
  have hK : Keep (fun b => ¬ (b = gOf y.D k ∨ y.F k b ∨ (y.V k).ownBlock = some b)) w w' := keep_but hb fun h7 => h7 (.inl eg.symm)
  obtain ⟨h4, h5⟩ := h1.turn hk hK hS (fun b h => .inl h) (fun b h => .inl h) (fun b h => .inl h)
  refine ⟨_, ⟨_, h4, rfl, fun j hj => ?_⟩, h5⟩
  rw [hasT_set (hasT_of hk)] at hj
  exact h3 j hj
/-- A socket's queue is turned. -/
theorem StG.queue (h : StG P w sb mb n next g T) (hk : T k = some x) : ∃ qb wv F G, Blk w (g k) 79 (skC x qb wv) ∧ QAt F G w qb n x.ps ∧ (∀ b, F b ∨ G b → P b) ∧
    ∀ w' F' G' ps', QAt F' G' w' qb n ps' → Goes F G F' G' w w' → ∃ P', StG P' w' sb mb n next g (setT T k (some { x with ps := ps' })) ∧ Moves P P' w w' := by
  obtain ⟨y, h1, rfl, h3⟩ := h
  have hh := hasT_of hk
  have hs := h1.sk k x hk
  have eg := h3 k hh
  refine ⟨y.Q k, y.V k, y.F k, y.G k, by rw [← eg]; exact hs.box, hs.q, fun b hb => .inr (.inr ⟨k, hh, ?_⟩), fun w' F' G' ps' hq hg => ?_⟩
  · rcases hb with hb | hb
    · exact .inr (.inl hb)
    · exact .inr (.inr (.inl hb))
  · have hK : Keep (fun b => ¬ (b = gOf y.D k ∨ y.F k b ∨ (y.V k).ownBlock = some b)) w w' := hg.keep.mono fun b _ h7 h8 => h7 (.inr (.inl h8))
    have hS : SkM F' (fun b => G' b ∧ Rd w' b) w' (gOf y.D k) n { x with ps := ps' } (y.Q k) (y.V k) := by
      refine ⟨?_, ?_, ?_, fun b hb => hb.2, fun b hb e => ?_⟩
      · exact hg.keep.blk hs.box fun h7 => wr_sk (hs.q.wr _ h7) (typ_blk hs.box)
      · obtain ⟨X, e, hM, ho, h5, h6⟩ := hq
        exact ⟨X, e, hM.sure (fun _ _ _ h => h) (fun _ _ h1 h2 => ⟨h2, h1⟩), ho, h5, fun b hb => h6 b hb.1⟩
      · exact rowS_keep hs.row hg.keep fun b e h7 => wr_int (hs.q.wr _ h7) (hs.vt e)
      · rcases hg.subG b hb.1 with h7 | h7
        · exact hs.gw b h7 e
        · have := hs.vlt e; omega
    obtain ⟨h4, h5⟩ := h1.turn hk hK hS hg.sub (fun b hb => hg.subG b hb.1) (fun b h => .inl h)
    refine ⟨_, ⟨_, h4, rfl, fun j hj => ?_⟩, h5⟩
    rw [hasT_set hh] at hj
    exact h3 j hj
/-- The list of those that wait is turned. -/
theorem StG.rewait {ws : List Nat} {v : Value} {m : Nat} (h : StG P w sb mb n next g T) (hk : T k = some x) (hB : Blk w (g k) 79 (skC x qb wv)) (hK : Keep (fun b => wv.ownBlock ≠ some b) w w1) (hrow : w1.ownsRow 0 3 1 v m (natsV ws)) (ho : ∀ b, v.ownBlock = some b → wv.ownBlock = some b ∨ w.heap.size ≤ b) :
    ∃ P', StG P' (w1.setCell ⟨g k, 6, none⟩ v) sb mb n next g (setT T k (some { x with waits := ws })) ∧ Moves P P' w (w1.setCell ⟨g k, 6, none⟩ v) := by
  obtain ⟨y, h1, rfl, h3⟩ := h
  have hh := hasT_of hk
  have hs := h1.sk k x hk
  have eg := h3 k hh
  obtain ⟨rfl, rfl⟩ := skC_one (blk_one (by rw [eg] at hs; exact hs.box) hB)
  obtain rfl : m = ws.length := by have := hrow.1; simpa using this.symm
  have hb := but_set w1 (g k) 6 v
  have hgl : g k < w.heap.size := by rw [← eg]; exact hs.box.lt
  have hK2 : Keep (fun b => ¬ (b = gOf y.D k ∨ y.F k b ∨ (y.V k).ownBlock = some b)) w (w1.setCell ⟨g k, 6, none⟩ v) := by
    refine Keep.trans (hK.mono fun b _ h7 h8 => h7 (.inr (.inr h8))) ?_
    exact keep_but hb fun h7 => h7 (.inl eg.symm)
  have hnw : (y.V k).ownBlock ≠ some (g k) := fun e => by rw [← eg] at e; exact int_sk (hs.vt e) (typ_blk hs.box)
  have hB1 : Blk w1 (g k) 79 (skC x (y.Q k) (y.V k)) := hK.blk hB hnw
  have hB2 := hB1.set 6 v
  have hne : ∀ b, v.ownBlock = some b → b ≠ g k := fun b e e2 => by
    subst e2
    obtain ⟨_, _, cur, h7⟩ := row_lt hrow e
    exact int_sk (w := w1) ⟨_, _, h7⟩ (typ_blk hB1)
  have hkq : Keep (fun b => y.F k b ∨ y.G k b) w (w1.setCell ⟨g k, 6, none⟩ v) := by
    refine Keep.trans (hK.mono fun b _ h7 h8 => ?_) (keep_but hb fun h7 => ?_)
    · rcases h7 with h7 | h7
      · exact wr_int (hs.q.wr _ h7) (hs.vt h8)
      · exact hs.gw b h7 h8
    · rw [← eg] at h7
      rcases h7 with h7 | h7
      · exact wr_sk (hs.q.wr _ h7) (typ_blk hs.box)
      · exact rd_sk (hs.rd _ h7) (typ_blk hs.box)
  have hS : SkM (y.F k) (y.G k) (w1.setCell ⟨g k, 6, none⟩ v) (gOf y.D k) n { x with waits := ws } (y.Q k) v := by
    refine ⟨by rw [eg]; exact hB2, hs.q.keep hkq, ?_, fun b hb7 => rd_keep (hs.rd b hb7) (hkq.block b (hs.q.ltG b hb7) (.inr hb7)), fun b hb7 e => ?_⟩
    · exact rowS_keep (O := fun b => b ≠ g k) hrow (keep_but hb fun h => h rfl) hne
    · rcases ho b e with h7 | h7
      · exact hs.gw b hb7 h7
      · have := hs.q.ltG b hb7; omega
  obtain ⟨h4, h5⟩ := h1.turn hk hK2 hS (fun b h => .inl h) (fun b h => .inl h) ho
  refine ⟨_, ⟨_, h4, rfl, fun j hj => ?_⟩, h5⟩
  rw [hasT_set hh] at hj
  exact h3 j hj
/-- One more; the number of the next one is told behind it. -/
theorem StG.more {F G : Nat → Prop} {q b : Nat} (h : StG P w sb mb n next g T) (hb : Below w.heap.size w w1) (hk : T next = none) (hl : next < 1023) (hx : x.waits = []) (hB : Blk w1 b 79 (skC x q (.slice none 0 0))) (hq : QAt F G w1 q n x.ps) (hg : w.heap.size ≤ b) (hF : ∀ k, F k ∨ G k → w.heap.size ≤ k) :
    ∃ w2, (Instr.mapUpdate 63 (.map (some mb)) (.int .i64 (next : Int)) (ptr b)).run Try.prog w1 = .ok () w2 ∧ Blk w2 sb 65 [.map (some mb), .int .i64 (n : Int), .int .i64 (next : Int)] ∧
    ∃ P', StG P' (w2.setCell ⟨sb, 2, none⟩ (.int .i64 ((next : Int) + 1))) sb mb n (next + 1) (putG g next b) (setT T next (some x)) ∧ Moves P P' w (w2.setCell ⟨sb, 2, none⟩ (.int .i64 ((next : Int) + 1))) := by
  obtain ⟨y, h1, rfl, h3⟩ := h
  have hsz : Maps.size y.D ≤ 1024 := by rw [h1.is.count]; exact cntF_le _ _
  obtain ⟨w2, hrun, ho, hgr⟩ := (h1.on hb).map.update lawInt Try.underlying63 (by unfold maxLen; omega) (keyOf_int_mk (P := Try.prog) (k := 3) Try.underlying3 (ky_wf (k := next) (by omega))) (ptrElem_mk b)
  have hS : SkM F (fun k => G k ∧ Rd w1 k) w1 b n x q (.slice none 0 0) := by
    refine ⟨hB, ?_, by rw [hx]; exact World.ownsRow_nil _ _ _ _, fun k hk => hk.2, fun k _ e => by simp [Value.ownBlock] at e⟩
    obtain ⟨X, e, hM, ho, h5, h6⟩ := hq
    exact ⟨X, e, hM.sure (fun _ _ _ h => h) (fun _ _ h1 h2 => ⟨h2, h1⟩), ho, h5, fun b hb => h6 b hb.1⟩
  obtain ⟨h4, h5⟩ := h1.more hb hk (by omega) hS hg (fun k hk => by
    rcases hk with hk | hk | hk
    · exact hF k (.inl hk)
    · exact hF k (.inr hk.1)
    · simp [Value.ownBlock] at hk) ho hgr
  have hB3 := h4.box.set 2 (.int .i64 ((next : Int) + 1))
  obtain ⟨h6, h7⟩ := h4.boxed (next' := next + 1) (but_set w2 sb 2 (.int .i64 ((next : Int) + 1))) (by
    rw [show ((next + 1 : Nat) : Int) = (next : Int) + 1 by omega]
    exact hB3)
  refine ⟨w2, hrun, h4.box, _, ⟨_, h6, rfl, fun j hj => ?_⟩, h5.trans h7⟩
  by_cases e : j = next
  · subst e
    show gOf (y.D.put (ky j) (.held b)) j = _
    rw [gOf_put h1.is.tidy.isMap, putG_same]
  · show gOf (y.D.put (ky next) (.held b)) j = _
    rw [gOf_put_other _ e, putG_other e]
    refine h3 j ?_
    simpa [hasT, setT, e] using hj
/-- One less; what it has lies where it lay, apart from the store. -/
theorem StG.less (h : StG P w sb mb n next g T) (hk : T k = some x) : ∃ w' P' qb p c F G, (∀ ty, (Builtin.delete_ #[63, 3] ty #[.map (some mb), .int .i64 (k : Int)]).run Try.prog w = .ok (.tuple #[]) w') ∧ StG P' w' sb mb n next g (setT T k none) ∧ Moves P P' w w' ∧
    Blk w' (g k) 79 (skC x qb (.slice p x.waits.length c)) ∧ ¬ P' (g k) ∧ QAt F G w' qb n x.ps ∧ (∀ b, F b ∨ G b → P b) ∧ (∀ b, F b → ¬ P' b) ∧
    (x.waits = [] ∨ ∃ b, p = some ⟨b, 0, none⟩ ∧ b < w'.heap.size ∧ ¬ P' b ∧ ¬ F b ∧ P b ∧ ∀ (j : Nat) v, (natsV x.waits)[j]? = some v → w'.cell? ⟨b, j, none⟩ = some v) := by
  obtain ⟨y, h1, rfl, h3⟩ := h
  have hh := hasT_of hk
  have hs := h1.is.small _ hh
  obtain ⟨w', hrun, ho, hg⟩ : ∃ w', (∀ ty, (Builtin.delete_ #[63, 3] ty #[.map (some mb), .int .i64 (k : Int)]).run Try.prog w = .ok (.tuple #[]) w') ∧ (∃ m, w'.ownsMap Try.prog 3 ptrElem mb m (y.D.del (ky k))) ∧ w.grownBy w' (some mb) := by
    obtain ⟨w', h4, h5, h6⟩ := h1.map.drop lawInt Try.underlying63 (keyOf_int_mk (P := Try.prog) (k := 3) Try.underlying3 (ky_wf (k := k) (by omega))) 0
    exact ⟨w', fun _ => h4, ⟨_, h5⟩, h6.grown⟩
  obtain ⟨m, ho⟩ := ho
  obtain ⟨h4, h5, h6, h7⟩ := h1.less hk ho hg
  have eg := h3 k hh
  rw [eg] at h5 h6
  have hB := h5.box
  have hr := h5.row
  have hP : StG (foot sb mb { y with D := y.D.del (ky k) } (setT T k none)) w' sb mb n next g (setT T k none) := ⟨_, h4, rfl, fun j hj => by
    by_cases e : j = k
    · subst e; simp [hasT, setT] at hj
    · show gOf (y.D.del (ky k)) j = _
      rw [gOf_del_other e]
      exact h3 j (by simpa [hasT, setT, e] using hj)⟩
  have hmv : Moves (foot sb mb y T) (foot sb mb { y with D := y.D.del (ky k) } (setT T k none)) w w' := ⟨h7.mono fun b _ h8 e => h8 (.inr (.inl e)), fun b hb => .inl (h6 b hb).1⟩
  have hFG : ∀ b, y.F k b ∨ y.G k b → foot sb mb y T b := fun b hb => .inr (.inr ⟨k, hh, hb.elim (fun h => .inr (.inl h)) fun h => .inr (.inr (.inl h))⟩)
  have hnF : ∀ b, y.F k b → ¬ foot sb mb { y with D := y.D.del (ky k) } (setT T k none) b := fun b hb h8 => (h6 b h8).2 (.inr (.inl hb))
  have hng : ¬ foot sb mb { y with D := y.D.del (ky k) } (setT T k none) (g k) := fun h8 => (h6 _ h8).2 (.inl rfl)
  rcases hr.2 with ⟨e, e2⟩ | ⟨b, cap, cur, e, hbs, hgg, hc, _, h8, ht⟩
  · rw [e] at hB
    exact ⟨w', _, y.Q k, none, 0, y.F k, y.G k, hrun, hP, hmv, by rw [e2]; exact hB, hng, h5.q, hFG, hnF, .inl (List.length_eq_zero_iff.1 e2)⟩
  · rw [e] at hB
    have he : (y.V k).ownBlock = some b := by rw [e]; rfl
    refine ⟨w', _, y.Q k, _, cap, y.F k, y.G k, hrun, hP, hmv, hB, hng, h5.q, hFG, hnF, .inr ⟨b, rfl, (Array.getElem?_eq_some_iff.1 hgg).1, fun h9 => (h6 b h9).2 (.inr (.inr he)), fun h9 => wr_int (h5.q.wr b h9) (h5.vt he), .inr (.inr ⟨k, hh, .inr (.inr (.inr he))⟩), fun j v hj => ?_⟩⟩
    rw [← ht] at hj
    rw [List.getElem?_take] at hj
    split at hj
    · simp only [World.cell?, hgg]
      simpa using hj
    · cases hj
end

end Go.Proofs.Ytfhkdndgiofidaa.X
