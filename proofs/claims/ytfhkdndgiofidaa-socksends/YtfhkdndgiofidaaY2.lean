/- Package socks: drop. -/
import Derived.Test.YtfhkdndgiofidaaY1
namespace Go.Proofs.Ytfhkdndgiofidaa.X
open Go Go.RowKit Go.Maps Go.Proofs.Ytfhkdndgiofidaa.K

section
variable {P : Nat → Prop} {w : World} {sb mb n next k : Nat} {g : Nat → Nat} {T : Tb} {x y : Sk}
/-- What drop leaves: a row of what was passed; the socket lies where it lay, no more the store's. -/
structure DropIs (P : Nat → Prop) (w : World) (sb mb n next : Nat) (g : Nat → Nat) (T' : Tb) (k : Nat) (x : Sk) (P' : Nat → Prop) (v : Value) (w' : World) : Prop where
  st : StG P' w' sb mb n next g T'
  mv : Moves P P' w w'
  row : ∃ m cells, w'.ownsRow w.heap.size 99 5 v m cells ∧ (∀ u ∈ cells, u.oneCell' = true) ∧ m ≤ 64
  free : ∀ b, v.ownBlock = some b → ¬ P' b
  box : ∃ qb p c, Blk w' (g k) 79 (skC x qb (.slice p x.waits.length c)) ∧ ¬ P' (g k) ∧ (x.waits = [] ∨ ∃ b, p = some ⟨b, 0, none⟩ ∧ b < w.heap.size ∧ ¬ P' b ∧ ∀ (j : Nat) v, (natsV x.waits)[j]? = some v → w'.cell? ⟨b, j, none⟩ = some v)
def DropPost (P : Nat → Prop) (w : World) (sb mb n next : Nat) (g : Nat → Nat) (T' : Tb) (k : Nat) (x : Sk) (e : Ending) (w' : World) : Prop := ∃ P' v, e = .returned v ∧ DropIs P w sb mb n next g T' k x P' v w'
theorem drop_mem {P1 : Nat → Prop} {W : World} (h : StG P1 W sb mb n next g T) (hk : T k = some x) (m0 : Moves P P1 w W) (hsz : W.heap.size = w.heap.size) : ∃ r : World × Nat, (∀ ty, (Builtin.delete_ #[63, 3] ty #[.map (some mb), .int .i64 (k : Int)]).run Try.prog W = .ok (.tuple #[]) r.1) ∧ r.1.cell? ⟨g k, 0, none⟩ = some (ptr r.2) ∧
    Calls Try.prog 68 #[ptr r.2] r.1 (DropPost P w sb mb n next g (setT T k none) k x) := by
  obtain ⟨w', P', qb, p, c, F, G, hrun, s1, m1, hB, hng, hq, hin, hnF, hwt⟩ := h.less hk
  refine ⟨(w', qb), hrun, hB.cell 0 rfl, (clear_own hq).mono ?_⟩
  rintro e w2 ⟨F', v, rfl, hq2, hg2, N, _, hrow, hl64, _⟩
  have hk2 : Keep P' w' w2 := hg2.keep.mono fun b _ h7 h8 => hnF b h8 h7
  have hs : w.heap.size ≤ w'.heap.size := (m0.trans m1).keep.size
  have hnFg : ¬ F (g k) := fun h7 => wr_sk (hq.wr _ h7) (typ_blk hB)
  have hmv : Moves P P' w w2 := by
    have hm := m0.trans m1
    refine ⟨⟨hg2.keep.os.trans hm.keep.os, hg2.keep.tape.trans hm.keep.tape, hg2.keep.output.trans hm.keep.output, Nat.le_trans hs hg2.keep.size, fun j hj hn => ?_⟩, hm.sub⟩
    refine (hg2.keep.block j (Nat.lt_of_lt_of_le hj hs) fun h7 => ?_).trans (hm.keep.block j hj hn)
    rcases m0.sub j (hin j (.inl h7)) with h8 | h8
    · exact hn h8
    · omega
  refine ⟨P', v, rfl, s1.keep hk2, hmv, ⟨N.length, flatP N, ownsRow_base_a hrow hs, ?_, hl64⟩, fun b e h7 => ?_, qb, p, c, hg2.keep.blk hB hnFg, hng, ?_⟩
  · obtain ⟨p9, c9, e9, h9⟩ := AtO.of hrow
    intro u hu
    simp only [flatP, List.mem_flatMap] at hu
    obtain ⟨z, hz, hu⟩ := hu
    rename_i hints
    obtain ⟨p8, c8, e8, _⟩ := hints z hz
    simp only [psC, List.mem_cons, List.not_mem_nil, or_false] at hu
    rcases hu with rfl | rfl | rfl | rfl | rfl
    · rfl
    · rfl
    · rfl
    · rw [e8]; rfl
    · rfl
  · have := (row_lt hrow e).1
    have := s1.lt h7
    omega
  · rcases hwt with h7 | ⟨b, h7, h8, h9, h10, h12, h11⟩
    · exact .inl h7
    · refine .inr ⟨b, h7, by rw [← hsz]; exact h.lt h12, h9, fun j u hj => ?_⟩
      rw [← h11 j u hj]
      simp only [World.cell?, hg2.keep.block b h8 h10]
set_option maxRecDepth 100000 in
set_option maxHeartbeats 2000000 in
theorem drop_out (h : StG P w sb mb n next g T) (hk : T k = some x) (hp : x.peer ≤ 5000) (ho : T x.peer = none) : Calls Try.prog 70 #[ptr sb, .int .i64 (k : Int)] w (DropPost P w sb mb n next g (setT T k none) k x) := by
  have x0 := h.box.cell 0 rfl
  have HE : Hid (∀ q, Below w.heap.size w (w.drewN q)) := fun q => on_drewN (Below.refl _ _) q
  have hl1 := h.look_yes hk
  have hl2 := fun q => (h.on (HE.out q)).look_no (z := (x.peer : Int)) (ky_wf (k := x.peer) (by omega)) (fun j e => by rw [← ho]; congr 1; omega)
  obtain ⟨qb, wv, hB, _, _⟩ := h.row hk
  have y2 := hB.cell 2 rfl
  obtain ⟨R, hR⟩ := Classical.axiomOfChoice fun q => drop_mem (P := P) (w := w) (h.on (HE.out q)) hk (Moves.on (HE.out q)) rfl
  have hdel := fun q => (hR q).1
  have hcell := fun q => (hR q).2.1
  have HC : Hid (∀ q, _) := fun q => (hR q).2.2
  have HP : Hid (∀ e W, DropPost P w sb mb n next g (setT T k none) k x e W → ∃ v, e = .returned v ∧ DropPost P w sb mb n next g (setT T k none) k x (.returned v) W) := fun e W ⟨P', v, h1, h2⟩ => ⟨v, h1, P', v, rfl, h2⟩
  generalize DropPost P w sb mb n next g (setT T k none) k x = Post at *
  clear h hk hB ho hR
  go_enter Try.func70, Try.ntmps70
  go_wp2
  go_quiet (fail)
  go_wp2_with fail
  refine (HC.out _).mono ?_
  intro e w2 h2
  obtain ⟨v, rfl, hE⟩ := HP.out e w2 h2
  clear HC HP h2 hcell hdel hl2 hl1
  go_wp2
  exact hE
set_option maxRecDepth 100000 in
set_option maxHeartbeats 2000000 in
theorem drop_in (h : StG P w sb mb n next g T) (hk : T k = some x) {pk : Nat} (hpk : x.peer = pk) (ho : T pk = some y) (hne : pk ≠ k) : Calls Try.prog 70 #[ptr sb, .int .i64 (k : Int)] w (DropPost P w sb mb n next g (setT (setT T pk (some { y with peer := 0 })) k none) k x) := by
  have x0 := h.box.cell 0 rfl
  have hlt := h.box.lt
  have HE : Hid (∀ q, Below w.heap.size w (w.drewN q)) := fun q => on_drewN (Below.refl _ _) q
  have hl1 := h.look_yes hk
  have hl2 := fun q => (h.on (HE.out q)).look_yes ho
  obtain ⟨qb, wv, hB, _, _⟩ := h.row hk
  have y2 := hB.cell 2 rfl
  rw [hpk] at y2
  obtain ⟨q9, wv9, hBd, _, _⟩ := h.row ho
  have z2 := hBd.cell 2 rfl
  have f2 := hBd.free 2
  have hsb : sb ≠ g pk := fun e => by
    have h7 := typ_blk h.box
    rw [e] at h7
    exact sk_st (typ_blk hBd) h7
  have hg1 := h.gne ho hk hne
  have hg2 := h.gne hk ho (Ne.symm hne)
  obtain ⟨R, hR⟩ := Classical.axiomOfChoice fun q => by
    have hq := h.on (HE.out q)
    have hBq := hBd.on (HE.out q)
    have h7 := hq.set (x' := { y with peer := 0 }) ho hBq (but_set _ _ 2 (.int .i64 0)) (hBq.set 2 _) rfl rfl
    have h8 : ∃ r : World × Nat, (∀ ty, (Builtin.delete_ #[63, 3] ty #[.map (some mb), .int .i64 (k : Int)]).run Try.prog ((w.drewN q).setCell ⟨g pk, 2, none⟩ (.int .i64 0)) = .ok (.tuple #[]) r.1) ∧ r.1.cell? ⟨g k, 0, none⟩ = some (ptr r.2) ∧
        Calls Try.prog 68 #[ptr r.2] r.1 (DropPost P w sb mb n next g (setT (setT T pk (some { y with peer := 0 })) k none) k x) := by
      obtain ⟨P1, s1, m1⟩ := h7
      exact drop_mem s1 (by rw [setT_other T _ (Ne.symm hne)]; exact hk) ((Moves.on (HE.out q)).trans m1) (but_set (w.drewN q) (g pk) 2 (.int .i64 0)).size
    exact h8
  have hdel := fun q => (hR q).1
  have hcell := fun q => (hR q).2.1
  have HC : Hid (∀ q, _) := fun q => (hR q).2.2
  have HP : Hid (∀ e W, DropPost P w sb mb n next g (setT (setT T pk (some { y with peer := 0 })) k none) k x e W → ∃ v, e = .returned v ∧ DropPost P w sb mb n next g (setT (setT T pk (some { y with peer := 0 })) k none) k x (.returned v) W) := fun e W ⟨P', v, h1, h2⟩ => ⟨v, h1, P', v, rfl, h2⟩
  generalize DropPost P w sb mb n next g (setT (setT T pk (some { y with peer := 0 })) k none) k x = Post at *
  clear h hk hB ho hBd hR hpk
  go_enter Try.func70, Try.ntmps70
  go_wp2
  go_quiet (fail)
  go_wp2_with fail
  refine (HC.out _).mono ?_
  intro e w2 h2
  obtain ⟨v, rfl, hE⟩ := HP.out e w2 h2
  clear HC HP h2 hcell hdel hl2 hl1
  go_wp2
  exact hE
/-- What is left when one is dropped. -/
def dropT (T : Tb) (k : Nat) (x : Sk) : Tb := setT (match T x.peer with | none => T | some y => setT T x.peer (some { y with peer := 0 })) k none
theorem drop_any (h : StG P w sb mb n next g T) (hk : T k = some x) (hp : x.peer ≤ 5000) (hne : x.peer ≠ k) : Calls Try.prog 70 #[ptr sb, .int .i64 (k : Int)] w (DropPost P w sb mb n next g (dropT T k x) k x) := by
  unfold dropT
  cases ho : T x.peer with
  | none => exact drop_out h hk hp ho
  | some y => exact drop_in h hk rfl ho hne
end

end Go.Proofs.Ytfhkdndgiofidaa.X

namespace Go.Proofs.Ytfhkdndgiofidaa.X
open Go Go.RowKit Go.Maps Go.Proofs.Ytfhkdndgiofidaa.K

/-- What holds of all sockets; those of 'R' wait at one that is gone. -/
structure InvR (T : Tb) (next z : Nat) (R : List Nat) : Prop where
  lo : ∀ k x, T k = some x → 1 ≤ k ∧ k < next
  peer : ∀ k x, T k = some x → x.peer = 0 ∨ ∃ y, T x.peer = some y ∧ y.peer = k
  self : ∀ k x, T k = some x → x.peer ≠ k
  join : ∀ k x, T k = some x → x.peer ≠ 0 → x.st = 2
  door : ∀ k x, T k = some x → x.door = 0 ∨ (x.door = z ∧ k ∈ R) ∨ ∃ d, T x.door = some d ∧ k ∈ d.waits
  wait : ∀ k x, T k = some x → ∀ j ∈ x.waits, ∃ y, T j = some y ∧ y.door = k
  nodup : ∀ k x, T k = some x → x.waits.Nodup
  few : ∀ k x, T k = some x → x.waits.length ≤ 8 ∧ x.most ≤ 8
  list : ∀ k x, T k = some x → x.waits ≠ [] → x.st = 1
  shut : ∀ k x, T k = some x → x.door ≠ 0 → x.st = 2
  zno : T z = none
  orph : ∀ j ∈ R, ∃ y, T j = some y ∧ y.door = z
  once : R.Nodup
abbrev Inv (T : Tb) (next : Nat) : Prop := InvR T next 0 []
section
variable {T : Tb} {next z k j : Nat} {R : List Nat} {x y d : Sk}
theorem InvR.no0 (h : InvR T next z R) : T 0 = none := by
  cases e : T 0 with
  | none => rfl
  | some x => have := (h.lo 0 x e).1; omega
theorem InvR.nonext (h : InvR T next z R) (hk : next ≤ k) : T k = none := by
  cases e : T k with
  | none => rfl
  | some x => have := (h.lo k x e).2; omega
theorem InvR.plt (h : InvR T next z R) (hk : T k = some x) : x.peer < next ∨ x.peer = 0 := by
  rcases h.peer k x hk with e | ⟨y, hy, _⟩
  · exact .inr e
  · exact .inl (h.lo _ y hy).2
theorem inv_none (n : Nat) : Inv (fun _ => none) n := ⟨(fun _ _ h => by cases h), (fun _ _ h => by cases h), (fun _ _ h => by cases h), (fun _ _ h => by cases h), (fun _ _ h => by cases h), (fun _ _ h => by cases h), (fun _ _ h => by cases h), (fun _ _ h => by cases h), (fun _ _ h => by cases h), (fun _ _ h => by cases h), rfl, (fun _ h => by cases h), .nil⟩
theorem setT_some {o : Option Sk} (h : setT T k o j = some y) : (j = k ∧ o = some y) ∨ (j ≠ k ∧ T j = some y) := by
  by_cases e : j = k
  · subst e; rw [setT_same] at h; exact .inl ⟨rfl, h⟩
  · rw [setT_other T _ e] at h; exact .inr ⟨e, h⟩
/-- What a socket is but for what was bound, its bytes and its ends that were shut. -/
theorem InvR.same (h : InvR T next z R) (hk : T k = some x) (e1 : y.peer = x.peer) (e2 : y.door = x.door) (e3 : y.waits = x.waits) (e4 : y.st = x.st ∨ (x.st ≠ 2 ∧ y.st = 1)) (e5 : y.most ≤ 8) : InvR (setT T k (some y)) next z R := by
  have key : ∀ {j v}, T j = some v → ∃ v', setT T k (some y) j = some v' ∧ v'.peer = v.peer ∧ v'.door = v.door ∧ v'.waits = v.waits := fun {j v} hj => by
    by_cases e : j = k
    · subst e; rw [hk] at hj; cases hj; exact ⟨y, setT_same _ _ _, e1, e2, e3⟩
    · exact ⟨v, by rw [setT_other T _ e]; exact hj, rfl, rfl, rfl⟩
  have back : ∀ {j v'}, setT T k (some y) j = some v' → ∃ v, T j = some v ∧ v'.peer = v.peer ∧ v'.door = v.door ∧ v'.waits = v.waits ∧ (v'.st = v.st ∨ (v.st ≠ 2 ∧ v'.st = 1)) ∧ (v'.most ≤ 8) := fun {j v'} hj => by
    rcases setT_some hj with ⟨rfl, e⟩ | ⟨_, hj'⟩
    · cases e; exact ⟨x, hk, e1, e2, e3, e4, e5⟩
    · exact ⟨v', hj', rfl, rfl, rfl, .inl rfl, (h.few j v' hj').2⟩
  refine ⟨fun j v hj => ?_, fun j v hj => ?_, fun j v hj => ?_, fun j v hj hp => ?_, fun j v hj => ?_, fun j v hj i hi => ?_, fun j v hj => ?_, fun j v hj => ?_, fun j v hj hw => ?_, fun j v hj hd => ?_, ?_, fun i hi => ?_, h.once⟩
  · obtain ⟨u, hu, _⟩ := back hj; exact h.lo j u hu
  · obtain ⟨u, hu, a1, _⟩ := back hj
    rw [a1]
    rcases h.peer j u hu with e | ⟨q, hq, hq2⟩
    · exact .inl e
    · obtain ⟨q', hq', b1, _⟩ := key hq
      exact .inr ⟨q', hq', by rw [b1]; exact hq2⟩
  · obtain ⟨u, hu, a1, _⟩ := back hj; rw [a1]; exact h.self j u hu
  · obtain ⟨u, hu, a1, _, _, a4, _⟩ := back hj
    rw [a1] at hp
    have := h.join j u hu hp
    rcases a4 with a4 | ⟨a4, _⟩
    · rw [a4]; exact this
    · exact absurd this a4
  · obtain ⟨u, hu, _, a2, _⟩ := back hj
    rw [a2]
    rcases h.door j u hu with e | e | ⟨q, hq, hq2⟩
    · exact .inl e
    · exact .inr (.inl e)
    · obtain ⟨q', hq', _, _, b3⟩ := key hq
      exact .inr (.inr ⟨q', hq', by rw [b3]; exact hq2⟩)
  · obtain ⟨u, hu, _, _, a3, _⟩ := back hj
    rw [a3] at hi
    obtain ⟨q, hq, hq2⟩ := h.wait j u hu i hi
    obtain ⟨q', hq', _, b2, _⟩ := key hq
    exact ⟨q', hq', by rw [b2]; exact hq2⟩
  · obtain ⟨u, hu, _, _, a3, _⟩ := back hj; rw [a3]; exact h.nodup j u hu
  · obtain ⟨u, hu, _, _, a3, _, a5⟩ := back hj; rw [a3]; exact ⟨(h.few j u hu).1, a5⟩
  · obtain ⟨u, hu, _, _, a3, a4, _⟩ := back hj
    rw [a3] at hw
    have := h.list j u hu hw
    rcases a4 with a4 | ⟨_, a4⟩
    · rw [a4]; exact this
    · exact a4
  · obtain ⟨u, hu, _, a2, _, a4, _⟩ := back hj
    rw [a2] at hd
    have := h.shut j u hu hd
    rcases a4 with a4 | ⟨a4, _⟩
    · rw [a4]; exact this
    · exact absurd this a4
  · have hz : z ≠ k := fun e => by have := h.zno; rw [e, hk] at this; cases this
    rw [setT_other T _ hz]; exact h.zno
  · obtain ⟨q, hq, hq2⟩ := h.orph i hi
    obtain ⟨q', hq', _, b2, _⟩ := key hq
    exact ⟨q', hq', by rw [b2]; exact hq2⟩
/-- One is made. -/
theorem inv_make (h : Inv T next) (h0 : 1 ≤ next) : Inv (setT T next (some freshK)) (next + 1) := by
  have hn := h.nonext (Nat.le_refl next)
  have key : ∀ {j v}, T j = some v → setT T next (some freshK) j = some v := fun {j v} hj => by
    rw [setT_other T _ fun e => by rw [e, hn] at hj; cases hj]; exact hj
  refine ⟨fun j v hj => ?_, fun j v hj => ?_, fun j v hj => ?_, fun j v hj hp => ?_, fun j v hj => ?_, fun j v hj i hi => ?_, fun j v hj => ?_, fun j v hj => ?_, fun j v hj hw => ?_, fun j v hj hd => ?_, ?_, (fun i hi => by cases hi), .nil⟩
  all_goals (try (rcases setT_some hj with ⟨rfl, e⟩ | ⟨_, hj'⟩))
  all_goals (try cases e)
  · omega
  · have := h.lo j v hj'; omega
  · exact .inl rfl
  · rcases h.peer j v hj' with e | ⟨q, hq, hq2⟩
    · exact .inl e
    · exact .inr ⟨q, key hq, hq2⟩
  · show (0 : Nat) ≠ j; omega
  · exact h.self j v hj'
  · exact absurd rfl hp
  · exact h.join j v hj' hp
  · exact .inl rfl
  · rcases h.door j v hj' with e | ⟨_, e⟩ | ⟨q, hq, hq2⟩
    · exact .inl e
    · cases e
    · exact .inr (.inr ⟨q, key hq, hq2⟩)
  · cases hi
  · obtain ⟨q, hq, hq2⟩ := h.wait j v hj' i hi
    exact ⟨q, key hq, hq2⟩
  · exact .nil
  · exact h.nodup j v hj'
  · exact ⟨Nat.zero_le _, Nat.zero_le _⟩
  · exact h.few j v hj'
  · exact absurd rfl hw
  · exact h.list j v hj' hw
  · exact absurd rfl hd
  · exact h.shut j v hj' hd
  · rw [setT_other T _ (by omega)]; exact h.no0
/-- Two are joined. -/
theorem inv_join {a b : Nat} {xa xb : Sk} (h : Inv T next) (ha : T a = some xa) (hb : T b = some xb) (hne : a ≠ b) (a1 : xa.st ≠ 1) (a2 : xa.st ≠ 2) (b1 : xb.st ≠ 1) (b2 : xb.st ≠ 2) : Inv (joinT T a b xa xb) next := by
  have pz : ∀ {j v}, T j = some v → v.st ≠ 2 → v.peer = 0 := fun {j v} hj hs => Classical.byContradiction fun e => hs (h.join j v hj e)
  have wz : ∀ {j v}, T j = some v → v.st ≠ 1 → v.waits = [] := fun {j v} hj hs => Classical.byContradiction fun e => hs (h.list j v hj e)
  have dz : ∀ {j v}, T j = some v → v.st ≠ 2 → v.door = 0 := fun {j v} hj hs => Classical.byContradiction fun e => hs (h.shut j v hj e)
  have back : ∀ {j v'}, joinT T a b xa xb j = some v' → (j = b ∧ v' = { xb with st := 2, peer := a }) ∨ (j = a ∧ v' = { xa with st := 2, peer := b }) ∨ (j ≠ a ∧ j ≠ b ∧ T j = some v') := fun {j v'} hj => by
    rcases setT_some hj with ⟨rfl, e⟩ | ⟨e1, hj'⟩
    · cases e; exact .inl ⟨rfl, rfl⟩
    · rcases setT_some hj' with ⟨rfl, e⟩ | ⟨e2, hj''⟩
      · cases e; exact .inr (.inl ⟨rfl, rfl⟩)
      · exact .inr (.inr ⟨e2, e1, hj''⟩)
  have at_a : joinT T a b xa xb a = some { xa with st := 2, peer := b } := by unfold joinT; rw [setT_other _ _ hne, setT_same]
  have at_b : joinT T a b xa xb b = some { xb with st := 2, peer := a } := by unfold joinT; rw [setT_same]
  have oth : ∀ {j v}, T j = some v → j ≠ a → j ≠ b → joinT T a b xa xb j = some v := fun {j v} hj e1 e2 => by unfold joinT; rw [setT_other _ _ e2, setT_other _ _ e1]; exact hj
  have key : ∀ {j v}, T j = some v → ∃ v', joinT T a b xa xb j = some v' ∧ v'.door = v.door ∧ v'.waits = v.waits := fun {j v} hj => by
    by_cases e1 : j = a
    · subst e1; rw [ha] at hj; cases hj; exact ⟨_, at_a, rfl, rfl⟩
    · by_cases e2 : j = b
      · subst e2; rw [hb] at hj; cases hj; exact ⟨_, at_b, rfl, rfl⟩
      · exact ⟨v, oth hj e1 e2, rfl, rfl⟩
  refine ⟨fun j v hj => ?_, fun j v hj => ?_, fun j v hj => ?_, fun j v hj hp => ?_, fun j v hj => ?_, fun j v hj i hi => ?_, fun j v hj => ?_, fun j v hj => ?_, fun j v hj hw => ?_, fun j v hj hd => ?_, ?_, (fun i hi => by cases hi), .nil⟩
  all_goals (try (rcases back hj with ⟨rfl, rfl⟩ | ⟨rfl, rfl⟩ | ⟨e1, e2, hj'⟩))
  · exact h.lo _ xb hb
  · exact h.lo _ xa ha
  · exact h.lo _ _ hj'
  · exact .inr ⟨_, at_a, rfl⟩
  · exact .inr ⟨_, at_b, rfl⟩
  · rcases h.peer j v hj' with e | ⟨q, hq, hq2⟩
    · exact .inl e
    · refine .inr ⟨q, oth hq (fun e => ?_) (fun e => ?_), hq2⟩
      · have := (h.lo j v hj').1
        rw [e, ha] at hq; cases hq; rw [pz (v := xa) ha a2] at hq2; omega
      · have := (h.lo j v hj').1
        rw [e, hb] at hq; cases hq; rw [pz (v := xb) hb b2] at hq2; omega
  · exact hne
  · exact Ne.symm hne
  · exact h.self j v hj'
  · rfl
  · rfl
  · exact h.join j v hj' hp
  · exact .inl (dz (v := xb) hb b2)
  · exact .inl (dz (v := xa) ha a2)
  · rcases h.door j v hj' with e | ⟨_, e⟩ | ⟨q, hq, hq2⟩
    · exact .inl e
    · cases e
    · obtain ⟨q', hq', _, c2⟩ := key hq
      exact .inr (.inr ⟨q', hq', by rw [c2]; exact hq2⟩)
  · rw [show ({ xb with st := 2, peer := a } : Sk).waits = [] from wz (v := xb) hb b1] at hi; cases hi
  · rw [show ({ xa with st := 2, peer := b } : Sk).waits = [] from wz (v := xa) ha a1] at hi; cases hi
  · obtain ⟨q, hq, hq2⟩ := h.wait j v hj' i hi
    obtain ⟨q', hq', c1, _⟩ := key hq
    exact ⟨q', hq', by rw [c1]; exact hq2⟩
  · exact h.nodup _ xb hb
  · exact h.nodup _ xa ha
  · exact h.nodup _ _ hj'
  · exact h.few _ xb hb
  · exact h.few _ xa ha
  · exact h.few _ _ hj'
  · exact absurd (wz (v := xb) hb b1) hw
  · exact absurd (wz (v := xa) ha a1) hw
  · exact h.list _ _ hj' hw
  · rfl
  · rfl
  · exact h.shut _ _ hj' hd
  · unfold joinT
    rw [setT_other _ _ (by have := (h.lo _ xb hb).1; omega), setT_other _ _ (by have := (h.lo _ xa ha).1; omega)]
    exact h.no0
/-- One begins to wait. -/
theorem inv_wait {t : Nat} (h : Inv T next) (hj : T j = some y) (ht : T t = some d) (hne : t ≠ j) (y1 : y.st = 2) (y2 : y.door = 0) (d1 : d.st = 1) (d2 : d.waits.length < 8) : Inv (setT (setT T j (some { y with door := t })) t (some { d with waits := d.waits ++ [j] })) next := by
  have hnj : j ∉ d.waits := fun e => by
    obtain ⟨q, hq, hq2⟩ := h.wait t d ht j e
    rw [hj] at hq; cases hq
    have := (h.lo t d ht).1
    omega
  have yw : y.waits = [] := Classical.byContradiction fun e => by have := h.list j y hj e; omega
  have back : ∀ {i v'}, setT (setT T j (some { y with door := t })) t (some { d with waits := d.waits ++ [j] }) i = some v' → (i = t ∧ v' = { d with waits := d.waits ++ [j] }) ∨ (i = j ∧ v' = { y with door := t }) ∨ (i ≠ t ∧ i ≠ j ∧ T i = some v') := fun {i v'} hi => by
    rcases setT_some hi with ⟨rfl, e⟩ | ⟨e1, hi'⟩
    · cases e; exact .inl ⟨rfl, rfl⟩
    · rcases setT_some hi' with ⟨rfl, e⟩ | ⟨e2, hi''⟩
      · cases e; exact .inr (.inl ⟨rfl, rfl⟩)
      · exact .inr (.inr ⟨e1, e2, hi''⟩)
  have at_t : setT (setT T j (some { y with door := t })) t (some { d with waits := d.waits ++ [j] }) t = some { d with waits := d.waits ++ [j] } := setT_same _ _ _
  have at_j : setT (setT T j (some { y with door := t })) t (some { d with waits := d.waits ++ [j] }) j = some { y with door := t } := by rw [setT_other _ _ (Ne.symm hne), setT_same]
  have key : ∀ {i v}, T i = some v → ∃ v', setT (setT T j (some { y with door := t })) t (some { d with waits := d.waits ++ [j] }) i = some v' ∧ v'.peer = v.peer ∧ (∀ a ∈ v.waits, a ∈ v'.waits) ∧ (i ≠ j → v'.door = v.door) := fun {i v} hi => by
    by_cases e1 : i = t
    · subst e1; rw [ht] at hi; cases hi; exact ⟨_, at_t, rfl, fun a ha => List.mem_append_left _ ha, fun _ => rfl⟩
    · by_cases e2 : i = j
      · subst e2; rw [hj] at hi; cases hi; exact ⟨_, at_j, rfl, fun a ha => ha, fun e => absurd rfl e⟩
      · exact ⟨v, by rw [setT_other _ _ e1, setT_other _ _ e2]; exact hi, rfl, fun a ha => ha, fun _ => rfl⟩
  have peers : ∀ {i v}, T i = some v → v.peer = 0 ∨ ∃ q, setT (setT T j (some { y with door := t })) t (some { d with waits := d.waits ++ [j] }) v.peer = some q ∧ q.peer = i := fun {i v} hi => by
    rcases h.peer i v hi with e | ⟨q, hq, hq2⟩
    · exact .inl e
    · obtain ⟨q', hq', c1, _⟩ := key hq
      exact .inr ⟨q', hq', by rw [c1]; exact hq2⟩
  have doors : ∀ {i v}, T i = some v → v.door = 0 ∨ (v.door = 0 ∧ i ∈ ([] : List Nat)) ∨ ∃ q, setT (setT T j (some { y with door := t })) t (some { d with waits := d.waits ++ [j] }) v.door = some q ∧ i ∈ q.waits := fun {i v} hi => by
    rcases h.door i v hi with e | ⟨_, e⟩ | ⟨q, hq, hq2⟩
    · exact .inl e
    · cases e
    · obtain ⟨q', hq', _, c2, _⟩ := key hq
      exact .inr (.inr ⟨q', hq', c2 _ hq2⟩)
  have waits : ∀ {i v}, T i = some v → ∀ a ∈ v.waits, ∃ q, setT (setT T j (some { y with door := t })) t (some { d with waits := d.waits ++ [j] }) a = some q ∧ q.door = i := fun {i v} hi a ha => by
    obtain ⟨q, hq, hq2⟩ := h.wait i v hi a ha
    obtain ⟨q', hq', _, _, c3⟩ := key hq
    refine ⟨q', hq', ?_⟩
    rw [c3 fun e => ?_]
    · exact hq2
    · rw [e, hj] at hq; cases hq
      have := (h.lo i v hi).1
      omega
  refine ⟨fun i v hi => ?_, fun i v hi => ?_, fun i v hi => ?_, fun i v hi hp => ?_, fun i v hi => ?_, fun i v hi a ha => ?_, fun i v hi => ?_, fun i v hi => ?_, fun i v hi hw => ?_, fun i v hi hd => ?_, ?_, (fun i hi => by cases hi), .nil⟩
  all_goals (try (rcases back hi with ⟨rfl, rfl⟩ | ⟨rfl, rfl⟩ | ⟨e1, e2, hi'⟩))
  · exact h.lo _ d ht
  · exact h.lo _ y hj
  · exact h.lo _ _ hi'
  · exact peers (v := d) ht
  · exact peers (v := y) hj
  · exact peers hi'
  · exact h.self _ d ht
  · exact h.self _ y hj
  · exact h.self _ _ hi'
  · exact h.join _ d ht hp
  · exact h.join _ y hj hp
  · exact h.join _ _ hi' hp
  · exact doors (v := d) ht
  · exact .inr (.inr ⟨_, at_t, by simp⟩)
  · exact doors hi'
  · rcases List.mem_append.1 ha with ha | ha
    · exact waits (v := d) ht a ha
    · simp at ha; subst ha; exact ⟨_, at_j, rfl⟩
  · exact waits (v := y) hj a ha
  · exact waits hi' a ha
  · exact List.nodup_append.2 ⟨h.nodup _ d ht, by simp, fun a ha b hb e => by simp at hb; subst hb; subst e; exact hnj ha⟩
  · exact h.nodup _ y hj
  · exact h.nodup _ _ hi'
  · exact ⟨by simp; omega, (h.few _ d ht).2⟩
  · exact h.few _ y hj
  · exact h.few _ _ hi'
  · exact d1
  · exact h.list _ y hj hw
  · exact h.list _ _ hi' hw
  · exact h.shut _ d ht hd
  · exact y1
  · exact h.shut _ _ hi' hd
  · rw [setT_other _ _ (by have := (h.lo _ d ht).1; omega), setT_other _ _ (by have := (h.lo _ y hj).1; omega)]
    exact h.no0
/-- One waits no more. -/
theorem inv_leave {dk : Nat} {A B : List Nat} (h : Inv T next) (hk : T k = some x) (hd : x.door = dk) (ho : T dk = some d) (hne : dk ≠ k) (hw : d.waits = A ++ k :: B) : Inv (setT (setT T dk (some { d with waits := A ++ B })) k (some { x with door := 0 })) next := by
  have hnd := h.nodup dk d ho
  rw [hw] at hnd
  have hnA : k ∉ A ∧ k ∉ B := by
    have h1 := List.nodup_append.1 hnd
    exact ⟨fun e => h1.2.2 k e k (by simp) rfl, (List.nodup_cons.1 h1.2.1).1⟩
  have sub : ∀ a, a ∈ A ++ B → a ∈ d.waits ∧ a ≠ k := fun a ha => by
    rw [hw]
    rcases List.mem_append.1 ha with ha | ha
    · exact ⟨by simp [ha], fun e => hnA.1 (e ▸ ha)⟩
    · exact ⟨by simp [ha], fun e => hnA.2 (e ▸ ha)⟩
  have back : ∀ {i v'}, setT (setT T dk (some { d with waits := A ++ B })) k (some { x with door := 0 }) i = some v' → (i = k ∧ v' = { x with door := 0 }) ∨ (i = dk ∧ v' = { d with waits := A ++ B }) ∨ (i ≠ k ∧ i ≠ dk ∧ T i = some v') := fun {i v'} hi => by
    rcases setT_some hi with ⟨rfl, e⟩ | ⟨e1, hi'⟩
    · cases e; exact .inl ⟨rfl, rfl⟩
    · rcases setT_some hi' with ⟨rfl, e⟩ | ⟨e2, hi''⟩
      · cases e; exact .inr (.inl ⟨rfl, rfl⟩)
      · exact .inr (.inr ⟨e1, e2, hi''⟩)
  have at_k : setT (setT T dk (some { d with waits := A ++ B })) k (some { x with door := 0 }) k = some { x with door := 0 } := setT_same _ _ _
  have at_d : setT (setT T dk (some { d with waits := A ++ B })) k (some { x with door := 0 }) dk = some { d with waits := A ++ B } := by rw [setT_other _ _ hne, setT_same]
  have key : ∀ {i v}, T i = some v → ∃ v', setT (setT T dk (some { d with waits := A ++ B })) k (some { x with door := 0 }) i = some v' ∧ v'.peer = v.peer ∧ (∀ a, a ≠ k → a ∈ v.waits → a ∈ v'.waits) ∧ (i ≠ k → v'.door = v.door) := fun {i v} hi => by
    by_cases e1 : i = k
    · subst e1; rw [hk] at hi; cases hi; exact ⟨_, at_k, rfl, fun a _ ha => ha, fun e => absurd rfl e⟩
    · by_cases e2 : i = dk
      · subst e2; rw [ho] at hi; cases hi
        refine ⟨_, at_d, rfl, fun a hne ha => ?_, fun _ => rfl⟩
        rw [hw] at ha
        show a ∈ A ++ B
        simp at ha ⊢
        rcases ha with ha | ha | ha
        · exact .inl ha
        · exact absurd ha hne
        · exact .inr ha
      · exact ⟨v, by rw [setT_other _ _ e1, setT_other _ _ e2]; exact hi, rfl, fun a _ ha => ha, fun _ => rfl⟩
  have peers : ∀ {i v}, T i = some v → v.peer = 0 ∨ ∃ q, setT (setT T dk (some { d with waits := A ++ B })) k (some { x with door := 0 }) v.peer = some q ∧ q.peer = i := fun {i v} hi => by
    rcases h.peer i v hi with e | ⟨q, hq, hq2⟩
    · exact .inl e
    · obtain ⟨q', hq', c1, _⟩ := key hq
      exact .inr ⟨q', hq', by rw [c1]; exact hq2⟩
  have doors : ∀ {i v}, T i = some v → i ≠ k → v.door = 0 ∨ (v.door = 0 ∧ i ∈ ([] : List Nat)) ∨ ∃ q, setT (setT T dk (some { d with waits := A ++ B })) k (some { x with door := 0 }) v.door = some q ∧ i ∈ q.waits := fun {i v} hi hik => by
    rcases h.door i v hi with e | ⟨_, e⟩ | ⟨q, hq, hq2⟩
    · exact .inl e
    · cases e
    · obtain ⟨q', hq', _, c2, _⟩ := key hq
      exact .inr (.inr ⟨q', hq', c2 _ hik hq2⟩)
  have waits : ∀ {i v}, T i = some v → ∀ a ∈ v.waits, a ≠ k → ∃ q, setT (setT T dk (some { d with waits := A ++ B })) k (some { x with door := 0 }) a = some q ∧ q.door = i := fun {i v} hi a ha hak => by
    obtain ⟨q, hq, hq2⟩ := h.wait i v hi a ha
    obtain ⟨q', hq', _, _, c3⟩ := key hq
    exact ⟨q', hq', by rw [c3 hak]; exact hq2⟩
  have nk : ∀ {i v}, T i = some v → i ≠ dk → ∀ a ∈ v.waits, a ≠ k := fun {i v} hi hid a ha e => by
    subst e
    obtain ⟨q, hq, hq2⟩ := h.wait i v hi a ha
    rw [hk] at hq; cases hq
    exact hid (hq2.symm.trans hd)
  refine ⟨fun i v hi => ?_, fun i v hi => ?_, fun i v hi => ?_, fun i v hi hp => ?_, fun i v hi => ?_, fun i v hi a ha => ?_, fun i v hi => ?_, fun i v hi => ?_, fun i v hi hw' => ?_, fun i v hi hdd => ?_, ?_, (fun i hi => by cases hi), .nil⟩
  all_goals (try (rcases back hi with ⟨rfl, rfl⟩ | ⟨rfl, rfl⟩ | ⟨e1, e2, hi'⟩))
  · exact h.lo _ x hk
  · exact h.lo _ d ho
  · exact h.lo _ _ hi'
  · exact peers (v := x) hk
  · exact peers (v := d) ho
  · exact peers hi'
  · exact h.self _ x hk
  · exact h.self _ d ho
  · exact h.self _ _ hi'
  · exact h.join _ x hk hp
  · exact h.join _ d ho hp
  · exact h.join _ _ hi' hp
  · exact .inl rfl
  · exact doors (v := d) ho hne
  · exact doors hi' e1
  · exact waits (v := x) hk a ha (nk (v := x) hk (Ne.symm hne) a ha)
  · exact waits (v := d) ho a (sub a ha).1 (sub a ha).2
  · exact waits hi' a ha (nk hi' e2 a ha)
  · exact h.nodup _ x hk
  · have h1 := List.nodup_append.1 hnd
    exact List.nodup_append.2 ⟨h1.1, (List.nodup_cons.1 h1.2.1).2, fun a ha b hb => h1.2.2 a ha b (List.mem_cons_of_mem _ hb)⟩
  · exact h.nodup _ _ hi'
  · exact h.few _ x hk
  · have := (h.few _ d ho).1
    rw [hw] at this
    exact ⟨by simp at this ⊢; omega, (h.few _ d ho).2⟩
  · exact h.few _ _ hi'
  · exact h.list _ x hk hw'
  · exact h.list _ d ho (by rw [hw]; simp)
  · exact h.list _ _ hi' hw'
  · exact absurd rfl hdd
  · exact h.shut _ d ho hdd
  · exact h.shut _ _ hi' hdd
  · rw [setT_other _ _ (by have := (h.lo _ x hk).1; omega), setT_other _ _ (by have := (h.lo _ d ho).1; omega)]
    exact h.no0
theorem dropT_some {v' : Sk} (hj : dropT T k x j = some v') : j ≠ k ∧ ∃ v, T j = some v ∧ v'.door = v.door ∧ v'.waits = v.waits ∧ v'.st = v.st ∧ v'.most = v.most ∧ ((v'.peer = v.peer ∧ j ≠ x.peer) ∨ v'.peer = 0) := by
  unfold dropT at hj
  rcases setT_some hj with ⟨_, e⟩ | ⟨e1, hj'⟩
  · cases e
  · refine ⟨e1, ?_⟩
    cases ho : T x.peer with
    | none =>
      rw [ho] at hj'
      replace hj' : T j = some v' := hj'
      exact ⟨v', hj', rfl, rfl, rfl, rfl, .inl ⟨rfl, fun e => by rw [e, ho] at hj'; cases hj'⟩⟩
    | some y =>
      rw [ho] at hj'
      rcases setT_some hj' with ⟨e2, e⟩ | ⟨e2, hj''⟩
      · cases e; rw [e2]; exact ⟨y, ho, rfl, rfl, rfl, rfl, .inr rfl⟩
      · exact ⟨v', hj'', rfl, rfl, rfl, rfl, .inl ⟨rfl, e2⟩⟩
theorem dropT_key {v : Sk} (hj : T j = some v) (hne : j ≠ k) : ∃ v', dropT T k x j = some v' ∧ v'.door = v.door ∧ v'.waits = v.waits ∧ (j ≠ x.peer → v'.peer = v.peer) := by
  unfold dropT
  rw [setT_other _ _ hne]
  cases ho : T x.peer with
  | none => exact ⟨v, hj, rfl, rfl, fun _ => rfl⟩
  | some y =>
    by_cases e : j = x.peer
    · rw [e, ho] at hj; cases hj
      exact ⟨{ v with peer := 0 }, by rw [e]; exact setT_same T x.peer (some { v with peer := 0 }), rfl, rfl, fun e2 => absurd e e2⟩
    · exact ⟨v, by show setT T x.peer _ j = _; rw [setT_other _ _ e]; exact hj, rfl, rfl, fun _ => rfl⟩
theorem inv_drop {z' : Nat} {R' : List Nat} (h : InvR T next z R) (hk : T k = some x) (hc : (R = [] ∧ x.door = 0 ∧ z' = k ∧ R' = x.waits) ∨ (z ≠ 0 ∧ R = k :: R' ∧ z' = z)) : InvR (dropT T k x) next z' R' := by
  have hkd : ∀ {i v}, T i = some v → k ∉ v.waits := fun {i v} hi e => by
    obtain ⟨q, hq, hq2⟩ := h.wait i v hi k e
    rw [hk] at hq; cases hq
    rcases hc with ⟨_, hd, _, _⟩ | ⟨_, hR, _⟩
    · have := (h.lo i v hi).1; omega
    · obtain ⟨y, hy, hy2⟩ := h.orph k (by rw [hR]; simp)
      rw [hk] at hy; cases hy
      have := h.zno
      rw [hy2] at hq2
      rw [hq2, hi] at this; cases this
  refine ⟨fun i v' hi => ?_, fun i v' hi => ?_, fun i v' hi => ?_, fun i v' hi hp => ?_, fun i v' hi => ?_, fun i v' hi a ha => ?_, fun i v' hi => ?_, fun i v' hi => ?_, fun i v' hi hw => ?_, fun i v' hi hd => ?_, ?_, fun i hi => ?_, ?_⟩
  · obtain ⟨hne, v, hv, a1, a2, a3, a4, a5⟩ := dropT_some hi
    exact h.lo i v hv
  · obtain ⟨hne, v, hv, a1, a2, a3, a4, a5⟩ := dropT_some hi
    rcases a5 with ⟨a5, hxp⟩ | a5
    · rw [a5]
      rcases h.peer i v hv with e | ⟨q, hq, hq2⟩
      · exact .inl e
      · right
        have hqk : v.peer ≠ k := fun e => by
          rw [e, hk] at hq; cases hq
          exact hxp hq2.symm
        obtain ⟨q', hq', _, _, c3⟩ := dropT_key (x := x) hq hqk
        refine ⟨q', hq', ?_⟩
        rw [c3 fun e => ?_]
        · exact hq2
        · rcases h.peer k x hk with e0 | ⟨u, hu, hu2⟩
          · rw [e0] at e
            rw [e, h.no0] at hq; cases hq
          · rw [e, hu] at hq; cases hq
            exact hne (hq2.symm.trans hu2)
    · exact .inl a5
  · obtain ⟨hne, v, hv, a1, a2, a3, a4, a5⟩ := dropT_some hi
    rcases a5 with ⟨a5, _⟩ | a5
    · rw [a5]; exact h.self i v hv
    · rw [a5]; have := (h.lo i v hv).1; omega
  · obtain ⟨hne, v, hv, a1, a2, a3, a4, a5⟩ := dropT_some hi
    rcases a5 with ⟨a5, _⟩ | a5
    · rw [a5] at hp; rw [a3]; exact h.join i v hv hp
    · exact absurd a5 hp
  · obtain ⟨hne, v, hv, a1, a2, a3, a4, a5⟩ := dropT_some hi
    rw [a1]
    rcases h.door i v hv with e | ⟨e1, e2⟩ | ⟨q, hq, hq2⟩
    · exact .inl e
    · rcases hc with ⟨hR, _⟩ | ⟨_, hR, hz⟩
      · rw [hR] at e2; cases e2
      · rw [hR] at e2
        rcases List.mem_cons.1 e2 with e2 | e2
        · exact absurd e2 hne
        · exact .inr (.inl ⟨by rw [hz]; exact e1, e2⟩)
    · by_cases e : v.door = k
      · rw [e, hk] at hq; cases hq
        rcases hc with ⟨_, _, hz, hR⟩ | ⟨hz0, hR, _⟩
        · exact .inr (.inl ⟨by rw [hz]; exact e, by rw [hR]; exact hq2⟩)
        · obtain ⟨u, hu, hu2⟩ := h.orph k (by rw [hR]; simp)
          rw [hk] at hu; cases hu
          have h1 := h.shut k x hk (by rw [hu2]; exact hz0)
          have h2 := h.list k x hk (fun e => by rw [e] at hq2; cases hq2)
          omega
      · obtain ⟨q', hq', _, c2, _⟩ := dropT_key (x := x) hq e
        exact .inr (.inr ⟨q', hq', by rw [c2]; exact hq2⟩)
  · obtain ⟨hne, v, hv, a1, a2, a3, a4, a5⟩ := dropT_some hi
    rw [a2] at ha
    obtain ⟨q, hq, hq2⟩ := h.wait i v hv a ha
    obtain ⟨q', hq', c1, _, _⟩ := dropT_key (x := x) hq (fun e => by rw [e] at ha; exact hkd hv ha)
    exact ⟨q', hq', by rw [c1]; exact hq2⟩
  · obtain ⟨hne, v, hv, a1, a2, a3, a4, a5⟩ := dropT_some hi
    rw [a2]; exact h.nodup i v hv
  · obtain ⟨hne, v, hv, a1, a2, a3, a4, a5⟩ := dropT_some hi
    rw [a2, a4]; exact h.few i v hv
  · obtain ⟨hne, v, hv, a1, a2, a3, a4, a5⟩ := dropT_some hi
    rw [a2] at hw; rw [a3]; exact h.list i v hv hw
  · obtain ⟨hne, v, hv, a1, a2, a3, a4, a5⟩ := dropT_some hi
    rw [a1] at hd; rw [a3]; exact h.shut i v hv hd
  · have hkn : dropT T k x k = none := by unfold dropT; rw [setT_same]
    rcases hc with ⟨_, _, hz, _⟩ | ⟨_, hR, hz⟩
    · rw [hz]; exact hkn
    · rw [hz]
      cases e : dropT T k x z with
      | none => rfl
      | some v' =>
        obtain ⟨_, v, hv, _⟩ := dropT_some e
        rw [h.zno] at hv; cases hv
  · rcases hc with ⟨_, _, hz, hR⟩ | ⟨_, hR, hz⟩
    · rw [hR] at hi
      obtain ⟨q, hq, hq2⟩ := h.wait k x hk i hi
      obtain ⟨q', hq', c1, _⟩ := dropT_key (x := x) hq (fun e => by rw [e] at hi; exact hkd hk hi)
      exact ⟨q', hq', by rw [c1, hz]; exact hq2⟩
    · obtain ⟨q, hq, hq2⟩ := h.orph i (by rw [hR]; simp [hi])
      have hne : i ≠ k := fun e => by
        have := h.once
        rw [hR] at this
        exact (List.nodup_cons.1 this).1 (e ▸ hi)
      obtain ⟨q', hq', c1, _⟩ := dropT_key (x := x) hq hne
      exact ⟨q', hq', by rw [c1, hz]; exact hq2⟩
  · rcases hc with ⟨_, _, _, hR⟩ | ⟨_, hR, _⟩
    · rw [hR]; exact h.nodup k x hk
    · have := h.once
      rw [hR] at this
      exact (List.nodup_cons.1 this).2
theorem InvR.done (h : InvR T next z []) : Inv T next :=
  ⟨h.lo, h.peer, h.self, h.join, fun k x hk => by
    rcases h.door k x hk with e | ⟨_, e⟩ | e
    · exact .inl e
    · cases e
    · exact .inr (.inr e), h.wait, h.nodup, h.few, h.list, h.shut, h.no0, (fun _ h => by cases h), .nil⟩
end

end Go.Proofs.Ytfhkdndgiofidaa.X

namespace Go.Proofs.Ytfhkdndgiofidaa.X
open Go Go.RowKit Go.Maps Go.Proofs.Ytfhkdndgiofidaa.K

section
variable {P P' : Nat → Prop} {w W W' : World} {sb mb n next k : Nat} {g : Nat → Nat} {T : Tb} {x y : Sk}
/-- leave, of any socket. -/
theorem leave_any (h : StG P w sb mb n next g T) (hi : Inv T next) (_hnx : next ≤ 1023) (hk : T k = some x) : Calls Try.prog 69 #[ptr sb, .int .i64 (k : Int)] w fun e w' => e = .returned (.tuple #[]) ∧ ∃ P' T' x', StG P' w' sb mb n next g T' ∧ Moves P P' w w' ∧ Inv T' next ∧ T' k = some x' ∧ x'.door = 0 ∧ x'.waits = x.waits := by
  rcases hi.door k x hk with e | ⟨_, e⟩ | ⟨d, hd, hm⟩
  · have ho : T x.door = none := by rw [e]; exact hi.no0
    refine (leave_out h hk (by omega) ho).mono ?_
    rintro e' w' ⟨h1, P', h2, h3⟩
    exact ⟨h1, P', _, _, h2, h3, hi.same hk rfl e.symm rfl (.inl rfl) (hi.few k x hk).2, setT_same _ _ _, rfl, rfl⟩
  · cases e
  · have hne : x.door ≠ k := fun e => by
      have h1 := hi.shut k x hk (by have := (hi.lo k x hk).1; omega)
      rw [e, hk] at hd; cases hd
      have h2 := hi.list k x hk (fun e => by rw [e] at hm; cases hm)
      omega
    obtain ⟨A, B, hw⟩ := List.append_of_mem hm
    have hnd := hi.nodup _ d hd
    rw [hw] at hnd
    have hA : k ∉ A := fun e => (List.nodup_append.1 hnd).2.2 k e k (by simp) rfl
    refine (leave_in h hk rfl hd hne hw hA (by have := (hi.few _ d hd).1; omega)).mono ?_
    rintro e' w' ⟨h1, P', h2, h3⟩
    exact ⟨h1, P', _, _, h2, h3, inv_leave hi hk rfl hd hne hw, setT_same _ _ _, rfl, rfl⟩
theorem Moves.grow {v v' : Value} (h : Moves P P' w W) (hg : Grows v v' W W') (hb : ∀ b, v.ownBlock = some b → w.heap.size ≤ b) : Moves P P' w W' :=
  ⟨⟨hg.os.trans h.keep.os, hg.tape.trans h.keep.tape, hg.output.trans h.keep.output, Nat.le_trans h.keep.size hg.size, fun j hj hn => (hg.block j (Nat.lt_of_lt_of_le hj h.keep.size) fun e => by have := hb j e; omega).trans (h.keep.block j hj hn)⟩, h.sub⟩
/-- While those that wait are dropped. -/
structure ClsI (P : Nat → Prop) (w : World) (sb mb n next : Nat) (g : Nat → Nat) (k B i : Nat) (ws : List Nat) (p : Option Addr) (v : Value) (W : World) : Prop where
  is : ∃ P' T', StG P' W sb mb n next g T' ∧ Moves P P' w W ∧ InvR T' next k (ws.drop i) ∧ (∀ b, v.ownBlock = some b → ¬ P' b) ∧ (ws = [] ∨ ∃ b, p = some ⟨b, 0, none⟩ ∧ b < B ∧ ¬ P' b ∧ ∀ (j : Nat) u, (natsV ws)[j]? = some u → W.cell? ⟨b, j, none⟩ = some u)
  row : ∃ m cells, W.ownsRow B 99 5 v m cells ∧ (∀ u ∈ cells, u.oneCell' = true) ∧ m ≤ 64 * (i + 1)
  size : B ≤ W.heap.size
theorem ClsI.step {B i : Nat} {ws : List Nat} {p : Option Addr} {v : Value} (h : ClsI P w sb mb n next g k B i ws p v W) (hB : w.heap.size ≤ B) (hk : 1 ≤ k) (hnx : next ≤ 1023) (hi : i < ws.length) (hl : ws.length ≤ 8) :
    Calls Try.prog 70 #[ptr sb, .int .i64 (ws[i] : Int)] W fun e W1 => ∃ p2 l2 c2, e = .returned (.slice p2 l2 c2) ∧ ∃ v' W2, (∀ ty, (Builtin.append_ #[49, 49] ty #[v, .slice p2 l2 c2]).run Try.prog W1 = .ok v' W2) ∧ ClsI P w sb mb n next g k B (i + 1) ws p v' W2 := by
  obtain ⟨P', T', s1, m1, hv, hf, hws⟩ := h.is
  obtain ⟨m, cells, hrow, hone, hm⟩ := h.row
  have hsz := h.size
  have hdr : ws.drop i = ws[i] :: ws.drop (i + 1) := List.drop_eq_getElem_cons hi
  rw [hdr] at hv
  obtain ⟨y, hy, hyd⟩ := hv.orph ws[i] (List.mem_cons_self)
  have hpl := hv.plt hy
  refine (drop_any s1 hy (by omega) (hv.self _ y hy)).mono ?_
  rintro e W1 ⟨P2, v2, rfl, hD⟩
  obtain ⟨m2, cells2, hrow2, hone2, hm2⟩ := hD.row
  obtain ⟨p2, c2, e2, hat2, hc2⟩ := rowS_at hrow2
  have hlt : ∀ b, v.ownBlock = some b → B ≤ b ∧ b < W.heap.size := fun b e => ⟨(row_lt hrow e).1, (row_lt hrow e).2.1⟩
  have hrow1 : W1.ownsRow B 99 5 v m cells := rowS_keep hrow hD.mv.keep fun b e => hf b e
  have hf2 : ∀ b, v.ownBlock = some b → ¬ P2 b := fun b e h7 => by
    rcases hD.mv.sub b h7 with h8 | h8
    · exact hf b e h8
    · have := (hlt b e).2; omega
  have hl2 : cells2.length = m2 * 5 := hrow2.1
  obtain ⟨v', W2, hrun, ho, _, hg⟩ := append_rowA elemPs B v m cells p2 c2 m2 cells2 W1 (by omega) (by omega) hl2 hone2 hrow1 hat2.at (Nat.le_trans hsz hD.mv.keep.size)
  refine ⟨p2, m2, c2, by rw [e2], v', W2, hrun, ⟨P2, _, hD.st.keep ⟨hg.os, hg.tape, hg.output, hg.size, fun j hj h7 => hg.block j hj fun e => hf2 j e h7⟩, (m1.trans hD.mv).grow hg (fun b e => by have := (hlt b e).1; omega), inv_drop hv hy (.inr ⟨by omega, rfl, rfl⟩), fun b e h7 => ?_, ?_⟩, ⟨m + m2, cells ++ cells2, ho, fun u hu => ?_, by omega⟩, Nat.le_trans (Nat.le_trans hsz hD.mv.keep.size) hg.size⟩
  · rcases hg.lies b e with h8 | h8
    · exact hf2 b h8 h7
    · have := hD.st.lt h7; omega
  · rcases hws with h7 | ⟨b, h7, h8, h9, h10⟩
    · exact .inl h7
    · have hbW : b < W.heap.size := by omega
      refine .inr ⟨b, h7, h8, fun h11 => ?_, fun j u hj => ?_⟩
      · rcases hD.mv.sub b h11 with h12 | h12
        · exact h9 h12
        · omega
      · rw [← h10 j u hj]
        have e1 := hD.mv.keep.block b hbW h9
        have e2 := hg.block b (Nat.lt_of_lt_of_le hbW hD.mv.keep.size) fun e => by have := (hlt b e).1; omega
        simp only [World.cell?, e2, e1]
  · rcases List.mem_append.1 hu with hu | hu
    · exact hone u hu
    · exact hone2 u hu
/-- What Close leaves. -/
def ClosePost (P : Nat → Prop) (w : World) (sb mb n next : Nat) (g : Nat → Nat) (e : Ending) (w' : World) : Prop := ∃ P' T' p l c, e = .returned (.slice p l c) ∧ StG P' w' sb mb n next g T' ∧ Inv T' next ∧ Moves P P' w w'
set_option maxRecDepth 100000 in
set_option maxHeartbeats 2000000 in
theorem close_any (h : StG P w sb mb n next g T) (hi : Inv T next) (hnx : next ≤ 1023) (hk : T k = some x) : Calls Try.prog 32 #[ptr sb, .int .i64 (k : Int)] w (ClosePost P w sb mb n next g) := by
  have cG := get_yes h hk
  have cL := leave_any h hi hnx hk
  obtain ⟨ws, hws⟩ : ∃ ws, x.waits = ws := ⟨_, rfl⟩
  rw [hws] at cL
  have hl8 : ws.length ≤ 8 := by rw [← hws]; exact (hi.few k x hk).1
  have hk1 := (hi.lo k x hk).1
  have HN : Hid (next ≤ 1023 ∧ 1 ≤ k ∧ ws.length ≤ 8) := ⟨hnx, hk1, hl8⟩
  have HP : Hid (∀ B p v W, ClsI P w sb mb n next g k B ws.length ws p v W → ∃ p l c, v = .slice p l c ∧ ClosePost P w sb mb n next g (.returned (.slice p l c)) W) := fun B p v W hI => by
    obtain ⟨P', T', s1, m1, hv, _⟩ := hI.is
    obtain ⟨m, cells, hrow, _⟩ := hI.row
    obtain ⟨p2, c2, e2, _⟩ := rowS_at hrow
    rw [List.drop_length] at hv
    exact ⟨p2, m, c2, e2, P', T', p2, m, c2, rfl, s1, hv.done, m1⟩
  generalize ClosePost P w sb mb n next g = Post at *
  clear h hi hk hws hnx
  go_enter Try.func32, Try.ntmps32
  go_wp2_with fail
  refine cG.mono ?_
  rintro e w1 ⟨rfl, hw1⟩
  subst w1
  clear cG
  go_wp2_with fail
  refine cL.mono ?_
  rintro e w1 ⟨rfl, P1, T1, x1, s1, m1, i1, hk1', hd1, hwx⟩
  clear cL
  have hpl := i1.plt hk1'
  have cD := drop_any s1 hk1' (by have := HN.out.1; omega) (i1.self k x1 hk1')
  have H1 : Hid _ := And.intro m1 (And.intro i1 (And.intro hk1' (And.intro hd1 hwx)))
  clear s1 m1 i1 hk1' hd1 hpl
  go_wp2_with fail
  refine cD.mono ?_
  rintro e w2 ⟨P2, v2, rfl, hD⟩
  clear cD
  obtain ⟨m1, i1, hk1', hd1, hwx2⟩ := H1.out
  obtain ⟨m2, cells2, hrow2, hone2, hm2⟩ := hD.row
  obtain ⟨qb, p, c, hB, hng, hwt⟩ := hD.box
  rw [hwx2] at hwt hB
  have HB : Hid (w.heap.size ≤ w1.heap.size) := m1.keep.size
  have HI0 : Hid (ClsI P w sb mb n next g k w1.heap.size 0 ws p v2 w2) := by
    refine ⟨⟨P2, _, hD.st, m1.trans hD.mv, ?_, hD.free, hwt⟩, ⟨m2, cells2, hrow2, hone2, by omega⟩, hD.mv.keep.size⟩
    rw [List.drop_zero, ← hwx2]
    exact inv_drop i1 hk1' (.inl ⟨rfl, hd1, rfl, rfl⟩)
  have y6 := hB.cell 6 rfl
  clear hD hrow2 hone2 hB hwt H1 m1 i1 hk1' hd1 hwx2 hwx hng
  generalize w1.heap.size = B at *
  go_wp2
  clear y6
  go_loopw [6, 25] (fun av iv wr => ∃ i : Nat, i ≤ ws.length ∧ iv = .int .i64 (i : Int) ∧ Hid (ClsI P w sb mb n next g k B i ws p av wr)) (fun _ iv _ => ws.length - (intOf iv).toNat)
  case atStart => exact ⟨0, Nat.zero_le _, rfl, HI0⟩
  case round =>
    clear HI0
    obtain ⟨i, hi, rfl, HI⟩ := hrel
    by_cases hlt : i < ws.length
    · have hltz : (i : Int) < (ws.length : Int) := by omega
      have cD := HI.out.step HB.out HN.out.2.1 HN.out.1 hlt HN.out.2.2
      obtain ⟨_, _, _, _, _, _, hcw⟩ := HI.out.is
      obtain ⟨b, rfl, _, _, hcell⟩ := hcw.resolve_left fun e => by rw [e] at hlt; simp at hlt
      have z := hcell i (.int .i64 (ws[i] : Int)) (by simp [hlt])
      clear hcell hcw HI
      generalize ws[i] = j at *
      have hzz : wr.cell? ⟨b, 0 + i, none⟩ = some (.int .i64 (j : Int)) := by rw [Nat.zero_add]; exact z
      go_wp2_with fail
      refine cD.mono ?_
      rintro e w3 ⟨p2, l2, c2, rfl, v', w4, hrun, hI4⟩
      have hrun1 := hrun 49
      have HI4 : Hid _ := hI4
      clear cD hrun hI4 z hzz
      go_wp2_with (at_builtin; refine wpList_run_append (by rfl) _ _ _ (by rfl) _ _ (by rfl) (by rfl) hrun1 ?_)
      go_roundw
      case rel => exact ⟨i + 1, by omega, by go_num, HI4⟩
      case measure => simp [intOf]; omega
    · obtain rfl : i = ws.length := by omega
      have hltz : ¬ (ws.length : Int) < (ws.length : Int) := by omega
      obtain ⟨p9, l9, c9, e9, hE⟩ := HP.out _ _ _ _ HI.out
      subst e9
      have HE : Hid _ := hE
      clear HP HI hE
      go_wp2
      exact HE.out
end

end Go.Proofs.Ytfhkdndgiofidaa.X

namespace Go.Proofs.Ytfhkdndgiofidaa.X
open Go Go.RowKit Go.Maps Go.Proofs.Ytfhkdndgiofidaa.K

/-- While the least is looked for. -/
structure FndI (w : World) (mb r m : Nat) (D : DataW Nat) (left : Lit → Bool) (cnt : Nat) (wr : World) : Prop where
  rg : wr.ranges Try.prog 3 ptrElem mb r m D left cnt
  below : Below w.heap.size w wr
theorem inv_ptr (v : Value) (q : DataW Nat × List MemPlace) (hv : ptrElem v = some q) : ∃ c, v = Value.pointer c := by
  rcases ptrElem_inv (d := q.1) (ps := q.2) hv with ⟨h1, _⟩ | ⟨gg, h1, _⟩
  · exact ⟨none, h1⟩
  · exact ⟨_, h1⟩
def FindPost (w : World) (e : Ending) (w' : World) : Prop := ∃ z : Int, e = .returned (.int .i64 z) ∧ Below w.heap.size w w'
set_option maxRecDepth 100000 in
set_option maxHeartbeats 4000000 in
theorem find_any {P : Nat → Prop} {w : World} {sb mb n next : Nat} {g : Nat → Nat} {T : Tb} (h : StG P w sb mb n next g T) (ino : Int) : Calls Try.prog 35 #[ptr sb, .int .i64 ino] w (FindPost w) := by
  have HP : Hid (∀ z W, Below w.heap.size w W → FindPost w (.returned (.int .i64 z)) W) := fun z W hb => ⟨z, rfl, hb⟩
  by_cases h1 : ino < 1
  · have HE := HP.out 0 w (Below.refl _ _)
    generalize FindPost w = Post at *
    clear HP h
    go_enter Try.func35, Try.ntmps35
    go_wp2
    exact HE
  · have x0 := h.box.cell 0 rfl
    have hst := h
    obtain ⟨y, hM, _, hgg⟩ := h
    obtain ⟨D, hD⟩ : ∃ D, y.D = D := ⟨_, rfl⟩
    have hown := hM.map
    rw [hD] at hown
    have HK : Hid (∀ kl c (q : DataW Nat × List MemPlace), ptrElem (.pointer c) = some q → (∀ zd, D.atKey kl zd = q.1) → ∃ k x, kl = ky k ∧ T k = some x ∧ c = some ⟨g k, 0, none⟩) := fun kl c q hv hat => by
      have hhas : Maps.has D kl = true := has_true_of_atKey hat
      rw [← hD] at hhas hat
      obtain ⟨k, e, hk⟩ := hM.is.keys kl hhas
      obtain ⟨x, hx⟩ := hasT_ex hk
      refine ⟨k, x, e, hx, ?_⟩
      have h2 := (hM.is.held k hk).2
      rw [← e, hat] at h2
      have h3 : ptrElem (.pointer c) = some (.held (gOf y.D k), q.2) := by rw [hv, ← h2]
      have h4 := ptrElem_of_held h3
      rw [hgg k hk] at h4
      injection h4
    have HB : Hid (∀ k x, T k = some x → ∀ W, Below w.heap.size w W → W.cell? ⟨g k, 3, none⟩ = some (.int .i64 x.bound)) := fun k x hx W hb => by
      obtain ⟨_, _, _, hB, _⟩ := (hst.on hb).at hx
      exact hB.cell 3 rfl
    generalize FindPost w = Post at *
    clear hM hgg hst hD
    go_enter Try.func35, Try.ntmps35
    go_wp2_with (first
      | (at_range; refine wpList_range_own _ rfl _ 63 rfl 3 76 lawInt Try.underlying63 _ mb (Maps.size D) D rfl hown ?_; intro w0 hrg0 hg0 hs0; go_frame)
      | go_in)
    have HI0 : Hid (FndI w mb w.heap.size (Maps.size D) D (Maps.has D) (Maps.size D) w0) := ⟨hrg0, ⟨hg0.os, hg0.tape, hg0.output, hg0.size, fun k hk => hg0.block k hk (by simp)⟩⟩
    clear hrg0 hg0 hs0 hown x0
    go_loopw [5] (fun lv wr => ∃ (z : Int) (left : Lit → Bool) (cnt : Nat), lv = .int .i64 z ∧ Hid (FndI w mb w.heap.size (Maps.size D) D left cnt wr)) (fun _ wr => wr.rangeLeft mb w.heap.size)
    case atStart => exact ⟨0, _, _, rfl, HI0⟩
    case round =>
      clear HI0
      obtain ⟨z, left, cnt, rfl, HI⟩ := hrel
      go_wp2_with (first
        | (at_next; refine wpList_next_ranges (α := Int) (β := Option Addr) _ rfl _ rfl 3 lawInt ptrElem (Value.int .i64) Value.pointer (fun key kl hkey => by obtain ⟨x, rfl, _⟩ := Maps.keyOf_int_inv Try.underlying3 hkey; exact ⟨x, rfl⟩) inv_ptr mb w.heap.size (Maps.size D) D left cnt rfl HI.out.rg ?_ ?_)
        | go_in)
      · intro _ _
        have HE := HP.out z wr HI.out.below
        clear HI HP HK HB
        go_wp2
        exact HE
      · intro kx c kl qa qb w2 cnt2 hkey hlx hv hat hrg2 hlt hg2 hs2 hen
        obtain ⟨k, x, ek, hx, ec⟩ := HK.out kl c (qa, qb) hv hat
        subst ec
        obtain ⟨x', ex, ekl, hwx⟩ := Maps.keyOf_int_inv Try.underlying3 hkey
        cases ex
        rw [ek] at ekl
        obtain rfl : kx = (k : Int) := by unfold ky at ekl; simpa using ekl.symm
        have I := HI.out
        have hb2 : Below w.heap.size w w2 := ⟨hg2.os.trans I.below.os, hg2.tape.trans I.below.tape, hg2.output.trans I.below.output, Nat.le_trans I.below.size hg2.size, fun j hj => (hg2.block j (by have := I.below.size; omega) fun e => by cases e; omega).trans (I.below.block j hj)⟩
        have y3 := HB.out k x hx w2 hb2
        have HI2 : Hid (FndI w mb w.heap.size (Maps.size D) D (fun z => left z && !z.sameKey kl) cnt2 w2) := ⟨hrg2, hb2⟩
        have hlt2 : Hid (w2.rangeLeft mb w.heap.size < wr.rangeLeft mb w.heap.size) := by
          show _ < _
          rw [I.rg.left_eq, hrg2.left_eq]; exact hlt
        clear I hb2 HI hrg2 hg2 hat hlx hv hs2 hkey hlt HP HK HB hx ek ekl hwx
        generalize x.bound = bd at *
        by_cases c1 : bd = ino
        · have b1 : (bd == ino) = true := by simpa using c1
          by_cases c2 : z = 0
          · have b2 : (z == 0) = true := by simpa using c2
            go_wp2
            go_roundw
            case rel => exact ⟨_, _, _, rfl, HI2⟩
            case measure => exact hlt2.out
          · have b2 : (z == 0) = false := by simpa using c2
            by_cases c3 : (k : Int) < z
            · have b3 : decide ((k : Int) < z) = true := by simpa using c3
              go_wp2
              go_roundw
              case rel => exact ⟨_, _, _, rfl, HI2⟩
              case measure => exact hlt2.out
            · have b3 : decide ((k : Int) < z) = false := by simpa using c3
              go_wp2
              go_roundw
              case rel => exact ⟨_, _, _, rfl, HI2⟩
              case measure => exact hlt2.out
        · have b1 : (bd == ino) = false := by simpa using c1
          go_wp2
          go_roundw
          case rel => exact ⟨_, _, _, rfl, HI2⟩
          case measure => exact hlt2.out

end Go.Proofs.Ytfhkdndgiofidaa.X
