/- Package queue: Clear. -/
import Derived.Test.YtfhkdndgiofidaaKTake2
namespace Go.Proofs.Ytfhkdndgiofidaa.K
open Go Go.RowKit

/-- All that is passed. -/
def allF (ps : List Pt) : List Ps := ps.flatMap Prod.snd
theorem allF_take (X : List PX) (i : Nat) (x : PX) (h : X[i]? = some x) : allF ((X.take (i + 1)).map PX.pt) = allF ((X.take i).map PX.pt) ++ x.M.map Prod.fst := by
  rw [List.take_add_one, h]
  simp [allF, PX.pt]
theorem allF_len {X : List PX} (h : ∀ x ∈ X, x.M.length ≤ 4) : (allF (X.map PX.pt)).length ≤ 4 * X.length := by
  induction X with
  | nil => simp [allF]
  | cons x r ih =>
    have h1 := ih fun y hy => h y (List.mem_cons_of_mem _ hy)
    have h2 := h x (List.mem_cons_self)
    simp only [allF, List.map_cons, List.flatMap_cons, List.length_append, List.length_cons] at h1 ⊢
    have : (x.pt.2).length = x.M.length := by simp [PX.pt]
    omega
/-- What is laid together so far. -/
structure ClrI (G : Nat → Prop) (w : World) (L : List Ps) (v : Value) (W : World) : Prop where
  is : ∃ N : List PV, N.map Prod.fst = L ∧ W.ownsRow w.heap.size 99 5 v N.length (flatP N) ∧ ∀ x ∈ N, IntsO G W x.2 x.1.ints
  below : Below w.heap.size w W
theorem ClrI.pas {G : Nat → Prop} {w W : World} {L : List Ps} {v : Value} (h : ClrI G w L v W) : PasO (Up G w.heap.size) W v L := by
  obtain ⟨N, h1, h2, h3⟩ := h.is
  obtain ⟨p, cap, e, hat, hc⟩ := AtO.of h2
  exact ⟨N, h1, ⟨p, cap, e, hc, hat.mono fun _ _ h => .inr h⟩, fun x hx => (h3 x hx).mono fun _ _ h => .inl h⟩
theorem ClrI.on {G : Nat → Prop} {w W W' : World} {L : List Ps} {v : Value} (h : ClrI G w L v W) (hb : Below W.heap.size W W') : ClrI G w L v W' := by
  obtain ⟨N, h1, h2, h3⟩ := h.is
  exact ⟨⟨N, h1, rowS_on h2 hb, fun y hy => (h3 y hy).keep (keep_on hb)⟩, on_trans h.below hb⟩
/-- One list more. -/
theorem ClrI.more {G : Nat → Prop} {w W : World} {L : List Ps} {v : Value} {M : List PV} {p : Option Addr} {c : Nat} (h : ClrI G w L v W) (hM : PasM G W (.slice p M.length c) M) (hG : ∀ k, G k → k < w.heap.size) (hL : L.length ≤ 1000) (hl : M.length ≤ 1000) :
    ∃ v' W', (∀ ty, (Builtin.append_ #[49, 49] ty #[v, .slice p M.length c]).run Try.prog W = .ok v' W') ∧ ClrI G w (L ++ M.map Prod.fst) v' W' ∧ Below w.heap.size W W' := by
  obtain ⟨N, h1, h2, h3⟩ := h.is
  have hNl : N.length = L.length := by rw [← h1, List.length_map]
  obtain ⟨p', c', e', _, hat⟩ := hM.row
  cases e'
  obtain ⟨v', W', hrun, ho, hg⟩ := append_rowS elemPs w.heap.size v N.length (flatP N) p c M.length (flatP M) W (by omega) (by omega) (flatP_len M) hM.one h2 hat.at h.below.size
  have hb := hg.below (Below.refl w.heap.size W) (Nat.le_refl _) h.below.size
  have hkG : Keep G W W' := ⟨hb.os, hb.tape, hb.output, hg.size, fun k _ hk => hb.block k (hG k hk)⟩
  refine ⟨v', W', hrun, ⟨⟨N ++ M, by simp [h1], ?_, fun x hx => ?_⟩, h.below.trans hb⟩, hb⟩
  · rw [List.length_append, flatP_app]
    exact ho
  · rcases List.mem_append.1 hx with hx | hx
    · exact (h3 x hx).keep hkG
    · exact (hM.ints x hx).keep hkG
theorem clear_nil (w : World) : Calls Try.prog 68 #[.pointer none] w fun e w' => e = .returned (.slice none 0 0) ∧ w' = w := by
  go_enter Try.func68, Try.ntmps68
  go_wp2
  go_ret
  exact ⟨rfl, rfl⟩
/-- What Clear leaves. -/
def ClearPost (F G : Nat → Prop) (w : World) (qb n : Nat) (ps : List Pt) (e : Ending) (w' : World) : Prop :=
  ∃ F' v, e = .returned v ∧ QAt F' G w' qb n [] ∧ Goes F G F' G w w' ∧ PasO (Up G w.heap.size) w' v (allF ps)
/-- The same, with a row of one's own. -/
def ClearOwn (F G : Nat → Prop) (w : World) (qb n : Nat) (ps : List Pt) (e : Ending) (w' : World) : Prop :=
  ∃ F' v, e = .returned v ∧ QAt F' G w' qb n [] ∧ Goes F G F' G w w' ∧ ∃ N : List PV, N.map Prod.fst = allF ps ∧ w'.ownsRow w.heap.size 99 5 v N.length (flatP N) ∧ N.length ≤ 64 ∧ ∀ x ∈ N, IntsO G w' x.2 x.1.ints
set_option maxRecDepth 100000 in
set_option maxHeartbeats 1000000 in
theorem clear_own {F G : Nat → Prop} {w : World} {qb n : Nat} {ps : List Pt} (h : QAt F G w qb n ps) : Calls Try.prog 68 #[.pointer (some ⟨qb, 0, none⟩)] w (ClearOwn F G w qb n ps) := by
  have hok := h.ok
  have hF := h.lt
  have hG := h.ltG
  obtain ⟨X, rfl, hM, _, hFw, _⟩ := h
  obtain ⟨p, cap, hbox, hc, hv⟩ := hM.view
  have x1 := hbox.cell 1 rfl
  have hfew : X.length ≤ 16 := by have := hok.few; simpa using this
  have hM4 : ∀ x ∈ X, x.M.length ≤ 4 := fun x hx => by have := (hok.pass x.pt (List.mem_map_of_mem hx)).1; simpa [PX.pt] using this
  obtain ⟨T, hT⟩ : ∃ T : Nat → List Ps, ∀ i, T i = allF ((X.take i).map PX.pt) := ⟨_, fun _ => rfl⟩
  have hT0 : T 0 = [] := by rw [hT]; rfl
  have hTn : T X.length = allF (X.map PX.pt) := by rw [hT, List.take_length]
  have HT : Hid (∀ i x, X[i]? = some x → T (i + 1) = T i ++ x.M.map Prod.fst ∧ (T i).length ≤ 64 ∧ x.M.length ≤ 4) := fun i x hx => by
    refine ⟨by rw [hT, hT, allF_take X i x hx], ?_, hM4 x (List.mem_of_getElem? hx)⟩
    have h7 := allF_len (X := X.take i) fun y hy => hM4 y (List.mem_of_mem_take hy)
    rw [hT]
    rw [List.length_take] at h7
    omega
  have HP : Hid (∀ v W, ClrI G w (T X.length) v W → ClearOwn F G w qb n (X.map PX.pt) (.returned v) (W.setCell ⟨qb, 1, none⟩ (.slice none 0 0)) ∧ W.cell? ⟨qb, 1, none⟩ = some (.slice p X.length cap) ∧ W.frozen? ⟨qb, 1, none⟩ = false) := fun v W hI => by
    have hb := hI.below
    have hbx := hbox.on hb
    have k1 := but_set W qb 1 (.slice none 0 0)
    refine ⟨?_, hbx.cell 1 rfl, hbx.free 1⟩
    have hq : QM F G (W.setCell ⟨qb, 1, none⟩ (.slice none 0 0)) qb n [] := ⟨⟨.slice none 0 0, hbx.set 1 _, World.ownsRow_nil _ _ _ _, fun g e => by cases e⟩, hM.own, (fun x hx => by simp at hx), (fun x hx => by simp at hx), .nil⟩
    have hkw : Keep (fun k => ¬ F k) w (W.setCell ⟨qb, 1, none⟩ (.slice none 0 0)) := (keep_on hb).trans (keep_but k1 fun h => h hM.own)
    obtain ⟨_, h2, h3⟩ := QAt.of_same hq ⟨hok.pos, hok.most, by simp [total], by simp, (fun x hx => by simp at hx), (fun x hx => by simp at hx), fun x hx => by simp at hx⟩ hF hG hkw
    refine ⟨_, v, rfl, h2, h3, ?_⟩
    rw [← hTn]
    obtain ⟨N, h8, h9, h10⟩ := hI.is
    have hl64 : N.length ≤ 64 := by
      have h11 := allF_len hM4
      rw [← hTn, ← h8, List.length_map] at h11
      omega
    refine ⟨N, h8, rowS_keep (O := fun k => k ≠ qb) h9 (keep_but k1 fun h => h rfl) fun g e e2 => ?_, hl64, fun x hx => ?_⟩
    · have := (row_lt h9 e).1
      have := hbox.lt
      omega
    · obtain ⟨p9, c9, e9, l9, a9⟩ := h10 x hx
      exact ⟨p9, c9, e9, l9, a9.keepT (keep_but k1 fun h7 => typ_ne h7.2 (typ_blk hbx) (by decide) rfl)⟩
  have HM : Hid (QM F G w qb n X) := hM
  have HV : Hid _ := hv
  have HG : Hid _ := hG
  have HI0 : Hid (ClrI G w (T 0) (.slice none 0 0) w) := ⟨⟨[], by rw [hT0]; rfl, World.ownsRow_nil _ _ _ _, fun x hx => by simp at hx⟩, Below.refl _ _⟩
  generalize ClearOwn F G w qb n (X.map PX.pt) = Post at *
  clear hv hM hok hT hTn hbox hF hG hFw hM4 hT0
  go_enter Try.func68, Try.ntmps68
  go_wp2
  go_loopw [3, 13] (fun av iv wr => ∃ i : Nat, i ≤ X.length ∧ iv = .int .i64 (i : Int) ∧ Hid (ClrI G w (T i) av wr)) (fun _ iv _ => X.length - (intOf iv).toNat)
  case atStart => exact ⟨0, Nat.zero_le _, rfl, HI0⟩
  case round =>
    clear HI0
    obtain ⟨i, hi, rfl, HI⟩ := hrel
    by_cases hlt : i < X.length
    · have hltz : (i : Int) < (X.length : Int) := by omega
      obtain ⟨x, hx⟩ : ∃ x, X[i]? = some x := ⟨_, List.getElem?_eq_getElem hlt⟩
      obtain ⟨g, rfl, hFg, hg, hc0, hc1, _, _⟩ := HV.out i x hx
      have hxm := List.mem_of_getElem? hx
      obtain ⟨b, off, bc, cs, hbv, _⟩ := (HM.out.byt x hxm).is
      have hpm := HM.out.pas x hxm
      obtain ⟨p2, c2, hlv, _⟩ := hpm.row
      rw [hlv] at hpm
      have hB := HI.out.below
      have hc0' := (hB.cell (p := ⟨g, i * 2, none⟩) hg).trans hc0
      have hc1' := (hB.cell (p := ⟨g, i * 2 + 1, none⟩) hg).trans hc1
      rw [hbv] at hc0'
      rw [hlv] at hc1'
      obtain ⟨hT1, hT2, hT3⟩ := HT.out i x hx
      have hal := on_alloc wr (.cells #[.slice (some ⟨b, off, none⟩) x.B.length bc, .slice p2 x.M.length c2] 87)
      have hIa := HI.out.on hal
      obtain ⟨v', W', hrun, hI2, _⟩ := hIa.more ((hpm.keep (keep_on hB)).keep (keep_on hal)) HG.out (by omega) (by omega)
      have hrun1 := hrun 49
      rw [← hT1] at hI2
      have HI2 : Hid (ClrI G w (T (i + 1)) v' W') := hI2
      generalize x.B.length = m at *
      generalize x.M.length = m2 at *
      clear hc0 hc1 HI hIa hI2 hal hB hpm hrun hT1 hT2
      go_wp2_with (at_builtin; refine wpList_run_append (by rfl) _ _ _ (by rfl) _ _ (by rfl) (by rfl) hrun1 ?_)
      go_roundw
      case rel => exact ⟨i + 1, by omega, by go_num, HI2⟩
      case measure => simp [intOf]; omega
    · obtain rfl : i = X.length := by omega
      have hltz : ¬ (X.length : Int) < (X.length : Int) := by omega
      obtain ⟨hE, hcell, hfr⟩ := HP.out _ _ HI.out
      have HE : Hid _ := hE
      clear hE HP HI
      go_wp2
      exact HE.out
theorem clear_any {F G : Nat → Prop} {w : World} {qb n : Nat} {ps : List Pt} (h : QAt F G w qb n ps) : Calls Try.prog 68 #[.pointer (some ⟨qb, 0, none⟩)] w (ClearPost F G w qb n ps) := by
  refine (clear_own h).mono ?_
  rintro e w' ⟨F', v, h1, h2, h3, N, h4, h5, _, h6⟩
  obtain ⟨p, cap, e, hat, hc⟩ := AtO.of h5
  exact ⟨F', v, h1, h2, h3, N, h4, ⟨p, cap, e, hc, hat.mono fun _ _ h => .inr h⟩, fun x hx => (h6 x hx).mono fun _ _ h => .inl h⟩

end Go.Proofs.Ytfhkdndgiofidaa.K
