/- The reference's All; two lists of what is passed beside a queue. -/
import Derived.Test.YtmhkfapafedglaaKIO
namespace Go.Proofs.Ytmhkfapafedglaa.K
open Go Go.RowKit

theorem par_view {O : Nat → Prop} {w : World} {v : Value} {X : List PX} (h : ParM O w v X) : ∃ p k, v = .slice p X.length k ∧ ∀ (i : Nat) x, X[i]? = some x → ∃ b o, p = some ⟨b, o, none⟩ ∧ b < w.heap.size ∧ w.cell? ⟨b, o + i * 2, none⟩ = some x.bv ∧ w.cell? ⟨b, o + i * 2 + 1, none⟩ = some x.lv := by
  obtain ⟨p, k, e, _, hat⟩ := h.row
  refine ⟨p, k, e, fun i x hx => ?_⟩
  have hi := (List.getElem?_eq_some_iff.1 hx).1
  obtain ⟨b, o, rfl, _, hlt, hc⟩ := hat.at.place (k := i * 2) (by rw [flatX_len]; omega)
  exact ⟨b, o, rfl, hlt, hc _ _ (flatX_get hx).1, hc _ _ (flatX_get hx).2⟩
theorem allF_le {ps : List Pt} (h : ∀ x ∈ ps, x.2.length ≤ 6) : (allF ps).length ≤ 6 * ps.length := by
  induction ps with
  | nil => simp [allF]
  | cons x r ih =>
    have h1 := ih fun y hy => h y (List.mem_cons_of_mem _ hy)
    have h2 := h x (List.mem_cons_self)
    simp only [allF, List.flatMap_cons, List.length_append, List.length_cons] at h1 ⊢
    omega
/-- What All leaves. -/
def AllPost (w : World) (ps : List Pt) (e : Ending) (w' : World) : Prop := ∃ v, e = .returned v ∧ PasO (fun _ => True) w' v (allF ps) ∧ Below w.heap.size w w'
theorem en_all : ∀ args w, (callFunc 20 args).run Try.prog w = .ok (.enter 20 args) w := fun _ _ => by simp [callFunc, Try.func20]; rfl
set_option maxRecDepth 100000 in
set_option maxHeartbeats 1000000 in
theorem rall_any {O : Nat → Prop} {w : World} {v : Value} {ps : List Pt} (h : ParO O w v ps) (hl : ps.length ≤ 100) (h6 : ∀ x ∈ ps, x.2.length ≤ 6) : Calls Try.prog 20 #[v] w (AllPost w ps) := by
  obtain ⟨X, rfl, hX⟩ := h
  obtain ⟨p, c, rfl, hv⟩ := par_view hX
  have hX1 : X.length ≤ 100 := by simpa using hl
  have hM6 : ∀ x ∈ X, x.M.length ≤ 6 := fun x hx => by have := h6 x.pt (List.mem_map_of_mem hx); simpa [PX.pt] using this
  obtain ⟨T, hT⟩ : ∃ T : Nat → List Ps, ∀ i, T i = allF ((X.take i).map PX.pt) := ⟨_, fun _ => rfl⟩
  have hTn : T X.length = allF (X.map PX.pt) := by rw [hT, List.take_length]
  have HT : Hid (∀ i x, X[i]? = some x → T (i + 1) = T i ++ x.M.map Prod.fst ∧ (T i).length ≤ 600 ∧ x.M.length ≤ 6) := fun i x hx => by
    refine ⟨by rw [hT, hT, allF_take X i x hx], ?_, hM6 x (List.mem_of_getElem? hx)⟩
    have h7 := allF_le (ps := (X.take i).map PX.pt) fun y hy => by
      obtain ⟨z, hz, rfl⟩ := List.mem_map.1 hy
      have := hM6 z (List.mem_of_mem_take hz)
      simpa [PX.pt] using this
    rw [hT]
    rw [List.length_map, List.length_take] at h7
    omega
  have HP : Hid (∀ v W, ClrI (fun k => k < w.heap.size) w (T X.length) v W → AllPost w (X.map PX.pt) (.returned v) W) := fun v W hI => by
    have h7 := hI.pas
    rw [hTn] at h7
    exact ⟨v, rfl, h7.mono fun _ _ _ => trivial, hI.below⟩
  have HV : Hid _ := hv
  have HX : Hid _ := hX
  have HI0 : Hid (ClrI (fun k => k < w.heap.size) w (T 0) (.slice (some ⟨w.heap.size, 0, none⟩) 0 0) (w.alloc (.cells #[] 64))) := ⟨⟨[], by rw [hT]; rfl, rowS_empty w w.heap.size _ 5 (Nat.le_refl _), fun x hx => by simp at hx⟩, on_alloc _ _⟩
  generalize AllPost w (X.map PX.pt) = Post at *
  clear hv hX hTn hT h6 hl hM6
  go_enter Try.func20, Try.ntmps20
  go_wp2
  generalize w.alloc (.cells #[] 64) = wa at *
  generalize (Value.slice (some ⟨w.heap.size, 0, none⟩) 0 0) = va at *
  go_loopw [3, 4] (fun av iv wr => ∃ i : Nat, i ≤ X.length ∧ iv = .int .i64 (i : Int) ∧ Hid (ClrI (fun k => k < w.heap.size) w (T i) av wr)) (fun _ iv _ => X.length - (intOf iv).toNat)
  case atStart => exact ⟨0, Nat.zero_le _, rfl, HI0⟩
  case round =>
    clear HI0
    obtain ⟨i, hi, rfl, HI⟩ := hrel
    by_cases hlt : i < X.length
    · have hltz : (i : Int) < (X.length : Int) := by omega
      obtain ⟨x, hx⟩ : ∃ x, X[i]? = some x := ⟨_, List.getElem?_eq_getElem hlt⟩
      obtain ⟨b, o, rfl, hb, _, hc1⟩ := HV.out i x hx
      have hpm := (HX.out.pas x (List.mem_of_getElem? hx)).mono (O' := fun k => k < w.heap.size) fun k h1 _ => h1
      obtain ⟨p2, c2, hlv, _⟩ := hpm.row
      rw [hlv] at hpm hc1
      have hB := HI.out.below
      have hc1' := (hB.cell (p := ⟨b, o + i * 2 + 1, none⟩) hb).trans hc1
      obtain ⟨hT1, hT2, hT3⟩ := HT.out i x hx
      obtain ⟨v', W', hrun, hI2, _⟩ := HI.out.more (hpm.keep ⟨hB.os, hB.tape, hB.output, hB.size, fun k _ h7 => hB.block k h7⟩) (fun _ h => h) (by omega) (by omega)
      have hrun1 := hrun 26
      rw [← hT1] at hI2
      have HI2 : Hid (ClrI (fun k => k < w.heap.size) w (T (i + 1)) v' W') := hI2
      generalize x.M.length = m2 at *
      clear hc1 HI hI2 hB hpm hrun hT1 hT2
      go_wp2_with (at_builtin; refine wpList_run_append (by rfl) _ _ _ (by rfl) _ _ (by rfl) (by rfl) hrun1 ?_)
      go_roundw
      case rel => exact ⟨i + 1, by omega, by go_num, HI2⟩
      case measure => simp [intOf]; omega
    · obtain rfl : i = X.length := by omega
      have hltz : ¬ (X.length : Int) < (X.length : Int) := by omega
      have HE := HP.out _ _ HI.out
      clear HP HI
      go_wp2
      exact HE

/-- Two lists of what is passed, beside a queue. -/
structure CI (w : World) (F G : Nat → Prop) (W : World) (qb n : Nat) (ps : List Pt) (iv ov : Value) (I O : List Ps) : Prop where
  is : ∃ A B : List PV, A.map Prod.fst = I ∧ B.map Prod.fst = O ∧ IO2 64 5 w F G W qb n ps iv ov A.length B.length (flatP A) (flatP B) ∧ (∀ x ∈ A, IntsO (fun k => ¬ F k) W x.2 x.1.ints) ∧ ∀ x ∈ B, IntsO (fun k => ¬ F k) W x.2 x.1.ints
section
variable {w W W' : World} {F G F' G' O : Nat → Prop} {qb n c : Nat} {ps ps' : List Pt} {iv ov v : Value} {I L J : List Ps} {M : List PV} {p : Option Addr}
theorem CI.qs (h : CI w F G W qb n ps iv ov I J) : QS w F G W qb n ps := by obtain ⟨A, B, _, _, h, _⟩ := h.is; exact h.qs
theorem CI.on (h : CI w F G W qb n ps iv ov I J) (hb : Below W.heap.size W W') : CI w F G W' qb n ps iv ov I J := by
  obtain ⟨A, B, h1, h2, h3, h4, h5⟩ := h.is
  exact ⟨A, B, h1, h2, h3.on hb, fun x hx => (h4 x hx).keep (keep_on hb), fun x hx => (h5 x hx).keep (keep_on hb)⟩
theorem ints_goes {v : Value} {l : List Int} (h : IntsO (fun k => ¬ F k) W v l) (hg : Goes F G F' G' W W') : IntsO (fun k => ¬ F' k) W' v l :=
  ((h.mono (O' := fun k => ¬ F k ∧ ¬ F' k) fun k hk h7 => ⟨h7, hg.out k hk h7⟩).keep (hg.keep.mono fun _ _ h => h.1)).mono fun _ _ h => h.2
theorem CI.goes (h : CI w F G W qb n ps iv ov I J) (hq : QAt F' G' W' qb n ps') (hg : Goes F G F' G' W W') : CI w F' G' W' qb n ps' iv ov I J := by
  obtain ⟨A, B, h1, h2, h3, h4, h5⟩ := h.is
  exact ⟨A, B, h1, h2, h3.goes hq hg, fun x hx => ints_goes (h4 x hx) hg, fun x hx => ints_goes (h5 x hx) hg⟩
theorem CI.swap (h : CI w F G W qb n ps iv ov I J) : CI w F G W qb n ps ov iv J I := by
  obtain ⟨A, B, h1, h2, h3, h4, h5⟩ := h.is
  exact ⟨B, A, h2, h1, h3.swap, h5, h4⟩
/-- More for the second list. -/
theorem CI.more (h : CI w F G W qb n ps iv ov I J) (hM : PasM O W (.slice p M.length c) M) (hl : M.length ≤ 1000) (hJ : J.length ≤ 1000) :
    ∃ v' W', (∀ ty, (Builtin.append_ #[26, 26] ty #[ov, .slice p M.length c]).run Try.prog W = .ok v' W') ∧ CI w F G W' qb n ps iv v' I (J ++ M.map Prod.fst) ∧ Keep (fun k => ov.ownBlock ≠ some k) W W' ∧ ∀ g, v'.ownBlock = some g → ov.ownBlock = some g ∨ W.heap.size ≤ g := by
  obtain ⟨A, B, h1, h2, h3, h4, h5⟩ := h.is
  have hBl : B.length = J.length := by rw [← h2, List.length_map]
  have hM2 : PasM (fun k => ¬ F k) W (.slice p M.length c) M := hM.sure fun k _ hr _ hF => wr_rd (h3.qs.q.wr k hF) hr
  obtain ⟨p', c', e', _, hat⟩ := hM.row
  cases e'
  obtain ⟨v', W', hrun, ho, _, hg⟩ := append_rowA elemPs w.heap.size ov B.length (flatP B) p c M.length (flatP M) W (by omega) (by omega) (flatP_len M) hM.one h3.out hat.at h3.qs.below.size
  have hk : Keep (fun k => ov.ownBlock ≠ some k) W W' := ⟨hg.os, hg.tape, hg.output, hg.size, hg.block⟩
  have hki : ∀ {v l}, IntsO (fun k => ¬ F k) W v l → IntsO (fun k => ¬ F k) W' v l := fun {v l} ⟨q, d, b1, b2, b3⟩ => ⟨q, d, b1, b2, b3.keepT (hk.mono fun k _ h7 e => by
    obtain ⟨_, _, cur, h8⟩ := row_lt h3.out e
    exact typ_ne h7.2 ⟨_, _, h8⟩ (by decide) rfl)⟩
  have ho' : W'.ownsRow w.heap.size 64 5 v' (B ++ M).length (flatP (B ++ M)) := by rw [List.length_append, flatP_app]; exact ho
  refine ⟨v', W', hrun, ⟨A, B ++ M, h1, by simp [h2], h3.out_ ho' hg, fun x hx => hki (h4 x hx), fun x hx => ?_⟩, hk, hg.lies⟩
  rcases List.mem_append.1 hx with hx | hx
  · exact hki (h5 x hx)
  · exact hki (hM2.ints x hx)
theorem CI.free (h : CI w F G W qb n ps iv ov I J) : ∀ g, iv.ownBlock = some g ∨ ov.ownBlock = some g → ¬ F g ∧ ¬ G g := by obtain ⟨A, B, _, _, h, _⟩ := h.is; exact h.free
theorem CI.lt (h : CI w F G W qb n ps iv ov I J) : ∀ g, iv.ownBlock = some g ∨ ov.ownBlock = some g → w.heap.size ≤ g ∧ g < W.heap.size := by obtain ⟨A, B, _, _, h, _⟩ := h.is; exact h.lt
theorem CI.outP (h : CI w F G W qb n ps iv ov I J) : PasO (fun _ => True) W ov J := by
  obtain ⟨A, B, h1, h2, h3, h4, h5⟩ := h.is
  obtain ⟨p, cap, e, hat, hc⟩ := AtO.of h3.out
  exact ⟨B, h2, ⟨p, cap, e, hc, hat.mono fun _ _ _ => trivial⟩, fun x hx => (h5 x hx).mono fun _ _ _ => trivial⟩
end
/-- What is passed, in a new row. -/
theorem pas_copy {O : Nat → Prop} {W : World} {p : Option Addr} {c hi : Nat} {M : List PV} (h : PasM O W (.slice p M.length c) M) (hl : M.length ≤ 1000) (hO : ∀ k, O k → hi ≤ k) (hhi : hi ≤ W.heap.size) :
    ∃ v' W', (∀ ty, (Builtin.append_ #[26, 26] ty #[.slice (some ⟨W.heap.size, 0, none⟩) 0 0, .slice p M.length c]).run Try.prog (W.alloc (.cells #[] 64)) = .ok v' W') ∧ PasM (fun k => hi ≤ k) W' v' M ∧ Below W.heap.size W W' := by
  have a1 := on_alloc W (.cells #[] 64)
  have h1 := h.keep (keep_on a1)
  obtain ⟨p', c', e', _, hat⟩ := h1.row
  cases e'
  obtain ⟨v', W', hrun, ho, hg⟩ := append_rowS elemPs W.heap.size (.slice (some ⟨W.heap.size, 0, none⟩) 0 0) 0 [] p c M.length (flatP M) (W.alloc (.cells #[] 64)) (by omega) (by omega) (flatP_len M) h1.one (rowS_empty W W.heap.size _ 5 (Nat.le_refl _)) hat.at (by simp)
  rw [Nat.zero_add, List.nil_append] at ho
  have hb : Below W.heap.size (W.alloc (.cells #[] 64)) W' := hg.below (Below.refl _ _) (Nat.le_refl _) (by simp)
  have hbb : Below W.heap.size W W' := a1.trans hb
  obtain ⟨q, d, e, hat2, hc⟩ := AtO.of ho
  refine ⟨v', W', hrun, ⟨⟨q, d, e, hc, hat2.mono fun k _ h7 => Nat.le_trans hhi h7⟩, fun x hx => ?_⟩, hbb⟩
  obtain ⟨q2, d2, e2, b2, b3⟩ := h.ints x hx
  exact ⟨q2, d2, e2, b2, ((b3.mono (O' := fun k => hi ≤ k) fun k _ h7 => hO k h7).keep (keep_on hbb))⟩

end Go.Proofs.Ytmhkfapafedglaa.K
