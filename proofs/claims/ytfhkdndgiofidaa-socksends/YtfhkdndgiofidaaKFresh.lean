/- Package queue: fresh. -/
import Derived.Test.YtfhkdndgiofidaaKMem
namespace Go.Proofs.Ytfhkdndgiofidaa.K
open Go Go.RowKit

/-- Lists that are new up to a place. -/
structure FreshI (w : World) (v : Value) (M : List PV) (i : Nat) (W : World) : Prop where
  is : ∃ N : List PV, N.length = i ∧ N.map Prod.fst = (M.take i).map Prod.fst ∧ W.ownsRow w.heap.size 99 5 v M.length (flatP (N ++ M.drop i)) ∧ ∀ x ∈ N, IntsO (fun k => w.heap.size ≤ k ∧ v.ownBlock ≠ some k) W x.2 x.1.ints
  below : Below w.heap.size w W
/-- What fresh leaves. -/
def FreshPost (w : World) (M : List PV) (e : Ending) (w' : World) : Prop := ∃ v' N, e = .returned v' ∧ N.map Prod.fst = M.map Prod.fst ∧ PasM (fun k => w.heap.size ≤ k) w' v' N ∧ Below w.heap.size w w'
theorem rowS_form {hi size n : Nat} {e : TypeId} {w : World} {v : Value} {s : List Value} (h : w.ownsRow hi e size v n s) (hn : 0 < n) : ∃ g cap, v = .slice (some ⟨g, 0, none⟩) n cap ∧ hi ≤ g ∧ g < w.heap.size ∧ (∀ k, w.frozen? ⟨g, k, none⟩ = false) ∧ ∀ (j : Nat) u, s[j]? = some u → w.cell? ⟨g, j, none⟩ = some u := by
  rcases h.2 with ⟨_, h1⟩ | ⟨g, cap, cur, rfl, hb, hg, hc, _, hs, ht⟩
  · omega
  · refine ⟨g, cap, rfl, hb, (Array.getElem?_eq_some_iff.1 hg).1, fun k => by simp [World.frozen?, hg], fun j u hu => ?_⟩
    rw [← ht] at hu
    have hj := (List.getElem?_eq_some_iff.1 hu).1
    rw [List.length_take] at hj
    rw [List.getElem?_take_of_lt (by omega)] at hu
    simp only [World.cell?, hg]
    simpa using hu
set_option maxRecDepth 100000 in
set_option maxHeartbeats 1000000 in
theorem fresh_any {O : Nat → Prop} {w : World} {v : Value} {M : List PV} (h : PasM O w v M) (hM : M.length ≤ 1000) (hI : ∀ x ∈ M, x.1.ints.length ≤ 1000) : Calls Try.prog 82 #[v] w (FreshPost w M) := by
  obtain ⟨p, cap, rfl, hc, hat⟩ := h.row
  obtain ⟨v1, w1, hrun, ho1, hg1⟩ := append_rowS elemPs w.heap.size (.slice none 0 0) 0 [] p cap M.length (flatP M) w (by omega) (by omega) (flatP_len M) h.one (World.ownsRow_nil _ _ _ _) hat.at (Nat.le_refl _)
  have hb1 := hg1.below (Below.refl w.heap.size w) (Nat.le_refl _) (Nat.le_refl _)
  rw [Nat.zero_add, List.nil_append] at ho1
  have hrun1 := hrun 49
  obtain ⟨p1, c1, rfl, _, _⟩ := rowS_at ho1
  have HI0 : Hid (FreshI w (.slice p1 M.length c1) M 0 w1) := ⟨⟨[], rfl, by simp, by simpa using ho1, fun x hx => by simp at hx⟩, hb1⟩
  have HP : Hid (∀ W, FreshI w (.slice p1 M.length c1) M M.length W → FreshPost w M (.returned (.slice p1 M.length c1)) W) := fun W ⟨⟨N, h1, h2, h3, h4⟩, h5⟩ => by
    rw [List.drop_length, List.append_nil] at h3
    rw [List.take_length] at h2
    exact ⟨_, N, rfl, h2, .of_row h3 fun x hx => (h4 x hx).mono fun _ _ h => h.1, h5⟩
  have HM : Hid (∀ x ∈ M, ∃ q c, x.2 = .slice q x.1.ints.length c ∧ AtO 3 O w q (intsV x.1.ints)) := fun x hx => by
    obtain ⟨q, c, e, _, h7⟩ := h.ints x hx
    exact ⟨q, c, e, h7⟩
  have HIs : Hid _ := hI
  generalize FreshPost w M = Post at *
  clear h hat hrun ho1 hg1 hb1 hI
  go_enter Try.func82, Try.ntmps82
  go_wp2_with (at_builtin; refine wpList_run_append (by rfl) _ _ _ (by rfl) _ _ (by rfl) (by rfl) hrun1 ?_)
  go_loopw [9] (fun iv wr => ∃ i : Nat, i ≤ M.length ∧ iv = .int .i64 (i : Int) ∧ Hid (FreshI w (.slice p1 M.length c1) M i wr)) (fun iv _ => M.length - (intOf iv).toNat)
  case atStart => exact ⟨0, Nat.zero_le _, rfl, HI0⟩
  case round =>
    clear HI0 hrun1
    obtain ⟨i, hi, rfl, HI⟩ := hrel
    by_cases hlt : i < M.length
    · have hltz : (i : Int) < (M.length : Int) := by omega
      obtain ⟨x, hx⟩ : ∃ x, M[i]? = some x := ⟨_, List.getElem?_eq_getElem hlt⟩
      have hxm := List.mem_of_getElem? hx
      obtain ⟨⟨N, h1, h2, h3, h4⟩, h5⟩ := HI.out
      have hd : M.drop i = x :: M.drop (i + 1) := by
        obtain ⟨h7, rfl⟩ := List.getElem?_eq_some_iff.1 hx
        rw [List.drop_eq_getElem_cons h7]
      rw [hd] at h3
      obtain ⟨q, c, hq, hqa⟩ := HM.out x hxm
      obtain ⟨g, c2, e2, hg, hgl, hfr, hcl⟩ := rowS_form h3 (by omega)
      cases e2
      have hc3 : wr.cell? ⟨g, i * 5 + 3, none⟩ = some (.slice q x.1.ints.length c) := by
        refine hcl _ _ ?_
        have := flatP_get (M := N ++ x :: M.drop (i + 1)) (i := i) (x := x) (by rw [List.getElem?_append_right (by omega), h1, Nat.sub_self]; rfl) (j := 3) (by omega)
        rw [this, ← hq]
        rfl
      have hil := HIs.out x hxm
      obtain ⟨v4, w4, hrun4, ho4, hg4⟩ := append_row elemInt wr.heap.size (.slice none 0 0) [] q c (intsV x.1.ints) wr (by simp) (by simp; omega) (one_ints _) (ownV_nil _ _ _) ((hqa.at).on h5) (Nat.le_refl _)
      rw [List.nil_append] at ho4
      have hb4 := hg4.below (Below.refl wr.heap.size wr) (Nat.le_refl _) (Nat.le_refl _)
      rw [List.length_map] at hrun4
      obtain ⟨q4, c4, e4, _, _⟩ := ownV_at ho4
      rw [List.length_map] at e4
      subst e4
      have y3 : w4.cell? ⟨g, i * 5 + 2 + 1, none⟩ = some (.slice q x.1.ints.length c) := (hb4.cell (p := ⟨g, i * 5 + 3, none⟩) hgl).trans hc3
      have y3' : wr.cell? ⟨g, i * 5 + 2 + 1, none⟩ = some (.slice q x.1.ints.length c) := hc3
      have yf : w4.frozen? ⟨g, i * 5 + 2 + 1, none⟩ = false := by rw [World.frozen?_of_block (hb4.block g hgl)]; exact hfr _
      have HI2 : Hid (FreshI w (.slice (some ⟨g, 0, none⟩) M.length c1) M (i + 1) (w4.setCell ⟨g, i * 5 + 2 + 1, none⟩ (.slice q4 x.1.ints.length c4))) := by
        have hbut := but_set w4 g (i * 5 + 3) (.slice q4 x.1.ints.length c4)
        refine ⟨⟨N ++ [(x.1, .slice q4 x.1.ints.length c4)], by simp [h1], ?_, ?_, fun y hy => ?_⟩, below_but (h5.trans (hb4.mono h5.size)) hbut hg⟩
        · rw [List.take_add_one, hx]
          simp [h2]
        · have h8 := ((rowS_on h3 hb4).stored (i * 5 + 3) (.slice q4 x.1.ints.length c4)).1
          rw [← h1, flatP_set, h1] at h8
          simpa using h8
        · rw [List.mem_append] at hy
          have hno : ∀ k, w.heap.size ≤ k ∧ (Value.slice (some ⟨g, 0, none⟩) M.length c1).ownBlock ≠ some k → k ≠ g := fun k hk e => hk.2 (by rw [e]; rfl)
          rcases hy with hy | hy
          · exact ((h4 y hy).keep (keep_on hb4)).keep (keep_but hbut fun h7 => hno g h7 rfl)
          · simp at hy
            subst hy
            refine ((IntsO.of_own ho4).mono (O' := fun k => w.heap.size ≤ k ∧ (Value.slice (some ⟨g, 0, none⟩) M.length c1).ownBlock ≠ some k) fun k _ h7 => ?_).keep (keep_but hbut fun h7 => hno g h7 rfl)
            have := h5.size
            refine ⟨by omega, fun e => ?_⟩
            simp [Value.ownBlock] at e
            omega
      clear HI h3 h4 h5 hd hcl ho4 hg4 hb4 hc3
      generalize x.1.ints.length = il at *
      go_wp2_with (at_builtin; refine wpList_run_append (by rfl) _ _ _ (by rfl) _ _ (by rfl) (by rfl) hrun4 ?_)
      go_roundw
      case rel => exact ⟨i + 1, by omega, by go_num, HI2⟩
      case measure => simp [intOf]; omega
    · obtain rfl : i = M.length := by omega
      have hltz : ¬ (M.length : Int) < (M.length : Int) := by omega
      have HE := HP.out _ HI.out
      go_wp2
      exact HE

end Go.Proofs.Ytfhkdndgiofidaa.K
