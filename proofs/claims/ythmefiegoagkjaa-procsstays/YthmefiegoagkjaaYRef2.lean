/- What the reference's Exit and Reap do. -/
import Derived.Test.YthmefiegoagkjaaYRef
import Derived.BigRegion
namespace Go.Proofs.Ythmefiegoagkjaa.Y
open Go Go.RowKit

/-- What a loop that turns each has laid. -/
structure Turned (f : Pr → Pr) (S L : List Pr) (a : Nat) : Prop where
  len : L.length = S.length
  at_ : ∀ j (hj : j < S.length), L[j]'(by rw [len]; exact hj) = if j < a then f S[j] else S[j]
section
variable {f : Pr → Pr} {S L : List Pr} {a : Nat}
theorem Turned.start (f : Pr → Pr) (S : List Pr) : Turned f S S 0 := ⟨rfl, fun j hj => by rw [if_neg (Nat.not_lt_zero _)]⟩
theorem Turned.done (h : Turned f S L S.length) : L = S.map f := by
  refine List.ext_getElem (by rw [h.len, List.length_map]) fun j h1 h2 => ?_
  rw [List.length_map] at h2
  rw [h.at_ j h2, if_pos h2, List.getElem_map]
theorem Turned.next (h : Turned f S L a) (ha : a < S.length) {L' : List Pr} (hl : L'.length = L.length) (h1 : L'[a]'(by rw [hl, h.len]; exact ha) = f S[a]) (h2 : ∀ j (hj : j < S.length), j ≠ a → L'[j]'(by rw [hl, h.len]; exact hj) = L[j]'(by rw [h.len]; exact hj)) : Turned f S L' (a + 1) := by
  refine ⟨by rw [hl, h.len], fun j hj => ?_⟩
  by_cases hja : j = a
  · subst hja
    rw [h1, if_pos (Nat.lt_succ_self _)]
  · rw [h2 j hj hja, h.at_ j hj]
    by_cases h3 : j < a
    · rw [if_pos h3, if_pos (by omega)]
    · rw [if_neg h3, if_neg (by omega)]
theorem Turned.same (h : Turned f S L a) (ha : a < S.length) : L[a]'(by rw [h.len]; exact ha) = S[a] := by
  rw [h.at_ a ha, if_neg (Nat.lt_irrefl _)]
end
section
variable {p c : Int} {S L : List Pr} {a : Nat}
theorem one_at (hj : a < L.length) : (oneS L a c)[a]'(by rw [oneS_len]; exact hj) = ⟨L[a].pid, L[a].parent, false, c, L[a].pd, L[a].cap, 0⟩ := by
  simp [oneS, livF, codeF, cwdF]
theorem one_no {j : Nat} (hj : j < L.length) (hn : j ≠ a) : (oneS L a c)[j]'(by rw [oneS_len]; exact hj) = L[j] := by
  have : ¬ a = j := fun e => hn e.symm
  simp [oneS, this]
theorem mod_no {f : Pr → Pr} {j : Nat} (hj : j < L.length) (hn : j ≠ a) : (L.modify a f)[j]'(by rw [List.length_modify]; exact hj) = L[j] := by
  rw [List.getElem_modify, if_neg (fun e => hn e.symm)]
theorem ends_both (h : Turned (endF p c) S L a) (ha : a < S.length) (h1 : S[a].pid = p) (h2 : S[a].parent = p) : Turned (endF p c) S ((oneS L a c).modify a (parF p)) (a + 1) := by
  have haL : a < L.length := by rw [h.len]; exact ha
  refine h.next ha (by rw [List.length_modify, oneS_len]) ?_ fun j hj hn => ?_
  · rw [List.getElem_modify, if_pos rfl, one_at haL, h.same ha]
    simp [parF, endF, h1, h2]
  · rw [mod_no (by rw [oneS_len, h.len]; exact hj) hn, one_no (by rw [h.len]; exact hj) hn]
theorem ends_one (h : Turned (endF p c) S L a) (ha : a < S.length) (h1 : S[a].pid = p) (h2 : S[a].parent ≠ p) : Turned (endF p c) S (oneS L a c) (a + 1) := by
  have haL : a < L.length := by rw [h.len]; exact ha
  refine h.next ha (by rw [oneS_len]) ?_ fun j hj hn => one_no (by rw [h.len]; exact hj) hn
  rw [one_at haL, h.same ha]
  simp [endF, h1, h2]
theorem ends_par (h : Turned (endF p c) S L a) (ha : a < S.length) (h1 : S[a].pid ≠ p) (h2 : S[a].parent = p) : Turned (endF p c) S (L.modify a (parF p)) (a + 1) := by
  have haL : a < L.length := by rw [h.len]; exact ha
  refine h.next ha (by rw [List.length_modify]) ?_ fun j hj hn => mod_no (by rw [h.len]; exact hj) hn
  rw [List.getElem_modify, if_pos rfl, h.same ha]
  simp [parF, endF, h1, h2]
theorem ends_none (h : Turned (endF p c) S L a) (ha : a < S.length) (h1 : S[a].pid ≠ p) (h2 : S[a].parent ≠ p) : Turned (endF p c) S L (a + 1) := by
  refine h.next ha rfl ?_ fun j hj hn => rfl
  rw [h.same ha]
  simp [endF, h1, h2]
end
section
variable {hi b : Nat} {v : Value} {nx mo : Int} {S : List Pr} {w : World}
/-- One process of the reference ended. -/
theorem rtab_end {g cap k n : Nat} (h : TabAt hi 34 w b (.slice (some ⟨g, 0, none⟩) n cap) nx mo S) (hn : n = S.length) (hk : k < S.length) (c : Int) :
    TabAt hi 34 (((w.setCell ⟨g, k * 7 + 2, none⟩ (.bool false)).setCell ⟨g, k * 7 + 3, none⟩ (.int .i64 c)).setCell ⟨g, k * 7 + 6, none⟩ (.int .i64 0)) b (.slice (some ⟨g, 0, none⟩) n cap) nx mo (oneS S k c) ∧
    T.Goes b (.slice (some ⟨g, 0, none⟩) n cap) (.slice (some ⟨g, 0, none⟩) n cap) w (((w.setCell ⟨g, k * 7 + 2, none⟩ (.bool false)).setCell ⟨g, k * 7 + 3, none⟩ (.int .i64 c)).setCell ⟨g, k * 7 + 6, none⟩ (.int .i64 0)) := by
  have h1 := tab_setN h hn (by decide) hk 2 (by decide) (.bool false) livF rfl
  have h2 := tab_setN h1.1 (by simpa using hn) (by decide) (by simpa using hk) 3 (by decide) (.int .i64 c) (codeF c) rfl
  have h3 := tab_setN h2.1 (by simpa using hn) (by decide) (by simpa using hk) 6 (by decide) (.int .i64 0) (cwdF 0) rfl
  exact ⟨h3.1, (h1.2.trans h2.2).trans h3.2⟩
set_option maxRecDepth 100000 in
set_option maxHeartbeats 4000000 in
theorem rexit_any (h : TabAt hi 34 w b v nx mo S) (hs : Sorted S) (hl : S.length ≤ 1000) (i d : Int) :
    Calls Try.prog 25 #[ptr b, .int .i64 i, .int .i64 d] w (TPost hi 34 b w v nx mo (exitS S i d) (.int .i64 (exitE S i))) := by
  have cL := rlives_any h hs hl i
  unfold exitS exitE
  cases hq : lv i S with
  | false =>
    rw [hq] at cL
    rw [Bool.false_and, if_neg (by decide), if_neg (by decide)]
    have HP : Hid (TPost hi 34 b w v nx mo S (.int .i64 3) (.returned (.int .i64 3)) w) := ⟨rfl, v, h, .refl _ _ _⟩
    generalize TPost hi 34 b w v nx mo S (.int .i64 3) = Post at *
    clear h hq hs
    go_enter Try.func25, Try.ntmps25
    go_wp2_with fail
    refine cL.mono ?_
    rintro e w1 ⟨rfl, rfl⟩
    go_wp2
    exact HP.out
  | true =>
    rw [hq] at cL
    rw [Bool.true_and, if_pos rfl]
    by_cases hd : i = 1
    · subst hd
      rw [decide_eq_false (by decide), if_neg (by decide), if_pos rfl]
      have HP : Hid (TPost hi 34 b w v nx mo S (.int .i64 1) (.returned (.int .i64 1)) w) := ⟨rfl, v, h, .refl _ _ _⟩
      generalize TPost hi 34 b w v nx mo S (.int .i64 1) = Post at *
      clear h hq hs
      go_enter Try.func25, Try.ntmps25
      go_wp2_with fail
      refine cL.mono ?_
      rintro e w1 ⟨rfl, rfl⟩
      go_wp2
      exact HP.out
    · rw [decide_eq_true hd, if_pos rfl, if_neg hd]
      have hlt := spot_lt (lv_has hq)
      obtain ⟨g, cap, rfl, _, hcc⟩ := tab_cells h hlt
      have HP : Hid (∀ w1 v', TabAt hi 34 w1 b v' nx mo (S.map (endF i d)) → T.Goes b (.slice (some ⟨g, 0, none⟩) S.length cap) v' w w1 → TPost hi 34 b w (.slice (some ⟨g, 0, none⟩) S.length cap) nx mo (S.map (endF i d)) (.int .i64 0) (.returned (.int .i64 0)) w1) := fun w1 v' h1 h2 => ⟨rfl, v', h1, h2⟩
      generalize TPost hi 34 b w (.slice (some ⟨g, 0, none⟩) S.length cap) nx mo (S.map (endF i d)) (.int .i64 0) = Post at *
      have hd1 : (i == 1) = false := by rw [beq_eq_false_iff_ne]; exact hd
      have HS0 : Hid (TabAt hi 34 w b (.slice (some ⟨g, 0, none⟩) S.length cap) nx mo S) := h
      clear h hcc hlt hq hs hd
      go_enter Try.func25, Try.ntmps25
      go_wp2_with fail
      refine cL.mono ?_
      rintro e w1 ⟨rfl, hw1⟩
      subst hw1
      clear cL
      go_wp2
      go_loopw [7] (fun iv wq => ∃ a : Nat, ∃ L : List Pr, a ≤ S.length ∧ iv = .int .i64 (a : Int) ∧ Hid (Turned (endF i d) S L a) ∧ Hid (TabAt hi 34 wq b (.slice (some ⟨g, 0, none⟩) S.length cap) nx mo L ∧ T.Goes b (.slice (some ⟨g, 0, none⟩) S.length cap) (.slice (some ⟨g, 0, none⟩) S.length cap) w1 wq)) (fun iv _ => S.length - (intOf iv).toNat)
      case atStart => exact ⟨0, S, Nat.zero_le _, rfl, Turned.start _ _, HS0.out, .refl _ _ _⟩
      case round =>
        clear HS0
        obtain ⟨a, L, ha, rfl, HK, HS⟩ := hrel
        have y0 := HS.out.1.box.cell 0 rfl
        by_cases hlt2 : a < S.length
        · have hltz : (a : Int) < (S.length : Int) := by omega
          have haL : a < L.length := by rw [HK.out.len]; exact hlt2
          have HLS : Hid (S.length = L.length) := by show S.length = L.length; rw [HK.out.len]
          obtain ⟨_, cc⟩ := row_at HS.out.1.row haL
          have hsame := HK.out.same hlt2
          rw [hsame] at cc
          have z0 := cc.c0
          by_cases h1 : S[a].pid = i
          · have hst := rtab_end HS.out.1 HLS.out haL d
            have HD : Hid (TabAt hi 34 ((((wr.setCell ⟨g, a * 7 + 2, none⟩ (.bool false)).setCell ⟨g, a * 7 + 3, none⟩ (.int .i64 d)).setCell ⟨g, a * 7 + 6, none⟩ (.int .i64 0)).drew) b (.slice (some ⟨g, 0, none⟩) S.length cap) nx mo (oneS L a d) ∧ T.Goes b (.slice (some ⟨g, 0, none⟩) S.length cap) (.slice (some ⟨g, 0, none⟩) S.length cap) w1 ((((wr.setCell ⟨g, a * 7 + 2, none⟩ (.bool false)).setCell ⟨g, a * 7 + 3, none⟩ (.int .i64 d)).setCell ⟨g, a * 7 + 6, none⟩ (.int .i64 0)).drew)) := ⟨hst.1.on (on_drew (Below.refl _ _)), (HS.out.2.trans hst.2).trans (.on (on_drew (Below.refl _ _)))⟩
            have HO : Hid (S[a].parent = i → Turned (endF i d) S ((oneS L a d).modify a (parF i)) (a + 1)) := fun h2 => ends_both HK.out hlt2 h1 h2
            have HN : Hid (S[a].parent ≠ i → Turned (endF i d) S (oneS L a d) (a + 1)) := fun h2 => ends_one HK.out hlt2 h1 h2
            have HP1 : Hid (∀ h, ((oneS L a d)[a]'h).parent = S[a].parent) := fun h => by rw [one_at haL, hsame]
            have HLo : Hid (a < (oneS L a d).length ∧ S.length = (oneS L a d).length) := by rw [oneS_len]; exact ⟨haL, HLS.out⟩
            rw [h1] at z0
            have z2 := cc.c2
            have z3 := cc.c3
            have z6 := cc.c6
            have f2 := cc.free (a * 7 + 2)
            have f3 := cc.free (a * 7 + 3)
            have f6 := cc.free (a * 7 + 6)
            clear hst h1 hsame cc HS HK
            generalize S[a].lives = r2 at *
            generalize S[a].code = r3 at *
            generalize S[a].cwd = r6 at *
            go_wp2
            go_region
            generalize ((((wr.setCell ⟨g, a * 7 + 2, none⟩ (.bool false)).setCell ⟨g, a * 7 + 3, none⟩ (.int .i64 d)).setCell ⟨g, a * 7 + 6, none⟩ (.int .i64 0)).drew) = w2 at *
            generalize oneS L a d = L2 at *
            clear y0 z0 z2 z3 z6 f2 f3 f6
            have y0 := HD.out.1.box.cell 0 rfl
            obtain ⟨_, cc⟩ := row_at HD.out.1.row HLo.out.1
            have c1 := cc.c1
            have f1 := cc.free (a * 7 + 1)
            rw [HP1.out _] at c1
            by_cases h2 : S[a].parent = i
            · have hst := tab_setN HD.out.1 HLo.out.2 (by decide) HLo.out.1 1 (by decide) (.int .i64 1) (parF i) (by simp [prC, parF, HP1.out _, h2])
              have HS2 : Hid _ := And.intro hst.1 (HD.out.2.trans hst.2)
              have HK2 : Hid _ := HO.out h2
              rw [h2] at c1
              clear hst h2 cc HO HN HP1 HD
              go_wp2
              go_roundw
              case rel => exact ⟨a + 1, _, by omega, by go_num, HK2.out, HS2.out⟩
              case measure => simp [intOf]; omega
            · have HK2 : Hid _ := HN.out h2
              have h2b : (S[a].parent == i) = false := by rw [beq_eq_false_iff_ne]; exact h2
              clear h2 cc HO HN HP1
              generalize S[a].parent = r at *
              go_wp2
              go_roundw
              case rel => exact ⟨a + 1, L2, by omega, by go_num, HK2.out, HD.out⟩
              case measure => simp [intOf]; omega
          · have h1b : (S[a].pid == i) = false := by rw [beq_eq_false_iff_ne]; exact h1
            have c1 := cc.c1
            have f1 := cc.free (a * 7 + 1)
            by_cases h2 : S[a].parent = i
            · have hst := tab_setN HS.out.1 HLS.out (by decide) haL 1 (by decide) (.int .i64 1) (parF i) (by rw [hsame]; simp [prC, parF, h2])
              have HS2 : Hid _ := And.intro hst.1 (HS.out.2.trans hst.2)
              have HK2 : Hid _ := ends_par HK.out hlt2 h1 h2
              rw [h2] at c1
              clear hst h1 h2 cc HK HS hsame
              generalize S[a].pid = r0 at *
              go_wp2
              go_roundw
              case rel => exact ⟨a + 1, _, by omega, by go_num, HK2.out, HS2.out⟩
              case measure => simp [intOf]; omega
            · have HK2 : Hid _ := ends_none HK.out hlt2 h1 h2
              have h2b : (S[a].parent == i) = false := by rw [beq_eq_false_iff_ne]; exact h2
              clear h1 h2 cc HK hsame
              generalize S[a].pid = r0 at *
              generalize S[a].parent = r1 at *
              go_wp2
              go_roundw
              case rel => exact ⟨a + 1, L, by omega, by go_num, HK2.out, HS.out⟩
              case measure => simp [intOf]; omega
        · have hltz : ¬ (a : Int) < (S.length : Int) := by omega
          obtain rfl : a = S.length := by omega
          have HLe : Hid (L = S.map (endF i d)) := HK.out.done
          have HZ : Hid _ := HP.out wr _ (by rw [← HLe.out]; exact HS.out.1) HS.out.2
          clear HP HS HK HLe
          go_wp2
          exact HZ.out
end

end Go.Proofs.Ythmefiegoagkjaa.Y
