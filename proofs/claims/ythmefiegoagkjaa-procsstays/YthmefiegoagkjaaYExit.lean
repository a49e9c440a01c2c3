/- What Exit does. -/
import Derived.Test.YthmefiegoagkjaaYAct
namespace Go.Proofs.Ythmefiegoagkjaa.Y
open Go Go.RowKit

def livF (x : Pr) : Pr := ⟨x.pid, x.parent, false, x.code, x.pd, x.cap, x.cwd⟩
def codeF (c : Int) (x : Pr) : Pr := ⟨x.pid, x.parent, x.lives, c, x.pd, x.cap, x.cwd⟩
def parF (p : Int) (x : Pr) : Pr := ⟨x.pid, if x.parent = p then 1 else x.parent, x.lives, x.code, x.pd, x.cap, x.cwd⟩
def oneS (S : List Pr) (k : Nat) (c : Int) : List Pr := ((S.modify k livF).modify k (codeF c)).modify k (cwdF 0)
theorem oneS_len (S : List Pr) (k : Nat) (c : Int) : (oneS S k c).length = S.length := by simp [oneS]
theorem one_map {S : List Pr} {p c : Int} (hs : Sorted S) (hq : has p S = true) : (oneS S (spot p S) c).map (parF p) = S.map (endF p c) := by
  have hlt := spot_lt hq
  refine List.ext_getElem (by simp [oneS]) fun j h1 h2 => ?_
  rw [List.length_map] at h1 h2
  simp only [List.getElem_map, oneS, List.getElem_modify]
  by_cases hj : spot p S = j
  · subst hj
    simp only [if_true]
    have := spot_id hlt
    simp only [parF, cwdF, codeF, livF, endF, this, if_true]
  · simp only [if_neg hj]
    have hne : S[j].pid ≠ p := fun e => by
      have h3 := spot_id hlt
      rcases Nat.lt_or_ge (spot p S) j with h4 | h4
      · have := List.pairwise_iff_getElem.1 hs _ _ hlt h2 h4; omega
      · have := List.pairwise_iff_getElem.1 hs _ _ h2 hlt (by omega); omega
    simp only [parF, endF, if_neg hne]
/-- What the loop of Exit has laid. -/
structure Kin (p : Int) (S L : List Pr) (a : Nat) : Prop where
  len : L.length = S.length
  at_ : ∀ j (hj : j < S.length), L[j]'(by rw [len]; exact hj) = if j < a then parF p S[j] else S[j]
section
variable {p : Int} {S L : List Pr} {a : Nat}
theorem Kin.start (p : Int) (S : List Pr) : Kin p S S 0 := ⟨rfl, fun j hj => by rw [if_neg (Nat.not_lt_zero _)]⟩
theorem Kin.done (h : Kin p S L S.length) : L = S.map (parF p) := by
  refine List.ext_getElem (by rw [h.len, List.length_map]) fun j h1 h2 => ?_
  rw [List.length_map] at h2
  rw [h.at_ j h2, if_pos h2, List.getElem_map]
theorem Kin.next (h : Kin p S L a) (_ha : a < S.length) : Kin p S (L.modify a (parF p)) (a + 1) := by
  refine ⟨by rw [List.length_modify, h.len], fun j hj => ?_⟩
  rw [List.getElem_modify, h.at_ j hj]
  by_cases hja : a = j
  · subst hja
    rw [if_pos rfl, if_neg (Nat.lt_irrefl _), if_pos (Nat.lt_succ_self _)]
  · rw [if_neg hja]
    by_cases h2 : j < a
    · rw [if_pos h2, if_pos (by omega)]
    · rw [if_neg h2, if_neg (by omega)]
theorem Kin.skip (h : Kin p S L a) (ha : a < S.length) (hp : (L[a]'(by rw [h.len]; exact ha)).parent ≠ p) : Kin p S L (a + 1) := by
  refine ⟨h.len, fun j hj => ?_⟩
  rw [h.at_ j hj]
  by_cases hja : a = j
  · subst hja
    rw [h.at_ a hj, if_neg (Nat.lt_irrefl _)] at hp
    rw [if_neg (Nat.lt_irrefl _), if_pos (Nat.lt_succ_self _)]
    simp only [parF, if_neg hp]
  · by_cases h2 : j < a
    · rw [if_pos h2, if_pos (by omega)]
    · rw [if_neg h2, if_neg (by omega)]
end
theorem tab_setN {hi b g cap k n : Nat} {ty : TypeId} {w : World} {x y : Int} {S : List Pr} (h : TabAt hi ty w b (.slice (some ⟨g, 0, none⟩) n cap) x y S) (hn : n = S.length) (hf : ty ≠ 37) (hk : k < S.length) (i : Nat) (hin : i < 7) (u : Value) (f : Pr → Pr) (hx : (prC S[k]).set i u = prC (f S[k])) :
    TabAt hi ty (w.setCell ⟨g, k * 7 + i, none⟩ u) b (.slice (some ⟨g, 0, none⟩) n cap) x y (S.modify k f) ∧ T.Goes b (.slice (some ⟨g, 0, none⟩) n cap) (.slice (some ⟨g, 0, none⟩) n cap) w (w.setCell ⟨g, k * 7 + i, none⟩ u) := by
  subst hn
  exact tab_set h hf hk i hin u f hx
section
variable {hi b : Nat} {v : Value} {mo nx : Int} {S : List Pr} {w : World}
/-- One process ended. -/
theorem tab_end {g cap k : Nat} (h : TabAt hi 57 w b (.slice (some ⟨g, 0, none⟩) S.length cap) mo nx S) (hk : k < S.length) (c : Int) :
    TabAt hi 57 (((w.setCell ⟨g, k * 7 + 2, none⟩ (.bool false)).setCell ⟨g, k * 7 + 3, none⟩ (.int .i64 c)).setCell ⟨g, k * 7 + 6, none⟩ (.int .i64 0)) b (.slice (some ⟨g, 0, none⟩) S.length cap) mo nx (oneS S k c) ∧
    T.Goes b (.slice (some ⟨g, 0, none⟩) S.length cap) (.slice (some ⟨g, 0, none⟩) S.length cap) w (((w.setCell ⟨g, k * 7 + 2, none⟩ (.bool false)).setCell ⟨g, k * 7 + 3, none⟩ (.int .i64 c)).setCell ⟨g, k * 7 + 6, none⟩ (.int .i64 0)) := by
  have h1 := tab_set h (by decide) hk 2 (by decide) (.bool false) livF rfl
  have h2 := tab_setN h1.1 (by simp) (by decide) (by simpa using hk) 3 (by decide) (.int .i64 c) (codeF c) rfl
  have h3 := tab_setN h2.1 (by simp) (by decide) (by simpa using hk) 6 (by decide) (.int .i64 0) (cwdF 0) rfl
  exact ⟨h3.1, (h1.2.trans h2.2).trans h3.2⟩
set_option maxRecDepth 100000 in
set_option maxHeartbeats 2000000 in
theorem exit_any (h : TabAt hi 57 w b v mo nx S) (hs : Sorted S) (hl : S.length ≤ 1000) (i d : Int) :
    Calls Try.prog 23 #[ptr b, .int .i64 i, .int .i64 d] w (TPost hi 57 b w v mo nx (exitS S i d) (.int .i64 (exitE S i))) := by
  have HT : Hid (∀ w1, Below w.heap.size w w1 → TabAt hi 57 w1 b v mo nx S) := fun w1 hb => h.on hb
  unfold exitS exitE
  cases hq : lv i S with
  | false =>
    have cP := living_no h hs hl hq
    rw [Bool.false_and, if_neg (by decide), if_neg (by decide)]
    have HP : Hid (∀ w1, Below w.heap.size w w1 → TPost hi 57 b w v mo nx S (.int .i64 3) (.returned (.int .i64 3)) w1) := fun w1 hb => ⟨rfl, v, HT.out w1 hb, .on hb⟩
    generalize TPost hi 57 b w v mo nx S (.int .i64 3) = Post at *
    clear h HT hq hs
    go_enter Try.func23, Try.ntmps23
    go_wp2_with fail
    refine cP.mono ?_
    rintro e w1 ⟨rfl, hb1⟩
    go_wp2
    exact HP.out _ hb1
  | true =>
    have hlt := spot_lt (lv_has hq)
    obtain ⟨g, cap, rfl, _, hcc⟩ := tab_cells h hlt
    have cP := living_yes h hs hl hq
    rw [Bool.true_and, if_pos rfl]
    by_cases hd : i = 1
    · subst hd
      rw [decide_eq_false (by decide), if_neg (by decide), if_pos rfl]
      have HP : Hid (∀ w1, Below w.heap.size w w1 → TPost hi 57 b w (.slice (some ⟨g, 0, none⟩) S.length cap) mo nx S (.int .i64 1) (.returned (.int .i64 1)) w1) := fun w1 hb => ⟨rfl, _, HT.out w1 hb, .on hb⟩
      generalize TPost hi 57 b w (.slice (some ⟨g, 0, none⟩) S.length cap) mo nx S (.int .i64 1) = Post at *
      clear h HT hcc hq hs
      go_enter Try.func23, Try.ntmps23
      go_wp2_with fail
      refine cP.mono ?_
      rintro e w1 ⟨rfl, hb1⟩
      go_wp2
      exact HP.out _ hb1
    · rw [decide_eq_true hd, if_pos rfl, if_neg hd, ← one_map hs (lv_has hq)]
      have HP : Hid (∀ w1 v', TabAt hi 57 w1 b v' mo nx ((oneS S (spot i S) d).map (parF i)) → T.Goes b (.slice (some ⟨g, 0, none⟩) S.length cap) v' w w1 → TPost hi 57 b w (.slice (some ⟨g, 0, none⟩) S.length cap) mo nx ((oneS S (spot i S) d).map (parF i)) (.int .i64 0) (.returned (.int .i64 0)) w1) := fun w1 v' h1 h2 => ⟨rfl, v', h1, h2⟩
      generalize TPost hi 57 b w (.slice (some ⟨g, 0, none⟩) S.length cap) mo nx ((oneS S (spot i S) d).map (parF i)) (.int .i64 0) = Post at *
      have hd1 : (i == 1) = false := by rw [beq_eq_false_iff_ne]; exact hd
      clear h hcc hq hs hd
      generalize spot i S = k at *
      go_enter Try.func23, Try.ntmps23
      go_wp2_with fail
      refine cP.mono ?_
      rintro e w1 ⟨rfl, hb1⟩
      have ht := HT.out w1 hb1
      obtain ⟨_, c⟩ := row_at ht.row hlt
      have z2 := c.c2
      have z3 := c.c3
      have z6 := c.c6
      have f2 := c.free (k * 7 + 2)
      have f3 := c.free (k * 7 + 3)
      have f6 := c.free (k * 7 + 6)
      have hst := tab_end ht hlt d
      have y0 := hst.1.box.cell 0 rfl
      have HS1 : Hid _ := And.intro hst.1 ((T.Goes.on hb1).trans hst.2)
      have HLn := oneS_len S k d
      clear cP HT ht c hst hb1
      generalize hw2 : (((w1.setCell ⟨g, k * 7 + 2, none⟩ (.bool false)).setCell ⟨g, k * 7 + 3, none⟩ (.int .i64 d)).setCell ⟨g, k * 7 + 6, none⟩ (.int .i64 0)) = w2 at HS1 y0
      generalize hL1 : oneS S k d = S1 at *
      clear hL1
      generalize S[k].lives = r2 at *
      generalize S[k].code = r3 at *
      generalize S[k].cwd = r6 at *
      have hln : S1.length ≤ 1000 := by omega
      go_wp2
      go_loopw [33] (fun iv wq => ∃ a : Nat, ∃ L : List Pr, a ≤ S.length ∧ iv = .int .i64 (a : Int) ∧ Hid (Kin i S1 L a) ∧ Hid (TabAt hi 57 wq b (.slice (some ⟨g, 0, none⟩) S.length cap) mo nx L ∧ T.Goes b (.slice (some ⟨g, 0, none⟩) S.length cap) (.slice (some ⟨g, 0, none⟩) S.length cap) w wq)) (fun iv _ => S.length - (intOf iv).toNat)
      case atStart => exact ⟨0, S1, Nat.zero_le _, rfl, Kin.start _ _, HS1.out⟩
      case round =>
        clear HS1 y0 hw2 z2 z3 z6 f2 f3 f6
        obtain ⟨a, L, ha, rfl, HK, HS⟩ := hrel
        by_cases hlt2 : a < S.length
        · have hltz : (a : Int) < (S.length : Int) := by omega
          have haS1 : a < S1.length := by omega
          have haL : a < L.length := by rw [HK.out.len]; exact haS1
          have hLS : S.length = L.length := by rw [HK.out.len, HLn]
          have y0 := HS.out.1.box.cell 0 rfl
          obtain ⟨_, cc⟩ := row_at HS.out.1.row haL
          have c1 := cc.c1
          have f1 := cc.free (a * 7 + 1)
          by_cases hp : L[a].parent = i
          · have hst := tab_setN HS.out.1 hLS (by decide) haL 1 (by decide) (.int .i64 1) (parF i) (by simp [prC, parF, hp])
            have HS2 : Hid _ := And.intro hst.1 (HS.out.2.trans hst.2)
            have HK2 : Hid (Kin i S1 (L.modify a (parF i)) (a + 1)) := HK.out.next haS1
            rw [hp] at c1
            clear HS hst cc HK hp
            go_wp2
            go_roundw
            case rel => exact ⟨a + 1, _, by omega, by go_num, HK2.out, HS2.out⟩
            case measure => simp [intOf]; omega
          · have HK2 : Hid (Kin i S1 L (a + 1)) := HK.out.skip haS1 hp
            have hpb : (L[a].parent == i) = false := by rw [beq_eq_false_iff_ne]; exact hp
            generalize L[a].parent = r at *
            clear cc HK hp
            go_wp2
            go_roundw
            case rel => exact ⟨a + 1, L, by omega, by go_num, HK2.out, HS.out⟩
            case measure => simp [intOf]; omega
        · have hltz : ¬ (a : Int) < (S.length : Int) := by omega
          obtain rfl : a = S.length := by omega
          have HLe : Hid (L = S1.map (parF i)) := Kin.done (by have := HK.out; rwa [← HLn] at this)
          have HZ : Hid _ := HP.out wr _ (by rw [← HLe.out]; exact HS.out.1) HS.out.2
          clear HP HS HK HLe
          go_wp2
          exact HZ.out
end

end Go.Proofs.Ythmefiegoagkjaa.Y
