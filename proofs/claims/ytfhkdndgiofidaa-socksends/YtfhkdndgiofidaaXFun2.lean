/- Package socks: ended, unheard, Bind, Listen, New, join. -/
import Derived.Test.YtfhkdndgiofidaaXFun1
import Derived.Carry
namespace Go.Proofs.Ytfhkdndgiofidaa.X
open Go Go.RowKit Go.Maps Go.Proofs.Ytfhkdndgiofidaa.K

def endF (T : Tb) (x : Sk) : Bool := x.sr || (match T x.peer with | none => true | some y => y.sw)
def deafF (T : Tb) (x : Sk) : Bool := x.sw || (match T x.peer with | none => true | some y => y.sr)
section
variable {P : Nat → Prop} {w : World} {sb mb n next k : Nat} {g : Nat → Nat} {T : Tb} {x : Sk}
theorem ended_any (h : StG P w sb mb n next g T) (hk : T k = some x) (hp : x.peer ≤ 5000) : Calls Try.prog 57 #[ptr sb, ptr (g k)] w fun e w' => e = .returned (.bool (endF T x)) ∧ Below w.heap.size w w' := by
  have x0 := h.box.cell 0 rfl
  obtain ⟨qb, p, c, hB, hc, hat⟩ := h.at hk
  have y2 := hB.cell 2 rfl
  have y7 := hB.cell 7 rfl
  have HE : Hid (∀ q, Below w.heap.size w (w.drewN q)) := fun q => on_drewN (Below.refl _ _) q
  cases ho : T x.peer with
  | none =>
    have hl := fun q => (h.on (HE.out q)).look_no (z := (x.peer : Int)) (ky_wf (k := x.peer) (by omega)) (fun j e => by rw [← ho]; congr 1; omega)
    have hF : endF T x = true := by simp [endF, ho]
    rw [hF]
    clear h hk hB hat ho hF
    cases hsr : x.sr <;> rw [hsr] at y7
    all_goals
      go_enter Try.func57, Try.ntmps57
      go_wp2
      go_quiet (fail)
      go_wp2
      go_ret
      exact ⟨rfl, HE.out _⟩
  | some y =>
    have hl := fun q => (h.on (HE.out q)).look_yes ho
    obtain ⟨qb2, p2, c2, hB2, _, _⟩ := h.at ho
    have z8 := hB2.cell 8 rfl
    have hF : endF T x = (x.sr || y.sw) := by simp [endF, ho]
    rw [hF]
    clear h hk hB hat ho hF hB2
    cases hsr : x.sr <;> rw [hsr] at y7
    all_goals
      go_enter Try.func57, Try.ntmps57
      go_wp2
      go_quiet (fail)
      go_wp2
      go_ret
      exact ⟨by simp, HE.out _⟩
theorem unheard_any (h : StG P w sb mb n next g T) (hk : T k = some x) (hp : x.peer ≤ 5000) : Calls Try.prog 58 #[ptr sb, ptr (g k)] w fun e w' => e = .returned (.bool (deafF T x)) ∧ Below w.heap.size w w' := by
  have x0 := h.box.cell 0 rfl
  obtain ⟨qb, p, c, hB, hc, hat⟩ := h.at hk
  have y2 := hB.cell 2 rfl
  have y8 := hB.cell 8 rfl
  have HE : Hid (∀ q, Below w.heap.size w (w.drewN q)) := fun q => on_drewN (Below.refl _ _) q
  cases ho : T x.peer with
  | none =>
    have hl := fun q => (h.on (HE.out q)).look_no (z := (x.peer : Int)) (ky_wf (k := x.peer) (by omega)) (fun j e => by rw [← ho]; congr 1; omega)
    have hF : deafF T x = true := by simp [deafF, ho]
    rw [hF]
    clear h hk hB hat ho hF
    cases hsr : x.sw <;> rw [hsr] at y8
    all_goals
      go_enter Try.func58, Try.ntmps58
      go_wp2
      go_quiet (fail)
      go_wp2
      go_ret
      exact ⟨rfl, HE.out _⟩
  | some y =>
    have hl := fun q => (h.on (HE.out q)).look_yes ho
    obtain ⟨qb2, p2, c2, hB2, _, _⟩ := h.at ho
    have z7 := hB2.cell 7 rfl
    have hF : deafF T x = (x.sw || y.sr) := by simp [deafF, ho]
    rw [hF]
    clear h hk hB hat ho hF hB2
    cases hsr : x.sw <;> rw [hsr] at y8
    all_goals
      go_enter Try.func58, Try.ntmps58
      go_wp2
      go_quiet (fail)
      go_wp2
      go_ret
      exact ⟨by simp, HE.out _⟩
/-- What a call that turns sockets leaves. -/
def Left (P : Nat → Prop) (w : World) (sb mb n next : Nat) (g : Nat → Nat) (T : Tb) (v : Value) (e : Ending) (w' : World) : Prop := e = .returned v ∧ ∃ P', StG P' w' sb mb n next g T ∧ Moves P P' w w'
theorem Left.same (h : StG P w sb mb n next g T) (v : Value) : Left P w sb mb n next g T v (.returned v) w := ⟨rfl, P, h, .refl P w⟩
theorem bind_bad (h : StG P w sb mb n next g T) (hk : T k = some x) (ino : Int) (hb : ¬ (1 ≤ ino ∧ x.st = 0 ∧ x.bound = 0)) : Calls Try.prog 29 #[ptr sb, .int .i64 (k : Int), .int .i64 ino] w fun e w' => e = .returned (.int .i64 22) ∧ w' = w := by
  have cG := get_yes h hk
  obtain ⟨qb, p, c, hB, hc, hat⟩ := h.at hk
  have y1 := hB.cell 1 rfl
  have y3 := hB.cell 3 rfl
  by_cases h1 : ino < 1
  · clear h hk hB hat hb
    go_enter Try.func29, Try.ntmps29
    go_wp2_with fail
    refine cG.mono ?_
    rintro e _ ⟨rfl, rfl⟩
    clear cG
    go_wp2
    go_ret
    exact ⟨rfl, rfl⟩
  · by_cases h2 : x.st = 0
    · have h3 : ¬ x.bound = 0 := fun h3 => hb ⟨by omega, h2, h3⟩
      rw [h2] at y1
      have hq3 : (x.bound != 0) = true := by simpa using h3
      clear h hk hB hat hb h3
      go_enter Try.func29, Try.ntmps29
      go_wp2_with fail
      refine cG.mono ?_
      rintro e _ ⟨rfl, rfl⟩
      clear cG
      go_wp2
      go_ret
      exact ⟨rfl, rfl⟩
    · have h2z : ¬ (x.st : Int) = 0 := by omega
      clear h hk hB hat hb
      go_enter Try.func29, Try.ntmps29
      go_wp2_with fail
      refine cG.mono ?_
      rintro e _ ⟨rfl, rfl⟩
      clear cG
      go_wp2
      go_ret
      exact ⟨rfl, rfl⟩
theorem bind_good (h : StG P w sb mb n next g T) (hk : T k = some x) (ino : Int) (h1 : 1 ≤ ino) (h2 : x.st = 0) (h3 : x.bound = 0) : Calls Try.prog 29 #[ptr sb, .int .i64 (k : Int), .int .i64 ino] w (Left P w sb mb n next g (setT T k (some { x with bound := ino })) (.int .i64 0)) := by
  have cG := get_yes h hk
  obtain ⟨qb, p, c, hB, hc, hat⟩ := h.at hk
  have y1 := hB.cell 1 rfl
  have y3 := hB.cell 3 rfl
  have f3 := hB.free 3
  rw [h2] at y1
  rw [h3] at y3
  have h1z : ¬ ino < 1 := by omega
  have HP : Hid (Left P w sb mb n next g (setT T k (some { x with bound := ino })) (.int .i64 0) (.returned (.int .i64 0)) (w.setCell ⟨g k, 3, none⟩ (.int .i64 ino))) := ⟨rfl, h.set hk hB (but_set _ _ _ _) (hB.set 3 _) rfl rfl⟩
  generalize Left P w sb mb n next g (setT T k (some { x with bound := ino })) (.int .i64 0) = Post at *
  clear h hk hB hat
  go_enter Try.func29, Try.ntmps29
  go_wp2_with fail
  refine cG.mono ?_
  rintro e _ ⟨rfl, rfl⟩
  clear cG
  go_wp2
  exact HP.out
theorem listen_bad (h : StG P w sb mb n next g T) (hk : T k = some x) (m : Int) (hb : ¬ (x.st ≠ 2 ∧ x.bound ≠ 0 ∧ 0 ≤ m)) : Calls Try.prog 30 #[ptr sb, .int .i64 (k : Int), .int .i64 m] w fun e w' => e = .returned (.int .i64 22) ∧ w' = w := by
  have cG := get_yes h hk
  obtain ⟨qb, p, c, hB, hc, hat⟩ := h.at hk
  have y1 := hB.cell 1 rfl
  have y3 := hB.cell 3 rfl
  by_cases h1 : x.st = 2
  · rw [h1] at y1
    clear h hk hB hat hb
    go_enter Try.func30, Try.ntmps30
    go_wp2_with fail
    refine cG.mono ?_
    rintro e _ ⟨rfl, rfl⟩
    clear cG
    go_wp2
    go_ret
    exact ⟨rfl, rfl⟩
  · have h1z : ¬ (x.st : Int) = 2 := by omega
    by_cases h2 : x.bound = 0
    · rw [h2] at y3
      clear h hk hB hat hb
      go_enter Try.func30, Try.ntmps30
      go_wp2_with fail
      refine cG.mono ?_
      rintro e _ ⟨rfl, rfl⟩
      clear cG
      go_wp2
      go_ret
      exact ⟨rfl, rfl⟩
    · have h3 : m < 0 := by
        by_cases h4 : 0 ≤ m
        · exact absurd ⟨h1, h2, h4⟩ hb
        · omega
      clear h hk hB hat hb
      go_enter Try.func30, Try.ntmps30
      go_wp2_with fail
      refine cG.mono ?_
      rintro e _ ⟨rfl, rfl⟩
      clear cG
      go_wp2
      go_ret
      exact ⟨rfl, rfl⟩
theorem listen_good (h : StG P w sb mb n next g T) (hk : T k = some x) (m : Nat) (h1 : x.st ≠ 2) (h2 : x.bound ≠ 0) : Calls Try.prog 30 #[ptr sb, .int .i64 (k : Int), .int .i64 (m : Int)] w (Left P w sb mb n next g (setT T k (some { x with st := 1, most := if 8 < m then 8 else m })) (.int .i64 0)) := by
  have cG := get_yes h hk
  obtain ⟨qb, p, c, hB, hc, hat⟩ := h.at hk
  have y1 := hB.cell 1 rfl
  have y3 := hB.cell 3 rfl
  have y4 := hB.cell 4 rfl
  have f1 := hB.free 1
  have f4 := hB.free 4
  have h1z : ((x.st : Int) == 2) = false := by simp; omega
  have h2z : (x.bound == 0) = false := by simpa using h2
  have h3 : decide ((m : Int) < 0) = false := by simp
  by_cases h8 : 8 < m
  · rw [if_pos h8]
    have h8z : (8 : Int) < (m : Int) := by omega
    have HP : Hid (Left P w sb mb n next g (setT T k (some { x with st := 1, most := 8 })) (.int .i64 0) (.returned (.int .i64 0)) ((w.setCell ⟨g k, 1, none⟩ (.int .i64 1)).setCell ⟨g k, 4, none⟩ (.int .i64 8))) := ⟨rfl, h.set hk hB ((but_set _ _ _ _).trans (but_set _ _ _ _)) ((hB.set 1 _).set 4 _) rfl rfl⟩
    generalize Left P w sb mb n next g (setT T k (some { x with st := 1, most := 8 })) (.int .i64 0) = Post at *
    clear h hk hB hat
    go_enter Try.func30, Try.ntmps30
    go_wp2_with fail
    refine cG.mono ?_
    rintro e _ ⟨rfl, rfl⟩
    clear cG
    go_wp2
    exact HP.out
  · rw [if_neg h8]
    have h8z : ¬ (8 : Int) < (m : Int) := by omega
    have HP : Hid (Left P w sb mb n next g (setT T k (some { x with st := 1, most := m })) (.int .i64 0) (.returned (.int .i64 0)) ((w.setCell ⟨g k, 1, none⟩ (.int .i64 1)).setCell ⟨g k, 4, none⟩ (.int .i64 (m : Int)))) := ⟨rfl, h.set hk hB ((but_set _ _ _ _).trans (but_set _ _ _ _)) ((hB.set 1 _).set 4 _) rfl rfl⟩
    generalize Left P w sb mb n next g (setT T k (some { x with st := 1, most := m })) (.int .i64 0) = Post at *
    clear h hk hB hat
    go_enter Try.func30, Try.ntmps30
    go_wp2_with fail
    refine cG.mono ?_
    rintro e _ ⟨rfl, rfl⟩
    clear cG
    go_wp2
    exact HP.out
end

/-- What New leaves. -/
def NewPost (n : Nat) (w : World) (e : Ending) (w' : World) : Prop := ∃ sb mb g P, e = .returned (ptr sb) ∧ StG P w' sb mb n 1 g (fun _ => none) ∧ Below w.heap.size w w' ∧ ∀ k, P k → w.heap.size ≤ k
theorem new_in (n : Nat) (w : World) (h1 : 1 ≤ n) (h2 : n ≤ 4096) : Calls Try.prog 8 #[.int .i64 (n : Int)] w (NewPost n w) := by
  have h1z : ¬ (n : Int) < 1 := by omega
  have h2z : ¬ (4096 : Int) < (n : Int) := by omega
  have h2n : ¬ 4096 < n := by omega
  have HP : Hid (NewPost n w (.returned (ptr (w.heap.size + 1))) ((w.alloc (.map #[] 0)).alloc (.cells #[.map (some w.heap.size), .int .i64 (n : Int), .int .i64 1] 65))) := by
    have hB := Blk.new (w.alloc (.map #[] 0)) 65 [.map (some w.heap.size), .int .i64 (n : Int), .int .i64 1]
    rw [show (w.alloc (.map #[] 0)).heap.size = w.heap.size + 1 by simp] at hB
    have hal := on_alloc (w.alloc (.map #[] 0)) (.cells #[.map (some w.heap.size), .int .i64 (n : Int), .int .i64 1] 65)
    refine ⟨w.heap.size + 1, w.heap.size, fun _ => 0, _, rfl, ⟨⟨.map [], fun _ => 0, fun _ => .slice none 0 0, fun _ _ => False, fun _ _ => False⟩, ⟨hB, owns_block (World.ownsMap_made w _ _ _) (hal.block _ (by simp)), mapIs_empty, (fun k x hx => by cases hx), (fun i j hi => by cases hi), (fun i j hi => by cases hi), fun i j hi => by cases hi⟩, rfl, fun k hk => by cases hk⟩, on_trans (on_alloc w _) (on_alloc _ _), fun k hk => ?_⟩
    rcases hk with rfl | rfl | ⟨k, hk, _⟩
    · omega
    · omega
    · cases hk
  have hmm := @run_makeMap Try.prog
  generalize NewPost n w = Post at *
  go_enter Try.func8, Try.ntmps8
  go_wp2
  exact HP.out

end Go.Proofs.Ytfhkdndgiofidaa.X
