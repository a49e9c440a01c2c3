/- What the laws' own answers: an act in memory of its own, with short lists. -/
import Derived.Test.YtmccfcllehfebaaZRef2
namespace Go.Proofs.Ytmccfcllehfebaa.Z
open Go Go.RowKit

theorem keep_ed {hi : Nat} {ops : Array Oper} {kp : List (Nat × Nat)} {ks : List (Kd hi)} {tl : Till} (h : ∀ i b, kp.lookup i = some b → b < hi ∧ ∀ j, j ≠ i → (ks.getD j .any).blk ≠ some b ∨ edge ops j i = true) :
    ∀ i j v w w', KeepK kp i w w' → j ≠ i → edge ops j i = false → (∀ u, tl.lookup j = some u → u ≠ i ∧ edge ops i u = false) → (ks.getD j .any).ok v w → (ks.getD j .any).ok v w' := by
  intro i j v w w' hk hne hed _ hok
  unfold KeepK at hk
  cases hb : kp.lookup i with
  | none => rw [hb] at hk; exact Kd.on _ v w w' hok hk
  | some b =>
    rw [hb] at hk
    rcases (h i b hb).2 j hne with h1 | h1
    · exact Kd.but _ v w w' b hok hk (h i b hb).1 h1
    · rw [h1] at hed; cases hed
theorem infoA : (Try.prog.info? 36).map (·.size) = some 8 := by kernel_rfl
theorem en_own : ∀ args w, (callFunc 47 args).run Try.prog w = .ok (.enter 47 args) w := fun _ _ => by simp [callFunc, Try.func47]; rfl
/-- An act's cells. -/
def acC (k d : Int) (x : Sl) (lv cv : Value) : List Value := [.int .i64 k, .int .i64 d, .int .i64 x.file, .int .u32 (x.rights : Int), .bool x.all, lv, .int .i64 x.fc, cv]
def zAc : List Value := acC 0 0 zS (.slice none 0 0) (.slice none 0 0)
/-- The region that copies both lists. -/
structure ownS (w : World) (k d : Int) (x : Sl) (p : Option Addr) (c : Nat) (l : List Int) (q : Option Addr) (e : Nat) (m : List Int) (f : Bool) (Y : World) : Prop where
  below : Below w.heap.size w Y
  size : w.heap.size + 2 ≤ Y.heap.size
  out : Blk Y (w.heap.size + 1) 36 zAc
  ahead : f = true → Blk Y w.heap.size 36 (acC k d x (.slice p l.length c) (.slice q m.length e))
  behind : f = false → ∃ u4 u5 p' c', Blk Y w.heap.size 36 [.int .i64 k, .int .i64 d, .int .i64 x.file, .int .u32 (x.rights : Int), u4, u5, .int .i64 x.fc, .slice p' m.length c'] ∧ AtF (w.heap.size + 2) Y p' (W.intsV m)
section
variable {w Y Y' : World} {k d : Int} {x : Sl} {p q : Option Addr} {c e : Nat} {l m : List Int} {f : Bool}
theorem ownS.on (h : ownS w k d x p c l q e m f Y) (hb : Below Y.heap.size Y Y') : ownS w k d x p c l q e m f Y' :=
  ⟨on_trans h.below hb, Nat.le_trans h.size hb.size, h.out.on hb, fun hf => (h.ahead hf).on hb, fun hf => by
    obtain ⟨u4, u5, p', c', h1, h2⟩ := h.behind hf
    exact ⟨u4, u5, p', c', h1.on hb, h2.on hb⟩⟩
theorem ownS.first (h : ownS w k d x p c l q e m true Y) {p9 : Option Addr} {c9 : Nat} (hat : AtF (w.heap.size + 2) Y p9 (W.intsV m)) : ownS w k d x p c l q e m false (Y.setCell ⟨w.heap.size, 7, none⟩ (.slice p9 m.length c9)) := by
  have hB := but_set Y w.heap.size 7 (.slice p9 m.length c9)
  exact ⟨below_but h.below hB (Nat.le_refl _), by rw [hB.size]; exact h.size, h.out.but hB (by omega), (fun h => by cases h), fun _ => ⟨_, _, p9, c9, (h.ahead rfl).set 7 _, hat.but hB (by omega)⟩⟩
theorem ownS.second (h : ownS w k d x p c l q e m false Y) {u4 u5 v4 v5 : Value} {p9 : Option Addr} {c9 : Nat} (hb : Blk Y w.heap.size 36 [.int .i64 k, .int .i64 d, .int .i64 x.file, .int .u32 (x.rights : Int), u4, u5, .int .i64 x.fc, .slice p9 m.length c9]) (hat : AtF (w.heap.size + 2) Y p9 (W.intsV m)) : ownS w k d x p c l q e m false ((Y.setCell ⟨w.heap.size, 4, none⟩ v4).setCell ⟨w.heap.size, 5, none⟩ v5) := by
  have hB := (but_set Y w.heap.size 4 v4).trans (but_set _ w.heap.size 5 v5)
  exact ⟨below_but h.below hB (Nat.le_refl _), by rw [hB.size]; exact h.size, h.out.but hB (by omega), (fun h => by cases h), fun _ => ⟨_, _, p9, c9, (hb.set 4 _).set 5 _, hat.but hB (by omega)⟩⟩
end
def kl {hi : Nat} (a : Bool) (l : List Int) : Kd hi := ⟨fun v Y => ∃ p c, v = .agg #[.bool a, .slice p l.length c] ∧ AtF hi Y p (W.intsV l), none, fun _ _ _ ⟨p, c, h1, h2⟩ hb => ⟨p, c, h1, h2.on hb⟩, fun _ _ _ _ ⟨p, c, h1, h2⟩ hb hlt _ => ⟨p, c, h1, h2.but hb hlt⟩⟩
/-- Both lists laid. -/
def OwnB (hi ab : Nat) (Y : World) (x : Sl) (k d : Int) (m l : List Int) : Prop := ∃ p c p' c', Blk Y ab 36 (acC k d x (.slice p l.length c) (.slice p' m.length c')) ∧ AtF hi Y p (W.intsV l) ∧ AtF hi Y p' (W.intsV m)
def kb {n : Nat} (x : Sl) (k d : Int) (m l : List Int) : Kd (n + 2) := ⟨fun _ Y => OwnB (n + 2) n Y x k d m l, some n, fun _ _ _ ⟨p, c, p', c', h1, h2, h3⟩ hb => ⟨p, c, p', c', h1.on hb, h2.on hb, h3.on hb⟩, fun _ _ _ _ ⟨p, c, p', c', h1, h2, h3⟩ hb hlt hne => ⟨p, c, p', c', h1.but hb fun e => hne (congrArg some e), h2.but hb hlt, h3.but hb hlt⟩⟩
theorem second_kb {Y : World} {n : Nat} {x : Sl} {k d : Int} {m l : List Int} {u4 u5 : Value} {p9 p8 : Option Addr} {c9 c8 : Nat} (hb : Blk Y n 36 [.int .i64 k, .int .i64 d, .int .i64 x.file, .int .u32 (x.rights : Int), u4, u5, .int .i64 x.fc, .slice p9 m.length c9]) (h9 : AtF (n + 2) Y p9 (W.intsV m)) (h8 : AtF (n + 2) Y p8 (W.intsV l)) : OwnB (n + 2) n ((Y.setCell ⟨n, 4, none⟩ (.bool x.all)).setCell ⟨n, 5, none⟩ (.slice p8 l.length c8)) x k d m l := by
  have hB := (but_set Y n 4 (.bool x.all)).trans (but_set _ n 5 (.slice p8 l.length c8))
  exact ⟨p8, c8, p9, c9, (hb.set 4 _).set 5 _, h8.but hB (by omega), h9.but hB (by omega)⟩
def cut (l : List Int) : List Int := l.take 50
theorem cut_len (l : List Int) : (cut l).length ≤ 50 := by simp [cut]; omega
theorem cut_short {l : List Int} (h : l.length ≤ 50) : cut l = l := List.take_of_length_le h
/-- An act as a value. -/
def AcD (D : Nat → Prop) (w : World) (u : Value) (k d : Int) (x : Sl) (m : List Int) : Prop := ∃ lv cv, u = .agg (acC k d x lv cv).toArray ∧ IntD D w lv x.ints ∧ IntD D w cv m
def withI (x : Sl) (l : List Int) : Sl := ⟨x.file, x.rights, x.all, l, x.fc⟩
def OwnPost (w : World) (k d : Int) (x : Sl) (m : List Int) (e : Ending) (w' : World) : Prop := Below w.heap.size w w' ∧ ∃ p c p' c', e = .returned (.agg (acC k d (withI x (cut x.ints)) (.slice p (cut x.ints).length c) (.slice p' (cut m).length c')).toArray) ∧ W.AtF (w.heap.size + 2) w' p (cut x.ints) ∧ W.AtF (w.heap.size + 2) w' p' (cut m)
set_option maxRecDepth 100000 in
set_option maxHeartbeats 4000000 in
theorem own_ss (k0 d0 : Int) (x : Sl) (p q : Option Addr) (c d : Nat) (m : List Int) (w : World) (h : W.At w p x.ints) (h2 : W.At w q m) (h50 : x.ints.length ≤ 50) (h51 : m.length ≤ 50) :
    Calls Try.prog 19 #[.agg (acC k0 d0 x (.slice p x.ints.length c) (.slice q m.length d)).toArray] w (OwnPost w k0 d0 x m) := by
  change Calls Try.prog 19 #[.agg #[.int .i64 k0, .int .i64 d0, .int .i64 x.file, .int .u32 (x.rights : Int), .bool x.all, .slice p x.ints.length c, .int .i64 x.fc, .slice q m.length d]] w _
  have HP : Hid (∀ Y p c p' c', Below w.heap.size w Y → W.AtF (w.heap.size + 2) Y p (cut x.ints) → W.AtF (w.heap.size + 2) Y p' (cut m) → OwnPost w k0 d0 x m (.returned (.agg (acC k0 d0 x (.slice p (cut x.ints).length c) (.slice p' (cut m).length c')).toArray)) Y) := fun Y p c p' c' h1 h2 h3 => ⟨h1, p, c, p', c', rfl, h2, h3⟩
  generalize OwnPost w k0 d0 x m = Post at *
  have HB : Hid (Below w.heap.size w ((w.alloc (.cells #[.int .i64 k0, .int .i64 d0, .int .i64 x.file, .int .u32 (x.rights : Int), .bool x.all, .slice p x.ints.length c, .int .i64 x.fc, .slice q m.length d] 36)).alloc (.cells #[.int .i64 0, .int .i64 0, .int .i64 0, .int .u32 0, .bool false, .slice none 0 0, .int .i64 0, .slice none 0 0] 36))) := on_trans (on_alloc w _) (on_alloc _ _)
  have hX : Blk ((w.alloc (.cells #[.int .i64 k0, .int .i64 d0, .int .i64 x.file, .int .u32 (x.rights : Int), .bool x.all, .slice p x.ints.length c, .int .i64 x.fc, .slice q m.length d] 36)).alloc (.cells #[.int .i64 0, .int .i64 0, .int .i64 0, .int .u32 0, .bool false, .slice none 0 0, .int .i64 0, .slice none 0 0] 36)) w.heap.size 36 (acC k0 d0 x (.slice p x.ints.length c) (.slice q m.length d)) := (Blk.new w _ (acC k0 d0 x (.slice p x.ints.length c) (.slice q m.length d))).alloc _
  have hZ : Blk ((w.alloc (.cells #[.int .i64 k0, .int .i64 d0, .int .i64 x.file, .int .u32 (x.rights : Int), .bool x.all, .slice p x.ints.length c, .int .i64 x.fc, .slice q m.length d] 36)).alloc (.cells #[.int .i64 0, .int .i64 0, .int .i64 0, .int .u32 0, .bool false, .slice none 0 0, .int .i64 0, .slice none 0 0] 36)) (w.heap.size + 1) 36 zAc := by
    have := Blk.new (w.alloc (.cells #[.int .i64 k0, .int .i64 d0, .int .i64 x.file, .int .u32 (x.rights : Int), .bool x.all, .slice p x.ints.length c, .int .i64 x.fc, .slice q m.length d] 36)) 36 zAc
    rwa [World.size_alloc] at this
  have hsz : w.heap.size + 2 ≤ ((w.alloc (.cells #[.int .i64 k0, .int .i64 d0, .int .i64 x.file, .int .u32 (x.rights : Int), .bool x.all, .slice p x.ints.length c, .int .i64 x.fc, .slice q m.length d] 36)).alloc (.cells #[.int .i64 0, .int .i64 0, .int .i64 0, .int .u32 0, .bool false, .slice none 0 0, .int .i64 0, .slice none 0 0] 36)).heap.size := by simp
  have HX : Hid _ := hX
  have HZ : Hid _ := hZ
  have HSZ : Hid _ := hsz
  have x5 := hX.cell 5 rfl
  have x7 := hX.cell 7 rfl
  have f5 := hX.free 5
  have f7 := hX.free 7
  have hlz : ¬ (50 : Int) < (x.ints.length : Int) := by omega
  have hcl : cut x.ints = x.ints := cut_short h50
  have hmz : ¬ (50 : Int) < (m.length : Int) := by omega
  have hcm : cut m = m := cut_short h51
  have HA0 : Hid (W.At w p (cut x.ints) ∧ (cut x.ints).length ≤ 50 ∧ W.At w q (cut m) ∧ (cut m).length ≤ 50) := ⟨W.at_ints.2 (by rw [show W.intsV (cut x.ints) = (W.intsV x.ints).take 50 from List.map_take]; exact (W.at_ints.1 h).take 50), cut_len _, W.at_ints.2 (by rw [show W.intsV (cut m) = (W.intsV m).take 50 from List.map_take]; exact (W.at_ints.1 h2).take 50), cut_len _⟩
  clear h h2 hX hZ hsz
  go_enter Try.func19, Try.ntmps19
  go_wp2
  have hX2 : Blk ((w.alloc (.cells #[.int .i64 k0, .int .i64 d0, .int .i64 x.file, .int .u32 (x.rights : Int), .bool x.all, .slice p x.ints.length c, .int .i64 x.fc, .slice q m.length d] 36)).alloc (.cells #[.int .i64 0, .int .i64 0, .int .i64 0, .int .u32 0, .bool false, .slice none 0 0, .int .i64 0, .slice none 0 0] 36)) w.heap.size 36 (acC k0 d0 x (.slice p (cut x.ints).length c) (.slice q (cut m).length d)) := by
    rw [hcl, hcm]
    exact (Blk.new w 36 (acC k0 d0 x (.slice p x.ints.length c) (.slice q m.length d))).alloc _
  have hZ2 : Blk ((w.alloc (.cells #[.int .i64 k0, .int .i64 d0, .int .i64 x.file, .int .u32 (x.rights : Int), .bool x.all, .slice p x.ints.length c, .int .i64 x.fc, .slice q m.length d] 36)).alloc (.cells #[.int .i64 0, .int .i64 0, .int .i64 0, .int .u32 0, .bool false, .slice none 0 0, .int .i64 0, .slice none 0 0] 36)) (w.heap.size + 1) 36 zAc := by
    have := Blk.new (w.alloc (.cells #[.int .i64 k0, .int .i64 d0, .int .i64 x.file, .int .u32 (x.rights : Int), .bool x.all, .slice p x.ints.length c, .int .i64 x.fc, .slice q m.length d] 36)) 36 zAc
    rwa [World.size_alloc] at this
  have HS0 : Hid (ownS w k0 d0 x p c (cut x.ints) q d (cut m) true ((w.alloc (.cells #[.int .i64 k0, .int .i64 d0, .int .i64 x.file, .int .u32 (x.rights : Int), .bool x.all, .slice p x.ints.length c, .int .i64 x.fc, .slice q m.length d] 36)).alloc (.cells #[.int .i64 0, .int .i64 0, .int .i64 0, .int .u32 0, .bool false, .slice none 0 0, .int .i64 0, .slice none 0 0] 36)).drew) := ⟨on_drew (on_trans (on_alloc w _) (on_alloc _ _)), by show _ ≤ ((w.alloc _).alloc _).heap.size; simp, hZ2.drew, fun _ => hX2.drew, (fun h => by cases h)⟩
  have HA : Hid _ := HA0.out
  clear hX2 hZ2 HB HX HZ HSZ x5 x7 f5 f7 HA0 hcl hcm
  generalize (w.alloc (.cells #[.int .i64 k0, .int .i64 d0, .int .i64 x.file, .int .u32 (x.rights : Int), .bool x.all, .slice p x.ints.length c, .int .i64 x.fc, .slice q m.length d] 36)).alloc (.cells #[.int .i64 0, .int .i64 0, .int .i64 0, .int .u32 0, .bool false, .slice none 0 0, .int .i64 0, .slice none 0 0] 36) = w0 at *
  generalize cut x.ints = l at *
  generalize cut m = m2 at *
  refine wp_region_three (S := ownS w k0 d0 x p c l q d m2) (u := 9) (Keep := KeepK [(9, w.heap.size), (12, w.heap.size)])
    (g := fun jj vv WW => (([.mt 3, .is (.pointer (some ⟨w.heap.size, 7, none⟩)), .is (.slice q m2.length d), .own 3 (Go.Proofs.Ytmccfcllehfebaa.W.intsV m2), .is (.pointer (some ⟨w.heap.size, 2, none⟩)), .is (.pointer (some ⟨w.heap.size, 4, none⟩)), .is (.agg #[.bool x.all, .slice p l.length c]), kl x.all l, .is (.pointer (some ⟨w.heap.size, 7, none⟩)), .any, .is (.pointer (some ⟨w.heap.size, 2, none⟩)), .is (.pointer (some ⟨w.heap.size, 4, none⟩)), kb x k0 d0 m2 l] : List (Kd (w.heap.size + 2))).getD jj Kd.any).ok vv WW)
    (tab := [[], [(1, none)], [(26, some 1)], [(25, some 0), (27, some 2)], [(1, none)], [(29, some 4)], [(30, some 5)], [(31, some 6)], [(1, none)], [(33, some 8), (28, some 3)], [(1, none)], [(34, some 10)], [(35, some 11), (32, some 7)]]) (tl := []) (n := 37)
    (by kernel_rfl) rfl (by kernel_rfl) (keep_ed ?k) (HS0.out) ?st ?en
  case k =>
    intro i b hb
    obtain ⟨hi, rfl⟩ : (i = 9 ∨ i = 12) ∧ b = w.heap.size := by
      simp only [List.lookup] at hb
      split at hb
      · rename_i h7
        exact ⟨.inl (by simpa using h7), by simpa using hb.symm⟩
      · split at hb
        · rename_i h7
          exact ⟨.inr (by simpa using h7), by simpa using hb.symm⟩
        · cases hb
    refine ⟨by omega, fun j hj => ?_⟩
    match j, hj with
    | 0, _ | 1, _ | 2, _ | 3, _ | 4, _ | 5, _ | 6, _ | 7, _ | 8, _ | 9, _ | 10, _ | 11, _ => exact .inl (blk_none rfl)
    | 12, hj =>
      rcases hi with rfl | rfl
      · exact .inr (by kernel_rfl)
      · exact absurd rfl hj
    | j + 13, _ => exact .inl (blk_none rfl)
  case st =>
    refine ⟨fun ρ W f hf hf2 hr hS hs => ?_, fun ρ W f hf hf2 hr hS hs => ?_, fun ρ W f hf hf2 hr hS hs => ?_, fun ρ W f hf hf2 hr hS hs => ?_, fun ρ W f hf hf2 hr hS hs => ?_, fun ρ W f hf hf2 hr hS hs => ?_, fun ρ W f hf hf2 hr hS hs => ?_, fun ρ W f hf hf2 hr hS hs => ?_, fun ρ W f hf hf2 hr hS hs => ?_, fun ρ W f hf hf2 hr hS hs => ?_, fun ρ W f hf hf2 hr hS hs => ?_, fun ρ W f hf hf2 hr hS hs => ?_, fun ρ W f hf hf2 hr hS hs => ?_, trivial⟩
    · have hb := on_alloc W (.cells #[] 3)
      refine step_plain rfl (leaves_value (v := .slice (some ⟨W.heap.size, 0, none⟩) 0 0) (w' := W.alloc (.cells #[] 3)) ?_ ⟨⟨⟨_, rfl⟩, ownV_empty W _ _ hS.size⟩, by simpa using hS.on hb, hb⟩)
      simp [go_sem]
    · have h1 : ρ (.tmp 1) = ptr w.heap.size := hs.1
      refine step_plain rfl (leaves_value (v := .pointer (some ⟨w.heap.size, 7, none⟩)) (w' := W) ?_ ⟨rfl, by simpa using hS, Below.refl _ _⟩)
      simp [go_sem, h1]
    · have h26 : ρ (.tmp 26) = .pointer (some ⟨w.heap.size, 7, none⟩) := hs.1
      obtain rfl : f = true := hf (by kernel_rfl)
      have y7 := (hS.ahead rfl).cell 7 rfl
      refine step_plain rfl (leaves_value (v := .slice q m2.length d) (w' := W) ?_ ⟨rfl, by simpa using hS, Below.refl _ _⟩)
      simp [go_sem, h26, y7]
    · have h25 := hs.1
      have h27 : ρ (.tmp 27) = .slice q m2.length d := hs.2.1
      obtain rfl : f = true := hf (by kernel_rfl)
      obtain ⟨⟨b9, h25⟩, ho⟩ := h25
      change ρ (.tmp 25) = _ at h25
      change OwnV _ _ _ (ρ (.tmp 25)) _ at ho
      rw [h25] at ho
      obtain ⟨v9, W', hrun, hb9, ho9⟩ := append_copy elemInt (w.heap.size + 2) b9 q d (Go.Proofs.Ytmccfcllehfebaa.W.intsV m2) W (by rw [Go.Proofs.Ytmccfcllehfebaa.W.intsV_len]; have := HA.out.2.2.2; omega) (Go.Proofs.Ytmccfcllehfebaa.W.one_ints m2) ho hS.size (Go.Proofs.Ytmccfcllehfebaa.W.at_ints.1 (HA.out.2.2.1.on hS.below))
      rw [Go.Proofs.Ytmccfcllehfebaa.W.intsV_len] at hrun
      refine step_plain rfl (leaves_append (v := v9) (w' := W') (.tmp 25) (.tmp 27) 30 rfl ?_ ⟨ho9, by simpa using hS.on hb9, hb9⟩)
      rw [h25, h27]; exact hrun
    · have h1 : ρ (.tmp 1) = ptr w.heap.size := hs.1
      refine step_plain rfl (leaves_value (v := .pointer (some ⟨w.heap.size, 2, none⟩)) (w' := W) ?_ ⟨rfl, by simpa using hS, Below.refl _ _⟩)
      simp [go_sem, h1]
    · have h29 : ρ (.tmp 29) = .pointer (some ⟨w.heap.size, 2, none⟩) := hs.1
      refine step_plain rfl (leaves_value (v := .pointer (some ⟨w.heap.size, 4, none⟩)) (w' := W) ?_ ⟨rfl, by simpa using hS, Below.refl _ _⟩)
      simp [go_sem, h29]
    · have h30 : ρ (.tmp 30) = .pointer (some ⟨w.heap.size, 4, none⟩) := hs.1
      obtain rfl : f = true := hf (by kernel_rfl)
      have y4 := (hS.ahead rfl).cell 4 rfl
      have y5 := (hS.ahead rfl).cell 5 rfl
      refine step_plain rfl (leaves_value (v := .agg #[.bool x.all, .slice p l.length c]) (w' := W) ?_ ⟨rfl, by simpa using hS, Below.refl _ _⟩)
      simp [go_sem, h30, y4, y5]
    · have h31 : ρ (.tmp 31) = .agg #[.bool x.all, .slice p l.length c] := hs.1
      refine step_plain rfl (leaves_call1 en_own hr (.tmp 31) _ rfl h31 ((Go.Proofs.Ytmccfcllehfebaa.W.own_any x.all p c l W (by have := HA.out.2.1; omega) (HA.out.1.on hS.below)).mono ?_))
      rintro e W' ⟨hb9, p9, c9, rfl, hat9⟩
      exact ⟨_, rfl, ⟨p9, c9, rfl, (Go.Proofs.Ytmccfcllehfebaa.W.atF_ints.1 hat9).less hS.size⟩, by simpa using hS.on hb9, hb9⟩
    · have h1 : ρ (.tmp 1) = ptr w.heap.size := hs.1
      refine step_plain rfl (leaves_value (v := .pointer (some ⟨w.heap.size, 7, none⟩)) (w' := W) ?_ ⟨rfl, by simpa using hS, Below.refl _ _⟩)
      simp [go_sem, h1]
    · have h33 : ρ (.tmp 33) = .pointer (some ⟨w.heap.size, 7, none⟩) := hs.1
      have h28 := hs.2.1
      obtain rfl : f = true := hf (by kernel_rfl)
      change OwnV _ _ _ (ρ (.tmp 28)) _ at h28
      obtain ⟨p9, c9, e9, hat9, _⟩ := ownV_at h28
      rw [Go.Proofs.Ytmccfcllehfebaa.W.intsV_len] at e9
      have hB := hS.ahead rfl
      have y7 := hB.cell 7 rfl
      have f7 := hB.free 7
      refine step_plain rfl (leaves_skip (w' := W.setCell ⟨w.heap.size, 7, none⟩ (.slice p9 m2.length c9)) ?_ ⟨trivial, hS.first hat9, by show But _ _ _; exact but_set _ _ _ _⟩)
      simp [go_sem, h33, e9, y7, f7]
    · have h1 : ρ (.tmp 1) = ptr w.heap.size := hs.1
      refine step_plain rfl (leaves_value (v := .pointer (some ⟨w.heap.size, 2, none⟩)) (w' := W) ?_ ⟨rfl, by simpa using hS, Below.refl _ _⟩)
      simp [go_sem, h1]
    · have h34 : ρ (.tmp 34) = .pointer (some ⟨w.heap.size, 2, none⟩) := hs.1
      refine step_plain rfl (leaves_value (v := .pointer (some ⟨w.heap.size, 4, none⟩)) (w' := W) ?_ ⟨rfl, by simpa using hS, Below.refl _ _⟩)
      simp [go_sem, h34]
    · have h35 : ρ (.tmp 35) = .pointer (some ⟨w.heap.size, 4, none⟩) := hs.1
      have h32 := hs.2.1
      obtain rfl : f = false := hf2 (by kernel_rfl)
      obtain ⟨p8, c8, h32, hat8⟩ := h32
      change ρ (.tmp 32) = _ at h32
      obtain ⟨u4, u5, p9, c9, hB, hat9⟩ := hS.behind rfl
      have y4 := hB.cell 4 rfl
      have y5 := hB.cell 5 rfl
      have f4 := hB.free 4
      have f5 := hB.free 5
      refine step_plain rfl (leaves_skip (w' := (W.setCell ⟨w.heap.size, 4, none⟩ (.bool x.all)).setCell ⟨w.heap.size, 5, none⟩ (.slice p8 l.length c8)) ?_ ⟨second_kb hB hat9 hat8, by simpa using hS.second hB hat9, by show But _ _ _; exact (but_set _ _ _ _).trans (but_set _ _ _ _)⟩)
      simp [go_sem, h35, h32, y4, y5, f4, f5]
  case en =>
    intro f W hf hS v0 h0 v1 h1 v2 h2 v3 h3 v4 h4 v5 h5 v6 h6 v7 h7 v8 h8 h9 v10 h10 v11 h11 h12
    obtain rfl : f = false := hf (by decide)
    clear hf
    have e1 : v1 = .pointer (some ⟨w.heap.size, 7, none⟩) := h1 rfl
    subst v1
    have e2 : v2 = .slice q m2.length d := h2 rfl
    subst v2
    have e4 : v4 = .pointer (some ⟨w.heap.size, 2, none⟩) := h4 rfl
    subst v4
    have e5 : v5 = .pointer (some ⟨w.heap.size, 4, none⟩) := h5 rfl
    subst v5
    have e6 : v6 = .agg #[.bool x.all, .slice p l.length c] := h6 rfl
    subst v6
    have e8 : v8 = .pointer (some ⟨w.heap.size, 7, none⟩) := h8 rfl
    subst v8
    have e10 : v10 = .pointer (some ⟨w.heap.size, 2, none⟩) := h10 rfl
    subst v10
    have e11 : v11 = .pointer (some ⟨w.heap.size, 4, none⟩) := h11 rfl
    subst v11
    clear h1 h2 h4 h5 h6 h8 h9 h10 h11
    simp only [ends, Act.put, List.setIfInBounds_toArray, List.set_cons_succ, List.set_cons_zero]
    obtain ⟨p8, c8, p9, c9, hB, hat8, hat9⟩ := h12 rfl
    have hout := hS.out
    have HO : Hid (Blk W (w.heap.size + 1) 36 zAc) := hout
    have hBt := but_putL (w.heap.size + 1) (acC k0 d0 x (.slice p8 l.length c8) (.slice p9 m2.length c9)) W 0
    have HZ9 : Hid _ := HP.out _ p8 c8 p9 c9 (below_but hS.below hBt (by omega)) (Go.Proofs.Ytmccfcllehfebaa.W.atF_ints.2 (hat8.but hBt (by omega))) (Go.Proofs.Ytmccfcllehfebaa.W.atF_ints.2 (hat9.but hBt (by omega)))
    have a0 := hB.cell 0 rfl
    have a1 := hB.cell 1 rfl
    have a2 := hB.cell 2 rfl
    have a3 := hB.cell 3 rfl
    have a4 := hB.cell 4 rfl
    have a5 := hB.cell 5 rfl
    have a6 := hB.cell 6 rfl
    have a7 := hB.cell 7 rfl
    have g0 := hout.free 0
    have g1 := hout.free 1
    have g2 := hout.free 2
    have g3 := hout.free 3
    have g4 := hout.free 4
    have g5 := hout.free 5
    have g6 := hout.free 6
    have g7 := hout.free 7
    have b0 := hout.cell 0 rfl
    have b1 := hout.cell 1 rfl
    have b2 := hout.cell 2 rfl
    have b3 := hout.cell 3 rfl
    have b4 := hout.cell 4 rfl
    have b5 := hout.cell 5 rfl
    have b6 := hout.cell 6 rfl
    have b7 := hout.cell 7 rfl
    simp only [zS, Int.natCast_zero] at b0 b1 b2 b3 b4 b5 b6 b7
    clear HP HA HS0 hS hB hat8 hat9 hout hBt h0 h3 h7 h12
    go_wp2
    exact bodyPost_ret (results_blk (cs := acC k0 d0 x (.slice p8 l.length c8) (.slice p9 m2.length c9)) Try.isAgg36 infoA rfl _ _ rfl (HO.out.put (acC k0 d0 x (.slice p8 l.length c8) (.slice p9 m2.length c9)) rfl)) rfl HZ9.out
set_option maxRecDepth 100000 in
set_option maxHeartbeats 4000000 in
theorem own_sl (k0 d0 : Int) (x : Sl) (p q : Option Addr) (c d : Nat) (m : List Int) (w : World) (h : W.At w p x.ints) (h2 : W.At w q m) (hmd : m.length ≤ d) (h50 : x.ints.length ≤ 50) (h51 : 50 < m.length) :
    Calls Try.prog 19 #[.agg (acC k0 d0 x (.slice p x.ints.length c) (.slice q m.length d)).toArray] w (OwnPost w k0 d0 x m) := by
  change Calls Try.prog 19 #[.agg #[.int .i64 k0, .int .i64 d0, .int .i64 x.file, .int .u32 (x.rights : Int), .bool x.all, .slice p x.ints.length c, .int .i64 x.fc, .slice q m.length d]] w _
  have HP : Hid (∀ Y p c p' c', Below w.heap.size w Y → W.AtF (w.heap.size + 2) Y p (cut x.ints) → W.AtF (w.heap.size + 2) Y p' (cut m) → OwnPost w k0 d0 x m (.returned (.agg (acC k0 d0 x (.slice p (cut x.ints).length c) (.slice p' (cut m).length c')).toArray)) Y) := fun Y p c p' c' h1 h2 h3 => ⟨h1, p, c, p', c', rfl, h2, h3⟩
  generalize OwnPost w k0 d0 x m = Post at *
  have HB : Hid (Below w.heap.size w ((w.alloc (.cells #[.int .i64 k0, .int .i64 d0, .int .i64 x.file, .int .u32 (x.rights : Int), .bool x.all, .slice p x.ints.length c, .int .i64 x.fc, .slice q m.length d] 36)).alloc (.cells #[.int .i64 0, .int .i64 0, .int .i64 0, .int .u32 0, .bool false, .slice none 0 0, .int .i64 0, .slice none 0 0] 36))) := on_trans (on_alloc w _) (on_alloc _ _)
  have hX : Blk ((w.alloc (.cells #[.int .i64 k0, .int .i64 d0, .int .i64 x.file, .int .u32 (x.rights : Int), .bool x.all, .slice p x.ints.length c, .int .i64 x.fc, .slice q m.length d] 36)).alloc (.cells #[.int .i64 0, .int .i64 0, .int .i64 0, .int .u32 0, .bool false, .slice none 0 0, .int .i64 0, .slice none 0 0] 36)) w.heap.size 36 (acC k0 d0 x (.slice p x.ints.length c) (.slice q m.length d)) := (Blk.new w _ (acC k0 d0 x (.slice p x.ints.length c) (.slice q m.length d))).alloc _
  have hZ : Blk ((w.alloc (.cells #[.int .i64 k0, .int .i64 d0, .int .i64 x.file, .int .u32 (x.rights : Int), .bool x.all, .slice p x.ints.length c, .int .i64 x.fc, .slice q m.length d] 36)).alloc (.cells #[.int .i64 0, .int .i64 0, .int .i64 0, .int .u32 0, .bool false, .slice none 0 0, .int .i64 0, .slice none 0 0] 36)) (w.heap.size + 1) 36 zAc := by
    have := Blk.new (w.alloc (.cells #[.int .i64 k0, .int .i64 d0, .int .i64 x.file, .int .u32 (x.rights : Int), .bool x.all, .slice p x.ints.length c, .int .i64 x.fc, .slice q m.length d] 36)) 36 zAc
    rwa [World.size_alloc] at this
  have hsz : w.heap.size + 2 ≤ ((w.alloc (.cells #[.int .i64 k0, .int .i64 d0, .int .i64 x.file, .int .u32 (x.rights : Int), .bool x.all, .slice p x.ints.length c, .int .i64 x.fc, .slice q m.length d] 36)).alloc (.cells #[.int .i64 0, .int .i64 0, .int .i64 0, .int .u32 0, .bool false, .slice none 0 0, .int .i64 0, .slice none 0 0] 36)).heap.size := by simp
  have HX : Hid _ := hX
  have HZ : Hid _ := hZ
  have HSZ : Hid _ := hsz
  have x5 := hX.cell 5 rfl
  have x7 := hX.cell 7 rfl
  have f5 := hX.free 5
  have f7 := hX.free 7
  have hlz : ¬ (50 : Int) < (x.ints.length : Int) := by omega
  have hcl : cut x.ints = x.ints := cut_short h50
  have hmz : (50 : Int) < (m.length : Int) := by omega
  have hmd2 : 50 ≤ d := by omega
  have hm2 : (50 : Int) ≤ (d : Int) := by omega
  have hcm : (cut m).length = 50 := by simp [cut]; omega
  obtain ⟨qb, qo, hq, _⟩ := h2.resolve_left (fun e => by rw [e] at h51; simp at h51)
  subst hq
  have HA0 : Hid (W.At w p (cut x.ints) ∧ (cut x.ints).length ≤ 50 ∧ W.At w (some ⟨qb, qo, none⟩) (cut m) ∧ (cut m).length ≤ 50) := ⟨W.at_ints.2 (by rw [show W.intsV (cut x.ints) = (W.intsV x.ints).take 50 from List.map_take]; exact (W.at_ints.1 h).take 50), cut_len _, W.at_ints.2 (by rw [show W.intsV (cut m) = (W.intsV m).take 50 from List.map_take]; exact (W.at_ints.1 h2).take 50), cut_len _⟩
  clear h h2 hX hZ hsz
  go_enter Try.func19, Try.ntmps19
  go_wp2
  have hX2 : Blk ((w.alloc (.cells #[.int .i64 k0, .int .i64 d0, .int .i64 x.file, .int .u32 (x.rights : Int), .bool x.all, .slice p x.ints.length c, .int .i64 x.fc, .slice (some ⟨qb, qo, none⟩) 50 d] 36)).alloc (.cells #[.int .i64 0, .int .i64 0, .int .i64 0, .int .u32 0, .bool false, .slice none 0 0, .int .i64 0, .slice none 0 0] 36)) w.heap.size 36 (acC k0 d0 x (.slice p (cut x.ints).length c) (.slice (some ⟨qb, qo, none⟩) (cut m).length d)) := by
    rw [hcl, hcm]
    exact (Blk.new w 36 (acC k0 d0 x (.slice p x.ints.length c) (.slice (some ⟨qb, qo, none⟩) 50 d))).alloc _
  have hZ2 : Blk ((w.alloc (.cells #[.int .i64 k0, .int .i64 d0, .int .i64 x.file, .int .u32 (x.rights : Int), .bool x.all, .slice p x.ints.length c, .int .i64 x.fc, .slice (some ⟨qb, qo, none⟩) 50 d] 36)).alloc (.cells #[.int .i64 0, .int .i64 0, .int .i64 0, .int .u32 0, .bool false, .slice none 0 0, .int .i64 0, .slice none 0 0] 36)) (w.heap.size + 1) 36 zAc := by
    have := Blk.new (w.alloc (.cells #[.int .i64 k0, .int .i64 d0, .int .i64 x.file, .int .u32 (x.rights : Int), .bool x.all, .slice p x.ints.length c, .int .i64 x.fc, .slice (some ⟨qb, qo, none⟩) 50 d] 36)) 36 zAc
    rwa [World.size_alloc] at this
  have HS0 : Hid (ownS w k0 d0 x p c (cut x.ints) (some ⟨qb, qo, none⟩) d (cut m) true ((w.alloc (.cells #[.int .i64 k0, .int .i64 d0, .int .i64 x.file, .int .u32 (x.rights : Int), .bool x.all, .slice p x.ints.length c, .int .i64 x.fc, .slice (some ⟨qb, qo, none⟩) 50 d] 36)).alloc (.cells #[.int .i64 0, .int .i64 0, .int .i64 0, .int .u32 0, .bool false, .slice none 0 0, .int .i64 0, .slice none 0 0] 36)).drew) := ⟨on_drew (on_trans (on_alloc w _) (on_alloc _ _)), by show _ ≤ ((w.alloc _).alloc _).heap.size; simp, hZ2.drew, fun _ => hX2.drew, (fun h => by cases h)⟩
  have HA : Hid _ := HA0.out
  clear hX2 hZ2 HB HX HZ HSZ x5 x7 f5 f7 HA0 hcl hcm
  generalize (w.alloc (.cells #[.int .i64 k0, .int .i64 d0, .int .i64 x.file, .int .u32 (x.rights : Int), .bool x.all, .slice p x.ints.length c, .int .i64 x.fc, .slice (some ⟨qb, qo, none⟩) 50 d] 36)).alloc (.cells #[.int .i64 0, .int .i64 0, .int .i64 0, .int .u32 0, .bool false, .slice none 0 0, .int .i64 0, .slice none 0 0] 36) = w0 at *
  generalize cut x.ints = l at *
  generalize cut m = m2 at *
  refine wp_region_three (S := ownS w k0 d0 x p c l (some ⟨qb, qo, none⟩) d m2) (u := 9) (Keep := KeepK [(9, w.heap.size), (12, w.heap.size)])
    (g := fun jj vv WW => (([.mt 3, .is (.pointer (some ⟨w.heap.size, 7, none⟩)), .is (.slice (some ⟨qb, qo, none⟩) m2.length d), .own 3 (Go.Proofs.Ytmccfcllehfebaa.W.intsV m2), .is (.pointer (some ⟨w.heap.size, 2, none⟩)), .is (.pointer (some ⟨w.heap.size, 4, none⟩)), .is (.agg #[.bool x.all, .slice p l.length c]), kl x.all l, .is (.pointer (some ⟨w.heap.size, 7, none⟩)), .any, .is (.pointer (some ⟨w.heap.size, 2, none⟩)), .is (.pointer (some ⟨w.heap.size, 4, none⟩)), kb x k0 d0 m2 l] : List (Kd (w.heap.size + 2))).getD jj Kd.any).ok vv WW)
    (tab := [[], [(1, none)], [(26, some 1)], [(25, some 0), (27, some 2)], [(1, none)], [(29, some 4)], [(30, some 5)], [(31, some 6)], [(1, none)], [(33, some 8), (28, some 3)], [(1, none)], [(34, some 10)], [(35, some 11), (32, some 7)]]) (tl := []) (n := 37)
    (by kernel_rfl) rfl (by kernel_rfl) (keep_ed ?k) (HS0.out) ?st ?en
  case k =>
    intro i b hb
    obtain ⟨hi, rfl⟩ : (i = 9 ∨ i = 12) ∧ b = w.heap.size := by
      simp only [List.lookup] at hb
      split at hb
      · rename_i h7
        exact ⟨.inl (by simpa using h7), by simpa using hb.symm⟩
      · split at hb
        · rename_i h7
          exact ⟨.inr (by simpa using h7), by simpa using hb.symm⟩
        · cases hb
    refine ⟨by omega, fun j hj => ?_⟩
    match j, hj with
    | 0, _ | 1, _ | 2, _ | 3, _ | 4, _ | 5, _ | 6, _ | 7, _ | 8, _ | 9, _ | 10, _ | 11, _ => exact .inl (blk_none rfl)
    | 12, hj =>
      rcases hi with rfl | rfl
      · exact .inr (by kernel_rfl)
      · exact absurd rfl hj
    | j + 13, _ => exact .inl (blk_none rfl)
  case st =>
    refine ⟨fun ρ W f hf hf2 hr hS hs => ?_, fun ρ W f hf hf2 hr hS hs => ?_, fun ρ W f hf hf2 hr hS hs => ?_, fun ρ W f hf hf2 hr hS hs => ?_, fun ρ W f hf hf2 hr hS hs => ?_, fun ρ W f hf hf2 hr hS hs => ?_, fun ρ W f hf hf2 hr hS hs => ?_, fun ρ W f hf hf2 hr hS hs => ?_, fun ρ W f hf hf2 hr hS hs => ?_, fun ρ W f hf hf2 hr hS hs => ?_, fun ρ W f hf hf2 hr hS hs => ?_, fun ρ W f hf hf2 hr hS hs => ?_, fun ρ W f hf hf2 hr hS hs => ?_, trivial⟩
    · have hb := on_alloc W (.cells #[] 3)
      refine step_plain rfl (leaves_value (v := .slice (some ⟨W.heap.size, 0, none⟩) 0 0) (w' := W.alloc (.cells #[] 3)) ?_ ⟨⟨⟨_, rfl⟩, ownV_empty W _ _ hS.size⟩, by simpa using hS.on hb, hb⟩)
      simp [go_sem]
    · have h1 : ρ (.tmp 1) = ptr w.heap.size := hs.1
      refine step_plain rfl (leaves_value (v := .pointer (some ⟨w.heap.size, 7, none⟩)) (w' := W) ?_ ⟨rfl, by simpa using hS, Below.refl _ _⟩)
      simp [go_sem, h1]
    · have h26 : ρ (.tmp 26) = .pointer (some ⟨w.heap.size, 7, none⟩) := hs.1
      obtain rfl : f = true := hf (by kernel_rfl)
      have y7 := (hS.ahead rfl).cell 7 rfl
      refine step_plain rfl (leaves_value (v := .slice (some ⟨qb, qo, none⟩) m2.length d) (w' := W) ?_ ⟨rfl, by simpa using hS, Below.refl _ _⟩)
      simp [go_sem, h26, y7]
    · have h25 := hs.1
      have h27 : ρ (.tmp 27) = .slice (some ⟨qb, qo, none⟩) m2.length d := hs.2.1
      obtain rfl : f = true := hf (by kernel_rfl)
      obtain ⟨⟨b9, h25⟩, ho⟩ := h25
      change ρ (.tmp 25) = _ at h25
      change OwnV _ _ _ (ρ (.tmp 25)) _ at ho
      rw [h25] at ho
      obtain ⟨v9, W', hrun, hb9, ho9⟩ := append_copy elemInt (w.heap.size + 2) b9 (some ⟨qb, qo, none⟩) d (Go.Proofs.Ytmccfcllehfebaa.W.intsV m2) W (by rw [Go.Proofs.Ytmccfcllehfebaa.W.intsV_len]; have := HA.out.2.2.2; omega) (Go.Proofs.Ytmccfcllehfebaa.W.one_ints m2) ho hS.size (Go.Proofs.Ytmccfcllehfebaa.W.at_ints.1 (HA.out.2.2.1.on hS.below))
      rw [Go.Proofs.Ytmccfcllehfebaa.W.intsV_len] at hrun
      refine step_plain rfl (leaves_append (v := v9) (w' := W') (.tmp 25) (.tmp 27) 30 rfl ?_ ⟨ho9, by simpa using hS.on hb9, hb9⟩)
      rw [h25, h27]; exact hrun
    · have h1 : ρ (.tmp 1) = ptr w.heap.size := hs.1
      refine step_plain rfl (leaves_value (v := .pointer (some ⟨w.heap.size, 2, none⟩)) (w' := W) ?_ ⟨rfl, by simpa using hS, Below.refl _ _⟩)
      simp [go_sem, h1]
    · have h29 : ρ (.tmp 29) = .pointer (some ⟨w.heap.size, 2, none⟩) := hs.1
      refine step_plain rfl (leaves_value (v := .pointer (some ⟨w.heap.size, 4, none⟩)) (w' := W) ?_ ⟨rfl, by simpa using hS, Below.refl _ _⟩)
      simp [go_sem, h29]
    · have h30 : ρ (.tmp 30) = .pointer (some ⟨w.heap.size, 4, none⟩) := hs.1
      obtain rfl : f = true := hf (by kernel_rfl)
      have y4 := (hS.ahead rfl).cell 4 rfl
      have y5 := (hS.ahead rfl).cell 5 rfl
      refine step_plain rfl (leaves_value (v := .agg #[.bool x.all, .slice p l.length c]) (w' := W) ?_ ⟨rfl, by simpa using hS, Below.refl _ _⟩)
      simp [go_sem, h30, y4, y5]
    · have h31 : ρ (.tmp 31) = .agg #[.bool x.all, .slice p l.length c] := hs.1
      refine step_plain rfl (leaves_call1 en_own hr (.tmp 31) _ rfl h31 ((Go.Proofs.Ytmccfcllehfebaa.W.own_any x.all p c l W (by have := HA.out.2.1; omega) (HA.out.1.on hS.below)).mono ?_))
      rintro e W' ⟨hb9, p9, c9, rfl, hat9⟩
      exact ⟨_, rfl, ⟨p9, c9, rfl, (Go.Proofs.Ytmccfcllehfebaa.W.atF_ints.1 hat9).less hS.size⟩, by simpa using hS.on hb9, hb9⟩
    · have h1 : ρ (.tmp 1) = ptr w.heap.size := hs.1
      refine step_plain rfl (leaves_value (v := .pointer (some ⟨w.heap.size, 7, none⟩)) (w' := W) ?_ ⟨rfl, by simpa using hS, Below.refl _ _⟩)
      simp [go_sem, h1]
    · have h33 : ρ (.tmp 33) = .pointer (some ⟨w.heap.size, 7, none⟩) := hs.1
      have h28 := hs.2.1
      obtain rfl : f = true := hf (by kernel_rfl)
      change OwnV _ _ _ (ρ (.tmp 28)) _ at h28
      obtain ⟨p9, c9, e9, hat9, _⟩ := ownV_at h28
      rw [Go.Proofs.Ytmccfcllehfebaa.W.intsV_len] at e9
      have hB := hS.ahead rfl
      have y7 := hB.cell 7 rfl
      have f7 := hB.free 7
      refine step_plain rfl (leaves_skip (w' := W.setCell ⟨w.heap.size, 7, none⟩ (.slice p9 m2.length c9)) ?_ ⟨trivial, hS.first hat9, by show But _ _ _; exact but_set _ _ _ _⟩)
      simp [go_sem, h33, e9, y7, f7]
    · have h1 : ρ (.tmp 1) = ptr w.heap.size := hs.1
      refine step_plain rfl (leaves_value (v := .pointer (some ⟨w.heap.size, 2, none⟩)) (w' := W) ?_ ⟨rfl, by simpa using hS, Below.refl _ _⟩)
      simp [go_sem, h1]
    · have h34 : ρ (.tmp 34) = .pointer (some ⟨w.heap.size, 2, none⟩) := hs.1
      refine step_plain rfl (leaves_value (v := .pointer (some ⟨w.heap.size, 4, none⟩)) (w' := W) ?_ ⟨rfl, by simpa using hS, Below.refl _ _⟩)
      simp [go_sem, h34]
    · have h35 : ρ (.tmp 35) = .pointer (some ⟨w.heap.size, 4, none⟩) := hs.1
      have h32 := hs.2.1
      obtain rfl : f = false := hf2 (by kernel_rfl)
      obtain ⟨p8, c8, h32, hat8⟩ := h32
      change ρ (.tmp 32) = _ at h32
      obtain ⟨u4, u5, p9, c9, hB, hat9⟩ := hS.behind rfl
      have y4 := hB.cell 4 rfl
      have y5 := hB.cell 5 rfl
      have f4 := hB.free 4
      have f5 := hB.free 5
      refine step_plain rfl (leaves_skip (w' := (W.setCell ⟨w.heap.size, 4, none⟩ (.bool x.all)).setCell ⟨w.heap.size, 5, none⟩ (.slice p8 l.length c8)) ?_ ⟨second_kb hB hat9 hat8, by simpa using hS.second hB hat9, by show But _ _ _; exact (but_set _ _ _ _).trans (but_set _ _ _ _)⟩)
      simp [go_sem, h35, h32, y4, y5, f4, f5]
  case en =>
    intro f W hf hS v0 h0 v1 h1 v2 h2 v3 h3 v4 h4 v5 h5 v6 h6 v7 h7 v8 h8 h9 v10 h10 v11 h11 h12
    obtain rfl : f = false := hf (by decide)
    clear hf
    have e1 : v1 = .pointer (some ⟨w.heap.size, 7, none⟩) := h1 rfl
    subst v1
    have e2 : v2 = .slice (some ⟨qb, qo, none⟩) m2.length d := h2 rfl
    subst v2
    have e4 : v4 = .pointer (some ⟨w.heap.size, 2, none⟩) := h4 rfl
    subst v4
    have e5 : v5 = .pointer (some ⟨w.heap.size, 4, none⟩) := h5 rfl
    subst v5
    have e6 : v6 = .agg #[.bool x.all, .slice p l.length c] := h6 rfl
    subst v6
    have e8 : v8 = .pointer (some ⟨w.heap.size, 7, none⟩) := h8 rfl
    subst v8
    have e10 : v10 = .pointer (some ⟨w.heap.size, 2, none⟩) := h10 rfl
    subst v10
    have e11 : v11 = .pointer (some ⟨w.heap.size, 4, none⟩) := h11 rfl
    subst v11
    clear h1 h2 h4 h5 h6 h8 h9 h10 h11
    simp only [ends, Act.put, List.setIfInBounds_toArray, List.set_cons_succ, List.set_cons_zero]
    obtain ⟨p8, c8, p9, c9, hB, hat8, hat9⟩ := h12 rfl
    have hout := hS.out
    have HO : Hid (Blk W (w.heap.size + 1) 36 zAc) := hout
    have hBt := but_putL (w.heap.size + 1) (acC k0 d0 x (.slice p8 l.length c8) (.slice p9 m2.length c9)) W 0
    have HZ9 : Hid _ := HP.out _ p8 c8 p9 c9 (below_but hS.below hBt (by omega)) (Go.Proofs.Ytmccfcllehfebaa.W.atF_ints.2 (hat8.but hBt (by omega))) (Go.Proofs.Ytmccfcllehfebaa.W.atF_ints.2 (hat9.but hBt (by omega)))
    have a0 := hB.cell 0 rfl
    have a1 := hB.cell 1 rfl
    have a2 := hB.cell 2 rfl
    have a3 := hB.cell 3 rfl
    have a4 := hB.cell 4 rfl
    have a5 := hB.cell 5 rfl
    have a6 := hB.cell 6 rfl
    have a7 := hB.cell 7 rfl
    have g0 := hout.free 0
    have g1 := hout.free 1
    have g2 := hout.free 2
    have g3 := hout.free 3
    have g4 := hout.free 4
    have g5 := hout.free 5
    have g6 := hout.free 6
    have g7 := hout.free 7
    have b0 := hout.cell 0 rfl
    have b1 := hout.cell 1 rfl
    have b2 := hout.cell 2 rfl
    have b3 := hout.cell 3 rfl
    have b4 := hout.cell 4 rfl
    have b5 := hout.cell 5 rfl
    have b6 := hout.cell 6 rfl
    have b7 := hout.cell 7 rfl
    simp only [zS, Int.natCast_zero] at b0 b1 b2 b3 b4 b5 b6 b7
    clear HP HA HS0 hS hB hat8 hat9 hout hBt h0 h3 h7 h12
    go_wp2
    exact bodyPost_ret (results_blk (cs := acC k0 d0 x (.slice p8 l.length c8) (.slice p9 m2.length c9)) Try.isAgg36 infoA rfl _ _ rfl (HO.out.put (acC k0 d0 x (.slice p8 l.length c8) (.slice p9 m2.length c9)) rfl)) rfl HZ9.out
set_option maxRecDepth 100000 in
set_option maxHeartbeats 4000000 in
theorem own_ls (k0 d0 : Int) (x : Sl) (p q : Option Addr) (c d : Nat) (m : List Int) (w : World) (h : W.At w p x.ints) (h2 : W.At w q m) (hlc : x.ints.length ≤ c) (h50 : 50 < x.ints.length) (h51 : m.length ≤ 50) :
    Calls Try.prog 19 #[.agg (acC k0 d0 x (.slice p x.ints.length c) (.slice q m.length d)).toArray] w (OwnPost w k0 d0 x m) := by
  change Calls Try.prog 19 #[.agg #[.int .i64 k0, .int .i64 d0, .int .i64 x.file, .int .u32 (x.rights : Int), .bool x.all, .slice p x.ints.length c, .int .i64 x.fc, .slice q m.length d]] w _
  have HP : Hid (∀ Y p c p' c', Below w.heap.size w Y → W.AtF (w.heap.size + 2) Y p (cut x.ints) → W.AtF (w.heap.size + 2) Y p' (cut m) → OwnPost w k0 d0 x m (.returned (.agg (acC k0 d0 x (.slice p (cut x.ints).length c) (.slice p' (cut m).length c')).toArray)) Y) := fun Y p c p' c' h1 h2 h3 => ⟨h1, p, c, p', c', rfl, h2, h3⟩
  generalize OwnPost w k0 d0 x m = Post at *
  have HB : Hid (Below w.heap.size w ((w.alloc (.cells #[.int .i64 k0, .int .i64 d0, .int .i64 x.file, .int .u32 (x.rights : Int), .bool x.all, .slice p x.ints.length c, .int .i64 x.fc, .slice q m.length d] 36)).alloc (.cells #[.int .i64 0, .int .i64 0, .int .i64 0, .int .u32 0, .bool false, .slice none 0 0, .int .i64 0, .slice none 0 0] 36))) := on_trans (on_alloc w _) (on_alloc _ _)
  have hX : Blk ((w.alloc (.cells #[.int .i64 k0, .int .i64 d0, .int .i64 x.file, .int .u32 (x.rights : Int), .bool x.all, .slice p x.ints.length c, .int .i64 x.fc, .slice q m.length d] 36)).alloc (.cells #[.int .i64 0, .int .i64 0, .int .i64 0, .int .u32 0, .bool false, .slice none 0 0, .int .i64 0, .slice none 0 0] 36)) w.heap.size 36 (acC k0 d0 x (.slice p x.ints.length c) (.slice q m.length d)) := (Blk.new w _ (acC k0 d0 x (.slice p x.ints.length c) (.slice q m.length d))).alloc _
  have hZ : Blk ((w.alloc (.cells #[.int .i64 k0, .int .i64 d0, .int .i64 x.file, .int .u32 (x.rights : Int), .bool x.all, .slice p x.ints.length c, .int .i64 x.fc, .slice q m.length d] 36)).alloc (.cells #[.int .i64 0, .int .i64 0, .int .i64 0, .int .u32 0, .bool false, .slice none 0 0, .int .i64 0, .slice none 0 0] 36)) (w.heap.size + 1) 36 zAc := by
    have := Blk.new (w.alloc (.cells #[.int .i64 k0, .int .i64 d0, .int .i64 x.file, .int .u32 (x.rights : Int), .bool x.all, .slice p x.ints.length c, .int .i64 x.fc, .slice q m.length d] 36)) 36 zAc
    rwa [World.size_alloc] at this
  have hsz : w.heap.size + 2 ≤ ((w.alloc (.cells #[.int .i64 k0, .int .i64 d0, .int .i64 x.file, .int .u32 (x.rights : Int), .bool x.all, .slice p x.ints.length c, .int .i64 x.fc, .slice q m.length d] 36)).alloc (.cells #[.int .i64 0, .int .i64 0, .int .i64 0, .int .u32 0, .bool false, .slice none 0 0, .int .i64 0, .slice none 0 0] 36)).heap.size := by simp
  have HX : Hid _ := hX
  have HZ : Hid _ := hZ
  have HSZ : Hid _ := hsz
  have x5 := hX.cell 5 rfl
  have x7 := hX.cell 7 rfl
  have f5 := hX.free 5
  have f7 := hX.free 7
  have hlz : (50 : Int) < (x.ints.length : Int) := by omega
  have hlc2 : 50 ≤ c := by omega
  have hl2 : (50 : Int) ≤ (c : Int) := by omega
  have hcl : (cut x.ints).length = 50 := by simp [cut]; omega
  obtain ⟨pb, po, hp, _⟩ := h.resolve_left (fun e => by rw [e] at h50; simp at h50)
  subst hp
  have hmz : ¬ (50 : Int) < (m.length : Int) := by omega
  have hcm : cut m = m := cut_short h51
  have HA0 : Hid (W.At w (some ⟨pb, po, none⟩) (cut x.ints) ∧ (cut x.ints).length ≤ 50 ∧ W.At w q (cut m) ∧ (cut m).length ≤ 50) := ⟨W.at_ints.2 (by rw [show W.intsV (cut x.ints) = (W.intsV x.ints).take 50 from List.map_take]; exact (W.at_ints.1 h).take 50), cut_len _, W.at_ints.2 (by rw [show W.intsV (cut m) = (W.intsV m).take 50 from List.map_take]; exact (W.at_ints.1 h2).take 50), cut_len _⟩
  clear h h2 hX hZ hsz
  go_enter Try.func19, Try.ntmps19
  go_wp2
  have hX2 : Blk ((w.alloc (.cells #[.int .i64 k0, .int .i64 d0, .int .i64 x.file, .int .u32 (x.rights : Int), .bool x.all, .slice (some ⟨pb, po, none⟩) 50 c, .int .i64 x.fc, .slice q m.length d] 36)).alloc (.cells #[.int .i64 0, .int .i64 0, .int .i64 0, .int .u32 0, .bool false, .slice none 0 0, .int .i64 0, .slice none 0 0] 36)) w.heap.size 36 (acC k0 d0 x (.slice (some ⟨pb, po, none⟩) (cut x.ints).length c) (.slice q (cut m).length d)) := by
    rw [hcl, hcm]
    exact (Blk.new w 36 (acC k0 d0 x (.slice (some ⟨pb, po, none⟩) 50 c) (.slice q m.length d))).alloc _
  have hZ2 : Blk ((w.alloc (.cells #[.int .i64 k0, .int .i64 d0, .int .i64 x.file, .int .u32 (x.rights : Int), .bool x.all, .slice (some ⟨pb, po, none⟩) 50 c, .int .i64 x.fc, .slice q m.length d] 36)).alloc (.cells #[.int .i64 0, .int .i64 0, .int .i64 0, .int .u32 0, .bool false, .slice none 0 0, .int .i64 0, .slice none 0 0] 36)) (w.heap.size + 1) 36 zAc := by
    have := Blk.new (w.alloc (.cells #[.int .i64 k0, .int .i64 d0, .int .i64 x.file, .int .u32 (x.rights : Int), .bool x.all, .slice (some ⟨pb, po, none⟩) 50 c, .int .i64 x.fc, .slice q m.length d] 36)) 36 zAc
    rwa [World.size_alloc] at this
  have HS0 : Hid (ownS w k0 d0 x (some ⟨pb, po, none⟩) c (cut x.ints) q d (cut m) true ((w.alloc (.cells #[.int .i64 k0, .int .i64 d0, .int .i64 x.file, .int .u32 (x.rights : Int), .bool x.all, .slice (some ⟨pb, po, none⟩) 50 c, .int .i64 x.fc, .slice q m.length d] 36)).alloc (.cells #[.int .i64 0, .int .i64 0, .int .i64 0, .int .u32 0, .bool false, .slice none 0 0, .int .i64 0, .slice none 0 0] 36)).drew) := ⟨on_drew (on_trans (on_alloc w _) (on_alloc _ _)), by show _ ≤ ((w.alloc _).alloc _).heap.size; simp, hZ2.drew, fun _ => hX2.drew, (fun h => by cases h)⟩
  have HA : Hid _ := HA0.out
  clear hX2 hZ2 HB HX HZ HSZ x5 x7 f5 f7 HA0 hcl hcm
  generalize (w.alloc (.cells #[.int .i64 k0, .int .i64 d0, .int .i64 x.file, .int .u32 (x.rights : Int), .bool x.all, .slice (some ⟨pb, po, none⟩) 50 c, .int .i64 x.fc, .slice q m.length d] 36)).alloc (.cells #[.int .i64 0, .int .i64 0, .int .i64 0, .int .u32 0, .bool false, .slice none 0 0, .int .i64 0, .slice none 0 0] 36) = w0 at *
  generalize cut x.ints = l at *
  generalize cut m = m2 at *
  refine wp_region_three (S := ownS w k0 d0 x (some ⟨pb, po, none⟩) c l q d m2) (u := 9) (Keep := KeepK [(9, w.heap.size), (12, w.heap.size)])
    (g := fun jj vv WW => (([.mt 3, .is (.pointer (some ⟨w.heap.size, 7, none⟩)), .is (.slice q m2.length d), .own 3 (Go.Proofs.Ytmccfcllehfebaa.W.intsV m2), .is (.pointer (some ⟨w.heap.size, 2, none⟩)), .is (.pointer (some ⟨w.heap.size, 4, none⟩)), .is (.agg #[.bool x.all, .slice (some ⟨pb, po, none⟩) l.length c]), kl x.all l, .is (.pointer (some ⟨w.heap.size, 7, none⟩)), .any, .is (.pointer (some ⟨w.heap.size, 2, none⟩)), .is (.pointer (some ⟨w.heap.size, 4, none⟩)), kb x k0 d0 m2 l] : List (Kd (w.heap.size + 2))).getD jj Kd.any).ok vv WW)
    (tab := [[], [(1, none)], [(26, some 1)], [(25, some 0), (27, some 2)], [(1, none)], [(29, some 4)], [(30, some 5)], [(31, some 6)], [(1, none)], [(33, some 8), (28, some 3)], [(1, none)], [(34, some 10)], [(35, some 11), (32, some 7)]]) (tl := []) (n := 37)
    (by kernel_rfl) rfl (by kernel_rfl) (keep_ed ?k) (HS0.out) ?st ?en
  case k =>
    intro i b hb
    obtain ⟨hi, rfl⟩ : (i = 9 ∨ i = 12) ∧ b = w.heap.size := by
      simp only [List.lookup] at hb
      split at hb
      · rename_i h7
        exact ⟨.inl (by simpa using h7), by simpa using hb.symm⟩
      · split at hb
        · rename_i h7
          exact ⟨.inr (by simpa using h7), by simpa using hb.symm⟩
        · cases hb
    refine ⟨by omega, fun j hj => ?_⟩
    match j, hj with
    | 0, _ | 1, _ | 2, _ | 3, _ | 4, _ | 5, _ | 6, _ | 7, _ | 8, _ | 9, _ | 10, _ | 11, _ => exact .inl (blk_none rfl)
    | 12, hj =>
      rcases hi with rfl | rfl
      · exact .inr (by kernel_rfl)
      · exact absurd rfl hj
    | j + 13, _ => exact .inl (blk_none rfl)
  case st =>
    refine ⟨fun ρ W f hf hf2 hr hS hs => ?_, fun ρ W f hf hf2 hr hS hs => ?_, fun ρ W f hf hf2 hr hS hs => ?_, fun ρ W f hf hf2 hr hS hs => ?_, fun ρ W f hf hf2 hr hS hs => ?_, fun ρ W f hf hf2 hr hS hs => ?_, fun ρ W f hf hf2 hr hS hs => ?_, fun ρ W f hf hf2 hr hS hs => ?_, fun ρ W f hf hf2 hr hS hs => ?_, fun ρ W f hf hf2 hr hS hs => ?_, fun ρ W f hf hf2 hr hS hs => ?_, fun ρ W f hf hf2 hr hS hs => ?_, fun ρ W f hf hf2 hr hS hs => ?_, trivial⟩
    · have hb := on_alloc W (.cells #[] 3)
      refine step_plain rfl (leaves_value (v := .slice (some ⟨W.heap.size, 0, none⟩) 0 0) (w' := W.alloc (.cells #[] 3)) ?_ ⟨⟨⟨_, rfl⟩, ownV_empty W _ _ hS.size⟩, by simpa using hS.on hb, hb⟩)
      simp [go_sem]
    · have h1 : ρ (.tmp 1) = ptr w.heap.size := hs.1
      refine step_plain rfl (leaves_value (v := .pointer (some ⟨w.heap.size, 7, none⟩)) (w' := W) ?_ ⟨rfl, by simpa using hS, Below.refl _ _⟩)
      simp [go_sem, h1]
    · have h26 : ρ (.tmp 26) = .pointer (some ⟨w.heap.size, 7, none⟩) := hs.1
      obtain rfl : f = true := hf (by kernel_rfl)
      have y7 := (hS.ahead rfl).cell 7 rfl
      refine step_plain rfl (leaves_value (v := .slice q m2.length d) (w' := W) ?_ ⟨rfl, by simpa using hS, Below.refl _ _⟩)
      simp [go_sem, h26, y7]
    · have h25 := hs.1
      have h27 : ρ (.tmp 27) = .slice q m2.length d := hs.2.1
      obtain rfl : f = true := hf (by kernel_rfl)
      obtain ⟨⟨b9, h25⟩, ho⟩ := h25
      change ρ (.tmp 25) = _ at h25
      change OwnV _ _ _ (ρ (.tmp 25)) _ at ho
      rw [h25] at ho
      obtain ⟨v9, W', hrun, hb9, ho9⟩ := append_copy elemInt (w.heap.size + 2) b9 q d (Go.Proofs.Ytmccfcllehfebaa.W.intsV m2) W (by rw [Go.Proofs.Ytmccfcllehfebaa.W.intsV_len]; have := HA.out.2.2.2; omega) (Go.Proofs.Ytmccfcllehfebaa.W.one_ints m2) ho hS.size (Go.Proofs.Ytmccfcllehfebaa.W.at_ints.1 (HA.out.2.2.1.on hS.below))
      rw [Go.Proofs.Ytmccfcllehfebaa.W.intsV_len] at hrun
      refine step_plain rfl (leaves_append (v := v9) (w' := W') (.tmp 25) (.tmp 27) 30 rfl ?_ ⟨ho9, by simpa using hS.on hb9, hb9⟩)
      rw [h25, h27]; exact hrun
    · have h1 : ρ (.tmp 1) = ptr w.heap.size := hs.1
      refine step_plain rfl (leaves_value (v := .pointer (some ⟨w.heap.size, 2, none⟩)) (w' := W) ?_ ⟨rfl, by simpa using hS, Below.refl _ _⟩)
      simp [go_sem, h1]
    · have h29 : ρ (.tmp 29) = .pointer (some ⟨w.heap.size, 2, none⟩) := hs.1
      refine step_plain rfl (leaves_value (v := .pointer (some ⟨w.heap.size, 4, none⟩)) (w' := W) ?_ ⟨rfl, by simpa using hS, Below.refl _ _⟩)
      simp [go_sem, h29]
    · have h30 : ρ (.tmp 30) = .pointer (some ⟨w.heap.size, 4, none⟩) := hs.1
      obtain rfl : f = true := hf (by kernel_rfl)
      have y4 := (hS.ahead rfl).cell 4 rfl
      have y5 := (hS.ahead rfl).cell 5 rfl
      refine step_plain rfl (leaves_value (v := .agg #[.bool x.all, .slice (some ⟨pb, po, none⟩) l.length c]) (w' := W) ?_ ⟨rfl, by simpa using hS, Below.refl _ _⟩)
      simp [go_sem, h30, y4, y5]
    · have h31 : ρ (.tmp 31) = .agg #[.bool x.all, .slice (some ⟨pb, po, none⟩) l.length c] := hs.1
      refine step_plain rfl (leaves_call1 en_own hr (.tmp 31) _ rfl h31 ((Go.Proofs.Ytmccfcllehfebaa.W.own_any x.all (some ⟨pb, po, none⟩) c l W (by have := HA.out.2.1; omega) (HA.out.1.on hS.below)).mono ?_))
      rintro e W' ⟨hb9, p9, c9, rfl, hat9⟩
      exact ⟨_, rfl, ⟨p9, c9, rfl, (Go.Proofs.Ytmccfcllehfebaa.W.atF_ints.1 hat9).less hS.size⟩, by simpa using hS.on hb9, hb9⟩
    · have h1 : ρ (.tmp 1) = ptr w.heap.size := hs.1
      refine step_plain rfl (leaves_value (v := .pointer (some ⟨w.heap.size, 7, none⟩)) (w' := W) ?_ ⟨rfl, by simpa using hS, Below.refl _ _⟩)
      simp [go_sem, h1]
    · have h33 : ρ (.tmp 33) = .pointer (some ⟨w.heap.size, 7, none⟩) := hs.1
      have h28 := hs.2.1
      obtain rfl : f = true := hf (by kernel_rfl)
      change OwnV _ _ _ (ρ (.tmp 28)) _ at h28
      obtain ⟨p9, c9, e9, hat9, _⟩ := ownV_at h28
      rw [Go.Proofs.Ytmccfcllehfebaa.W.intsV_len] at e9
      have hB := hS.ahead rfl
      have y7 := hB.cell 7 rfl
      have f7 := hB.free 7
      refine step_plain rfl (leaves_skip (w' := W.setCell ⟨w.heap.size, 7, none⟩ (.slice p9 m2.length c9)) ?_ ⟨trivial, hS.first hat9, by show But _ _ _; exact but_set _ _ _ _⟩)
      simp [go_sem, h33, e9, y7, f7]
    · have h1 : ρ (.tmp 1) = ptr w.heap.size := hs.1
      refine step_plain rfl (leaves_value (v := .pointer (some ⟨w.heap.size, 2, none⟩)) (w' := W) ?_ ⟨rfl, by simpa using hS, Below.refl _ _⟩)
      simp [go_sem, h1]
    · have h34 : ρ (.tmp 34) = .pointer (some ⟨w.heap.size, 2, none⟩) := hs.1
      refine step_plain rfl (leaves_value (v := .pointer (some ⟨w.heap.size, 4, none⟩)) (w' := W) ?_ ⟨rfl, by simpa using hS, Below.refl _ _⟩)
      simp [go_sem, h34]
    · have h35 : ρ (.tmp 35) = .pointer (some ⟨w.heap.size, 4, none⟩) := hs.1
      have h32 := hs.2.1
      obtain rfl : f = false := hf2 (by kernel_rfl)
      obtain ⟨p8, c8, h32, hat8⟩ := h32
      change ρ (.tmp 32) = _ at h32
      obtain ⟨u4, u5, p9, c9, hB, hat9⟩ := hS.behind rfl
      have y4 := hB.cell 4 rfl
      have y5 := hB.cell 5 rfl
      have f4 := hB.free 4
      have f5 := hB.free 5
      refine step_plain rfl (leaves_skip (w' := (W.setCell ⟨w.heap.size, 4, none⟩ (.bool x.all)).setCell ⟨w.heap.size, 5, none⟩ (.slice p8 l.length c8)) ?_ ⟨second_kb hB hat9 hat8, by simpa using hS.second hB hat9, by show But _ _ _; exact (but_set _ _ _ _).trans (but_set _ _ _ _)⟩)
      simp [go_sem, h35, h32, y4, y5, f4, f5]
  case en =>
    intro f W hf hS v0 h0 v1 h1 v2 h2 v3 h3 v4 h4 v5 h5 v6 h6 v7 h7 v8 h8 h9 v10 h10 v11 h11 h12
    obtain rfl : f = false := hf (by decide)
    clear hf
    have e1 : v1 = .pointer (some ⟨w.heap.size, 7, none⟩) := h1 rfl
    subst v1
    have e2 : v2 = .slice q m2.length d := h2 rfl
    subst v2
    have e4 : v4 = .pointer (some ⟨w.heap.size, 2, none⟩) := h4 rfl
    subst v4
    have e5 : v5 = .pointer (some ⟨w.heap.size, 4, none⟩) := h5 rfl
    subst v5
    have e6 : v6 = .agg #[.bool x.all, .slice (some ⟨pb, po, none⟩) l.length c] := h6 rfl
    subst v6
    have e8 : v8 = .pointer (some ⟨w.heap.size, 7, none⟩) := h8 rfl
    subst v8
    have e10 : v10 = .pointer (some ⟨w.heap.size, 2, none⟩) := h10 rfl
    subst v10
    have e11 : v11 = .pointer (some ⟨w.heap.size, 4, none⟩) := h11 rfl
    subst v11
    clear h1 h2 h4 h5 h6 h8 h9 h10 h11
    simp only [ends, Act.put, List.setIfInBounds_toArray, List.set_cons_succ, List.set_cons_zero]
    obtain ⟨p8, c8, p9, c9, hB, hat8, hat9⟩ := h12 rfl
    have hout := hS.out
    have HO : Hid (Blk W (w.heap.size + 1) 36 zAc) := hout
    have hBt := but_putL (w.heap.size + 1) (acC k0 d0 x (.slice p8 l.length c8) (.slice p9 m2.length c9)) W 0
    have HZ9 : Hid _ := HP.out _ p8 c8 p9 c9 (below_but hS.below hBt (by omega)) (Go.Proofs.Ytmccfcllehfebaa.W.atF_ints.2 (hat8.but hBt (by omega))) (Go.Proofs.Ytmccfcllehfebaa.W.atF_ints.2 (hat9.but hBt (by omega)))
    have a0 := hB.cell 0 rfl
    have a1 := hB.cell 1 rfl
    have a2 := hB.cell 2 rfl
    have a3 := hB.cell 3 rfl
    have a4 := hB.cell 4 rfl
    have a5 := hB.cell 5 rfl
    have a6 := hB.cell 6 rfl
    have a7 := hB.cell 7 rfl
    have g0 := hout.free 0
    have g1 := hout.free 1
    have g2 := hout.free 2
    have g3 := hout.free 3
    have g4 := hout.free 4
    have g5 := hout.free 5
    have g6 := hout.free 6
    have g7 := hout.free 7
    have b0 := hout.cell 0 rfl
    have b1 := hout.cell 1 rfl
    have b2 := hout.cell 2 rfl
    have b3 := hout.cell 3 rfl
    have b4 := hout.cell 4 rfl
    have b5 := hout.cell 5 rfl
    have b6 := hout.cell 6 rfl
    have b7 := hout.cell 7 rfl
    simp only [zS, Int.natCast_zero] at b0 b1 b2 b3 b4 b5 b6 b7
    clear HP HA HS0 hS hB hat8 hat9 hout hBt h0 h3 h7 h12
    go_wp2
    exact bodyPost_ret (results_blk (cs := acC k0 d0 x (.slice p8 l.length c8) (.slice p9 m2.length c9)) Try.isAgg36 infoA rfl _ _ rfl (HO.out.put (acC k0 d0 x (.slice p8 l.length c8) (.slice p9 m2.length c9)) rfl)) rfl HZ9.out
set_option maxRecDepth 100000 in
set_option maxHeartbeats 4000000 in
theorem own_ll (k0 d0 : Int) (x : Sl) (p q : Option Addr) (c d : Nat) (m : List Int) (w : World) (h : W.At w p x.ints) (h2 : W.At w q m) (hlc : x.ints.length ≤ c) (hmd : m.length ≤ d) (h50 : 50 < x.ints.length) (h51 : 50 < m.length) :
    Calls Try.prog 19 #[.agg (acC k0 d0 x (.slice p x.ints.length c) (.slice q m.length d)).toArray] w (OwnPost w k0 d0 x m) := by
  change Calls Try.prog 19 #[.agg #[.int .i64 k0, .int .i64 d0, .int .i64 x.file, .int .u32 (x.rights : Int), .bool x.all, .slice p x.ints.length c, .int .i64 x.fc, .slice q m.length d]] w _
  have HP : Hid (∀ Y p c p' c', Below w.heap.size w Y → W.AtF (w.heap.size + 2) Y p (cut x.ints) → W.AtF (w.heap.size + 2) Y p' (cut m) → OwnPost w k0 d0 x m (.returned (.agg (acC k0 d0 x (.slice p (cut x.ints).length c) (.slice p' (cut m).length c')).toArray)) Y) := fun Y p c p' c' h1 h2 h3 => ⟨h1, p, c, p', c', rfl, h2, h3⟩
  generalize OwnPost w k0 d0 x m = Post at *
  have HB : Hid (Below w.heap.size w ((w.alloc (.cells #[.int .i64 k0, .int .i64 d0, .int .i64 x.file, .int .u32 (x.rights : Int), .bool x.all, .slice p x.ints.length c, .int .i64 x.fc, .slice q m.length d] 36)).alloc (.cells #[.int .i64 0, .int .i64 0, .int .i64 0, .int .u32 0, .bool false, .slice none 0 0, .int .i64 0, .slice none 0 0] 36))) := on_trans (on_alloc w _) (on_alloc _ _)
  have hX : Blk ((w.alloc (.cells #[.int .i64 k0, .int .i64 d0, .int .i64 x.file, .int .u32 (x.rights : Int), .bool x.all, .slice p x.ints.length c, .int .i64 x.fc, .slice q m.length d] 36)).alloc (.cells #[.int .i64 0, .int .i64 0, .int .i64 0, .int .u32 0, .bool false, .slice none 0 0, .int .i64 0, .slice none 0 0] 36)) w.heap.size 36 (acC k0 d0 x (.slice p x.ints.length c) (.slice q m.length d)) := (Blk.new w _ (acC k0 d0 x (.slice p x.ints.length c) (.slice q m.length d))).alloc _
  have hZ : Blk ((w.alloc (.cells #[.int .i64 k0, .int .i64 d0, .int .i64 x.file, .int .u32 (x.rights : Int), .bool x.all, .slice p x.ints.length c, .int .i64 x.fc, .slice q m.length d] 36)).alloc (.cells #[.int .i64 0, .int .i64 0, .int .i64 0, .int .u32 0, .bool false, .slice none 0 0, .int .i64 0, .slice none 0 0] 36)) (w.heap.size + 1) 36 zAc := by
    have := Blk.new (w.alloc (.cells #[.int .i64 k0, .int .i64 d0, .int .i64 x.file, .int .u32 (x.rights : Int), .bool x.all, .slice p x.ints.length c, .int .i64 x.fc, .slice q m.length d] 36)) 36 zAc
    rwa [World.size_alloc] at this
  have hsz : w.heap.size + 2 ≤ ((w.alloc (.cells #[.int .i64 k0, .int .i64 d0, .int .i64 x.file, .int .u32 (x.rights : Int), .bool x.all, .slice p x.ints.length c, .int .i64 x.fc, .slice q m.length d] 36)).alloc (.cells #[.int .i64 0, .int .i64 0, .int .i64 0, .int .u32 0, .bool false, .slice none 0 0, .int .i64 0, .slice none 0 0] 36)).heap.size := by simp
  have HX : Hid _ := hX
  have HZ : Hid _ := hZ
  have HSZ : Hid _ := hsz
  have x5 := hX.cell 5 rfl
  have x7 := hX.cell 7 rfl
  have f5 := hX.free 5
  have f7 := hX.free 7
  have hlz : (50 : Int) < (x.ints.length : Int) := by omega
  have hlc2 : 50 ≤ c := by omega
  have hl2 : (50 : Int) ≤ (c : Int) := by omega
  have hcl : (cut x.ints).length = 50 := by simp [cut]; omega
  obtain ⟨pb, po, hp, _⟩ := h.resolve_left (fun e => by rw [e] at h50; simp at h50)
  subst hp
  have hmz : (50 : Int) < (m.length : Int) := by omega
  have hmd2 : 50 ≤ d := by omega
  have hm2 : (50 : Int) ≤ (d : Int) := by omega
  have hcm : (cut m).length = 50 := by simp [cut]; omega
  obtain ⟨qb, qo, hq, _⟩ := h2.resolve_left (fun e => by rw [e] at h51; simp at h51)
  subst hq
  have HA0 : Hid (W.At w (some ⟨pb, po, none⟩) (cut x.ints) ∧ (cut x.ints).length ≤ 50 ∧ W.At w (some ⟨qb, qo, none⟩) (cut m) ∧ (cut m).length ≤ 50) := ⟨W.at_ints.2 (by rw [show W.intsV (cut x.ints) = (W.intsV x.ints).take 50 from List.map_take]; exact (W.at_ints.1 h).take 50), cut_len _, W.at_ints.2 (by rw [show W.intsV (cut m) = (W.intsV m).take 50 from List.map_take]; exact (W.at_ints.1 h2).take 50), cut_len _⟩
  clear h h2 hX hZ hsz
  go_enter Try.func19, Try.ntmps19
  go_wp2
  have hX2 : Blk ((w.alloc (.cells #[.int .i64 k0, .int .i64 d0, .int .i64 x.file, .int .u32 (x.rights : Int), .bool x.all, .slice (some ⟨pb, po, none⟩) 50 c, .int .i64 x.fc, .slice (some ⟨qb, qo, none⟩) 50 d] 36)).alloc (.cells #[.int .i64 0, .int .i64 0, .int .i64 0, .int .u32 0, .bool false, .slice none 0 0, .int .i64 0, .slice none 0 0] 36)) w.heap.size 36 (acC k0 d0 x (.slice (some ⟨pb, po, none⟩) (cut x.ints).length c) (.slice (some ⟨qb, qo, none⟩) (cut m).length d)) := by
    rw [hcl, hcm]
    exact (Blk.new w 36 (acC k0 d0 x (.slice (some ⟨pb, po, none⟩) 50 c) (.slice (some ⟨qb, qo, none⟩) 50 d))).alloc _
  have hZ2 : Blk ((w.alloc (.cells #[.int .i64 k0, .int .i64 d0, .int .i64 x.file, .int .u32 (x.rights : Int), .bool x.all, .slice (some ⟨pb, po, none⟩) 50 c, .int .i64 x.fc, .slice (some ⟨qb, qo, none⟩) 50 d] 36)).alloc (.cells #[.int .i64 0, .int .i64 0, .int .i64 0, .int .u32 0, .bool false, .slice none 0 0, .int .i64 0, .slice none 0 0] 36)) (w.heap.size + 1) 36 zAc := by
    have := Blk.new (w.alloc (.cells #[.int .i64 k0, .int .i64 d0, .int .i64 x.file, .int .u32 (x.rights : Int), .bool x.all, .slice (some ⟨pb, po, none⟩) 50 c, .int .i64 x.fc, .slice (some ⟨qb, qo, none⟩) 50 d] 36)) 36 zAc
    rwa [World.size_alloc] at this
  have HS0 : Hid (ownS w k0 d0 x (some ⟨pb, po, none⟩) c (cut x.ints) (some ⟨qb, qo, none⟩) d (cut m) true ((w.alloc (.cells #[.int .i64 k0, .int .i64 d0, .int .i64 x.file, .int .u32 (x.rights : Int), .bool x.all, .slice (some ⟨pb, po, none⟩) 50 c, .int .i64 x.fc, .slice (some ⟨qb, qo, none⟩) 50 d] 36)).alloc (.cells #[.int .i64 0, .int .i64 0, .int .i64 0, .int .u32 0, .bool false, .slice none 0 0, .int .i64 0, .slice none 0 0] 36)).drew) := ⟨on_drew (on_trans (on_alloc w _) (on_alloc _ _)), by show _ ≤ ((w.alloc _).alloc _).heap.size; simp, hZ2.drew, fun _ => hX2.drew, (fun h => by cases h)⟩
  have HA : Hid _ := HA0.out
  clear hX2 hZ2 HB HX HZ HSZ x5 x7 f5 f7 HA0 hcl hcm
  generalize (w.alloc (.cells #[.int .i64 k0, .int .i64 d0, .int .i64 x.file, .int .u32 (x.rights : Int), .bool x.all, .slice (some ⟨pb, po, none⟩) 50 c, .int .i64 x.fc, .slice (some ⟨qb, qo, none⟩) 50 d] 36)).alloc (.cells #[.int .i64 0, .int .i64 0, .int .i64 0, .int .u32 0, .bool false, .slice none 0 0, .int .i64 0, .slice none 0 0] 36) = w0 at *
  generalize cut x.ints = l at *
  generalize cut m = m2 at *
  refine wp_region_three (S := ownS w k0 d0 x (some ⟨pb, po, none⟩) c l (some ⟨qb, qo, none⟩) d m2) (u := 9) (Keep := KeepK [(9, w.heap.size), (12, w.heap.size)])
    (g := fun jj vv WW => (([.mt 3, .is (.pointer (some ⟨w.heap.size, 7, none⟩)), .is (.slice (some ⟨qb, qo, none⟩) m2.length d), .own 3 (Go.Proofs.Ytmccfcllehfebaa.W.intsV m2), .is (.pointer (some ⟨w.heap.size, 2, none⟩)), .is (.pointer (some ⟨w.heap.size, 4, none⟩)), .is (.agg #[.bool x.all, .slice (some ⟨pb, po, none⟩) l.length c]), kl x.all l, .is (.pointer (some ⟨w.heap.size, 7, none⟩)), .any, .is (.pointer (some ⟨w.heap.size, 2, none⟩)), .is (.pointer (some ⟨w.heap.size, 4, none⟩)), kb x k0 d0 m2 l] : List (Kd (w.heap.size + 2))).getD jj Kd.any).ok vv WW)
    (tab := [[], [(1, none)], [(26, some 1)], [(25, some 0), (27, some 2)], [(1, none)], [(29, some 4)], [(30, some 5)], [(31, some 6)], [(1, none)], [(33, some 8), (28, some 3)], [(1, none)], [(34, some 10)], [(35, some 11), (32, some 7)]]) (tl := []) (n := 37)
    (by kernel_rfl) rfl (by kernel_rfl) (keep_ed ?k) (HS0.out) ?st ?en
  case k =>
    intro i b hb
    obtain ⟨hi, rfl⟩ : (i = 9 ∨ i = 12) ∧ b = w.heap.size := by
      simp only [List.lookup] at hb
      split at hb
      · rename_i h7
        exact ⟨.inl (by simpa using h7), by simpa using hb.symm⟩
      · split at hb
        · rename_i h7
          exact ⟨.inr (by simpa using h7), by simpa using hb.symm⟩
        · cases hb
    refine ⟨by omega, fun j hj => ?_⟩
    match j, hj with
    | 0, _ | 1, _ | 2, _ | 3, _ | 4, _ | 5, _ | 6, _ | 7, _ | 8, _ | 9, _ | 10, _ | 11, _ => exact .inl (blk_none rfl)
    | 12, hj =>
      rcases hi with rfl | rfl
      · exact .inr (by kernel_rfl)
      · exact absurd rfl hj
    | j + 13, _ => exact .inl (blk_none rfl)
  case st =>
    refine ⟨fun ρ W f hf hf2 hr hS hs => ?_, fun ρ W f hf hf2 hr hS hs => ?_, fun ρ W f hf hf2 hr hS hs => ?_, fun ρ W f hf hf2 hr hS hs => ?_, fun ρ W f hf hf2 hr hS hs => ?_, fun ρ W f hf hf2 hr hS hs => ?_, fun ρ W f hf hf2 hr hS hs => ?_, fun ρ W f hf hf2 hr hS hs => ?_, fun ρ W f hf hf2 hr hS hs => ?_, fun ρ W f hf hf2 hr hS hs => ?_, fun ρ W f hf hf2 hr hS hs => ?_, fun ρ W f hf hf2 hr hS hs => ?_, fun ρ W f hf hf2 hr hS hs => ?_, trivial⟩
    · have hb := on_alloc W (.cells #[] 3)
      refine step_plain rfl (leaves_value (v := .slice (some ⟨W.heap.size, 0, none⟩) 0 0) (w' := W.alloc (.cells #[] 3)) ?_ ⟨⟨⟨_, rfl⟩, ownV_empty W _ _ hS.size⟩, by simpa using hS.on hb, hb⟩)
      simp [go_sem]
    · have h1 : ρ (.tmp 1) = ptr w.heap.size := hs.1
      refine step_plain rfl (leaves_value (v := .pointer (some ⟨w.heap.size, 7, none⟩)) (w' := W) ?_ ⟨rfl, by simpa using hS, Below.refl _ _⟩)
      simp [go_sem, h1]
    · have h26 : ρ (.tmp 26) = .pointer (some ⟨w.heap.size, 7, none⟩) := hs.1
      obtain rfl : f = true := hf (by kernel_rfl)
      have y7 := (hS.ahead rfl).cell 7 rfl
      refine step_plain rfl (leaves_value (v := .slice (some ⟨qb, qo, none⟩) m2.length d) (w' := W) ?_ ⟨rfl, by simpa using hS, Below.refl _ _⟩)
      simp [go_sem, h26, y7]
    · have h25 := hs.1
      have h27 : ρ (.tmp 27) = .slice (some ⟨qb, qo, none⟩) m2.length d := hs.2.1
      obtain rfl : f = true := hf (by kernel_rfl)
      obtain ⟨⟨b9, h25⟩, ho⟩ := h25
      change ρ (.tmp 25) = _ at h25
      change OwnV _ _ _ (ρ (.tmp 25)) _ at ho
      rw [h25] at ho
      obtain ⟨v9, W', hrun, hb9, ho9⟩ := append_copy elemInt (w.heap.size + 2) b9 (some ⟨qb, qo, none⟩) d (Go.Proofs.Ytmccfcllehfebaa.W.intsV m2) W (by rw [Go.Proofs.Ytmccfcllehfebaa.W.intsV_len]; have := HA.out.2.2.2; omega) (Go.Proofs.Ytmccfcllehfebaa.W.one_ints m2) ho hS.size (Go.Proofs.Ytmccfcllehfebaa.W.at_ints.1 (HA.out.2.2.1.on hS.below))
      rw [Go.Proofs.Ytmccfcllehfebaa.W.intsV_len] at hrun
      refine step_plain rfl (leaves_append (v := v9) (w' := W') (.tmp 25) (.tmp 27) 30 rfl ?_ ⟨ho9, by simpa using hS.on hb9, hb9⟩)
      rw [h25, h27]; exact hrun
    · have h1 : ρ (.tmp 1) = ptr w.heap.size := hs.1
      refine step_plain rfl (leaves_value (v := .pointer (some ⟨w.heap.size, 2, none⟩)) (w' := W) ?_ ⟨rfl, by simpa using hS, Below.refl _ _⟩)
      simp [go_sem, h1]
    · have h29 : ρ (.tmp 29) = .pointer (some ⟨w.heap.size, 2, none⟩) := hs.1
      refine step_plain rfl (leaves_value (v := .pointer (some ⟨w.heap.size, 4, none⟩)) (w' := W) ?_ ⟨rfl, by simpa using hS, Below.refl _ _⟩)
      simp [go_sem, h29]
    · have h30 : ρ (.tmp 30) = .pointer (some ⟨w.heap.size, 4, none⟩) := hs.1
      obtain rfl : f = true := hf (by kernel_rfl)
      have y4 := (hS.ahead rfl).cell 4 rfl
      have y5 := (hS.ahead rfl).cell 5 rfl
      refine step_plain rfl (leaves_value (v := .agg #[.bool x.all, .slice (some ⟨pb, po, none⟩) l.length c]) (w' := W) ?_ ⟨rfl, by simpa using hS, Below.refl _ _⟩)
      simp [go_sem, h30, y4, y5]
    · have h31 : ρ (.tmp 31) = .agg #[.bool x.all, .slice (some ⟨pb, po, none⟩) l.length c] := hs.1
      refine step_plain rfl (leaves_call1 en_own hr (.tmp 31) _ rfl h31 ((Go.Proofs.Ytmccfcllehfebaa.W.own_any x.all (some ⟨pb, po, none⟩) c l W (by have := HA.out.2.1; omega) (HA.out.1.on hS.below)).mono ?_))
      rintro e W' ⟨hb9, p9, c9, rfl, hat9⟩
      exact ⟨_, rfl, ⟨p9, c9, rfl, (Go.Proofs.Ytmccfcllehfebaa.W.atF_ints.1 hat9).less hS.size⟩, by simpa using hS.on hb9, hb9⟩
    · have h1 : ρ (.tmp 1) = ptr w.heap.size := hs.1
      refine step_plain rfl (leaves_value (v := .pointer (some ⟨w.heap.size, 7, none⟩)) (w' := W) ?_ ⟨rfl, by simpa using hS, Below.refl _ _⟩)
      simp [go_sem, h1]
    · have h33 : ρ (.tmp 33) = .pointer (some ⟨w.heap.size, 7, none⟩) := hs.1
      have h28 := hs.2.1
      obtain rfl : f = true := hf (by kernel_rfl)
      change OwnV _ _ _ (ρ (.tmp 28)) _ at h28
      obtain ⟨p9, c9, e9, hat9, _⟩ := ownV_at h28
      rw [Go.Proofs.Ytmccfcllehfebaa.W.intsV_len] at e9
      have hB := hS.ahead rfl
      have y7 := hB.cell 7 rfl
      have f7 := hB.free 7
      refine step_plain rfl (leaves_skip (w' := W.setCell ⟨w.heap.size, 7, none⟩ (.slice p9 m2.length c9)) ?_ ⟨trivial, hS.first hat9, by show But _ _ _; exact but_set _ _ _ _⟩)
      simp [go_sem, h33, e9, y7, f7]
    · have h1 : ρ (.tmp 1) = ptr w.heap.size := hs.1
      refine step_plain rfl (leaves_value (v := .pointer (some ⟨w.heap.size, 2, none⟩)) (w' := W) ?_ ⟨rfl, by simpa using hS, Below.refl _ _⟩)
      simp [go_sem, h1]
    · have h34 : ρ (.tmp 34) = .pointer (some ⟨w.heap.size, 2, none⟩) := hs.1
      refine step_plain rfl (leaves_value (v := .pointer (some ⟨w.heap.size, 4, none⟩)) (w' := W) ?_ ⟨rfl, by simpa using hS, Below.refl _ _⟩)
      simp [go_sem, h34]
    · have h35 : ρ (.tmp 35) = .pointer (some ⟨w.heap.size, 4, none⟩) := hs.1
      have h32 := hs.2.1
      obtain rfl : f = false := hf2 (by kernel_rfl)
      obtain ⟨p8, c8, h32, hat8⟩ := h32
      change ρ (.tmp 32) = _ at h32
      obtain ⟨u4, u5, p9, c9, hB, hat9⟩ := hS.behind rfl
      have y4 := hB.cell 4 rfl
      have y5 := hB.cell 5 rfl
      have f4 := hB.free 4
      have f5 := hB.free 5
      refine step_plain rfl (leaves_skip (w' := (W.setCell ⟨w.heap.size, 4, none⟩ (.bool x.all)).setCell ⟨w.heap.size, 5, none⟩ (.slice p8 l.length c8)) ?_ ⟨second_kb hB hat9 hat8, by simpa using hS.second hB hat9, by show But _ _ _; exact (but_set _ _ _ _).trans (but_set _ _ _ _)⟩)
      simp [go_sem, h35, h32, y4, y5, f4, f5]
  case en =>
    intro f W hf hS v0 h0 v1 h1 v2 h2 v3 h3 v4 h4 v5 h5 v6 h6 v7 h7 v8 h8 h9 v10 h10 v11 h11 h12
    obtain rfl : f = false := hf (by decide)
    clear hf
    have e1 : v1 = .pointer (some ⟨w.heap.size, 7, none⟩) := h1 rfl
    subst v1
    have e2 : v2 = .slice (some ⟨qb, qo, none⟩) m2.length d := h2 rfl
    subst v2
    have e4 : v4 = .pointer (some ⟨w.heap.size, 2, none⟩) := h4 rfl
    subst v4
    have e5 : v5 = .pointer (some ⟨w.heap.size, 4, none⟩) := h5 rfl
    subst v5
    have e6 : v6 = .agg #[.bool x.all, .slice (some ⟨pb, po, none⟩) l.length c] := h6 rfl
    subst v6
    have e8 : v8 = .pointer (some ⟨w.heap.size, 7, none⟩) := h8 rfl
    subst v8
    have e10 : v10 = .pointer (some ⟨w.heap.size, 2, none⟩) := h10 rfl
    subst v10
    have e11 : v11 = .pointer (some ⟨w.heap.size, 4, none⟩) := h11 rfl
    subst v11
    clear h1 h2 h4 h5 h6 h8 h9 h10 h11
    simp only [ends, Act.put, List.setIfInBounds_toArray, List.set_cons_succ, List.set_cons_zero]
    obtain ⟨p8, c8, p9, c9, hB, hat8, hat9⟩ := h12 rfl
    have hout := hS.out
    have HO : Hid (Blk W (w.heap.size + 1) 36 zAc) := hout
    have hBt := but_putL (w.heap.size + 1) (acC k0 d0 x (.slice p8 l.length c8) (.slice p9 m2.length c9)) W 0
    have HZ9 : Hid _ := HP.out _ p8 c8 p9 c9 (below_but hS.below hBt (by omega)) (Go.Proofs.Ytmccfcllehfebaa.W.atF_ints.2 (hat8.but hBt (by omega))) (Go.Proofs.Ytmccfcllehfebaa.W.atF_ints.2 (hat9.but hBt (by omega)))
    have a0 := hB.cell 0 rfl
    have a1 := hB.cell 1 rfl
    have a2 := hB.cell 2 rfl
    have a3 := hB.cell 3 rfl
    have a4 := hB.cell 4 rfl
    have a5 := hB.cell 5 rfl
    have a6 := hB.cell 6 rfl
    have a7 := hB.cell 7 rfl
    have g0 := hout.free 0
    have g1 := hout.free 1
    have g2 := hout.free 2
    have g3 := hout.free 3
    have g4 := hout.free 4
    have g5 := hout.free 5
    have g6 := hout.free 6
    have g7 := hout.free 7
    have b0 := hout.cell 0 rfl
    have b1 := hout.cell 1 rfl
    have b2 := hout.cell 2 rfl
    have b3 := hout.cell 3 rfl
    have b4 := hout.cell 4 rfl
    have b5 := hout.cell 5 rfl
    have b6 := hout.cell 6 rfl
    have b7 := hout.cell 7 rfl
    simp only [zS, Int.natCast_zero] at b0 b1 b2 b3 b4 b5 b6 b7
    clear HP HA HS0 hS hB hat8 hat9 hout hBt h0 h3 h7 h12
    go_wp2
    exact bodyPost_ret (results_blk (cs := acC k0 d0 x (.slice p8 l.length c8) (.slice p9 m2.length c9)) Try.isAgg36 infoA rfl _ _ rfl (HO.out.put (acC k0 d0 x (.slice p8 l.length c8) (.slice p9 m2.length c9)) rfl)) rfl HZ9.out
theorem own_any (k0 d0 : Int) (x : Sl) (p q : Option Addr) (c d : Nat) (m : List Int) (w : World) (h : W.At w p x.ints) (h2 : W.At w q m) (hlc : x.ints.length ≤ c) (hmd : m.length ≤ d) :
    Calls Try.prog 19 #[.agg (acC k0 d0 x (.slice p x.ints.length c) (.slice q m.length d)).toArray] w (OwnPost w k0 d0 x m) := by
  by_cases h50 : 50 < x.ints.length
  · by_cases h51 : 50 < m.length
    · exact own_ll k0 d0 x p q c d m w h h2 hlc hmd h50 h51
    · exact own_ls k0 d0 x p q c d m w h h2 hlc h50 (by omega)
  · by_cases h51 : 50 < m.length
    · exact own_sl k0 d0 x p q c d m w h h2 hmd (by omega) h51
    · exact own_ss k0 d0 x p q c d m w h h2 (by omega) (by omega)
/-- Of short lists nothing is cut. -/
theorem own_short (k0 d0 : Int) (x : Sl) (p q : Option Addr) (c d : Nat) (m : List Int) (w : World) (h : W.At w p x.ints) (h2 : W.At w q m) (h50 : x.ints.length ≤ 50) (h51 : m.length ≤ 50) :
    Calls Try.prog 19 #[.agg (acC k0 d0 x (.slice p x.ints.length c) (.slice q m.length d)).toArray] w fun e w' => Below w.heap.size w w' ∧ ∃ p c p' c', e = .returned (.agg (acC k0 d0 x (.slice p x.ints.length c) (.slice p' m.length c')).toArray) ∧ W.AtF (w.heap.size + 2) w' p x.ints ∧ W.AtF (w.heap.size + 2) w' p' m :=
  (own_ss k0 d0 x p q c d m w h h2 h50 h51).mono fun e w' ⟨h1, p, c, p', c', h3, h4, h5⟩ => by
    rw [cut_short h50] at h3 h4
    rw [cut_short h51] at h3 h5
    exact ⟨h1, p, c, p', c', h3, h4, h5⟩

end Go.Proofs.Ytmccfcllehfebaa.Z
