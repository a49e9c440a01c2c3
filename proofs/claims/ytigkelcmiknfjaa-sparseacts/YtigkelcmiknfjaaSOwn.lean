/- The reference's Own: a file in memory of its own. -/
import Derived.Test.YtigkelcmiknfjaaSRef
import Derived.Test.YtigkelcmiknfjaaGMore
namespace Go.Proofs.Ytigkelcmiknfjaa
open Go Go.RowKit

theorem one_bytes (B : List UInt8) : ∀ u ∈ bytesV B, u.oneCell' = true := fun u hu => by
  obtain ⟨x, _, rfl⟩ := List.mem_map.1 hu
  rfl
theorem one_bools (H : List Bool) : ∀ u ∈ boolsV H, u.oneCell' = true := fun u hu => by
  obtain ⟨x, _, rfl⟩ := List.mem_map.1 hu
  rfl

/-- A file of one's own. -/
def OwnFile (hi : Nat) (w : World) (v : Value) (B : List UInt8) (H : List Bool) : Prop := ∃ v1 v2, v = .agg #[v1, v2] ∧ OwnV hi 5 w v1 (bytesV B) ∧ OwnV hi 4 w v2 (boolsV H)
theorem OwnFile.on {hi : Nat} {w w' : World} {v : Value} {B : List UInt8} {H : List Bool} (h : OwnFile hi w v B H) (hb : Below w.heap.size w w') : OwnFile hi w' v B H := by
  obtain ⟨v1, v2, h1, h2, h3⟩ := h
  exact ⟨v1, v2, h1, ownV_on h2 hb, ownV_on h3 hb⟩
theorem OwnFile.but {hi b : Nat} {w w' : World} {v : Value} {B : List UInt8} {H : List Bool} (h : OwnFile hi w v B H) (hb : But b w w') (hlt : b < hi) : OwnFile hi w' v B H := by
  obtain ⟨v1, v2, h1, h2, h3⟩ := h
  exact ⟨v1, v2, h1, ownV_but h2 hb hlt, ownV_but h3 hb hlt⟩
theorem OwnFile.less {hi hi' : Nat} {w : World} {v : Value} {B : List UInt8} {H : List Bool} (h : OwnFile hi w v B H) (hl : hi' ≤ hi) : OwnFile hi' w v B H := by
  obtain ⟨v1, v2, h1, h2, h3⟩ := h
  exact ⟨v1, v2, h1, ownV_less h2 hl, ownV_less h3 hl⟩
def Kd.file {hi : Nat} (B : List UInt8) (H : List Bool) : Kd hi := ⟨fun v W => OwnFile hi W v B H, none, fun _ _ _ h hb => h.on hb, fun _ _ _ _ h hb hlt _ => h.but hb hlt⟩
/-- A file of one's own in a box. -/
def Kd.inBox {hi : Nat} (b : Nat) (B : List UInt8) (H : List Bool) : Kd hi :=
  ⟨fun _ W => ∃ v1 v2, Blk W b 28 [v1, v2] ∧ OwnFile hi W (.agg #[v1, v2]) B H, some b, fun _ _ _ ⟨v1, v2, h1, h2⟩ hb => ⟨v1, v2, h1.on hb, h2.on hb⟩,
   fun _ _ _ _ ⟨v1, v2, h1, h2⟩ hb hlt hne => ⟨v1, v2, h1.but hb fun e => hne (congrArg some e), h2.but hb hlt⟩⟩

section
variable {o : Oper} {ρ : Operand → Value} {w : World} {post : Value → World → Prop} {b : Nat}
theorem leaves_field {k : Nat} (x : Operand) (ho : o.op = .fieldAddr 28 x k) (hk : k < 2) (hx : ρ x = .pointer (some ⟨b, 0, none⟩)) (h : post (.pointer (some ⟨b, k, none⟩)) w) : leaves Try.prog o ρ w post := by
  refine leaves_value (v := .pointer (some ⟨b, k, none⟩)) (w' := w) ?_ h
  obtain ⟨dst, op, ty, pos, after, guard⟩ := o
  simp only at ho
  subst ho
  match k, hk with
  | 0, _ => simp [go_sem, hx]
  | 1, _ => simp [go_sem, hx]
theorem leaves_put {u0 u1 v0 v1 : Value} (x y : Operand) (hv0 : ∃ p n c, v0 = .slice p n c) (hv1 : ∃ p n c, v1 = .slice p n c) (ho : o.op = .store 28 x y) (hx : ρ x = .pointer (some ⟨b, 0, none⟩)) (hy : ρ y = .agg #[v0, v1])
    (hb : Blk w b 28 [u0, u1]) (h : post undef (putL w b 0 [v0, v1])) : leaves Try.prog o ρ w post := by
  obtain ⟨p0, n0, c0, rfl⟩ := hv0
  obtain ⟨p1, n1, c1, rfl⟩ := hv1
  refine leaves_skip (w' := putL w b 0 [.slice p0 n0 c0, .slice p1 n1 c1]) ?_ h
  have f0 := hb.free 0
  have f1 := hb.free 1
  have x0 := hb.cell 0 rfl
  have x1 := hb.cell 1 rfl
  obtain ⟨dst, op, ty, pos, after, guard⟩ := o
  simp only at ho
  subst ho
  simp [go_sem, hx, hy, f0, f1, x0, x1, putL]
end

set_option maxRecDepth 100000 in
set_option maxHeartbeats 1000000 in
theorem ref_own_any (p q : Option Addr) (c d : Nat) (B : List UInt8) (H : List Bool) (w : World) (hB : B.length ≤ 1000000) (hH : H.length ≤ 1000000) (hp : At w p (bytesV B)) (hq : At w q (boolsV H)) :
    Calls Try.prog 28 #[.agg #[.slice p B.length c, .slice q H.length d]] w fun e w' => ∃ v, e = .returned v ∧ OwnFile w.heap.size w' v B H ∧ Below w.heap.size w w' := by
  have hX := (Blk.new w 28 [.slice p B.length c, .slice q H.length d]).alloc (.cells #[.slice none 0 0, .slice none 0 0] 28)
  have hY := Blk.new (w.alloc (.cells #[.slice p B.length c, .slice q H.length d] 28)) 28 [.slice none 0 0, .slice none 0 0]
  have hBl := on_trans (on_alloc w (.cells #[.slice p B.length c, .slice q H.length d] 28)) (on_alloc _ (.cells #[.slice none 0 0, .slice none 0 0] 28))
  rw [World.size_alloc] at hY
  change Blk ((w.alloc (.cells #[.slice p B.length c, .slice q H.length d] 28)).alloc (.cells #[.slice none 0 0, .slice none 0 0] 28)) _ _ _ at hX hY
  go_enter Try.func28, Try.ntmps28
  go_wp2
  generalize (w.alloc (.cells #[.slice p B.length c, .slice q H.length d] 28)).alloc (.cells #[.slice none 0 0, .slice none 0 0] 28) = w0 at *
  have hlt := hY.lt
  refine wp_region_left (S := fun W => w0.heap.size ≤ W.heap.size ∧ Blk W w.heap.size 28 [.slice p B.length c, .slice q H.length d] ∧ (∃ u0 u1, Blk W (w.heap.size + 1) 28 [u0, u1]) ∧ Below w.heap.size w W)
    (Keep := KeepK [(9, w.heap.size + 1)])
    (g := fun i v W => ([Kd.mt 5, .is (.pointer (some ⟨w.heap.size, 0, none⟩)), .is (.slice p B.length c), .own 5 (bytesV B), .mt 4, .is (.pointer (some ⟨w.heap.size, 1, none⟩)), .is (.slice q H.length d), .own 4 (boolsV H), .file B H, .inBox (w.heap.size + 1) B H].getD i (Kd.any (hi := w.heap.size + 2))).ok v W)
    (tab := [[], [(1, none)], [(4, some 1)], [(3, some 0), (5, some 2)], [], [(1, none)], [(8, some 5)], [(7, some 4), (9, some 6)], [(6, some 3), (10, some 7)], [(2, none), (11, some 8)]]) (tl := []) (n := 12)
    (by kernel_rfl) rfl (by kernel_rfl) (keep_one (by omega) ?k) ⟨Nat.le_refl _, hX.drew, ⟨_, _, hY.drew⟩, on_drew hBl⟩ ?_ ?_
  case k =>
    intro j hj
    match j, hj with
    | 0, _ | 1, _ | 2, _ | 3, _ | 4, _ | 5, _ | 6, _ | 7, _ | 8, _ => rfl
    | 9, hj => exact absurd rfl hj
    | j + 10, _ => rfl
  · refine ⟨fun ρ W hr hS hs => ?_, fun ρ W hr hS hs => ?_, fun ρ W hr hS hs => ?_, fun ρ W hr hS hs => ?_, fun ρ W hr hS hs => ?_, fun ρ W hr hS hs => ?_, fun ρ W hr hS hs => ?_, fun ρ W hr hS hs => ?_, fun ρ W hr hS hs => ?_, fun ρ W hr hS hs => ?_, trivial⟩
    · have hb := on_alloc W (.cells #[] 5)
      have hsz := hS.1
      refine step_plain rfl (leaves_value (v := .slice (some ⟨W.heap.size, 0, none⟩) 0 0) (w' := W.alloc (.cells #[] 5)) ?_ ⟨⟨⟨_, rfl⟩, ownV_empty W _ _ (by omega)⟩, ⟨Nat.le_trans hS.1 hb.size, hS.2.1.on hb, ?_, on_trans hS.2.2.2 hb⟩, hb⟩)
      · simp [go_sem]
      · obtain ⟨u0, u1, hu⟩ := hS.2.2.1
        exact ⟨u0, u1, hu.on hb⟩
    · exact step_plain rfl (leaves_field (.tmp 1) rfl (by decide) hs.1 ⟨rfl, hS, Below.refl _ _⟩)
    · exact step_plain rfl (leaves_cell Try.isAgg25 (.tmp 4) rfl hs.1 (hS.2.1.cell 0 rfl) ⟨rfl, hS, Below.refl _ _⟩)
    · obtain ⟨⟨⟨b, h5⟩, h6⟩, h7, _⟩ := hs
      have h7' : ρ (.tmp 5) = .slice p (bytesV B).length c := by rw [List.length_map]; exact h7
      have h5' : ρ (.tmp 3) = .slice (some ⟨b, 0, none⟩) 0 0 := h5
      have h6' : OwnV (w.heap.size + 2) 5 W (.slice (some ⟨b, 0, none⟩) 0 0) [] := by rw [← h5']; exact h6
      have hsz := hS.1
      obtain ⟨v', W', hrun, hb, ho⟩ := append_copy elemByte (w.heap.size + 2) b p c (bytesV B) W (by simpa using hB) (one_bytes B) h6' (by omega) (hp.below hS.2.2.2 (Nat.le_refl _))
      refine step_plain rfl (leaves_append (v := v') (w' := W') (.tmp 3) (.tmp 5) 25 rfl ?_ ⟨ho, ⟨Nat.le_trans hS.1 hb.size, hS.2.1.on hb, ?_, on_trans hS.2.2.2 hb⟩, hb⟩)
      · rw [h5', h7']; exact hrun
      · obtain ⟨u0, u1, hu⟩ := hS.2.2.1
        exact ⟨u0, u1, hu.on hb⟩
    · have hb := on_alloc W (.cells #[] 4)
      have hsz := hS.1
      refine step_plain rfl (leaves_value (v := .slice (some ⟨W.heap.size, 0, none⟩) 0 0) (w' := W.alloc (.cells #[] 4)) ?_ ⟨⟨⟨_, rfl⟩, ownV_empty W _ _ (by omega)⟩, ⟨Nat.le_trans hS.1 hb.size, hS.2.1.on hb, ?_, on_trans hS.2.2.2 hb⟩, hb⟩)
      · simp [go_sem]
      · obtain ⟨u0, u1, hu⟩ := hS.2.2.1
        exact ⟨u0, u1, hu.on hb⟩
    · exact step_plain rfl (leaves_field (.tmp 1) rfl (by decide) hs.1 ⟨rfl, hS, Below.refl _ _⟩)
    · exact step_plain rfl (leaves_cell Try.isAgg26 (.tmp 8) rfl hs.1 (hS.2.1.cell 1 rfl) ⟨rfl, hS, Below.refl _ _⟩)
    · obtain ⟨⟨⟨b, h5⟩, h6⟩, h7, _⟩ := hs
      have h7' : ρ (.tmp 9) = .slice q (boolsV H).length d := by rw [List.length_map]; exact h7
      have h5' : ρ (.tmp 7) = .slice (some ⟨b, 0, none⟩) 0 0 := h5
      have h6' : OwnV (w.heap.size + 2) 4 W (.slice (some ⟨b, 0, none⟩) 0 0) [] := by rw [← h5']; exact h6
      have hsz := hS.1
      obtain ⟨v', W', hrun, hb, ho⟩ := append_copy elemBool (w.heap.size + 2) b q d (boolsV H) W (by simpa using hH) (one_bools H) h6' (by omega) (hq.below hS.2.2.2 (Nat.le_refl _))
      refine step_plain rfl (leaves_append (v := v') (w' := W') (.tmp 7) (.tmp 9) 26 rfl ?_ ⟨ho, ⟨Nat.le_trans hS.1 hb.size, hS.2.1.on hb, ?_, on_trans hS.2.2.2 hb⟩, hb⟩)
      · rw [h5', h7']; exact hrun
      · obtain ⟨u0, u1, hu⟩ := hS.2.2.1
        exact ⟨u0, u1, hu.on hb⟩
    · obtain ⟨h6, h10, _⟩ := hs
      refine step_plain rfl (leaves_value (v := .agg #[ρ (.tmp 6), ρ (.tmp 10)]) (w' := W) ?_ ⟨⟨_, _, rfl, h6, h10⟩, hS, Below.refl _ _⟩)
      have h6' : OwnV (w.heap.size + 2) 5 W (ρ (.tmp 6)) (bytesV B) := h6
      have h10' : OwnV (w.heap.size + 2) 4 W (ρ (.tmp 10)) (boolsV H) := h10
      obtain ⟨_, _, e1, _⟩ := ownV_at h6'
      obtain ⟨_, _, e2, _⟩ := ownV_at h10'
      simp [go_sem, e1, e2]
    · obtain ⟨h2, ⟨v1, v2, h9, h10, h11⟩, _⟩ := hs
      obtain ⟨u0, u1, hu⟩ := hS.2.2.1
      have hbut := but_putL (w.heap.size + 1) [v1, v2] W 0
      have hpt := hu.put [v1, v2] rfl
      obtain ⟨y1, z1, e1, _⟩ := ownV_at h10
      obtain ⟨y2, z2, e2, _⟩ := ownV_at h11
      exact step_plain rfl (leaves_put (.tmp 2) (.tmp 11) ⟨_, _, _, e1⟩ ⟨_, _, _, e2⟩ rfl h2 h9 hu ⟨⟨v1, v2, hpt, v1, v2, rfl, ownV_but h10 hbut (by omega), ownV_but h11 hbut (by omega)⟩, ⟨by rw [hbut.size]; exact hS.1, hS.2.1.but hbut (by omega), ⟨_, _, hpt⟩, below_but hS.2.2.2 hbut (by omega)⟩, hbut⟩)
  · intro W hS v0 h0 v1 h1 v2 h2 v3 h3 v4 h4 v5 h5 v6 h6 v7 h7 v8 h8 h9
    obtain ⟨y1, y2, hbx, hof⟩ := h9 rfl
    clear h0 h1 h2 h3 h4 h5 h6 h7 h8 h9
    simp only [ends, Act.put, List.setIfInBounds_toArray, List.set_cons_succ, List.set_cons_zero]
    go_wp2
    exact bodyPost_ret (results_blk (cs := [y1, y2]) Try.isAgg28 infoRef rfl _ _ rfl hbx) rfl ⟨_, rfl, hof.less (by omega), hS.2.2.2⟩

end Go.Proofs.Ytigkelcmiknfjaa
