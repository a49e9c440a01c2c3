/- What the reference's Make answers, at every list. -/
import Derived.Test.YthicbobddopcpaaDoorWRefMk
namespace Go.Proofs.YthicbobddopcpaaDoor
open Go Go.RowKit Go.Shelf Go.Sort

set_option maxRecDepth 100000 in
set_option maxHeartbeats 1000000 in
theorem refMake_zero (p : Option Addr) (cap : Nat) (w : World) : Calls Tryd.prog 12 #[.slice p 0 cap] w (MkPost w []) := by
  have h2 := Box.new (w.alloc (.cells #[.bool false, .slice none 0 0] 24)) (.bool false) (.slice none 0 0)
  rw [World.size_alloc] at h2
  have h1 := (Box.new w (.bool false) (.slice none 0 0)).alloc (.cells #[.bool false, .slice none 0 0] 24)
  have hon := on_trans (on_alloc w (.cells #[.bool false, .slice none 0 0] 24)) (on_alloc _ (.cells #[.bool false, .slice none 0 0] 24))
  have H1 : Hid _ := h1
  have H2 : Hid _ := h2
  have HO : Hid _ := hon
  clear h1 h2 hon
  go_enter Tryd.func12, Tryd.ntmps12
  go_wp2
  generalize (w.alloc (.cells #[.bool false, .slice none 0 0] 24)).alloc (.cells #[.bool false, .slice none 0 0] 24) = w0 at *
  go_loop [5] (fun i => i = .int .i64 0) (fun _ => 0)
  case atStart => rfl
  case round =>
    subst hrel
    have f0 := H1.out.free0
    have f1 := H1.out.free1
    have x0 := H1.out.fst
    have x1 := H1.out.snd
    have y0 := H2.out.fst
    have y1 := H2.out.snd
    go_wp2
    exact bodyPost_ret (results_box_tmp rfl _ _ rfl rfl (H1.out.put _ _)) rfl ⟨below_but HO.out (but_set2 _ _ _ _ _ _) (Nat.le_refl _), none, 0, rfl, .nil _ _ _⟩

theorem refMake_any (p : Option Addr) (cap : Nat) (l : List Int) (w : World) (hl : l.length ≤ 1000) (h : At w p l) : Calls Tryd.prog 12 #[.slice p l.length cap] w (MkPost w l) := by
  rcases h with rfl | ⟨b, off, rfl, hlt, hc⟩
  · exact refMake_zero p cap w
  · exact refMake_some b off cap l w hl hlt hc

theorem can_mkV (l : List Int) : canB false (mkV l) = true := by
  unfold mkV
  cases h : canB false (srt l) with
  | true => exact h
  | false => rfl

theorem leaves_eqErr {o : Oper} {ρ : Operand → Value} {w : World} {post : Value → World → Prop} (x y : Operand) (ho : o.op = .binOp .eql 27 x y 27) (e : Int) (hx : ρ x = .int .i64 e) (hy : ρ y = .int .i64 e)
    (h : post (.bool true) w) : leaves Tryd.prog o ρ w post := by
  refine leaves_value (v := .bool true) (w' := w) ?_ h
  obtain ⟨dst, op, ty, pos, after, guard⟩ := o
  simp only at ho
  subst ho
  simp [go_sem, hx, hy]

theorem mkV_len (l : List Int) : (mkV l).length ≤ 32 := (canB_rise (can_mkV l)).1

end Go.Proofs.YthicbobddopcpaaDoor
