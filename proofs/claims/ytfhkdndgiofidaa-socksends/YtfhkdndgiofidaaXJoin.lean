/- Package socks: join. -/
import Derived.Test.YtfhkdndgiofidaaXFun2
namespace Go.Proofs.Ytfhkdndgiofidaa.X
open Go Go.RowKit Go.Maps Go.Proofs.Ytfhkdndgiofidaa.K

section
variable {P : Nat → Prop} {w : World} {sb mb n next k : Nat} {g : Nat → Nat} {T : Tb} {x : Sk}
/-- Two sockets joined. -/
def joinT (T : Tb) (a b : Nat) (xa xb : Sk) : Tb := setT (setT T a (some { xa with st := 2, peer := b })) b (some { xb with st := 2, peer := a })
set_option maxRecDepth 100000 in
set_option maxHeartbeats 2000000 in
theorem join_any {a b : Nat} {xa xb : Sk} (h : StG P w sb mb n next g T) (ha : T a = some xa) (hb : T b = some xb) (hne : a ≠ b) : Calls Try.prog 67 #[ptr sb, .int .i64 (a : Int), .int .i64 (b : Int)] w (Left P w sb mb n next g (joinT T a b xa xb) (.tuple #[])) := by
  have x0 := h.box.cell 0 rfl
  have HE : Hid (∀ q, Below w.heap.size w (w.drewN q)) := fun q => on_drewN (Below.refl _ _) q
  have hla := fun q => (h.on (HE.out q)).look_yes ha
  have hlb := fun q => (h.on (HE.out q)).look_yes hb
  have hg1 := h.gne ha hb hne
  have hg2 := h.gne hb ha (Ne.symm hne)
  obtain ⟨_, _, _, hBa, _⟩ := h.at ha
  obtain ⟨_, _, _, hBb, _⟩ := h.at hb
  have a1 := hBa.cell 1 rfl
  have a2 := hBa.cell 2 rfl
  have a3 := hBa.free 1
  have a4 := hBa.free 2
  have b1 := hBb.cell 1 rfl
  have b2 := hBb.cell 2 rfl
  have b3 := hBb.free 1
  have b4 := hBb.free 2
  have HP : Hid (∀ q, Left P w sb mb n next g (joinT T a b xa xb) (.tuple #[]) (.returned (.tuple #[])) (((((w.drewN q).setCell ⟨g a, 1, none⟩ (.int .i64 2)).setCell ⟨g a, 2, none⟩ (.int .i64 (b : Int))).setCell ⟨g b, 1, none⟩ (.int .i64 2)).setCell ⟨g b, 2, none⟩ (.int .i64 (a : Int)))) := fun q => by
    have h7 := h.on (HE.out q)
    obtain ⟨q1, p1, c1, hB1, _⟩ := h7.at ha
    obtain ⟨P1, h8, m1⟩ := h7.set (x' := { xa with st := 2, peer := b }) ha hB1 ((but_set _ _ 1 (.int .i64 2)).trans (but_set _ _ 2 (.int .i64 (b : Int)))) ((hB1.set 1 _).set 2 _) rfl rfl
    have hb' : setT T a (some { xa with st := 2, peer := b }) b = some xb := by rw [setT_other T _ (Ne.symm hne)]; exact hb
    obtain ⟨q2, p2, c2, hB2, _⟩ := h8.at hb'
    obtain ⟨P2, h9, m2⟩ := h8.set (x' := { xb with st := 2, peer := a }) hb' hB2 ((but_set _ _ 1 (.int .i64 2)).trans (but_set _ _ 2 (.int .i64 (a : Int)))) ((hB2.set 1 _).set 2 _) rfl rfl
    exact ⟨rfl, P2, h9, ((Moves.on (HE.out q)).trans m1).trans m2⟩
  generalize Left P w sb mb n next g (joinT T a b xa xb) (.tuple #[]) = Post at *
  clear h ha hb hne hBa hBb
  go_enter Try.func67, Try.ntmps67
  go_wp2
  go_quiet (fail)
  go_wp2
  go_end0
  exact HP.out _
end

end Go.Proofs.Ytfhkdndgiofidaa.X
