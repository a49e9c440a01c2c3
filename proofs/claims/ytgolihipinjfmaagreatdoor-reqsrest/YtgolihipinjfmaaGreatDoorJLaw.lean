/- What the laws over requests lean on. -/
import Derived.Test.YtgolihipinjfmaaGreatDoorJLives
import Derived.Test.YtgolihipinjfmaaGreatDoorJShort
import Derived.Test.YtgolihipinjfmaaGreatDoorGKd
namespace Go.Proofs.YtgolihipinjfmaaGreatDoor.J
open Go Go.RowKit

/-- A request in memory. -/
def kdRq {hi : Nat} (r : Rq) : Kd hi :=
  ⟨fun v W => ∃ p c, v = rqV r p c ∧ AtF hi W p (ints r.l), none, fun _ _ _ ⟨p, c, h1, h2⟩ hb => ⟨p, c, h1, h2.on hb⟩, fun _ _ _ _ ⟨p, c, h1, h2⟩ hb hlt _ => ⟨p, c, h1, h2.but hb hlt⟩⟩
theorem en_own : ∀ args w, (callFunc 10 args).run Tryz.prog w = .ok (.enter 10 args) w := fun _ _ => by simp [callFunc, Tryz.func10]; rfl
theorem en_lives : ∀ args w, (callFunc 12 args).run Tryz.prog w = .ok (.enter 12 args) w := fun _ _ => by simp [callFunc, Tryz.func12]; rfl

end Go.Proofs.YtgolihipinjfmaaGreatDoor.J
