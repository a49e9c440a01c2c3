/- What the reference's Group answers, for every number. -/
import Derived.Test.YtelbmnjcejajiaaDoorCTab
import Derived.Test.YtelbmnjcejajiaaDoorProg
import Derived.WalkKit
import Derived.WalkSpells
namespace Go.Proofs.YtelbmnjcejajiaaDoor.C
open Go Go.RowKit

/-- The package of a number, by spans. -/
def grpL (no : Int) : List UInt8 :=
  if no < 1 ∨ 64 < no then [] else if 57 ≤ no then [99, 97, 112, 99, 97, 108, 108, 115] else if no = 52 then [112, 111, 108, 108, 115]
  else if no = 1 ∨ no = 2 ∨ no = 7 ∨ (14 ≤ no ∧ no ≤ 16) ∨ 53 ≤ no then [112, 114, 111, 99, 99, 97, 108, 108, 115]
  else if no = 19 ∨ 41 ≤ no then [105, 112, 99, 99, 97, 108, 108, 115]
  else if no = 5 ∨ (8 ≤ no ∧ no ≤ 13) ∨ (22 ≤ no ∧ no ≤ 24) ∨ no = 28 ∨ 33 ≤ no then [100, 105, 114, 99, 97, 108, 108, 115] else [102, 115, 99, 97, 108, 108, 115]
theorem grp_at : ∀ k : Fin 64, grpL ((k.val : Int) + 1) = cgroup k := by decide +kernel
theorem grp_no {no : Int} (h : ∀ k : Fin 64, (k.val : Int) + 1 ≠ no) : grpL no = [] := by
  unfold grpL
  rw [if_pos]
  by_cases h1 : no < 1
  · exact .inl h1
  · by_cases h2 : 64 < no
    · exact .inr h2
    · exact absurd (by simp; omega) (h ⟨(no - 1).toNat, by omega⟩)

set_option maxRecDepth 100000 in
set_option maxHeartbeats 2000000 in
theorem rgroup_any (no : Int) (w : World) : Calls Tryd.prog 11 #[.int .i64 no] w fun e W => e = .returned (.string (byt (grpL no))) ∧ W = w := by
  have HG : Hid (∀ l : List UInt8, grpL no = l → Ending.returned (.string ⟨l.toArray⟩) = Ending.returned (.string (byt (grpL no)))) := fun l h => by rw [h]; rfl
  generalize hP : (fun (e : Ending) (W : World) => e = .returned (.string (byt (grpL no))) ∧ W = w) = Post
  have HK : Hid (∀ l : List UInt8, grpL no = l → Post (.returned (.string ⟨l.toArray⟩)) w) := fun l h => by rw [← hP]; exact ⟨HG.out l h, rfl⟩
  clear hP HG
  go_enter Tryd.func11, Tryd.ntmps11
  go_wp2
  all_goals
    refine HK.out _ ?_
    try simp only [beq_iff_eq, beq_eq_false_iff_ne] at *
    unfold grpL
    repeat' split
    all_goals first
      | rfl
      | (exfalso; omega)

end Go.Proofs.YtelbmnjcejajiaaDoor.C
