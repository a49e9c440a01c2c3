/- Memory, of no program: copies, results in cells. -/
import Derived.Test.YtgolihipinjfmaaGreatDoorGKd
namespace Go.Proofs.YtgolihipinjfmaaGreatDoor
open Go Go.RowKit

/-- append onto an empty slice: a copy. -/
theorem append_copy {P : Program} {t e : TypeId} {z : Value} {bytes : Nat} (E : ElemOk P t e z bytes) (hi b : Nat) (p : Option Addr) (cap : Nat) (l : List Value) (w : World) (hl : l.length ≤ 1000000) (hone : ∀ u ∈ l, u.oneCell' = true)
    (ho : OwnV hi e w (.slice (some ⟨b, 0, none⟩) 0 0) []) (hhi : hi ≤ w.heap.size) (h : At w p l) :
    ∃ v' w', (Builtin.append_ #[t, t] t #[.slice (some ⟨b, 0, none⟩) 0 0, .slice p l.length cap]).run P w = .ok v' w' ∧ Below w.heap.size w w' ∧ OwnV hi e w' v' l := by
  obtain ⟨i0, hi0, hz0, hz1, hz2⟩ := info_parts E.info
  by_cases hnil : l = []
  · subst hnil
    refine ⟨_, w, ?_, Below.refl _ _, ho⟩
    cases p with
    | none => simp [Builtin.append_, run_underlying E.slice, sizeOf, typeInfo, hi0, Builtin.lenOf, Builtin.firstCells, storeCells]
    | some a => exact run_append_room_cells (P := P) w t t e i0 E.slice hi0 b 0 0 0 a 0 cap [] (by simp) (fun j u hu => by simp at hu) (fun u hu => by simp at hu) (Nat.le_refl _) (fun j hj => by simp at hj) (fun j hj => by simp at hj)
  · obtain ⟨bb, off, rfl, _, hlt, hc⟩ := h.resolve_left hnil
    have hpos : 0 < l.length := List.length_pos_iff.2 hnil
    have hfew := E.few
    have hbytes : (0 + l.length) * bytes ≤ 140737488355328 := by
      have : (0 + l.length) * bytes ≤ 2000000 * 1000 := Nat.mul_le_mul (by omega) hfew
      omega
    obtain ⟨v', w', hrun, hown, hg⟩ := run_append_arg_grows (P := P) w t t e i0 z 1 bytes E.slice hi0 hz0 hz1 hz2 E.one (by decide) ⟨b, 0, none⟩ 0 0 [] rfl (fun j u hu => by simp at hu)
      ⟨bb, off, none⟩ l.length cap l (by simp) (at_news h) (by omega) (by unfold maxLen; omega) hbytes
    rw [Nat.zero_add, List.nil_append] at hown
    exact ⟨_, w', hrun, ⟨hg.os, hg.tape, hg.output, hg.size, fun k hk => hg.block k hk (by simp)⟩, ownV_less hown hhi⟩

/-- An empty row of one's own, without room. -/
def Kd.mt {hi : Nat} (e : TypeId) : Kd hi :=
  ⟨fun v W => (∃ b, v = .slice (some ⟨b, 0, none⟩) 0 0) ∧ OwnV hi e W v [], none, fun _ _ _ h hb => ⟨h.1, ownV_on h.2 hb⟩, fun _ _ _ _ h hb hlt _ => ⟨h.1, ownV_but h.2 hb hlt⟩⟩

theorem results_blk {P : Program} {fn : Func} {p : Tmp} {t : TypeId} {cs : List Value} (hagg : ∀ w, (isAgg t).run P w = .ok true w) (hi : (P.info? t).map (·.size) = some cs.length) (h : fn.results = #[.cell p t]) (tmps : Array Value) (w : World) {b : Nat}
    (hp : tmps.getD p undef = .pointer (some ⟨b, 0, none⟩)) (hb : Blk w b t cs) : (results fn tmps).run P w = .ok (.agg cs.toArray) w := by
  have hp' : tmps[p]?.getD undef = .pointer (some ⟨b, 0, none⟩) := by simpa using hp
  simp [results, h, hp', asAddr, run_loadVar_blk hagg hi hb]
theorem results_blk2 {P : Program} {fn : Func} {p u x : Tmp} {t : TypeId} {cs : List Value} {v1 v2 : Value} (hagg : ∀ w, (isAgg t).run P w = .ok true w) (hi : (P.info? t).map (·.size) = some cs.length) (h : fn.results = #[.cell p t, .tmp u, .tmp x]) (tmps : Array Value) (w : World) {b : Nat}
    (hp : tmps.getD p undef = .pointer (some ⟨b, 0, none⟩)) (h1 : tmps.getD u undef = v1) (h2 : tmps.getD x undef = v2) (hb : Blk w b t cs) : (results fn tmps).run P w = .ok (.tuple #[.agg cs.toArray, v1, v2]) w := by
  have hp' : tmps[p]?.getD undef = .pointer (some ⟨b, 0, none⟩) := by simpa using hp
  have h1' : tmps[u]?.getD undef = v1 := by simpa using h1
  have h2' : tmps[x]?.getD undef = v2 := by simpa using h2
  simp [results, h, hp', h1', h2', asAddr, run_loadVar_blk hagg hi hb]

end Go.Proofs.YtgolihipinjfmaaGreatDoor
