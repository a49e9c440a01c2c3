/- What the reference's Same answers of two lists of inodes that are one. -/
import Derived.Test.YtckhkammedbpfaaGreatF7
import Derived.BigRegion
namespace Go.Proofs.YtckhkammedbpfaaGreat
open Go Go.RowKit Go.Maps
theorem NamesAt.at {lo : Nat} {w : World} {v : Value} {l : List ByteArray} (h : NamesAt lo w v l) : ∃ p c, v = .slice p l.length c /\ At w p (strV l) := by
 rcases h with ⟨rfl, rfl⟩ | ⟨g, c, h1, _, h3⟩
 . exact ⟨none, 0, rfl, .inl rfl⟩
 . exact ⟨_, c, h1, .inr ⟨g, 0, rfl, Nat.zero_le _, h3.lt, fun j u hu => by rw [Nat.zero_add]; exact h3.cell j hu⟩⟩
theorem DumpM.place {lo : Nat} {U : Int -> Int} {s : SS} {w : World} {v : Value} {Q : List DN} {L : List Nd} (h : DumpM lo U s w v Q L) {k : Nat} (hk : k < L.length) : ∃ b off cap pn cn pi ci, v = .slice (some ⟨b, off, none⟩) L.length cap /\ b < w.heap.size /\ (∀ i, i < 9 -> ∀ u, (inoC U (textOf s L[k].ino L[k].size) L[k] (.slice pn L[k].ds.length cn) (.slice pi L[k].ds.length ci))[i]? = some u -> w.cell? ⟨b, off + k * 9 + i, none⟩ = some u) /\ At w pn (strV (names L[k].ds)) /\ At w pi (intsV (L[k].ds.map (·.2))) := by
 obtain ⟨p, cap, e1, h1, _⟩ := rowS_at h.row
 have hQ : Q.length = L.length := by rw [<- h.list]; simp
 have hkQ : k < Q.length := by omega
 have em : Q[k].m = L[k] := by
   have := h.list
   subst this
   simp
 obtain ⟨pn, cn, e2, h2⟩ := (h.node _ (List.getElem_mem hkQ)).names.at
 obtain ⟨pi, ci, e3, h3, _⟩ := ownV_at (h.node _ (List.getElem_mem hkQ)).inos
 rw [em] at h2 h3
 have ln : (names Q[k].m.ds).length = L[k].ds.length := by rw [em]; unfold names; simp
 have li : (intsV (Q[k].m.ds.map (·.2))).length = L[k].ds.length := by rw [em]; unfold intsV; simp
 rw [ln] at e2
 rw [li] at e3
 rcases h1 with h1 | ⟨b, off, rfl, _, hlt, hc⟩
 . have := congrArg List.length h1
   rw [dcells_len] at this
   simp at this
   omega
 . refine ⟨b, off, cap, pn, cn, pi, ci, by rw [e1, hQ], hlt, fun i hi u hu => ?_, h2, h3.at⟩
   rw [Nat.add_assoc]
   refine hc (k * 9 + i) u ?_
   rw [dcells_get hkQ hi]
   unfold DN.cells
   rw [em, e2, e3]
   exact hu
end Go.Proofs.YtckhkammedbpfaaGreat
