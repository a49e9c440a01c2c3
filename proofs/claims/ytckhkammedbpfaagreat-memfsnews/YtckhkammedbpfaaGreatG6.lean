/- MemfsNews: its walk, whole. -/
import Derived.Test.YtckhkammedbpfaaGreatG2
import Derived.Test.YtckhkammedbpfaaGreatG3
import Derived.Test.YtckhkammedbpfaaGreatG4
import Derived.Test.YtckhkammedbpfaaGreatG5
import Derived.Test.YtckhkammedbpfaaGreatRows
import Derived.Test.YtckhkammedbpfaaGreatA2
import Derived.Test.YtckhkammedbpfaaGreatB1
import Derived.Deep.Slices
import Derived.Deep.Strs
import Derived.ProofKit
import Derived.OpenShut
import Derived.Deep.DeepHandedRow
import Derived.Lib.SmallJoins
import Derived.ChangeOld
import Derived.SizedLaws
import Derived.ShutString
import Derived.SliceStrings
namespace Go.Proofs.YtckhkammedbpfaaGreat
open Go Go.RowKit Go.Maps

theorem news_walk (a b n : Int) (nm : ByteArray) (w : World) :
    Calls Tryz.prog 7 #[.agg #[.int .i64 a, .int .i64 b], .int .i64 n, .string nm] w fun e w' => e = .returned (.bool true) ∧ Below w.heap.size w w' := by
  by_cases h : a < 1 ∨ 256 < a ∨ b < 0 ∨ 4096 < b
  · by_cases hl : (300 : Int) < (nm.size : Int)
    · by_cases h1 : a < 1
      · exact news_no1b a b n nm w hl h1
      by_cases h2 : a ≤ 256
      · by_cases h3 : b < 0
        · exact news_no3b a b n nm w hl (by omega) h2 h3
        · exact news_no4b a b n nm w hl (by omega) h2 (by omega) (by omega)
      · exact news_no2b a b n nm w hl (by omega) h2
    · by_cases h1 : a < 1
      · exact news_no1a a b n nm w hl h1
      by_cases h2 : a ≤ 256
      · by_cases h3 : b < 0
        · exact news_no3a a b n nm w hl (by omega) h2 h3
        · exact news_no4a a b n nm w hl (by omega) h2 (by omega) (by omega)
      · exact news_no2a a b n nm w hl (by omega) h2
  · obtain ⟨A, rfl⟩ : ∃ A : Nat, a = A := ⟨a.toNat, by omega⟩
    obtain ⟨B, rfl⟩ : ∃ B : Nat, b = B := ⟨b.toNat, by omega⟩
    exact news_yes A B n nm w (by omega)

end Go.Proofs.YtckhkammedbpfaaGreat

namespace Go.Proofs.YtckhkammedbpfaaGreat
open Go.ChangeShapes Go.WideShapes Go.ChangeAt Go.RowKit Go.Joins

theorem own : ownKnob Tryz.prog.godebug = none := by kernel_rfl
theorem laidOut : laidOutB Tryz.prog = true := by kernel_rfl
section
variable {H : Type} {enc : TypeId × Value → H} {w : World}
set_option maxRecDepth 100000 in
/-- An array of two numbers. -/
theorem open_pair {b0 : Nat} {v : Value} {d : DataW H} {ps : List MemPlace} (hv : Value.okWide Tryz.prog w .any b0 71 v) (h : DataW.Trod enc Tryz.prog w 0 (fun _ => true) true 71 v d ps) :
    ∃ a b : Int, v = .agg #[.int .i64 a, .int .i64 b] ∧ (Lit.int .i64 a).wf = true ∧ (Lit.int .i64 b).wf = true := by
  have hu : Tryz.prog.underlying 71 = some (.array 2 3) := Tryz.underlying71
  have hc : Tryz.prog.cellsOf 71 = 2 := by kernel_rfl
  have hc1 : Tryz.prog.cellsOf 3 = 1 := by kernel_rfl
  simp only [Value.okWide, hu] at hv
  obtain ⟨cs, rfl, h2, _⟩ := hv
  obtain ⟨c0, c1, rfl⟩ := array2 (h2.trans hc)
  obtain ⟨fuel, hf⟩ := h
  cases fuel with
  | zero => simp [DataW.trod] at hf
  | succ m =>
    rw [DataW.trod_step] at hf
    unfold DataW.trodStep at hf
    simp only [hu, Value.cells] at hf
    rw [if_pos (by rw [hc]; rfl)] at hf
    simp only [Option.map_eq_some_iff] at hf
    obtain ⟨ys, hy, _⟩ := hf
    rw [show List.range 2 = [0, 1] from rfl] at hy
    simp only [List.mapM_cons, List.mapM_nil, bind, Option.bind_eq_some_iff, pure, Option.some.injEq, hc1] at hy
    obtain ⟨y0, g0, r, ⟨y1, g1, _⟩, _⟩ := hy
    obtain ⟨z0, e0, _, w0⟩ := DataW.trod_int Tryz.underlying3 g0
    obtain ⟨z1, e1, _, w1⟩ := DataW.trod_int Tryz.underlying3 g1
    refine ⟨z0, z1, ?_, w0, w1⟩
    simp at e0 e1
    rw [e0, e1]
end

end Go.Proofs.YtckhkammedbpfaaGreat
