/- InodesNews: its walk. -/
import Derived.Test.YtpokdcimpplneaaC5
import Derived.Test.YtpokdcimpplneaaD1
import Derived.Test.YtpokdcimpplneaaRows
import Derived.Test.YtpokdcimpplneaaA2
import Derived.Test.YtpokdcimpplneaaB1
import Derived.Deep.Slices
import Derived.Deep.Strs
import Derived.ProofKit
import Derived.OpenShut
import Derived.Deep.DeepHandedRow
import Derived.Lib.SmallJoins
import Derived.ChangeOld
import Derived.SizedLaws
import Derived.ShutString
import Derived.SliceStrings
namespace Go.Proofs.Ytpokdcimpplneaa
open Go Go.RowKit

set_option maxRecDepth 100000 in
set_option maxHeartbeats 8000000 in
theorem news_walk (n b : Int) (ak ai aa : Int) (at_ : ByteArray) (w : World) (hn : (Lit.int .i64 n).wf = true) (hb : (Lit.int .i64 b).wf = true) (_hi : (Lit.int .i64 ai).wf = true) (ha : (Lit.int .i64 aa).wf = true) (ht : at_.size ≤ 9223372036854775807) :
    Calls Try.prog 6 #[.int .i64 n, .int .i64 b, .agg #[.int .i64 ak, .int .i64 ai, .int .i64 aa, .string at_]] w fun e w' => e = .returned (.bool true) ∧ Below w.heap.size w w' := by
  have hal := on_alloc w (.cells #[.int .i64 ak, .int .i64 ai, .int .i64 aa, .string at_] 30)
  have HX0 : Hid (Blk (w.alloc (.cells #[.int .i64 ak, .int .i64 ai, .int .i64 aa, .string at_] 30)) w.heap.size 30 [.int .i64 ak, .int .i64 ai, .int .i64 aa, .string at_]) := Blk.new w _ [.int .i64 ak, .int .i64 ai, .int .i64 aa, .string at_]
  have HB0 : Hid (Below w.heap.size w (w.alloc (.cells #[.int .i64 ak, .int .i64 ai, .int .i64 aa, .string at_] 30))) := hal
  have HQ : Hid (∀ w', Below w.heap.size w w' → (fun e w' => e = Ending.returned (.bool true) ∧ Below w.heap.size w w') (Ending.returned (.bool true)) w') := fun w' h => ⟨rfl, h⟩
  generalize (fun e w' => e = Ending.returned (.bool true) ∧ Below w.heap.size w w') = Post at *
  clear hal
  by_cases hok : 1 ≤ n ∧ n ≤ 256 ∧ 0 ≤ b ∧ b ≤ 4096
  · obtain ⟨N, rfl⟩ : ∃ N : Nat, n = N := ⟨n.toNat, by omega⟩
    obtain ⟨B, rfl⟩ : ∃ B : Nat, b = B := ⟨b.toNat, by omega⟩
    have hwf : Wf (newS N B) 0 := wf_new (by omega) (by omega)
    have cR := fun w => rnew_any (N : Int) (B : Int) w
    rw [show newOk (N : Int) (B : Int) = true by simp [newOk]; omega] at cR
    go_enter Try.func6, Try.ntmps6
    go_wp2_with fail
    refine (new_yes N B _ (by omega)).mono ?_
    rintro e w1 ⟨sb, rfl, h1, hb1⟩
    generalize w.alloc (.cells #[.int .i64 ak, .int .i64 ai, .int .i64 aa, .string at_] 30) = w0 at *
    have HB1 : Hid (Below w.heap.size w w1) := on_trans HB0.out hb1
    have HS1 : Hid (StoreAt w0.heap.size w1 sb (newS N B)) := h1
    clear h1 hb1
    go_wp2_with fail
    refine (cR _).mono ?_
    rintro e w2 ⟨rfl, hb2⟩
    have hb2' := on_trans hb2 (on_alloc w2 (.cells #[.slice none 0 0, .int .i64 1, .int .i64 (N : Int), .int .i64 (B : Int)] 53))
    have HS2 : Hid (StoreAt w0.heap.size (w2.alloc (.cells #[.slice none 0 0, .int .i64 1, .int .i64 (N : Int), .int .i64 (B : Int)] 53)) sb (newS N B)) := HS1.out.on6 hb2'
    have HB2 : Hid (Below w.heap.size w (w2.alloc (.cells #[.slice none 0 0, .int .i64 1, .int .i64 (N : Int), .int .i64 (B : Int)] 53))) := HB1.out.trans (hb2'.mono HB1.out.size)
    have cRm := room_any HS2.out hwf
    have e1 : ((newS N B).most : Int) - ((newS N B).L.length : Int) = (N : Int) := by simp [newS]
    have e2 : (newS N B).bl = (B : Int) := by simp [SS.bl, newS, sumB]
    rw [e1, e2] at cRm
    clear hb2 hb2' cR e1 e2
    go_wp2_with fail
    generalize w2.alloc (.cells #[.slice none 0 0, .int .i64 1, .int .i64 (N : Int), .int .i64 (B : Int)] 53) = w3 at *
    refine cRm.mono ?_
    rintro e w4 ⟨rfl, q, rfl⟩
    have HS4 : Hid (StoreAt w0.heap.size (w3.drewN q) sb (newS N B)) := HS2.out.on6 (on_drewN (Below.refl _ _) q)
    have HB4 : Hid (Below w.heap.size w (w3.drewN q)) := on_drewN HB2.out q
    generalize w3.drewN q = w4 at *
    have cNx := next_any HS4.out
    rw [show ((newS N B).next : Int) = 1 from rfl] at cNx
    clear cRm
    go_wp2_with fail
    refine cNx.mono ?_
    rintro e w5 ⟨rfl, hw5⟩
    subst w5
    have cAl := all_any HS4.out hwf
    clear cNx
    go_wp2_with fail
    refine cAl.mono ?_
    rintro e w6 ⟨p6, c6, rfl, _, hb6⟩
    rw [show (newS N B).L.length = 0 from rfl]
    have HB6 : Hid (Below w.heap.size w w6) := HB4.out.trans (hb6.mono HB4.out.size)
    have cL := lives_any w6
    clear cAl hb6
    go_wp2_with fail
    refine cL.mono ?_
    rintro e w7 ⟨rfl, hb7⟩
    have HZ : Hid _ := HQ.out w7 (HB6.out.trans (hb7.mono HB6.out.size))
    clear HQ hb7 cL
    go_wp2
    exact HZ.out
  · have cR := fun w => rnew_any n b w
    rw [show newOk n b = false by simp [newOk]; omega] at cR
    have cN := fun w => new_no n b w (by omega)
    have cS := fun w => short_any ak ai aa at_ w ht
    have hA := cutAt6_wf ha
    generalize cutT6 at_ = t2 at *
    generalize cutAt6 aa = a2 at *
    clear hok
    go_enter Try.func6, Try.ntmps6
    go_wp2_with fail
    refine (cN _).mono ?_
    rintro e w1 ⟨rfl, hw1⟩
    subst w1
    generalize w.alloc (.cells #[.int .i64 ak, .int .i64 ai, .int .i64 aa, .string at_] 30) = w0 at *
    go_wp2_with fail
    refine (cR _).mono ?_
    rintro e w2 ⟨rfl, hb2⟩
    have hb2' := on_trans hb2 (on_alloc w2 (.cells #[.slice none 0 0, .int .i64 1, .int .i64 n, .int .i64 b] 53))
    have HX2 : Hid (Blk (w2.alloc (.cells #[.slice none 0 0, .int .i64 1, .int .i64 n, .int .i64 b] 53)) w.heap.size 30 [.int .i64 ak, .int .i64 ai, .int .i64 aa, .string at_]) := HX0.out.on hb2'
    have HB2 : Hid (Below w.heap.size w (w2.alloc (.cells #[.slice none 0 0, .int .i64 1, .int .i64 n, .int .i64 b] 53))) := on_trans HB0.out hb2'
    have x0 := HX2.out.cell 0 rfl
    have x1 := HX2.out.cell 1 rfl
    have x2 := HX2.out.cell 2 rfl
    have x3 := HX2.out.cell 3 rfl
    clear hb2 hb2' cR cN
    go_wp2_with fail
    generalize w2.alloc (.cells #[.slice none 0 0, .int .i64 1, .int .i64 n, .int .i64 b] 53) = w3 at *
    refine (cS _).mono ?_
    rintro e w4 ⟨rfl, hb4⟩
    have hX4 := HX2.out.on hb4
    have HX5 : Hid (Blk (putL w4 w.heap.size 0 [.int .i64 ak, .int .i64 ai, .int .i64 a2, .string t2]) w.heap.size 30 [.int .i64 ak, .int .i64 ai, .int .i64 a2, .string t2]) := hX4.put _ rfl
    have HB5 : Hid (Below w.heap.size w (putL w4 w.heap.size 0 [.int .i64 ak, .int .i64 ai, .int .i64 a2, .string t2])) := below_but (HB2.out.trans (hb4.mono HB2.out.size)) (but_putL _ _ _ _) (Nat.le_refl _)
    have f0 := hX4.free 0
    have f1 := hX4.free 1
    have f2 := hX4.free 2
    have f3 := hX4.free 3
    have u0 := hX4.cell 0 rfl
    have u1 := hX4.cell 1 rfl
    have u2 := hX4.cell 2 rfl
    have u3 := hX4.cell 3 rfl
    have z0 := HX5.out.cell 0 rfl
    have z1 := HX5.out.cell 1 rfl
    have z2 := HX5.out.cell 2 rfl
    have z3 := HX5.out.cell 3 rfl
    simp only [putL] at HX5 HB5 z0 z1 z2 z3
    clear hX4 hb4 cS x0 x1 x2 x3
    go_wp2_with fail
    generalize (((w4.setCell ⟨w.heap.size, 0, none⟩ (.int .i64 ak)).setCell ⟨w.heap.size, 0 + 1, none⟩ (.int .i64 ai)).setCell ⟨w.heap.size, 0 + 1 + 1, none⟩ (.int .i64 a2)).setCell ⟨w.heap.size, 0 + 1 + 1 + 1, none⟩ (.string t2) = w5 at *
    clear f0 f1 f2 f3 u0 u1 u2 u3
    refine (make_nil _ _ _).mono ?_
    rintro e w6 ⟨rfl, hw6⟩
    subst w6
    go_wp2_with fail
    refine (stat_nil _ _).mono ?_
    rintro e w6 ⟨rfl, hb6⟩
    have hb6' := on_trans hb6 (on_alloc w6 (.cells #[.int .i64 0, .int .i64 0, .int .i64 0, .int .i64 0, .int .i64 0] 40))
    have HX6 : Hid (Blk (w6.alloc (.cells #[.int .i64 0, .int .i64 0, .int .i64 0, .int .i64 0, .int .i64 0] 40)) w.heap.size 30 [.int .i64 ak, .int .i64 ai, .int .i64 a2, .string t2]) := HX5.out.on hb6'
    have HB6 : Hid (Below w.heap.size w (w6.alloc (.cells #[.int .i64 0, .int .i64 0, .int .i64 0, .int .i64 0, .int .i64 0] 40))) := HB5.out.trans (hb6'.mono HB5.out.size)
    have y1 := HX6.out.cell 1 rfl
    have y2 := HX6.out.cell 2 rfl
    have y3 := HX6.out.cell 3 rfl
    clear hb6 hb6' z0 z1 z2 z3 HX5 HB5
    simp only [stat0]
    go_wp2_with fail
    generalize w6.alloc (.cells #[.int .i64 0, .int .i64 0, .int .i64 0, .int .i64 0, .int .i64 0] 40) = w7 at *
    refine (read_nil _ _ _ _).mono ?_
    rintro e w8 ⟨rfl, hw8⟩
    subst w8
    go_wp2_with fail
    refine (room_nil _).mono ?_
    rintro e w8 ⟨rfl, hw8⟩
    subst w8
    go_wp2_with fail
    refine (more_Link_nil _ _).mono ?_
    rintro e w8 ⟨rfl, hw8⟩
    subst w8
    go_wp2_with fail
    refine (less_Unlink_nil _ _).mono ?_
    rintro e w8 ⟨rfl, hw8⟩
    subst w8
    go_wp2_with fail
    refine (more_Hold_nil _ _).mono ?_
    rintro e w8 ⟨rfl, hw8⟩
    subst w8
    go_wp2_with fail
    refine (less_Release_nil _ _).mono ?_
    rintro e w8 ⟨rfl, hw8⟩
    subst w8
    go_wp2_with fail
    refine (write_nil6 _ _ _ _).mono ?_
    rintro e w8 ⟨rfl, hw8⟩
    subst w8
    go_wp2_with fail
    refine (trunc_nil6 _ _ _).mono ?_
    rintro e w8 ⟨rfl, hw8⟩
    subst w8
    go_wp2_with fail
    refine (dir_nil _ _).mono ?_
    rintro e w8 ⟨rfl, hw8⟩
    subst w8
    go_wp2_with fail
    refine (has_nil _ _ _ (by decide)).mono ?_
    rintro e w8 ⟨rfl, hw8⟩
    subst w8
    go_wp2_with fail
    refine (all_nil _).mono ?_
    rintro e w8 ⟨rfl, hw8⟩
    subst w8
    go_wp2_with fail
    refine (next_nil _).mono ?_
    rintro e w8 ⟨rfl, hw8⟩
    subst w8
    have cL := lives_any w7
    go_wp2_with fail
    refine cL.mono ?_
    rintro e w8 ⟨rfl, hb8⟩
    have HZ : Hid _ := HQ.out w8 (HB6.out.trans (hb8.mono HB6.out.size))
    clear HQ hb8 cL
    go_wp2
    exact HZ.out

end Go.Proofs.Ytpokdcimpplneaa

namespace Go.Proofs.Ytpokdcimpplneaa
open Go.ChangeShapes Go.WideShapes Go.ChangeAt Go.RowKit Go.Joins

theorem own : ownKnob Try.prog.godebug = none := by kernel_rfl
theorem laidOut : laidOutB Try.prog = true := by kernel_rfl
theorem cellsAct : Try.prog.cellsOf 30 = 4 := by kernel_rfl

/-- An act in memory. -/
structure Act6 where
  k : Int
  i : Int
  a : Int
  t : ByteArray
def Act6.cells (x : Act6) : List Value := [.int .i64 x.k, .int .i64 x.i, .int .i64 x.a, .string x.t]
def actsV6 (l : List Act6) : List Value := l.flatMap Act6.cells
theorem actsV6_len (l : List Act6) : (actsV6 l).length = l.length * 4 := by
  induction l with
  | nil => rfl
  | cons x r ih => simp only [actsV6, List.flatMap_cons, List.length_append, List.length_cons] at *; rw [ih]; simp [Act6.cells]; omega
theorem actsV6_get {l : List Act6} {k i : Nat} (hk : k < l.length) (hi : i < 4) : (actsV6 l)[k * 4 + i]? = (l[k].cells)[i]? := by
  induction l generalizing k with
  | nil => simp at hk
  | cons x r ih =>
    simp only [actsV6, List.flatMap_cons]
    have hx : x.cells.length = 4 := rfl
    cases k with
    | zero => rw [List.getElem?_append_left (by omega)]; simp
    | succ k =>
      rw [List.getElem?_append_right (by omega), hx, show (k + 1) * 4 + i - 4 = k * 4 + i by omega]
      exact ih (by simpa using hk)
/-- What an act's values are. -/
structure Act6Ok (x : Act6) : Prop where
  kw : (Lit.int .i64 x.k).wf = true
  iw : (Lit.int .i64 x.i).wf = true
  aw : (Lit.int .i64 x.a).wf = true
  tw : x.t.size ≤ 9223372036854775807

section
variable {H : Type} {enc : TypeId × Value → H} {w : World}

theorem addr_add (b off : Nat) (j : Nat) : (⟨b, off, none⟩ : Addr).add j = ⟨b, off + j, none⟩ := by unfold Addr.add; split <;> simp_all

theorem cells_act {n : Nat} {v0 v1 v2 v3 : Value} {y0 y1 y2 y3 : DataW H × List MemPlace} (h0 : DataW.trod enc Try.prog w 0 (fun _ => true) true n 3 [v0] = some y0) (h1 : DataW.trod enc Try.prog w 0 (fun _ => true) true n 3 [v1] = some y1) (h2 : DataW.trod enc Try.prog w 0 (fun _ => true) true n 3 [v2] = some y2) (h3 : DataW.trod enc Try.prog w 0 (fun _ => true) true n 9 [v3] = some y3) :
    ∃ x : Act6, Act6Ok x ∧ v0 = .int .i64 x.k ∧ v1 = .int .i64 x.i ∧ v2 = .int .i64 x.a ∧ v3 = .string x.t := by
  obtain ⟨z0, e0, _, w0⟩ := DataW.trod_int Try.underlying3 h0
  obtain ⟨z1, e1, _, w1⟩ := DataW.trod_int Try.underlying3 h1
  obtain ⟨z2, e2, _, w2⟩ := DataW.trod_int Try.underlying3 h2
  obtain ⟨z3, e3, _, w3⟩ := DataW.trod_string Try.underlying9 h3
  exact ⟨⟨z0, z1, z2, z3⟩, ⟨w0, w1, w2, by unfold maxLen at w3; show z3.size ≤ _; omega⟩, by simpa using e0, by simpa using e1, by simpa using e2, by simpa using e3⟩
set_option maxRecDepth 100000 in
/-- An act by value. -/
theorem open_act {b0 : Nat} {v : Value} {d : DataW H} {ps : List MemPlace} (hv : Value.okWide Try.prog w .any b0 30 v) (h : DataW.Trod enc Try.prog w 0 (fun _ => true) true 30 v d ps) :
    ∃ x : Act6, v = .agg #[.int .i64 x.k, .int .i64 x.i, .int .i64 x.a, .string x.t] ∧ Act6Ok x := by
  obtain ⟨v0, v1, v2, v3, y0, y1, y2, y3, n, rfl, _, _, h0, h1, h2, h3⟩ := open_agg4 Try.underlying30 (by kernel_rfl) cellsAct hv h
  obtain ⟨x, ok, rfl, rfl, rfl, rfl⟩ := cells_act h0 h1 h2 h3
  exact ⟨x, rfl, ok⟩

set_option maxRecDepth 100000 in
theorem open_acts {b0 : Nat} {v : Value} {d : DataW H} {ps : List MemPlace} (hv : Value.okWide Try.prog w .any b0 23 v) (h : DataW.Trod enc Try.prog w 0 (fun _ => true) true 23 v d ps) :
    ∃ (p : Option Addr) (cap : Nat) (l : List Act6), v = .slice p l.length cap ∧ At w p (actsV6 l) ∧ (∀ x ∈ l, Act6Ok x) ∧ l.length ≤ cap ∧ l.length ≤ 9223372036854775807 := by
  obtain ⟨a0, len0, cap0, rfl⟩ := okWide_slice Try.underlying23 hv
  obtain ⟨fuel, hf⟩ := h
  rcases Deep.open_slice Try.underlying23 hf with ⟨hcs, _⟩ | ⟨a, len, cap, m, n, D, Pl, hcs, _, hl, hm, hmm, _, hx⟩
  · have hcs' : [Value.slice a0 len0 cap0] = [.slice none 0 0] := hcs
    have e : Value.slice a0 len0 cap0 = .slice none 0 0 := by simpa using hcs'
    rw [e]
    exact ⟨none, 0, [], rfl, .nil _ _ _, (fun x hx => by cases hx), Nat.le_refl _, by simp⟩
  · have hcs' : [Value.slice a0 len0 cap0] = [.slice (some a) len cap] := hcs
    have e : Value.slice a0 len0 cap0 = .slice (some a) len cap := by simpa using hcs'
    rw [e]
    have hml : m = cap := by simpa using hmm
    rw [cellsAct] at hx
    have each : ∀ i, i < len → ∃ x : Act6, Act6Ok x ∧ ∀ r, r < 4 → w.cell? ((a.add (i * 4)).add r) = (x.cells)[r]? := fun i hi => by
      obtain ⟨cs', h1, h2⟩ := hx i (by omega)
      obtain ⟨_, hlen, hcell⟩ := World.cells?_some h1
      obtain ⟨y0, y1, y2, y3, n', _, _, g0, g1, g2, g3⟩ := trod_struct4 Try.underlying30 h2
      match cs', hlen with
      | [v0, v1, v2, v3], _ =>
        have g0' : DataW.trod enc Try.prog w 0 (fun _ => true) true n' 3 [v0] = some y0 := g0
        have g1' : DataW.trod enc Try.prog w 0 (fun _ => true) true n' 3 [v1] = some y1 := g1
        have g2' : DataW.trod enc Try.prog w 0 (fun _ => true) true n' 3 [v2] = some y2 := g2
        have g3' : DataW.trod enc Try.prog w 0 (fun _ => true) true n' 9 [v3] = some y3 := g3
        obtain ⟨x, ok, rfl, rfl, rfl, rfl⟩ := cells_act g0' g1' g2' g3'
        exact ⟨x, ok, fun r hr => hcell r hr⟩
    let f : Nat → Act6 := fun i => if hi : i < len then Classical.choose (each i hi) else ⟨0, 0, 0, ⟨#[]⟩⟩
    have hfi : ∀ i, i < len → Act6Ok (f i) ∧ ∀ r, r < 4 → w.cell? ((a.add (i * 4)).add r) = ((f i).cells)[r]? := fun i hi => by
      have := Classical.choose_spec (each i hi)
      simp only [f, dif_pos hi]
      exact this
    have hll : ((List.range len).map f).length = len := by simp
    refine ⟨some a, cap, (List.range len).map f, by rw [hll], ?_, fun x hx => ?_, by rw [hll]; exact hl, by rw [hll]; unfold maxLen at hm; omega⟩
    · by_cases hn : len = 0
      · subst hn; exact .inl rfl
      · have hc0 := (hfi 0 (by omega)).2 0 (by omega)
        have hc0' : w.cell? ((a.add (0 * 4)).add 0) = some (.int .i64 (f 0).k) := hc0
        obtain ⟨b, off, spot⟩ := a
        have hspot : spot = none := by simpa [Addr.add] using World.cell?_spot hc0'
        subst hspot
        have hlt : b < w.heap.size := by
          have := World.block_lt_of_cell? w _ hc0'
          simpa [Addr.add] using this
        refine .inr ⟨b, off, rfl, Nat.zero_le _, hlt, fun j u hu => ?_⟩
        have hj : j < len * 4 := by have := (List.getElem?_eq_some_iff.1 hu).1; rw [actsV6_len, hll] at this; exact this
        have h1 := actsV6_get (l := (List.range len).map f) (k := j / 4) (by rw [hll]; omega) (i := j % 4) (by omega)
        rw [show j / 4 * 4 + j % 4 = j by omega, hu] at h1
        have h2 := (hfi (j / 4) (by omega)).2 (j % 4) (by omega)
        rw [addr_add, addr_add, show off + j / 4 * 4 + j % 4 = off + j by omega] at h2
        rw [h2, h1]
        simp
    · obtain ⟨i, hi, rfl⟩ := List.mem_map.1 hx
      exact (hfi i (List.mem_range.1 hi)).1
set_option maxRecDepth 100000 in
/-- Arrays of two bytes, of three numbers. -/
theorem open_two {b0 : Nat} {v : Value} {d : DataW H} {ps : List MemPlace} (hv : Value.okWide Try.prog w .any b0 22 v) (h : DataW.Trod enc Try.prog w 0 (fun _ => true) true 22 v d ps) :
    ∃ a b : Int, v = .agg #[.int .u8 a, .int .u8 b] ∧ (0 ≤ a ∧ a ≤ 255) ∧ (0 ≤ b ∧ b ≤ 255) := by
  have hu : Try.prog.underlying 22 = some (.array 2 5) := Try.underlying22
  have hc : Try.prog.cellsOf 22 = 2 := by kernel_rfl
  have hc1 : Try.prog.cellsOf 5 = 1 := by kernel_rfl
  simp only [Value.okWide, hu] at hv
  obtain ⟨cs, rfl, h2, _⟩ := hv
  obtain ⟨c0, c1, rfl⟩ := array2 (h2.trans hc)
  obtain ⟨fuel, hf⟩ := h
  cases fuel with
  | zero => simp [DataW.trod] at hf
  | succ m =>
    rw [DataW.trod_step] at hf
    unfold DataW.trodStep at hf
    simp only [hu, Value.cells] at hf
    rw [if_pos (by rw [hc]; rfl)] at hf
    simp only [Option.map_eq_some_iff] at hf
    obtain ⟨ys, hy, _⟩ := hf
    rw [show List.range 2 = [0, 1] from rfl] at hy
    simp only [List.mapM_cons, List.mapM_nil, bind, Option.bind_eq_some_iff, pure, Option.some.injEq, hc1] at hy
    obtain ⟨y0, g0, r, ⟨y1, g1, _⟩, _⟩ := hy
    obtain ⟨z0, e0, _, w0⟩ := DataW.trod_int Try.underlying5 g0
    obtain ⟨z1, e1, _, w1⟩ := DataW.trod_int Try.underlying5 g1
    refine ⟨z0, z1, ?_, ?_, ?_⟩
    · simp at e0 e1
      rw [e0, e1]
    · simp [Lit.wf, IntKind.min, IntKind.max, IntKind.signed, IntKind.bits] at w0; omega
    · simp [Lit.wf, IntKind.min, IntKind.max, IntKind.signed, IntKind.bits] at w1; omega
set_option maxRecDepth 100000 in
theorem open_three {b0 : Nat} {v : Value} {d : DataW H} {ps : List MemPlace} (hv : Value.okWide Try.prog w .any b0 34 v) (h : DataW.Trod enc Try.prog w 0 (fun _ => true) true 34 v d ps) :
    ∃ a b c : Int, v = .agg #[.int .i64 a, .int .i64 b, .int .i64 c] ∧ (Lit.int .i64 a).wf = true ∧ (Lit.int .i64 b).wf = true ∧ (Lit.int .i64 c).wf = true := by
  have hu : Try.prog.underlying 34 = some (.array 3 3) := Try.underlying34
  have hc : Try.prog.cellsOf 34 = 3 := by kernel_rfl
  have hc1 : Try.prog.cellsOf 3 = 1 := by kernel_rfl
  simp only [Value.okWide, hu] at hv
  obtain ⟨cs, rfl, h2, _⟩ := hv
  obtain ⟨c0, c1, c2, rfl⟩ := array3 (h2.trans hc)
  obtain ⟨fuel, hf⟩ := h
  cases fuel with
  | zero => simp [DataW.trod] at hf
  | succ m =>
    rw [DataW.trod_step] at hf
    unfold DataW.trodStep at hf
    simp only [hu, Value.cells] at hf
    rw [if_pos (by rw [hc]; rfl)] at hf
    simp only [Option.map_eq_some_iff] at hf
    obtain ⟨ys, hy, _⟩ := hf
    rw [show List.range 3 = [0, 1, 2] from rfl] at hy
    simp only [List.mapM_cons, List.mapM_nil, bind, Option.bind_eq_some_iff, pure, Option.some.injEq, hc1] at hy
    obtain ⟨y0, g0, r, ⟨y1, g1, r2, ⟨y2, g2, _⟩, _⟩, _⟩ := hy
    obtain ⟨z0, e0, _, w0⟩ := DataW.trod_int Try.underlying3 g0
    obtain ⟨z1, e1, _, w1⟩ := DataW.trod_int Try.underlying3 g1
    obtain ⟨z2, e2, _, w2⟩ := DataW.trod_int Try.underlying3 g2
    refine ⟨z0, z1, z2, ?_, w0, w1, w2⟩
    simp at e0 e1 e2
    rw [e0, e1, e2]
end

end Go.Proofs.Ytpokdcimpplneaa
