/- NameiEnds: its walk. -/
import Derived.Test.YthlaoaaafafafaaGreatN4
set_option maxRecDepth 100000
set_option maxHeartbeats 16000000
namespace Go.Proofs.YthlaoaaafafafaaGreat
open Go Go.RowKit Go.Maps
theorem ends_walk (pa : Option Addr) (ca : Nat) (l : List Act7) (t : ByteArray) (st : Int) (be fo pr : Bool) (w : World) (_hca : l.length <= ca) (_hla : l.length <= 9223372036854775807) (hat : At w pa (actsV7 l)) (hok : ∀ x ∈ l, Act7Ok x) (ht : t.size <= maxLen) (hst : (Lit.int .i64 st).wf = true) :
 Calls Tryz.prog 6 #[.slice pa l.length ca, .string t, .agg #[.int .i64 st, .bool be, .bool fo, .bool pr]] w fun e w' => e = .returned (.bool true) /\ Below w.heap.size w w' := by
 have hb0 := on_alloc w (.cells #[.int .i64 st, .bool be, .bool fo, .bool pr] 26); have HX : Hid _ := Blk.new w 26 [.int .i64 st, .bool be, .bool fo, .bool pr]; have cT := tree8 pa ca l _ (hat.on hb0) hok; have HB0 : Hid _ := hb0
 have hts : t.size <= 9223372036854775807 := by unfold maxLen at ht; omega
 have cS := fun w => short8 t w hts
 have cL := lives8; have HST : Hid ((Lit.int .i64 st).wf = true) := hst
 have HP : Hid (∀ w', Below w.heap.size w w' -> (fun e w' => e = Ending.returned (.bool true) /\ Below w.heap.size w w') (Ending.returned (.bool true)) w') := fun w' h => ⟨rfl, h⟩
 generalize (fun e w' => e = Ending.returned (.bool true) /\ Below w.heap.size w w') = Post at *
 clear hat hok hst hb0 ht; go_enter Tryz.func6, Tryz.ntmps6; go_wp2_with fail; generalize w.alloc (.cells #[.int .i64 st, .bool be, .bool fo, .bool pr] 26) = w0 at *; refine cT.mono ?_; rintro e w1 ⟨fb, rb, s, U, rfl, hS, _, hf, hB⟩; have hX1 := HX.out.on hB; have HW : Hid _ := hB; have HF : Hid (FsOk s U 161) := hf; have HS : Hid _ := hS; have x0 := hX1.cell 0 rfl; have x1 := hX1.cell 1 rfl; have x2 := hX1.cell 2 rfl; have x3 := hX1.cell 3 rfl; clear cT hB hS hf hX1; go_wp2_with fail; refine (cS _).mono ?_
 rintro e w2 ⟨t', rfl, ht', hw2⟩; subst w2
 have cW := walk_any HS.out HF.out.wf HF.out.tree (by omega) be fo pr st HST.out t' (by omega)
 obtain ⟨z0, z1, z2, z3, z4, e1, h4⟩ := walkF_is HF.out.wf U be fo pr st t'; generalize walkF s U be fo pr st t' = R at *; obtain ⟨V, E⟩ := R
 simp only at e1
 subst e1; unfold howC at cW; clear cS; go_wp2_with fail; refine cW.mono ?_; rintro e w3 ⟨rfl, hb3⟩; have HB4 : Hid (Below w.heap.size w (w3.alloc (.cells #[.int .i64 z0, .string z1, .int .i64 z2, .bool z3, .int .i64 (z4 : Int)] 33))) := on_trans (on_trans (on_trans HB0.out HW.out) hb3) (on_alloc _ _)
 have h4z : (z4 : Int) <= (t'.size : Int) / 2 + 1 + 1032 := by omega
 have h40 : (0 : Int) <= (z4 : Int) := by omega
 have htz : (t'.size : Int) <= 600 := by omega
 have htd : 0 <= (t'.size : Int) := by omega
 unfold fdC; clear cW hb3 HS HF HW h4; go_wp2_with fail; generalize w3.alloc (.cells #[.int .i64 z0, .string z1, .int .i64 z2, .bool z3, .int .i64 (z4 : Int)] 33) = w4 at *; refine (cL _).mono ?_; rintro e w5 ⟨rfl, hb5⟩; have hz := HP.out w5 (on_trans HB4.out hb5); clear hb5 HB4; go_wp2
 exact hz
end Go.Proofs.YthlaoaaafafafaaGreat
