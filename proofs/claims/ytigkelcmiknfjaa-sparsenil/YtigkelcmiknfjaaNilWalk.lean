/- The law SparseNil answers true at every input. -/
import Derived.Test.YtigkelcmiknfjaaSLives
import Derived.Test.YtigkelcmiknfjaaSCut
namespace Go.Proofs.Ytigkelcmiknfjaa
open Go Go.RowKit Go.Maps

set_option maxRecDepth 100000 in
set_option maxHeartbeats 4000000 in
theorem nil_walk (off n : Int) (bv : Value) (w : World) (hoff : (Lit.int .i64 off).wf = true) (hn : (Lit.int .i64 n).wf = true) :
    Calls Try.prog 6 #[.int .i64 off, .int .i64 n, bv] w fun e w' => e = .returned (.bool true) ∧ Below w.heap.size w w' := by
  have c1 := write_nil off 1000 bv w
  have c2 := trunc_nil n w
  have hs : Hs w (.pointer none) 0 (fun _ => 0) (fun _ => false) := .inl ⟨rfl, rfl, fun _ => rfl⟩
  have c3 := size_any _ _ _ _ w hs
  have c4 := blocks_of _ _ _ _ w hs
  have c5 := has_of _ _ _ _ off w hoff hs
  have c6 := read_none _ _ _ _ off n w hs (by omega)
  have c7 := need_file _ _ _ _ off n w hs hoff hn
  have c8 := need_any none none 0 0 0 [] off n w (by simp) (.nil _ _ _)
  have e1 : cntF 1024 (fun _ => false) = 0 := cntF_none fun _ => rfl
  have e2 : hasZ (fun _ => false) off = false := by simp [hasZ]
  have e3 : needN [] off n = needF (fun _ => false) off n := needF_list [] off n
  rw [e1] at c4
  rw [e2] at c5
  rw [e3] at c8
  clear hs e1 e2 e3
  generalize needF (fun _ => false) off n = nd at *
  go_enter Try.func6, Try.ntmps6
  go_wp2_with fail
  refine c1.mono ?_
  rintro e w1 ⟨rfl, rfl⟩
  go_wp2_with fail
  refine c2.mono ?_
  rintro e w2 ⟨rfl, rfl⟩
  go_wp2_with fail
  refine c3.mono ?_
  rintro e w3 ⟨rfl, rfl⟩
  go_wp2_with fail
  refine c4.mono ?_
  rintro e w4 ⟨rfl, rfl⟩
  go_wp2_with fail
  refine c5.mono ?_
  rintro e w5 ⟨rfl, rfl⟩
  go_wp2_with fail
  refine c6.mono ?_
  rintro e w6 ⟨rfl, rfl⟩
  go_wp2_with fail
  refine c7.mono ?_
  rintro e w7 ⟨rfl, rfl⟩
  go_wp2_with fail
  refine c8.mono ?_
  rintro e w8 ⟨rfl, hb8⟩
  have c9 := lives_any w8
  go_wp2_with fail
  refine c9.mono ?_
  rintro e w9 ⟨rfl, hb9⟩
  have HB : Hid (Below w7.heap.size w7 w9) := on_trans hb8 hb9
  go_wp2
  go_ret
  exact ⟨rfl, HB.out⟩

end Go.Proofs.Ytigkelcmiknfjaa
