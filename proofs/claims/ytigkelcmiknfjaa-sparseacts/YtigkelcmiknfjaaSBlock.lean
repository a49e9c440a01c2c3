/- Package sparse: block. -/
import Derived.Test.YtigkelcmiknfjaaSNeedF
namespace Go.Proofs.Ytigkelcmiknfjaa
open Go Go.RowKit Go.Maps

theorem map_eq_none (w : World) : (binOp .eql 49 (.map none) (.map none)).run Try.prog w = .ok (.bool true) w := by kernel_rfl
theorem map_eq_some (mb : Nat) (w : World) : (binOp .eql 49 (.map (some mb)) (.map none)).run Try.prog w = .ok (.bool false) w := by kernel_rfl

theorem slice_arr (g r : Nat) (hr : r < 64) (w : World) : (Instr.sliceAt 63 (.pointer (some ⟨g, 0, none⟩)) (some (.int .i64 (r : Int))) none none).run Try.prog w = .ok (.slice (some ⟨g, r, none⟩) (64 - r) (64 - r)) w := by
  have e1 : Try.prog.arrayLen 63 = 64 := by kernel_rfl
  have e2 : ∀ w, (sizeOf (Try.prog.elem 63)).run Try.prog w = .ok 1 w := fun w => by kernel_rfl
  have hu : Try.prog.underlying 63 = some (.array (Try.prog.arrayLen 63) (Try.prog.elem 63)) := by kernel_rfl
  rw [run_sliceAt_array_l w 63 ⟨g, 0, none⟩ hu .i64 r (by omega) (by rw [e1]; omega), e2, e1]
  simp only [Result.andThen, slicedAt, Int.toNat_natCast, Nat.mul_one]
  rw [if_neg (by omega)]
  simp [Addr.add]
  omega

theorem goes_mapped {w : World} {fb sz : Nat} {D : DataW Nat} {C : Nat → UInt8} {h : Nat → Bool} (_f : FileM w fb (.map none) D sz C h) : Goes (foot fb (.map none) D h) (foot fb (.map (some w.heap.size)) D h) w ((w.alloc (.map #[] 0)).setCell ⟨fb, 0, none⟩ (.map (some w.heap.size))) := by
  have hb := but_set (w.alloc (.map #[] 0)) fb 0 (.map (some w.heap.size))
  have ha := on_alloc w (.map #[] 0)
  refine ⟨⟨hb.os.trans ha.os, hb.tape.trans ha.tape, hb.output.trans ha.output, by rw [hb.size]; exact ha.size, fun k hk hn => (hb.block k fun e => hn (.inl e)).trans (ha.block k hk)⟩, fun x hx => ?_⟩
  rcases hx with e | e | e
  · exact .inl (.inl e)
  · cases e; exact .inr (Nat.le_refl _)
  · exact .inl (.inr (.inr e))
theorem goes_laid {w w2 : World} {fb mb g sz k : Nat} {D : DataW Nat} {C : Nat → UInt8} {h : Nat → Bool} {o : Obj} (f : FileM w fb (.map (some mb)) D sz C h) (hgs : w.heap.size = g) (hg : (w.alloc o).grownBy w2 (some mb)) : Goes (foot fb (.map (some mb)) D h) (foot fb (.map (some mb)) (D.put (ky k) (.held g)) (upd h k true)) w w2 := by
  subst hgs
  have ha := on_alloc w o
  refine ⟨⟨hg.os.trans ha.os, hg.tape.trans ha.tape, hg.output.trans ha.output, Nat.le_trans ha.size hg.size, fun j hj hn => (hg.block j (Nat.lt_of_lt_of_le hj ha.size) fun e => hn (.inr (.inl (by cases e; rfl)))).trans (ha.block j hj)⟩, fun x hx => ?_⟩
  rcases hx with e | e | ⟨j, hj, e⟩
  · exact .inl (.inl e)
  · exact .inl (.inr (.inl e))
  · by_cases ej : j = k
    · subst ej
      rw [gOf_put f.is.tidy.isMap] at e
      exact .inr (by omega)
    · rw [upd_other true ej] at hj
      rw [gOf_put_other _ ej] at e
      exact .inl (.inr (.inr ⟨j, hj, e⟩))

set_option maxRecDepth 100000 in
set_option maxHeartbeats 1000000 in
theorem block_any (fb sz k : Nat) (mv : Value) (D : DataW Nat) (C : Nat → UInt8) (h : Nat → Bool) (w : World) (hk : k < 1024) (f : FileM w fb mv D sz C h) :
    Calls Try.prog 29 #[.pointer (some ⟨fb, 0, none⟩), .int .i64 k] w fun e w' => ∃ mv' D', e = .returned (.pointer (some ⟨gOf D' k, 0, none⟩)) ∧ FileM w' fb mv' D' sz C (upd h k true) ∧ Goes (foot fb mv D h) (foot fb mv' D' (upd h k true)) w w' := by
  have hmk := keyOf_int_mk (P := Try.prog) (k := 3) Try.underlying3 (ky_wf (k := k) (by omega))
  have x0 := f.box.cell 0 rfl
  have hmm := @run_makeMap Try.prog
  have hen := map_eq_none
  have hes := map_eq_some
  rcases f.map with ⟨rfl, hD⟩ | ⟨mb, rfl, hm⟩
  · have f1 := f.mapped
    have hg0 := goes_mapped f
    have hh : h k = false := by
      cases hh : h k
      · rfl
      · have := (f.is.held k hh).1
        rw [hD] at this
        simp [Maps.has] at this
    have x0' := x0
    have fr := (f.box.alloc (.map #[] 0)).free 0
    have c0 := (f.box.alloc (.map #[] 0)).cell 0 rfl
    have HF : Hid (FileM ((w.alloc (.map #[] 0)).setCell ⟨fb, 0, none⟩ (.map (some w.heap.size))) fb (.map (some w.heap.size)) D sz C h) := f1
    have HG : Hid (Goes (foot fb (.map none) D h) (foot fb (.map (some w.heap.size)) D h) w ((w.alloc (.map #[] 0)).setCell ⟨fb, 0, none⟩ (.map (some w.heap.size)))) := hg0
    have hsz := f1.size_le
    have hlk := f1.look_no (x := (k : Int)) (ky_wf (k := k) (by omega)) (fun j e => by rw [← Int.ofNat_inj.1 e]; exact hh)
    have y0 := f1.box.cell 0 rfl
    clear f f1 hg0 hD
    go_enter Try.func29, Try.ntmps29
    go_wp2_with (first
      | (at_mapUpdate; refine wpList_mapUpdate_own _ rfl _ _ _ 49 rfl 3 57 lawInt Try.underlying49 ptrElem w.heap.size (Maps.size D) D rfl ((HF.out.owns rfl).alloc _) (by unfold maxLen; omega) _ _ (ky k) rfl rfl hmk (.held (w.heap.size + 1)) [] (ptrElem_mk _) ?_; intro w2 hown hgr
         obtain ⟨f2, hgk⟩ := HF.out.laid hh hk (by simp [World.setCell]) (by rfl) hown hgr
         have HG2 : Hid _ := goes_laid (k := k) HF.out (g := w.heap.size + 1) (by simp [World.setCell]) hgr
         have z0 := f2.box.cell 0 rfl
         have hl2 := f2.look_yes (upd_same h k true)
         have HF2 : Hid _ := f2
         clear f2 hown hgr)
      | go_in)
    go_ret
    exact ⟨_, _, by rw [hgk]; rfl, HF2.out, HG.out.trans HG2.out⟩
  · have HF : Hid (FileM w fb (.map (some mb)) D sz C h) := f
    have hsz := f.size_le
    cases hh : h k with
    | true =>
      have hlk := f.look_yes hh
      clear f
      go_enter Try.func29, Try.ntmps29
      go_wp2
      go_ret
      rw [upd_id hh]
      exact ⟨_, _, rfl, HF.out, .refl _ _⟩
    | false =>
      have hlk := f.look_no (x := (k : Int)) (ky_wf (k := k) (by omega)) (fun j e => by rw [← Int.ofNat_inj.1 e]; exact hh)
      clear f
      go_enter Try.func29, Try.ntmps29
      go_wp2_with (first
        | (at_mapUpdate; refine wpList_mapUpdate_own _ rfl _ _ _ 49 rfl 3 57 lawInt Try.underlying49 ptrElem mb (Maps.size D) D rfl ((HF.out.owns rfl).alloc _) (by unfold maxLen; omega) _ _ (ky k) rfl rfl hmk (.held w.heap.size) [] (ptrElem_mk _) ?_; intro w2 hown hgr
           obtain ⟨f2, hgk⟩ := HF.out.laid hh hk rfl (by rfl) hown hgr
           have HG2 : Hid _ := goes_laid (k := k) HF.out rfl hgr
           have z0 := f2.box.cell 0 rfl
           have hl2 := f2.look_yes (upd_same h k true)
           have HF2 : Hid _ := f2
           clear f2 hown hgr)
        | go_in)
      go_ret
      exact ⟨_, _, by rw [hgk]; rfl, HF2.out, HG2.out⟩

end Go.Proofs.Ytigkelcmiknfjaa
