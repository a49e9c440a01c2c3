/- Package sparse: Truncate, all of it. -/
import Derived.Test.YtigkelcmiknfjaaSCut2
namespace Go.Proofs.Ytigkelcmiknfjaa
open Go Go.RowKit Go.Maps

set_option maxRecDepth 100000 in
set_option maxHeartbeats 1000000 in
theorem trunc_none (fb sz n : Nat) (D : DataW Nat) (C : Nat → UInt8) (h : Nat → Bool) (w : World) (f : FileM w fb (.map none) D sz C h) (hn : n ≤ 65536) :
    Calls Try.prog 16 #[.pointer (some ⟨fb, 0, none⟩), .int .i64 n] w fun e w' => e = .returned (.tuple #[.int .i64 ((cntF 1024 h : Nat) - (cntF 1024 (cutH h n) : Nat) : Int), .int .i64 0]) ∧
      ∃ F', FileAt w' fb F' n (cutC C n) (cutH h n) ∧ Goes (foot fb (.map none) D h) F' w w' := by
  have hh : ∀ k, h k = false := fun k => by
    have hD : D = .map [] := by
      rcases f.map with h0 | ⟨mb, e, _⟩
      · exact h0.2
      · cases e
    cases hk : h k
    · rfl
    · have := (f.is.held k hk).1
      rw [hD] at this
      simp [Maps.has] at this
  have hc : cutH h n = h := by funext k; simp [cutH, hh]
  have hC : cutC C n = C := by
    funext i
    simp only [cutC]
    split
    · rfl
    · exact (f.zero i (hh _)).symm
  have hcn : cntF 1024 h = 0 := cntF_none hh
  rw [hc, hC, hcn]
  have x0 := f.box.cell 0 rfl
  have hlen := f.len
  rw [hcn] at hlen
  have h1 : ¬ (n : Int) < 0 := by omega
  have h2 : ¬ (65536 : Int) < (n : Int) := by omega
  have fa := f.on (on_alloc w (.mapIter none 0 #[] 0))
  have hrg := run_range_nilMap (P := Try.prog) w 49 3 57 Try.underlying49
  have hnx : ∀ ty, (Instr.next (.pointer (some ⟨w.heap.size, 0, none⟩)) false ty).run Try.prog (w.alloc (.mapIter none 0 #[] 0)) = _ := fun ty => run_next_nilMap w ty 0 0 #[]
  obtain ⟨k, HK⟩ : ∃ k, Hid (n / 64 = k) := ⟨_, rfl⟩
  have hkl : k ≤ 1024 := by have := HK.out; omega
  have hkz : (n : Int) / 64 = (k : Int) := by have := HK.out; omega
  have hlk := fa.look_no (x := (k : Int)) (ky_wf (k := k) (by omega)) (fun j _ => hh j)
  have x0a := fa.box.cell 0 rfl
  have f6 := fa.sized n
  have f1 := fa.box.free 1
  have c1' := fa.box.cell 1 rfl
  have hl6 := f6.len
  rw [hcn] at hl6
  have y0 := f6.box.cell 0 rfl
  have HF6 : Hid (FileM ((w.alloc (.mapIter none 0 #[] 0)).setCell ⟨fb, 1, none⟩ (.int .i64 n)) fb (.map none) D n C h) := f6
  have HG6 : Hid (Goes (foot fb (.map none) D h) (foot fb (.map none) D h) w ((w.alloc (.mapIter none 0 #[] 0)).setCell ⟨fb, 1, none⟩ (.int .i64 n))) := ⟨(Foot.of_below (on_alloc w _)).then (but_set _ _ _ _) (.inl rfl), fun x hx => .inl hx⟩
  clear f fa f6 hc hC hcn hh
  go_enter Try.func16, Try.ntmps16
  go_wp2
  refine wp_loop_rounds 1 ?_
  rw [rounds_succ]
  go_wp2
  go_ret2
  exact ⟨rfl, _, ⟨_, _, HF6.out, rfl⟩, HG6.out⟩

theorem trunc_do (fb sz n : Nat) (F : Nat → Prop) (C : Nat → UInt8) (h : Nat → Bool) (w : World) (f : FileAt w fb F sz C h) (hn : n ≤ 65536) :
    Calls Try.prog 16 #[.pointer (some ⟨fb, 0, none⟩), .int .i64 n] w fun e w' => e = .returned (.tuple #[.int .i64 ((cntF 1024 h : Nat) - (cntF 1024 (cutH h n) : Nat) : Int), .int .i64 0]) ∧
      ∃ F', FileAt w' fb F' n (cutC C n) (cutH h n) ∧ Goes F F' w w' := by
  obtain ⟨mv, D, f, rfl⟩ := f
  rcases f.map with ⟨rfl, _⟩ | ⟨mb, rfl, _⟩
  · exact trunc_none fb sz n D C h w f hn
  · exact trunc_map fb mb sz n D C h w f hn

end Go.Proofs.Ytigkelcmiknfjaa
