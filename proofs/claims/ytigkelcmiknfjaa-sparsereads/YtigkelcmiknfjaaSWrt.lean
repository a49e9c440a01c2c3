/- Package sparse: Write. -/
import Derived.Test.YtigkelcmiknfjaaSLay
namespace Go.Proofs.Ytigkelcmiknfjaa
open Go Go.RowKit Go.Maps

/-- What a write tells. -/
def wrF (h : Nat → Bool) (off : Int) (n : Nat) (room : Int) : Nat :=
  if off < 0 then 22 else if 65536 - (n : Int) < off then 27 else if room < needF h off n then 28 else 0

theorem write_nil (off room : Int) (bv : Value) (w : World) :
    Calls Try.prog 17 #[.pointer none, .int .i64 off, bv, .int .i64 room] w fun e w' => e = .returned (.tuple #[.int .i64 0, .int .i64 22]) ∧ w' = w := by
  go_enter Try.func17, Try.ntmps17
  go_wp2
  go_ret2
  exact ⟨rfl, rfl⟩

set_option maxRecDepth 100000 in
set_option maxHeartbeats 1000000 in
theorem write_bad (fb sz n c : Nat) (F : Nat → Prop) (C : Nat → UInt8) (h : Nat → Bool) (off room : Int) (er : Nat) (p : Option Addr) (w : World) (f : FileAt w fb F sz C h) (hoff : (Lit.int .i64 off).wf = true) (hn : n ≤ 9000000000) (he : wrF h off n room = er) (hbad : er ≠ 0 ∨ n = 0) :
    Calls Try.prog 17 #[.pointer (some ⟨fb, 0, none⟩), .int .i64 off, .slice p n c, .int .i64 room] w fun e w' => e = .returned (.tuple #[.int .i64 0, .int .i64 er]) ∧ w' = w := by
  have hbig := tooBig_any off n w (by omega)
  have hneed := need_file (.pointer (some ⟨fb, 0, none⟩)) sz C h off n w (.inr ⟨fb, F, rfl, f⟩) hoff (WalkArith.wf_i64 (by omega))
  clear f
  unfold wrF at he
  by_cases h1 : off < 0
  · rw [if_pos h1] at he
    subst he
    clear hbad hbig hneed
    go_enter Try.func17, Try.ntmps17
    go_wp2
    go_ret2
    exact ⟨rfl, rfl⟩
  rw [if_neg h1] at he
  by_cases h2 : 65536 - (n : Int) < off
  · rw [if_pos h2] at he
    rw [decide_eq_true h2] at hbig
    subst he
    clear hbad hneed
    go_enter Try.func17, Try.ntmps17
    go_wp2_with fail
    refine hbig.mono ?_
    rintro e w2 ⟨rfl, rfl⟩
    go_wp2
    go_ret2
    exact ⟨rfl, rfl⟩
  rw [if_neg h2] at he
  rw [decide_eq_false h2] at hbig
  generalize needF h off n = nd at *
  by_cases h3 : room < nd
  · rw [if_pos h3] at he
    subst he
    clear hbad
    go_enter Try.func17, Try.ntmps17
    go_wp2_with fail
    refine hbig.mono ?_
    rintro e w2 ⟨rfl, rfl⟩
    go_wp2_with fail
    refine hneed.mono ?_
    rintro e w2 ⟨rfl, rfl⟩
    go_wp2
    go_ret2
    exact ⟨rfl, rfl⟩
  · rw [if_neg h3] at he
    subst he
    obtain rfl : n = 0 := by omega
    clear hbad
    go_enter Try.func17, Try.ntmps17
    go_wp2_with fail
    refine hbig.mono ?_
    rintro e w2 ⟨rfl, rfl⟩
    go_wp2_with fail
    refine hneed.mono ?_
    rintro e w2 ⟨rfl, rfl⟩
    go_wp2
    go_ret2
    exact ⟨rfl, rfl⟩

set_option maxRecDepth 100000 in
set_option maxHeartbeats 1000000 in
theorem write_do (fb sz sb so c o : Nat) (F : Nat → Prop) (C : Nat → UInt8) (h : Nat → Bool) (room : Int) (L : List UInt8) (w : World) (f : FileAt w fb F sz C h) (hsz : sz ≤ 65536) (hsb : sb < w.heap.size) (hnF : ¬ F sb)
    (hsrc : ∀ (j : Nat) v, (bytesV L)[j]? = some v → w.cell? ⟨sb, so + j, none⟩ = some v) (hL : 0 < L.length) (hoL : o + L.length ≤ 65536) (hc : L.length ≤ c) (hroom : (needF h o L.length : Int) ≤ room) :
    Calls Try.prog 17 #[.pointer (some ⟨fb, 0, none⟩), .int .i64 o, .slice (some ⟨sb, so, none⟩) L.length c, .int .i64 room] w fun e w' => e = .returned (.tuple #[.int .i64 (needF h o L.length : Nat), .int .i64 0]) ∧
      ∃ F', FileAt w' fb F' (max sz (o + L.length)) (putC C o L L.length) (layH h o L.length) ∧ Goes F F' w w' := by
  have hbig := tooBig_any o L.length w (by omega)
  rw [decide_eq_false (by omega)] at hbig
  have hneed := need_file (.pointer (some ⟨fb, 0, none⟩)) sz C h o L.length w (.inr ⟨fb, F, rfl, f⟩) (WalkArith.wf_i64 (by omega)) (WalkArith.wf_i64 (by omega))
  have hlay := lay_any fb sb so c sz o F C h L w f hsb hnF hsrc hoL hc
  have h3 : ¬ room < needF h o L.length := by omega
  have h4 : ¬ (L.length : Int) = 0 := by omega
  have h5 : ¬ L.length = 0 := by omega
  clear f hsrc hnF hroom
  generalize needF h o L.length = nd at *
  have h1 : ¬ (o : Int) < 0 := by omega
  generalize hM : putC C o L L.length = C' at *
  generalize hM2 : layH h o L.length = h' at *
  generalize L.length = n at *
  clear hM hM2
  obtain ⟨m, HM⟩ : ∃ m : Nat, Hid (max sz (o + n) = m) := ⟨_, rfl⟩
  have hm1 : m ≤ 65536 := by have := HM.out; omega
  have hM : max sz (o + n) = m := HM.out
  rw [hM]
  clear hM
  go_enter Try.func17, Try.ntmps17
  go_wp2_with fail
  refine hbig.mono ?_
  rintro e w2 ⟨rfl, rfl⟩
  go_wp2_with fail
  refine hneed.mono ?_
  rintro e w2 ⟨rfl, rfl⟩
  go_wp2_with fail
  refine hlay.mono ?_
  rintro e w3 ⟨rfl, F', hf, hg⟩
  obtain ⟨hf2, hg2⟩ := hf.sized m
  obtain ⟨mv, hbx⟩ := hf.box
  have x1 := hbx.cell 1 rfl
  have f1 := hbx.free 1
  have HF : Hid (FileAt (w3.setCell ⟨fb, 1, none⟩ (.int .i64 m)) fb F' m C' h') := hf2
  have HG : Hid (Goes F F' w2 (w3.setCell ⟨fb, 1, none⟩ (.int .i64 m))) := hg.trans hg2
  clear hf hg hf2 hg2 hbx hbig hneed hlay
  go_wp2
  · have e : ((o : Int) + (n : Int)) = (m : Int) := by have := HM.out; omega
    rw [e]
    go_ret2
    exact ⟨rfl, F', HF.out, HG.out⟩
  · have e : (sz : Int) = (m : Int) := by have := HM.out; omega
    rw [e]
    go_ret2
    exact ⟨rfl, F', HF.out, HG.out⟩

end Go.Proofs.Ytigkelcmiknfjaa
