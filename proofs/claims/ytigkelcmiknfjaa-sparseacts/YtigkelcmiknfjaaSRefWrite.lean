/- The reference's Write: what changes nothing. -/
import Derived.Test.YtigkelcmiknfjaaSNeed
import Derived.Test.YtigkelcmiknfjaaSOwn
import Derived.Test.YtigkelcmiknfjaaGRow
namespace Go.Proofs.Ytigkelcmiknfjaa
open Go Go.RowKit

/-- What a write tells. -/
def wrE (H : List Bool) (off : Int) (n : Nat) (room : Int) : Nat :=
  if off < 0 then 22 else if 65536 < off ∨ 65536 - off < n then 27 else if room < needN H off n then 28 else 0
/-- The two boxes of such a function. -/
abbrev fileV (p q : Option Addr) (c d n m : Nat) : Value := .agg #[.slice p n c, .slice q m d]
structure Two (w : World) (b : Nat) (v0 v1 : Value) (w0 : World) : Prop where
  fst : Blk w0 b 28 [v0, v1]
  snd : Blk w0 (b + 1) 28 [.slice none 0 0, .slice none 0 0]
  below : Below w.heap.size w w0
theorem Two.new (w : World) (v0 v1 : Value) : Two w w.heap.size v0 v1 ((w.alloc (.cells #[v0, v1] 28)).alloc (.cells #[.slice none 0 0, .slice none 0 0] 28)) := by
  refine ⟨(Blk.new w _ [v0, v1]).alloc _, ?_, on_trans (on_alloc _ _) (on_alloc _ _)⟩
  have := Blk.new (w.alloc (.cells #[v0, v1] 28)) 28 [.slice none 0 0, .slice none 0 0]
  rw [World.size_alloc] at this
  exact this
theorem Two.on {w w0 w1 : World} {b : Nat} {v0 v1 : Value} (h : Two w b v0 v1 w0) (hb : Below w0.heap.size w0 w1) : Two w b v0 v1 w1 := ⟨h.fst.on hb, h.snd.on hb, on_trans h.below hb⟩
/-- What lies in the second box behind a store. -/
theorem Two.put {w w0 : World} {v0 v1 : Value} (h : Two w w.heap.size v0 v1 w0) (x0 x1 : Value) : Blk ((w0.setCell ⟨w.heap.size + 1, 0, none⟩ x0).setCell ⟨w.heap.size + 1, 1, none⟩ x1) (w.heap.size + 1) 28 [x0, x1] ∧ Below w.heap.size w ((w0.setCell ⟨w.heap.size + 1, 0, none⟩ x0).setCell ⟨w.heap.size + 1, 1, none⟩ x1) :=
  ⟨h.snd.put [x0, x1] rfl, below_but h.below (but_putL (w.heap.size + 1) [x0, x1] w0 0) (by omega)⟩

theorem two_same (w : World) (v0 v1 : Value) : Blk ((w.alloc (.cells #[v0, v1] 28)).alloc (.cells #[v0, v1] 28)) (w.heap.size + 1) 28 [v0, v1] ∧ Below w.heap.size w ((w.alloc (.cells #[v0, v1] 28)).alloc (.cells #[v0, v1] 28)) := by
  refine ⟨?_, on_trans (on_alloc _ _) (on_alloc _ _)⟩
  have := Blk.new (w.alloc (.cells #[v0, v1] 28)) 28 [v0, v1]
  rw [World.size_alloc] at this
  exact this

set_option maxRecDepth 100000 in
set_option maxHeartbeats 1000000 in
theorem ref_write_bad (p q r : Option Addr) (c d k : Nat) (B D : List UInt8) (H : List Bool) (off room : Int) (er : Nat) (w : World) (_hD : D.length ≤ 9000000000) (hH : H.length ≤ 9000000000) (hq : At w q (boolsV H)) (he : wrE H off D.length room = er) (hbad : er ≠ 0 ∨ D.length = 0) :
    Calls Try.prog 22 #[fileV p q c d B.length H.length, .int .i64 off, .slice r D.length k, .int .i64 room] w fun e w' => e = .returned (.tuple #[fileV p q c d B.length H.length, .int .i64 0, .int .i64 er]) ∧ Below w.heap.size w w' := by
  have T := Two.new w (.slice p B.length c) (.slice q H.length d)
  have HT : Hid (Two w w.heap.size (.slice p B.length c) (.slice q H.length d) ((w.alloc (.cells #[.slice p B.length c, .slice q H.length d] 28)).alloc (.cells #[.slice none 0 0, .slice none 0 0] 28))) := T
  have HZ : Hid _ := two_same w (.slice p B.length c) (.slice q H.length d)
  have HQ : Hid (At w q (boolsV H)) := hq
  have x0 := T.fst.cell 0 rfl
  have x1 := T.fst.cell 1 rfl
  have y0 := T.snd.cell 0 rfl
  have y1 := T.snd.cell 1 rfl
  have f0 := T.snd.free 0
  have f1 := T.snd.free 1
  clear hq T
  unfold wrE at he
  by_cases h1 : off < 0
  · rw [if_pos h1] at he
    subst he
    clear hbad
    go_enter Try.func22, Try.ntmps22
    go_wp2
    exact bodyPost_ret (results_blk2 (cs := [.slice p B.length c, .slice q H.length d]) Try.isAgg28 infoRef rfl _ _ rfl rfl rfl HZ.out.1) rfl ⟨rfl, HZ.out.2⟩
  rw [if_neg h1] at he
  by_cases h2 : 65536 < off
  · rw [if_pos (.inl h2)] at he
    subst he
    clear hbad
    go_enter Try.func22, Try.ntmps22
    go_wp2
    exact bodyPost_ret (results_blk2 (cs := [.slice p B.length c, .slice q H.length d]) Try.isAgg28 infoRef rfl _ _ rfl rfl rfl HZ.out.1) rfl ⟨rfl, HZ.out.2⟩
  by_cases h3 : 65536 - off < (D.length : Int)
  · rw [if_pos (.inr h3)] at he
    subst he
    clear hbad
    go_enter Try.func22, Try.ntmps22
    go_wp2
    exact bodyPost_ret (results_blk2 (cs := [.slice p B.length c, .slice q H.length d]) Try.isAgg28 infoRef rfl _ _ rfl rfl rfl HZ.out.1) rfl ⟨rfl, HZ.out.2⟩
  rw [if_neg (by omega)] at he
  have hcall := need_any p q c d B.length H off D.length _ hH (HQ.out.on HT.out.below)
  have HN : Hid (needN H off D.length = 0 ∨ D.length ≠ 0) := show needN H off D.length = 0 ∨ D.length ≠ 0 by
    by_cases h0 : D.length = 0
    · left; unfold needN outOf; rw [h0]; simp
    · exact .inr h0
  generalize needN H off D.length = nd at *
  clear HZ x0 x1 y0 y1 f0 f1
  by_cases h4 : room < (nd : Int)
  · rw [if_pos h4] at he
    subst he
    have x0 := HT.out.fst.cell 0 rfl
    have x1 := HT.out.fst.cell 1 rfl
    clear hbad
    go_enter Try.func22, Try.ntmps22
    go_wp2_with fail
    refine hcall.mono ?_
    rintro e w2 ⟨rfl, hb⟩
    have T2 := HT.out.on hb
    have HZ : Hid _ := T2.put (.slice p B.length c) (.slice q H.length d)
    clear x0 x1
    have x0 := T2.fst.cell 0 rfl
    have x1 := T2.fst.cell 1 rfl
    have y0 := T2.snd.cell 0 rfl
    have y1 := T2.snd.cell 1 rfl
    have f0 := T2.snd.free 0
    have f1 := T2.snd.free 1
    clear T2 hb HT
    go_wp2
    exact bodyPost_ret (results_blk2 (cs := [.slice p B.length c, .slice q H.length d]) Try.isAgg28 infoRef rfl _ _ rfl rfl rfl HZ.out.1) rfl ⟨rfl, HZ.out.2⟩
  · rw [if_neg h4] at he
    subst he
    have h0 : D.length = 0 := hbad.resolve_left fun h => h rfl
    have h3' : ¬ 65536 - off < 0 := by omega
    have hz : ((0 : Nat) : Int) = 0 := rfl
    rw [h0, hz] at hcall
    rw [h0]
    clear h3 h0 hz HN _hD
    have x0 := HT.out.fst.cell 0 rfl
    have x1 := HT.out.fst.cell 1 rfl
    clear hbad
    go_enter Try.func22, Try.ntmps22
    go_wp2_with fail
    refine hcall.mono ?_
    rintro e w2 ⟨rfl, hb⟩
    have T2 := HT.out.on hb
    have HZ : Hid _ := T2.put (.slice p B.length c) (.slice q H.length d)
    clear x0 x1
    have x0 := T2.fst.cell 0 rfl
    have x1 := T2.fst.cell 1 rfl
    have y0 := T2.snd.cell 0 rfl
    have y1 := T2.snd.cell 1 rfl
    have f0 := T2.snd.free 0
    have f1 := T2.snd.free 1
    clear T2 hb HT
    go_wp2
    exact bodyPost_ret (results_blk2 (cs := [.slice p B.length c, .slice q H.length d]) Try.isAgg28 infoRef rfl _ _ rfl rfl rfl HZ.out.1) rfl ⟨rfl, HZ.out.2⟩

end Go.Proofs.Ytigkelcmiknfjaa
