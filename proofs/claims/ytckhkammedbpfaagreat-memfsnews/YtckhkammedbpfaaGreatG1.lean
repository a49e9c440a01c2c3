/- MemfsNews: its walk. -/
import Derived.Test.YtckhkammedbpfaaGreatF9
namespace Go.Proofs.YtckhkammedbpfaaGreat
open Go Go.RowKit Go.Maps

set_option maxRecDepth 100000 in
set_option maxHeartbeats 8000000 in
theorem news_yes (a b : Nat) (n : Int) (nm : ByteArray) (w : World) (h : 1 ≤ a ∧ a ≤ 256 ∧ b ≤ 4096) :
    Calls Tryz.prog 7 #[.agg #[.int .i64 (a : Int), .int .i64 (b : Int)], .int .i64 n, .string nm] w fun e w' => e = .returned (.bool true) ∧ Below w.heap.size w w' := by
  have hal := on_alloc w (.cells #[.int .i64 (a : Int), .int .i64 (b : Int)] 71)
  have HX0 : Hid (Blk (w.alloc (.cells #[.int .i64 (a : Int), .int .i64 (b : Int)] 71)) w.heap.size 71 [.int .i64 (a : Int), .int .i64 (b : Int)]) := Blk.new w _ _
  have HB0 : Hid (Below w.heap.size w (w.alloc (.cells #[.int .i64 (a : Int), .int .i64 (b : Int)] 71))) := hal
  have HQ : Hid (∀ w', Below w.heap.size w w' → (fun e w' => e = Ending.returned (.bool true) ∧ Below w.heap.size w w') (Ending.returned (.bool true)) w') := fun w' h => ⟨rfl, h⟩
  generalize (fun e w' => e = Ending.returned (.bool true) ∧ Below w.heap.size w w') = Post at *
  clear hal
  have hwf := wf_newF h
  have HN : Hid (∀ w1, Below w.heap.size w w1 → Calls Tryz.prog 35 #[.int .i64 (a : Int), .int .i64 (b : Int)] w1 fun e w2 => ∃ fb n0, e = .returned (ptr fb) ∧ FsAt n0 w2 fb 1 (newF a b) newU ∧ w.heap.size ≤ n0 ∧ Below w.heap.size w w2) := fun w1 hb => (new7 a b w1 h).mono fun e w2 ⟨fb, h1, h2, h3⟩ => ⟨fb, w1.heap.size, h1, h2, hb.size, on_trans hb h3⟩
  have HRf : Hid (∀ w1, Below w.heap.size w w1 → Calls Tryz.prog 26 #[.int .i64 1, .int .i64 0] w1 fun e w2 => ∃ rb, e = .returned (.tuple #[ptr rb, .bool true]) ∧ Below w1.heap.size w1 w2) := fun w1 hb => (rnew7 1 0 w1 (by omega)).mono fun e w2 ⟨rb, h1, _, h3⟩ => ⟨rb, h1, h3⟩
  have HRm : Hid (∀ w1 fb n0, FsAt n0 w1 fb 1 (newF a b) newU → Calls Tryz.prog 13 #[ptr fb] w1 fun e w2 => e = .returned (.tuple #[.int .i64 ((a : Int) - 1), .int .i64 (b : Int)]) ∧ Below w1.heap.size w1 w2) := fun w1 fb n0 h1 => by
    have e2 : (newF a b).bl = (b : Int) := by
      have h0 : rootN.f.blocks = 0 := St.no_blocks
      simp [SS.bl, newF, sumB, h0]
    have := room7 h1 hwf
    rw [e2] at this
    exact this
  have HNx : Hid (∀ w1 fb n0, FsAt n0 w1 fb 1 (newF a b) newU → Calls Tryz.prog 15 #[ptr fb] w1 fun e w2 => e = .returned (.int .i64 2) ∧ w2 = w1) := fun w1 fb n0 h1 => next7 h1
  have HD : Hid (∀ w1 fb n0, FsAt n0 w1 fb 1 (newF a b) newU → Calls Tryz.prog 11 #[ptr fb] w1 fun e w2 => (∃ p c, e = .returned (.slice p 1 c)) ∧ Below w1.heap.size w1 w2) := fun w1 fb n0 h1 => by
    refine (dump7 h1 hwf (by omega) (tree_newF a b)).mono ?_
    rintro e w2 ⟨v, Q, rfl, h2, h3⟩
    obtain ⟨p, c, h4, _⟩ := rowS_at h2.row
    have hl : Q.length = 1 := by
      have := congrArg List.length h2.list
      simpa [newF] using this
    rw [hl] at h4
    exact ⟨⟨p, c, by rw [h4]⟩, h3⟩
  have HRl : Hid (∀ w1 fb n0, FsAt n0 w1 fb 1 (newF a b) newU → w.heap.size ≤ n0 → Below w.heap.size w w1 → Calls Tryz.prog 36 #[ptr fb, .int .i64 1] w1 fun e w2 => e = .returned (.int .i64 22) ∧ Below w.heap.size w w2) := fun w1 fb n0 h1 hn hb => by
    refine (release7 h1 hwf (by omega) 1 (by decide)).mono ?_
    rintro e w2 ⟨rfl, _, h3⟩
    exact ⟨rfl, h3.below hb hn hb.size⟩
  have HL : Hid (∀ w1, Calls Tryz.prog 16 #[] w1 fun e w' => e = .returned (.bool true) ∧ Below w1.heap.size w1 w') := lives7
  have h1z : (1 : Int) ≤ (a : Int) := by omega
  have h2z : (a : Int) ≤ 256 := by omega
  have h3z : (b : Int) ≤ 4096 := by omega
  clear hwf h
  have q0 := HX0.out.cell 0 rfl
  have q1 := HX0.out.cell 1 rfl
  go_enter Tryz.func7, Tryz.ntmps7
  go_wp2
  go_quiet (fail)
  go_wp2_with fail
  refine (HN.out _ (on_drewN HB0.out _)).mono ?_
  rintro e w1 ⟨fb, n0, rfl, hfs, hn0, hb1⟩
  have HFS : Hid (FsAt n0 w1 fb 1 (newF a b) newU) := hfs
  have HN0 : Hid (w.heap.size ≤ n0) := hn0
  have HB1 : Hid (Below w.heap.size w w1) := hb1
  clear hfs hn0 hb1 q0 q1 HN
  have c2 := HRf.out w1 HB1.out
  go_wp2_with fail
  refine c2.mono ?_
  rintro e w2 ⟨rb, rfl, hb2⟩
  have HFS2 : Hid (FsAt n0 w2 fb 1 (newF a b) newU) := FsAt.on HFS.out hb2
  have HB2 : Hid (Below w.heap.size w w2) := on_trans HB1.out hb2
  have c3 := HRm.out w2 fb n0 HFS2.out
  clear c2 HRf hb2
  go_wp2_with fail
  refine c3.mono ?_
  rintro e w3 ⟨rfl, hb3⟩
  have HFS3 : Hid (FsAt n0 w3 fb 1 (newF a b) newU) := FsAt.on HFS2.out hb3
  have HB3 : Hid (Below w.heap.size w w3) := on_trans HB2.out hb3
  have c4 := HNx.out w3 fb n0 HFS3.out
  clear c3 HRm hb3
  go_wp2_with fail
  refine c4.mono ?_
  rintro e w4 ⟨rfl, hw4⟩
  subst w4
  have c5 := HD.out w3 fb n0 HFS3.out
  clear c4 HNx
  go_wp2_with fail
  refine c5.mono ?_
  rintro e w5 ⟨⟨p, cp, rfl⟩, hb5⟩
  have HB5 : Hid (Below w.heap.size w w5) := on_trans HB3.out hb5
  have c6 := HRl.out w5 fb n0 (FsAt.on HFS3.out hb5) HN0.out HB5.out
  clear c5 HD hb5
  go_wp2_with fail
  refine c6.mono ?_
  rintro e w6 ⟨rfl, hb6⟩
  have c7 := HL.out w6
  have HB6 : Hid (Below w.heap.size w w6) := hb6
  clear c6 HRl hb6
  go_wp2_with fail
  refine c7.mono ?_
  rintro e w7 ⟨rfl, hb7⟩
  go_wp2
  exact HQ.out _ (on_trans HB6.out hb7)

end Go.Proofs.YtckhkammedbpfaaGreat
