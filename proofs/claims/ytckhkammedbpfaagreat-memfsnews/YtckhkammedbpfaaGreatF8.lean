/- Package memfs: what a nil file system answers. -/
import Derived.Test.YtckhkammedbpfaaGreatF7
import Derived.Test.YtckhkammedbpfaaGreatF5
namespace Go.Proofs.YtckhkammedbpfaaGreat
open Go Go.RowKit Go.Maps

set_option maxRecDepth 100000 in
theorem into_nil (x : Int) (w : World) : Calls Tryz.prog 58 #[.pointer none, .int .i64 x] w fun e w' => e = .returned (.tuple #[.pointer none, .int .i64 22]) ∧ Below w.heap.size w w' := by
  have c1 := inodes_nil w
  have c2 := stat_nil x w
  simp only [stat0] at c2
  have hal : Hid (∀ w1 : World, Below w.heap.size w w1 → Below w.heap.size w (w1.alloc (.cells #[.int .i64 0, .int .i64 0, .int .i64 0, .int .i64 0, .int .i64 0] 74))) := fun w1 hb => on_trans hb (on_alloc w1 _)
  go_enter Tryz.func58, Tryz.ntmps58
  go_wp2_with fail
  refine c1.mono ?_
  rintro e w1 ⟨rfl, hw1⟩
  subst w1
  go_wp2_with fail
  refine c2.mono ?_
  rintro e w1 ⟨rfl, hb⟩
  have hb2 := hal.out w1 hb
  go_wp2
  go_ret2
  exact ⟨rfl, hb2⟩
theorem place_nil7 (x : Int) (nm : ByteArray) (w : World) : Calls Tryz.prog 66 #[.pointer none, .int .i64 x, .string nm] w fun e w' => e = .returned (.tuple #[.pointer none, .int .i64 22]) ∧ Below w.heap.size w w' := by
  have c1 := into_nil x w
  go_enter Tryz.func66, Tryz.ntmps66
  go_wp2_with fail
  refine c1.mono ?_
  rintro e w1 ⟨rfl, hb⟩
  go_wp2
  go_ret2
  exact ⟨rfl, hb⟩
theorem entry_nil7 (x : Int) (nm : ByteArray) (w : World) : Calls Tryz.prog 57 #[.pointer none, .int .i64 x, .string nm] w fun e w' => e = .returned (.tuple #[.pointer none, .int .i64 0, .int .i64 22]) ∧ Below w.heap.size w w' := by
  have c1 := place_nil7 x nm w
  go_enter Tryz.func57, Tryz.ntmps57
  go_wp2_with fail
  refine c1.mono ?_
  rintro e w1 ⟨rfl, hb⟩
  go_wp2
  go_ret3
  exact ⟨rfl, hb⟩
set_option maxRecDepth 100000 in
theorem lookup_nil7 (x : Int) (nm : ByteArray) (w : World) : Calls Tryz.prog 17 #[.pointer none, .int .i64 x, .string nm] w fun e w' => e = .returned (.tuple #[.int .i64 0, .int .i64 22]) ∧ Below w.heap.size w w' := by
  have c1 := entry_nil7 x nm w
  have c2 := into_nil x w
  cases h1 : (nm.toList == [46]) with
  | true =>
    go_enter Tryz.func17, Tryz.ntmps17
    go_wp2_with fail
    refine c2.mono ?_
    rintro e w1 ⟨rfl, hb⟩
    go_wp2
    go_ret2
    exact ⟨rfl, hb⟩
  | false =>
    cases h2 : (nm.toList == [46, 46]) with
    | true =>
      go_enter Tryz.func17, Tryz.ntmps17
      go_wp2_with fail
      refine c2.mono ?_
      rintro e w1 ⟨rfl, hb⟩
      go_wp2
      go_ret2
      exact ⟨rfl, hb⟩
    | false =>
      go_enter Tryz.func17, Tryz.ntmps17
      go_wp2_with fail
      refine c1.mono ?_
      rintro e w1 ⟨rfl, hb⟩
      go_wp2
      go_ret2
      exact ⟨rfl, hb⟩
theorem list_nil7 (x a b : Int) (w : World) : Calls Tryz.prog 19 #[.pointer none, .int .i64 x, .int .i64 a, .int .i64 b] w fun e w' => e = .returned (.tuple #[.slice none 0 0, .int .i64 22]) ∧ Below w.heap.size w w' := by
  have c1 := into_nil x w
  go_enter Tryz.func19, Tryz.ntmps19
  go_wp2_with fail
  refine c1.mono ?_
  rintro e w1 ⟨rfl, hb⟩
  go_wp2
  go_ret2
  exact ⟨rfl, hb⟩
theorem create_nil7 (x : Int) (nm : ByteArray) (k : Int) (t : ByteArray) (w : World) : Calls Tryz.prog 29 #[.pointer none, .int .i64 x, .string nm, .int .i64 k, .string t] w fun e w' => e = .returned (.tuple #[.int .i64 0, .int .i64 22]) ∧ Below w.heap.size w w' := by
  have c1 := place_nil7 x nm w
  go_enter Tryz.func29, Tryz.ntmps29
  go_wp2_with fail
  refine c1.mono ?_
  rintro e w1 ⟨rfl, hb⟩
  go_wp2
  go_ret2
  exact ⟨rfl, hb⟩
theorem link_nil7 (x : Int) (nm : ByteArray) (k : Int) (w : World) : Calls Tryz.prog 30 #[.pointer none, .int .i64 x, .string nm, .int .i64 k] w fun e w' => e = .returned (.int .i64 22) ∧ Below w.heap.size w w' := by
  have c1 := place_nil7 x nm w
  go_enter Tryz.func30, Tryz.ntmps30
  go_wp2_with fail
  refine c1.mono ?_
  rintro e w1 ⟨rfl, hb⟩
  go_wp2
  go_ret
  exact ⟨rfl, hb⟩
theorem unlink_nil7 (x : Int) (nm : ByteArray) (w : World) : Calls Tryz.prog 31 #[.pointer none, .int .i64 x, .string nm] w fun e w' => e = .returned (.int .i64 22) ∧ Below w.heap.size w w' := by
  have c1 := entry_nil7 x nm w
  go_enter Tryz.func31, Tryz.ntmps31
  go_wp2_with fail
  refine c1.mono ?_
  rintro e w1 ⟨rfl, hb⟩
  go_wp2
  go_ret
  exact ⟨rfl, hb⟩
theorem rmdir_nil7 (x : Int) (nm : ByteArray) (w : World) : Calls Tryz.prog 32 #[.pointer none, .int .i64 x, .string nm] w fun e w' => e = .returned (.int .i64 22) ∧ Below w.heap.size w w' := by
  have c1 := entry_nil7 x nm w
  go_enter Tryz.func32, Tryz.ntmps32
  go_wp2_with fail
  refine c1.mono ?_
  rintro e w1 ⟨rfl, hb⟩
  go_wp2
  go_ret
  exact ⟨rfl, hb⟩
theorem rename_nil7 (x : Int) (nm : ByteArray) (y : Int) (nm2 : ByteArray) (w : World) : Calls Tryz.prog 33 #[.pointer none, .int .i64 x, .string nm, .int .i64 y, .string nm2] w fun e w' => e = .returned (.int .i64 22) ∧ Below w.heap.size w w' := by
  have c1 := into_nil x w
  go_enter Tryz.func33, Tryz.ntmps33
  go_wp2_with fail
  refine c1.mono ?_
  rintro e w1 ⟨rfl, hb⟩
  go_wp2
  go_ret
  exact ⟨rfl, hb⟩
theorem hold_nil7 (x : Int) (w : World) : Calls Tryz.prog 38 #[.pointer none, .int .i64 x] w fun e w' => e = .returned (.int .i64 22) ∧ w' = w := by
  have c1 := inodes_nil w
  have c2 := more_Hold_nil x w
  go_enter Tryz.func38, Tryz.ntmps38
  go_wp2_with fail
  refine c1.mono ?_
  rintro e w1 ⟨rfl, hw1⟩
  subst w1
  go_wp2_with fail
  refine c2.mono ?_
  rintro e w1 ⟨rfl, hw1⟩
  subst w1
  go_wp2
  go_ret
  exact ⟨rfl, rfl⟩
set_option maxRecDepth 100000 in
theorem stat_nil7 (x : Int) (w : World) : Calls Tryz.prog 37 #[.pointer none, .int .i64 x] w fun e w' => e = .returned (.tuple #[.agg stat0.toArray, .int .i64 22]) ∧ Below w.heap.size w w' := by
  have c1 := fun w => inodes_nil w
  have c2 := stat_nil x (w.alloc (.cells stat0.toArray 74))
  have HB0 : Hid (Below w.heap.size w (w.alloc (.cells stat0.toArray 74))) := on_alloc w _
  have HX : Hid (Blk (w.alloc (.cells stat0.toArray 74)) w.heap.size 74 stat0) := Blk.new w _ _
  simp only [stat0] at c2 HB0 HX
  go_enter Tryz.func37, Tryz.ntmps37
  go_wp2_with fail
  refine (c1 _).mono ?_
  rintro e w1 ⟨rfl, hw1⟩
  subst w1
  go_wp2_with fail
  refine c2.mono ?_
  rintro e w1 ⟨rfl, hb⟩
  have HX1 : Hid (Blk w1 w.heap.size 74 stat0) := HX.out.on hb
  have HB1 : Hid (Below w.heap.size w w1) := on_trans HB0.out hb
  have f0 := HX1.out.free 0
  have f1 := HX1.out.free 1
  have f2 := HX1.out.free 2
  have f3 := HX1.out.free 3
  have f4 := HX1.out.free 4
  have x0 := HX1.out.cell 0 rfl
  have x1 := HX1.out.cell 1 rfl
  have x2 := HX1.out.cell 2 rfl
  have x3 := HX1.out.cell 3 rfl
  have x4 := HX1.out.cell 4 rfl
  clear hb c1 c2 HX HB0
  go_wp2
  exact bodyPost_ret (results_blkT (cs := stat0) Tryz.isAgg74 infoStat rfl _ _ rfl rfl (HX1.out.put stat0 rfl)) rfl ⟨rfl, below_but HB1.out (but_putL w.heap.size stat0 w1 0) (Nat.le_refl _)⟩
set_option maxRecDepth 100000 in
theorem release_nil7 (x : Int) (w : World) : Calls Tryz.prog 36 #[.pointer none, .int .i64 x] w fun e w' => e = .returned (.int .i64 22) ∧ Below w.heap.size w w' := by
  have c1 := inodes_nil w
  have c2 := stat_nil x w
  have c3 := fun w => less_Release_nil x w
  simp only [stat0] at c2
  have hal : Hid (∀ w1 : World, Below w.heap.size w w1 → Below w.heap.size w (w1.alloc (.cells #[.int .i64 0, .int .i64 0, .int .i64 0, .int .i64 0, .int .i64 0] 74))) := fun w1 hb => on_trans hb (on_alloc w1 _)
  by_cases hx : x = 1
  · subst hx
    go_enter Tryz.func36, Tryz.ntmps36
    go_wp2_with fail
    refine c1.mono ?_
    rintro e w1 ⟨rfl, hw1⟩
    subst w1
    go_wp2_with fail
    refine c2.mono ?_
    rintro e w1 ⟨rfl, hb⟩
    have hb2 := hal.out w1 hb
    go_wp2_with fail
    refine (c3 _).mono ?_
    rintro e w2 ⟨rfl, hw2⟩
    subst w2
    go_wp2
    go_ret
    exact ⟨rfl, hb2⟩
  · go_enter Tryz.func36, Tryz.ntmps36
    go_wp2_with fail
    refine c1.mono ?_
    rintro e w1 ⟨rfl, hw1⟩
    subst w1
    go_wp2_with fail
    refine c2.mono ?_
    rintro e w1 ⟨rfl, hb⟩
    have hb2 := hal.out w1 hb
    go_wp2_with fail
    refine (c3 _).mono ?_
    rintro e w2 ⟨rfl, hw2⟩
    subst w2
    go_wp2
    go_ret
    exact ⟨rfl, hb2⟩
theorem room_nil7 (w : World) : Calls Tryz.prog 13 #[.pointer none] w fun e w' => e = .returned (.tuple #[.int .i64 0, .int .i64 0]) ∧ w' = w := by
  have c1 := inodes_nil w
  have c2 := room_nil w
  go_enter Tryz.func13, Tryz.ntmps13
  go_wp2_with fail
  refine c1.mono ?_
  rintro e w1 ⟨rfl, hw1⟩
  subst w1
  go_wp2_with fail
  refine c2.mono ?_
  rintro e w1 ⟨rfl, hw1⟩
  subst w1
  go_wp2
  go_ret2
  exact ⟨rfl, rfl⟩
theorem next_nil7 (w : World) : Calls Tryz.prog 15 #[.pointer none] w fun e w' => e = .returned (.int .i64 0) ∧ w' = w := by
  have c1 := inodes_nil w
  have c2 := next_nil w
  go_enter Tryz.func15, Tryz.ntmps15
  go_wp2_with fail
  refine c1.mono ?_
  rintro e w1 ⟨rfl, hw1⟩
  subst w1
  go_wp2_with fail
  refine c2.mono ?_
  rintro e w1 ⟨rfl, hw1⟩
  subst w1
  go_wp2
  go_ret
  exact ⟨rfl, rfl⟩
theorem within_nil7 (x y : Int) (w : World) : Calls Tryz.prog 23 #[.pointer none, .int .i64 x, .int .i64 y] w fun e w' => e = .returned (.bool false) ∧ w' = w := by
  have c1 := inodes_nil w
  have c2 := dir_nil x w
  go_enter Tryz.func23, Tryz.ntmps23
  go_wp2_with fail
  refine c1.mono ?_
  rintro e w1 ⟨rfl, hw1⟩
  subst w1
  go_wp2_with fail
  refine c2.mono ?_
  rintro e w1 ⟨rfl, hw1⟩
  subst w1
  go_wp2
  go_ret
  exact ⟨rfl, rfl⟩
theorem dump_nil7 (w : World) : Calls Tryz.prog 11 #[.pointer none] w fun e w' => e = .returned (.slice none 0 0) ∧ w' = w := by
  have c1 := inodes_nil w
  have c2 := all_nil w
  go_enter Tryz.func11, Tryz.ntmps11
  go_wp2_with fail
  refine c1.mono ?_
  rintro e w1 ⟨rfl, hw1⟩
  subst w1
  go_wp2_with fail
  refine c2.mono ?_
  rintro e w1 ⟨rfl, hw1⟩
  subst w1
  go_wp2
  go_loop [3, 10] (fun o i => o = .slice none 0 0 ∧ i = .int .i64 0) (fun _ _ => 0)
  case atStart => exact ⟨rfl, rfl⟩
  case round =>
    obtain ⟨rfl, rfl⟩ := hrel
    go_wp2
    go_ret
    exact ⟨rfl, rfl⟩

end Go.Proofs.YtckhkammedbpfaaGreat

namespace Go.Proofs.YtckhkammedbpfaaGreat
open Go Go.RowKit Go.Maps

/-- An inode but for where it lies. -/
def bareN (n : Nd) : Nd := { n with par := 0 }
structure SameB (s s' : SS) : Prop where
  most : s.most = s'.most
  tot : s.tot = s'.tot
  next : s.next = s'.next
  list : s.L.map bareN = s'.L.map bareN
theorem SameB.symm {s s' : SS} (h : SameB s s') : SameB s' s := ⟨h.most.symm, h.tot.symm, h.next.symm, h.list.symm⟩
theorem SameB.mem {s s' : SS} (h : SameB s s') {n : Nd} (hn : n ∈ s'.L) : ∃ m ∈ s.L, m.ino = n.ino ∧ m.kind = n.kind ∧ m.links = n.links ∧ m.holds = n.holds ∧ m.f = n.f ∧ m.tgt = n.tgt ∧ m.ds = n.ds := by
  have : bareN n ∈ s.L.map bareN := by rw [h.list]; exact List.mem_map_of_mem hn
  obtain ⟨m, hm, e⟩ := List.mem_map.1 this
  unfold bareN at e
  simp only [Nd.mk.injEq] at e
  exact ⟨m, hm, e.1, e.2.1, e.2.2.1, e.2.2.2.1, e.2.2.2.2.2.1, e.2.2.2.2.2.2.1, e.2.2.2.2.2.2.2⟩
theorem sumB_bare (L : List Nd) : sumB (L.map bareN) = sumB L := by
  induction L with
  | nil => rfl
  | cons a r ih => simp only [List.map_cons, sumB, ih]; rfl
theorem SameB.bl {s s' : SS} (h : SameB s s') : s'.bl = s.bl := by
  unfold SS.bl
  rw [← h.tot, ← sumB_bare s'.L, ← h.list, sumB_bare]
theorem SameB.has {s s' : SS} (h : SameB s s') : hasK s'.L = hasK s.L := by
  funext k
  rw [Bool.eq_iff_iff, hasK_iff, hasK_iff]
  constructor
  · rintro ⟨n, hn, rfl⟩
    obtain ⟨m, hm, e, _⟩ := h.mem hn
    exact ⟨m, hm, e⟩
  · rintro ⟨n, hn, rfl⟩
    obtain ⟨m, hm, e, _⟩ := h.symm.mem hn
    exact ⟨m, hm, e⟩
theorem StoreB.bare {hi : Lo} {w : World} {sb : Nat} {s s' : SS} {B : Nat → Nat} (h : StoreB hi w sb s B) (hs : SameB s s') : StoreB hi w sb s' B := by
  obtain ⟨mb, D, Fs, h, hB⟩ := h
  refine ⟨mb, D, Fs, ⟨?_, h.map, ?_, fun n hn => ?_, fun a ha b hb hne => ?_, fun n hn => ?_, h.top, h.lo.1, h.lo.2.1, fun n hn => ?_⟩, fun n hn hk => ?_⟩
  · rw [← hs.most, ← hs.next, hs.bl]; exact h.box
  · rw [hs.has]; exact h.is
  · obtain ⟨m, hm, e1, e2, e3, e4, e5, e6, e7⟩ := hs.mem hn
    obtain ⟨fp, dp, h1, h2⟩ := h.node m hm
    rw [← e1]
    refine ⟨fp, dp, ?_, h2.of e2.symm e5.symm e7.symm⟩
    unfold ndC at h1 ⊢
    rw [← e2, ← e3, ← e4, ← e6]; exact h1
  · obtain ⟨a', ha', e1, _⟩ := hs.mem ha
    obtain ⟨b', hb', e2, _⟩ := hs.mem hb
    rw [← e1, ← e2] at hne ⊢
    exact h.apart a' ha' b' hb' hne
  · obtain ⟨m, hm, e1, _⟩ := hs.mem hn
    rw [← e1]; exact h.out m hm
  · obtain ⟨m, hm, e1, _⟩ := hs.mem hn
    rw [← e1]; exact h.lo.2.2 m hm
  · obtain ⟨m, hm, e1, e2, _⟩ := hs.mem hn
    rw [← e1]; exact hB m hm (by rw [e2]; exact hk)
theorem FsAt.bare {n fb c : Nat} {w : World} {s s' : SS} {U : Int → Int} (h : FsAt n w fb c s U) (hs : SameB s s') : FsAt n w fb c s' U := by
  obtain ⟨sb, ub, B, h⟩ := h
  exact ⟨sb, ub, B, h.box, h.store.bare hs, h.up, h.lo⟩

/-- The root alone. -/
def rootN : Nd := ⟨1, 2, 0, 1, 1, St.no, ByteArray.empty, []⟩
def newF (a b : Nat) : SS := ⟨[rootN], a, b, 2⟩
def newU : Int → Int := updU (fun _ => 0) 1 1
theorem wf_newF {a b : Nat} (h : 1 ≤ a ∧ a ≤ 256 ∧ b ≤ 4096) : Wf (newF a b) 1 := by
  have hr : ∀ {P : Nd → Prop}, P rootN → ∀ n ∈ (newF a b).L, P n := fun hp n hn => by
    rw [List.mem_singleton.1 hn]; exact hp
  refine ⟨List.pairwise_singleton _ _, hr (P := fun n => 1 ≤ n.ino ∧ n.ino < 2) ⟨by decide, by decide⟩, ⟨show 1 ≤ 2 by decide, show 2 ≤ 2 by decide⟩, h.2.1, h.1, h.2.2, ?_, hr (by decide), hr (by decide), hr (by decide), hr (by decide), hr (by decide), hr (fun _ => rfl), hr (by decide), hr (by decide)⟩
  have h0 : rootN.f.blocks = 0 := St.no_blocks
  have : sumB (newF a b).L = 0 := by simp only [newF, sumB, h0]
  rw [this]; exact Nat.zero_le _
theorem tree_newF (a b : Nat) : Tree (newF a b) := by
  have hr : ∀ {P : Nd → Prop}, P rootN → ∀ n ∈ (newF a b).L, P n := fun hp n hn => by
    rw [List.mem_singleton.1 hn]; exact hp
  refine ⟨⟨rootN, List.mem_singleton.2 rfl, rfl, rfl, rfl, by decide, rfl⟩, hr List.Pairwise.nil, hr (fun h => absurd rfl h), hr (fun e he => by cases he), hr rfl, hr (fun _ => by decide), ⟨fun _ => 0, fun x p h => ?_⟩, hr (fun h => absurd rfl h)⟩
  obtain ⟨n, hn, _, _, h3, _⟩ := up1_mem h
  rw [List.mem_singleton.1 hn] at h3
  exact absurd h3 (by decide)
theorem agree_newF (a b : Nat) : Agree (newF a b) newU := fun m hm _ _ => by
  rw [List.mem_singleton.1 hm]; rfl
theorem same_newF {a b : Nat} (h : 1 ≤ a) : SameB (makeS (newS a b) 2 ByteArray.empty) (newF a b) := by
  have he : makeE (newS a b) 2 ByteArray.empty = 0 := by
    unfold makeE
    rw [if_neg (by decide), if_neg (by show ¬ a ≤ 0; omega)]
  have e : makeS (newS a b) 2 ByteArray.empty = (newS a b).add (freshN 1 2 ByteArray.empty) := by unfold makeS; rw [he]; rfl
  rw [e]
  exact ⟨rfl, rfl, rfl, rfl⟩
def NewPost (a b : Nat) (w : World) (e : Ending) (w' : World) : Prop := ∃ fb, e = .returned (ptr fb) ∧ FsAt w.heap.size w' fb 1 (newF a b) newU ∧ Below w.heap.size w w'
set_option maxRecDepth 100000 in
set_option maxHeartbeats 1000000 in
theorem new7 (a b : Nat) (w : World) (h : 1 ≤ a ∧ a ≤ 256 ∧ b ≤ 4096) : Calls Tryz.prog 35 #[.int .i64 a, .int .i64 b] w (NewPost a b w) := by
  have c1 := empty_yes a b w h
  have HM : Hid (∀ w1 sb, StoreAt (.up w.heap.size) w1 sb (newS a b) → Below w.heap.size w w1 → Calls Tryz.prog 70 #[ptr sb, .int .i64 2, .string ⟨#[]⟩] w1 fun e w2 => (∃ r, e = .returned r) ∧ ∃ w3, (Instr.mapUpdate 98 (.map (some w2.heap.size)) (.int .i64 1) (.int .i64 1)).run Tryz.prog (w2.alloc (.map #[] 0)) = .ok () w3 ∧ NewPost a b w (.returned (ptr w3.heap.size)) (w3.alloc (.cells #[ptr sb, .map (some w2.heap.size)] 100))) := fun w1 sb h1 hb => by
    obtain ⟨B, h2⟩ := h1.boxes
    refine (make_any7 h2 (wf_new h.2.1 h.2.2) (by omega) 2 ByteArray.empty (by decide)).mono ?_
    rintro e w2 ⟨rfl, ⟨B', h3, _⟩, h4⟩
    refine ⟨⟨_, rfl⟩, ?_⟩
    have h5 := h3.bare (same_newF h.1)
    have hb2 := h4.below hb (Nat.le_refl _) hb.size
    have hU : UpM (w2.alloc (.map #[] 0)) w2.heap.size 0 fun _ => 0 := ⟨_, World.ownsMap_made w2 _ _ _, fun x => rfl⟩
    obtain ⟨w3, h6, h7, h8⟩ := hU.put (by omega) (x := 1) (v := 1) (by decide) (by decide)
    have hal := on_alloc w2 (.map #[] 0)
    have hb3 := on_alloc w3 (.cells #[ptr sb, .map (some w2.heap.size)] 100)
    have hsz : w2.heap.size + 1 ≤ w3.heap.size := by
      have := h8.size
      simpa using this
    have hkeep : ∀ x, x < w2.heap.size → w3.heap[x]? = w2.heap[x]? := fun x hx => (h8.block x (by simp; omega) fun e => by cases e; omega).trans (hal.block x hx)
    refine ⟨w3, h6, _, rfl, ⟨sb, w2.heap.size, B', Blk.new w3 _ [_, _], StoreB.on ?_ hb3, h7.on hb3, hb2.size⟩, ?_⟩
    · obtain ⟨mb, D, Fs, h10, h11⟩ := h5
      have hlt : ∀ x, sfoot sb mb D Fs (newF a b).L x → x < w2.heap.size := fun x hx => by
        obtain ⟨_, o, ho, _⟩ := h10.isP hx
        exact (Array.getElem?_eq_some_iff.1 ho).1
      have hok : ∀ x, sfoot sb mb D Fs (newF a b).L x → (Lo.but w.heap.size w2.heap.size).ok x := fun x hx => ⟨(h10.isP hx).1, by have := hlt x hx; omega⟩
      have k := h10.same (w' := w3) (by omega) fun x hx => hkeep x (hlt x hx)
      refine ⟨mb, D, Fs, ⟨k.box, k.map, k.is, k.node, k.apart, k.out, ?_, hok _ (.inl rfl), hok _ (.inr (.inl rfl)), fun n hn => ⟨hok _ (.inr (.inr ⟨n, hn, .inl rfl⟩)), fun x hx => hok x (.inr (.inr ⟨n, hn, .inr hx⟩))⟩⟩, h11.same fun n hn => hkeep _ (hlt _ (.inr (.inr ⟨n, hn, .inl rfl⟩)))⟩
      show max w.heap.size (w2.heap.size + 1) ≤ w3.heap.size
      have := hb2.size
      omega
    · exact on_trans ⟨h8.os.trans (hal.os.trans hb2.os), h8.tape.trans (hal.tape.trans hb2.tape), h8.output.trans (hal.output.trans hb2.output), by have := hb2.size; omega, fun x hx => (hkeep x (Nat.lt_of_lt_of_le hx hb2.size)).trans (hb2.block x hx)⟩ hb3
  generalize NewPost a b w = Post at *
  clear h
  go_enter Tryz.func35, Tryz.ntmps35
  go_wp2_with fail
  refine c1.mono ?_
  rintro e w1 ⟨sb, rfl, h1, hb⟩
  have c2 := HM.out w1 sb h1 hb
  clear h1 HM c1 hb
  go_wp2_with fail
  refine c2.mono ?_
  rintro e w2 ⟨⟨r, rfl⟩, w3, hup, hfin⟩
  have hmm := @run_makeMap Tryz.prog
  clear c2
  go_wp2
  exact hfin
theorem new_no7 (a b : Int) (w : World) (h : a < 1 ∨ 256 < a ∨ b < 0 ∨ 4096 < b) : Calls Tryz.prog 35 #[.int .i64 a, .int .i64 b] w fun e w' => e = .returned (.pointer none) ∧ w' = w := by
  have c1 := empty_no a b w h
  clear h
  go_enter Tryz.func35, Tryz.ntmps35
  go_wp2_with fail
  refine c1.mono ?_
  rintro e w1 ⟨rfl, hw1⟩
  subst w1
  go_wp2
  go_ret
  exact ⟨rfl, rfl⟩
section
variable {n fb c : Nat} {w : World} {s : SS} {U : Int → Int}
theorem room7 (h0 : FsAt n w fb c s U) (hf : Wf s c) : Calls Tryz.prog 13 #[ptr fb] w fun e w' => e = .returned (.tuple #[.int .i64 ((s.most : Int) - (s.L.length : Int)), .int .i64 s.bl]) ∧ Below w.heap.size w w' := by
  obtain ⟨sb, ub, B, h⟩ := h0
  have c1 := inodes_any h
  have c2 := room_any h.store.at hf
  have HB : Hid (∀ q, Below w.heap.size w (w.drewN q)) := fun q => on_drewN (Below.refl _ _) q
  generalize (s.most : Int) - (s.L.length : Int) = r1 at *
  generalize s.bl = r2 at *
  clear h hf
  go_enter Tryz.func13, Tryz.ntmps13
  go_wp2_with fail
  refine c1.mono ?_
  rintro e w1 ⟨rfl, hw1⟩
  subst w1
  go_wp2_with fail
  refine c2.mono ?_
  rintro e w1 ⟨rfl, q, hw1⟩
  subst w1
  go_wp2
  go_ret2
  exact ⟨rfl, HB.out _⟩
theorem next7 (h0 : FsAt n w fb c s U) : Calls Tryz.prog 15 #[ptr fb] w fun e w' => e = .returned (.int .i64 s.next) ∧ w' = w := by
  obtain ⟨sb, ub, B, h⟩ := h0
  have c1 := inodes_any h
  have c2 := next_any h.store.at
  clear h
  go_enter Tryz.func15, Tryz.ntmps15
  go_wp2_with fail
  refine c1.mono ?_
  rintro e w1 ⟨rfl, hw1⟩
  subst w1
  go_wp2_with fail
  refine c2.mono ?_
  rintro e w1 ⟨rfl, hw1⟩
  subst w1
  go_wp2
  go_ret
  exact ⟨rfl, rfl⟩
end

end Go.Proofs.YtckhkammedbpfaaGreat
