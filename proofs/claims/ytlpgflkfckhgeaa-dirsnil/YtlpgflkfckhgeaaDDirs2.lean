/- What Add, Set and Remove answer and do. -/
import Derived.Test.YtlpgflkfckhgeaaDDirs
namespace Go.Proofs.Ytlpgflkfckhgeaa
open Go Go.RowKit

/-- What Add tells, and what there is then. -/
def addE (nm : ByteArray) (ino : Int) (S : List Ent) : Int := if nameE nm ≠ 0 then nameE nm else if ino < 1 then 22 else if has nm S then 17 else if 64 ≤ S.length then 28 else 0
def addS (nm : ByteArray) (ino : Int) (S : List Ent) : List Ent := if addE nm ino S = 0 then S.take (under nm S) ++ (nm, ino) :: S.drop (under nm S) else S
/-- What Set tells, and what there is then. -/
def setE (nm : ByteArray) (ino : Int) (S : List Ent) : Int := if ino < 1 then 22 else if has nm S then 0 else 2
def setN (nm : ByteArray) (ino : Int) (S : List Ent) : Int := if setE nm ino S = 0 then find nm S else 0
def setS (nm : ByteArray) (ino : Int) (S : List Ent) : List Ent := if setE nm ino S = 0 then S.set (under nm S) (nm, ino) else S
/-- What Remove tells, and what there is then. -/
def remE (nm : ByteArray) (S : List Ent) : Int := if has nm S then 0 else 2
def remS (nm : ByteArray) (S : List Ent) : List Ent := if has nm S then S.take (under nm S) ++ S.drop (under nm S + 1) else S

/-- A directory, whatever its row's value. -/
def Dir (hi : Nat) (w : World) (d : Nat) (S : List Ent) : Prop := ∃ v, DirAt hi w d v S
def DirPost (hi d : Nat) (w : World) (r : Value) (S : List Ent) (e : Ending) (w' : World) : Prop := e = .returned r ∧ Dir hi w' d S ∧ Turn hi w w'

theorem has_place {nm : ByteArray} {S : List Ent} (hs : Sorted S) (h : has nm S = true) : ∃ hlt : under nm S < S.length, S[under nm S].1 = nm ∧ find nm S = S[under nm S].2 := by
  have hh := sorted_has (n := nm) hs
  rw [h] at hh
  split at hh
  · rename_i hlt
    exact ⟨hlt, same_iff.1 hh.symm, find_at hs hlt hh.symm⟩
  · cases hh

/-- A row's new value laid into the directory's box. -/
theorem dir_store {hi d : Nat} {w : World} {v v' : Value} {S' : List Ent} (hb : Blk w d 54 [v]) (hr : Row hi 61 w v' S') (hd : hi ≤ d) : DirAt hi (w.setCell ⟨d, 0, none⟩ v') d v' S' :=
  ⟨by have := hb.set 0 v'; simpa using this, rowS_but (_t := 0) (_cs := []) hr (but_set w d 0 v') (.inr fun g cap e hgd => by
    subst e hgd
    obtain ⟨cs, hB, _⟩ := rowS_blk hr
    have := hB.row.symm.trans hb.row
    simp at this), hd⟩

set_option maxRecDepth 100000 in
set_option maxHeartbeats 1000000 in
theorem add_any (hi d : Nat) (v : Value) (S : List Ent) (nm : ByteArray) (ino : Int) (w : World) (hnm : nm.size ≤ 10000) (hlen : S.length ≤ 64) (hs : Sorted S) (hhi : hi ≤ w.heap.size) (h : DirAt hi w d v S) :
    Calls Try.prog 19 #[.pointer (some ⟨d, 0, none⟩), .string nm, .int .i64 ino] w (DirPost hi d w (.int .i64 (addE nm ino S)) (addS nm ino S)) := by
  have cN := name_any nm w hnm
  have HPl : Hid (∀ w1, Below w.heap.size w w1 → Calls Try.prog 25 #[.pointer (some ⟨d, 0, none⟩), .string nm] w1 fun e w' => e = .returned (.tuple #[.int .i64 (under nm S : Int), .bool (has nm S)]) ∧ Below w1.heap.size w1 w') := fun w1 hb => place_any hi d v S nm w1 (by omega) hs (h.on hb)
  have HLn : Hid (∀ w1, Below w.heap.size w w1 → Calls Try.prog 9 #[.pointer (some ⟨d, 0, none⟩)] w1 fun e w' => e = .returned (.int .i64 (S.length : Int)) ∧ w' = w1) := fun w1 hb => len_any hi d v S w1 (h.on hb)
  have HD : Hid (∀ w1, Below w.heap.size w w1 → DirAt hi w1 d v S) := fun w1 hb => h.on hb
  have HU : Hid (under nm S ≤ S.length) := under_le _ _
  have HE : Hid (addE nm ino S = if nameE nm ≠ 0 then nameE nm else if ino < 1 then 22 else if has nm S then 17 else if 64 ≤ S.length then 28 else 0) := rfl
  have HA : Hid (addS nm ino S = if addE nm ino S = 0 then S.take (under nm S) ++ (nm, ino) :: S.drop (under nm S) else S) := rfl
  have HK : Hid (∀ (e : Ending) w1 r, addE nm ino S = r → r ≠ 0 → e = .returned (.int .i64 r) → Below w.heap.size w w1 → DirPost hi d w (.int .i64 (addE nm ino S)) (addS nm ino S) e w1) := fun e w1 r h1 h2 he hb =>
    ⟨by rw [he, h1], ⟨v, by rw [HA.out, if_neg (by rw [h1]; exact h2)]; exact h.on hb⟩, Turn.on hb⟩
  have HY : Hid (∀ (e : Ending) w1, addE nm ino S = 0 → e = .returned (.int .i64 0) → Dir hi w1 d (S.take (under nm S) ++ (nm, ino) :: S.drop (under nm S)) → Turn hi w w1 → DirPost hi d w (.int .i64 (addE nm ino S)) (addS nm ino S) e w1) := fun e w1 h1 he hd ht =>
    ⟨by rw [he, h1], by rw [HA.out, if_pos h1]; exact hd, ht⟩
  generalize DirPost hi d w (.int .i64 (addE nm ino S)) (addS nm ino S) = Post at *
  clear h HA
  generalize addE nm ino S = r at *
  generalize nameE nm = ne at *
  by_cases h0 : ne ≠ 0
  · have HEE : Hid (r = ne) := by have := HE.out; rwa [if_pos h0] at this
    have hq : (ne != 0) = true := by simpa using h0
    have H0 : Hid (ne ≠ 0) := h0
    clear HE h0
    go_enter Try.func19, Try.ntmps19
    go_wp2_with fail
    refine cN.mono ?_
    rintro e w1 ⟨rfl, hb⟩
    go_wp2
    exact HK.out _ _ _ HEE.out H0.out rfl hb
  obtain rfl : ne = 0 := by omega
  rw [if_neg (by simp)] at HE
  clear h0
  generalize hp : under nm S = p at *
  generalize hhs : has nm S = f at *
  by_cases h1 : ino < 1
  · have HEE : Hid (r = 22) := by have := HE.out; rwa [if_pos h1] at this
    clear HE
    go_enter Try.func19, Try.ntmps19
    go_wp2_with fail
    refine cN.mono ?_
    rintro e w1 ⟨rfl, hb⟩
    have cP := HPl.out w1 hb
    go_wp2_with fail
    refine cP.mono ?_
    rintro e w2 ⟨rfl, hb2⟩
    go_wp2
    exact HK.out _ _ _ HEE.out (by decide) rfl (on_trans hb hb2)
  rw [if_neg h1] at HE
  cases f with
  | true =>
    have HEE : Hid (r = 17) := HE.out
    clear HE
    go_enter Try.func19, Try.ntmps19
    go_wp2_with fail
    refine cN.mono ?_
    rintro e w1 ⟨rfl, hb⟩
    have cP := HPl.out w1 hb
    go_wp2_with fail
    refine cP.mono ?_
    rintro e w2 ⟨rfl, hb2⟩
    go_wp2
    exact HK.out _ _ _ HEE.out (by decide) rfl (on_trans hb hb2)
  | false =>
    have HE2 : Hid (r = if 64 ≤ S.length then 28 else 0) := HE.out
    clear HE
    by_cases h2 : 64 ≤ S.length
    · have HEE : Hid (r = 28) := by have := HE2.out; rwa [if_pos h2] at this
      have hz : (64 : Int) ≤ (S.length : Int) := by omega
      clear HE2
      go_enter Try.func19, Try.ntmps19
      go_wp2_with fail
      refine cN.mono ?_
      rintro e w1 ⟨rfl, hb⟩
      have cP := HPl.out w1 hb
      go_wp2_with fail
      refine cP.mono ?_
      rintro e w2 ⟨rfl, hb2⟩
      have cL := HLn.out w2 (on_trans hb hb2)
      go_wp2_with fail
      refine cL.mono ?_
      rintro e w3 ⟨rfl, rfl⟩
      go_wp2
      exact HK.out _ _ _ HEE.out (by decide) rfl (on_trans hb hb2)
    · have HEE : Hid (r = 0) := by have := HE2.out; rwa [if_neg h2] at this
      have hz : ¬ (64 : Int) ≤ (S.length : Int) := by omega
      clear HE2
      go_enter Try.func19, Try.ntmps19
      go_wp2_with fail
      refine cN.mono ?_
      rintro e w1 ⟨rfl, hb⟩
      have cP := HPl.out w1 hb
      go_wp2_with fail
      refine cP.mono ?_
      rintro e w2 ⟨rfl, hb2⟩
      have cL := HLn.out w2 (on_trans hb hb2)
      go_wp2_with fail
      refine cL.mono ?_
      rintro e w3 ⟨rfl, hw3⟩
      subst hw3
      have hB := on_trans hb hb2
      have hd := HD.out _ hB
      have x0 := hd.box.cell 0 rfl
      obtain ⟨pp, cap, rfl⟩ := hd.slice
      clear cP cL
      go_wp2_with fail
      have hb3 := on_alloc w3 (.cells #[.string nm, .int .i64 ino] 61)
      have hd3 := hd.on hb3
      have cI := insert_any hi w3.heap.size p _ S (nm, ino) _ (by omega) HU.out hd3.row (Blk.new w3 _ (entC (nm, ino))) (fun e => by
        have := (hd.row.lt _ e).2
        omega) (by have := hB.size; have := hb3.size; omega)
      refine cI.mono ?_
      rintro e w4 ⟨v', rfl, hrow, hgr⟩
      have hbox := hgr.blk hd3.box (by decide)
      obtain ⟨p', cap', rfl, _⟩ := rowS_at hrow
      have HZ : Hid (Dir hi (w4.setCell ⟨d, 0, none⟩ (.slice p' (S.take p ++ (nm, ino) :: S.drop p).length cap')) d (S.take p ++ (nm, ino) :: S.drop p)) := ⟨_, dir_store hbox hrow hd.hid⟩
      have HT : Hid (Turn hi w (w4.setCell ⟨d, 0, none⟩ (.slice p' (S.take p ++ (nm, ino) :: S.drop p).length cap'))) :=
        ((Turn.on (on_trans hB hb3)).trans (Turn.of_grow hgr)).trans (Turn.of_but hbox (but_set _ _ _ _) hd.hid)
      have y0 := hbox.cell 0 rfl
      have y1 := hbox.free 0
      generalize (S.take p ++ (nm, ino) :: S.drop p) = S' at *
      clear hd hd3 cI hrow hgr hbox
      go_wp2
      exact HY.out _ _ HEE.out rfl HZ.out HT.out

end Go.Proofs.Ytlpgflkfckhgeaa
