/- What Set and Remove answer and do. -/
import Derived.Test.YtlpgflkfckhgeaaDDirs2
namespace Go.Proofs.Ytlpgflkfckhgeaa
open Go Go.RowKit

/-- An entry's number laid. -/
theorem dir_ino {hi d g cap k : Nat} {w : World} {S : List Ent} (h : DirAt hi w d (.slice (some ⟨g, 0, none⟩) S.length cap) S) (hk : k < S.length) (n : Int) :
    DirAt hi (w.setCell ⟨g, k * 2 + 1, none⟩ (.int .i64 n)) d (.slice (some ⟨g, 0, none⟩) S.length cap) (S.set k (S[k].1, n)) ∧ Turn hi w (w.setCell ⟨g, k * 2 + 1, none⟩ (.int .i64 n)) := by
  obtain ⟨cs, hB, _, _, _, hg, _⟩ := rowS_blk h.row
  have hne : d ≠ g := fun e => by
    subst e
    have := hB.row.symm.trans h.box.row
    simp at this
  have hs := (h.row.stored (k * 2 + 1) (.int .i64 n)).1
  rw [flat_set S k hk n] at hs
  refine ⟨⟨h.box.but (but_set _ _ _ _) hne, ?_, h.hid⟩, Turn.of_row hB (but_set _ _ _ _) hg⟩
  show World.ownsRow _ hi _ 2 _ (S.set k (S[k].1, n)).length _
  rw [List.length_set]
  exact hs
theorem row_free {hi g cap n : Nat} {w : World} {e : TypeId} {xs : List Value} (h : w.ownsRow hi e 2 (.slice (some ⟨g, 0, none⟩) n cap) n xs) (j : Nat) : w.frozen? ⟨g, j, none⟩ = false := by
  obtain ⟨cs, hB, _⟩ := rowS_blk h
  exact hB.free j

set_option maxRecDepth 100000 in
set_option maxHeartbeats 1000000 in
theorem set_any (hi d : Nat) (v : Value) (S : List Ent) (nm : ByteArray) (ino : Int) (w : World) (hlen : S.length ≤ 64) (hs : Sorted S) (h : DirAt hi w d v S) :
    Calls Try.prog 20 #[.pointer (some ⟨d, 0, none⟩), .string nm, .int .i64 ino] w (DirPost hi d w (.tuple #[.int .i64 (setN nm ino S), .int .i64 (setE nm ino S)]) (setS nm ino S)) := by
  have cP := place_any hi d v S nm w (by omega) hs h
  have HH := fun hh => has_place (nm := nm) hs hh
  have HD : Hid (∀ w1, Below w.heap.size w w1 → DirAt hi w1 d v S) := fun w1 hb => h.on hb
  have HE : Hid (setE nm ino S = if ino < 1 then 22 else if has nm S then 0 else 2) := rfl
  have HA : Hid (setS nm ino S = if setE nm ino S = 0 then S.set (under nm S) (nm, ino) else S) := rfl
  have HN : Hid (setN nm ino S = if setE nm ino S = 0 then find nm S else 0) := rfl
  have HK : Hid (∀ (e : Ending) w1 r, setE nm ino S = r → r ≠ 0 → e = .returned (.tuple #[.int .i64 0, .int .i64 r]) → Below w.heap.size w w1 → DirPost hi d w (.tuple #[.int .i64 (setN nm ino S), .int .i64 (setE nm ino S)]) (setS nm ino S) e w1) := fun e w1 r h1 h2 he hb =>
    ⟨by rw [he, HN.out, h1, if_neg h2], ⟨v, by rw [HA.out, if_neg (by rw [h1]; exact h2)]; exact h.on hb⟩, Turn.on hb⟩
  have HY : Hid (∀ (e : Ending) w1, setE nm ino S = 0 → e = .returned (.tuple #[.int .i64 (find nm S), .int .i64 0]) → Dir hi w1 d (S.set (under nm S) (nm, ino)) → Turn hi w w1 → DirPost hi d w (.tuple #[.int .i64 (setN nm ino S), .int .i64 (setE nm ino S)]) (setS nm ino S) e w1) := fun e w1 h1 he hd ht =>
    ⟨by rw [he, HN.out, h1, if_pos rfl], by rw [HA.out, if_pos h1]; exact hd, ht⟩
  generalize DirPost hi d w (.tuple #[.int .i64 (setN nm ino S), .int .i64 (setE nm ino S)]) (setS nm ino S) = Post at *
  clear h HA HN
  generalize setE nm ino S = r at *
  by_cases h1 : ino < 1
  · have HEE : Hid (r = 22) := by have := HE.out; rwa [if_pos h1] at this
    clear HE cP HH
    go_enter Try.func20, Try.ntmps20
    go_wp2
    exact HK.out _ _ _ HEE.out (by decide) rfl (Below.refl _ _)
  rw [if_neg h1] at HE
  cases hf : has nm S with
  | false =>
    rw [hf] at HE cP
    have HEE : Hid (r = 2) := HE.out
    clear HE HH
    go_enter Try.func20, Try.ntmps20
    go_wp2_with fail
    refine cP.mono ?_
    rintro e w1 ⟨rfl, hb⟩
    go_wp2
    exact HK.out _ _ _ HEE.out (by decide) rfl hb
  | true =>
    rw [hf] at HE cP
    have HEE : Hid (r = 0) := HE.out
    obtain ⟨hlt, hn1, hn2⟩ := HH hf
    have HN1 : Hid (S[under nm S].1 = nm) := hn1
    have HN2 : Hid (find nm S = S[under nm S].2) := hn2
    clear HE HH hf hn1 hn2
    generalize under nm S = p at *
    generalize find nm S = fn at *
    have hz : (p : Int) < (S.length : Int) := by omega
    go_enter Try.func20, Try.ntmps20
    go_wp2_with fail
    refine cP.mono ?_
    rintro e w1 ⟨rfl, hb⟩
    have hd := HD.out w1 hb
    have x0 := hd.box.cell 0 rfl
    obtain ⟨g, cap, rfl, _, _, x1⟩ := ent_cell hd hlt
    rw [← HN2.out] at x1
    have x2 := row_free hd.row (p * 2 + 1)
    have hst := dir_ino hd hlt ino
    rw [HN1.out] at hst
    have HZ : Hid (Dir hi (w1.setCell ⟨g, p * 2 + 1, none⟩ (.int .i64 ino)) d (S.set p (nm, ino)) ∧ Turn hi w (w1.setCell ⟨g, p * 2 + 1, none⟩ (.int .i64 ino))) := ⟨⟨_, hst.1⟩, (Turn.on hb).trans hst.2⟩
    clear hd hst cP
    go_wp2
    exact HY.out _ _ HEE.out rfl HZ.out.1 HZ.out.2

set_option maxRecDepth 100000 in
set_option maxHeartbeats 1000000 in
theorem remove_any (hi d : Nat) (v : Value) (S : List Ent) (nm : ByteArray) (w : World) (hlen : S.length ≤ 64) (hs : Sorted S) (h : DirAt hi w d v S) :
    Calls Try.prog 21 #[.pointer (some ⟨d, 0, none⟩), .string nm] w (DirPost hi d w (.tuple #[.int .i64 (find nm S), .int .i64 (remE nm S)]) (remS nm S)) := by
  have cP := place_any hi d v S nm w (by omega) hs h
  have HD : Hid (∀ w1, Below w.heap.size w w1 → DirAt hi w1 d v S) := fun w1 hb => h.on hb
  cases hf : has nm S with
  | false =>
    have HK : Hid (∀ (e : Ending) w1, e = .returned (.tuple #[.int .i64 0, .int .i64 2]) → Below w.heap.size w w1 → DirPost hi d w (.tuple #[.int .i64 (find nm S), .int .i64 (remE nm S)]) (remS nm S) e w1) := fun e w1 he hb =>
      ⟨by rw [he, find_none hf]; unfold remE; rw [hf]; rfl, ⟨v, by unfold remS; rw [hf]; exact h.on hb⟩, Turn.on hb⟩
    generalize DirPost hi d w (.tuple #[.int .i64 (find nm S), .int .i64 (remE nm S)]) (remS nm S) = Post at *
    rw [hf] at cP
    clear h HD hf
    go_enter Try.func21, Try.ntmps21
    go_wp2_with fail
    refine cP.mono ?_
    rintro e w1 ⟨rfl, hb⟩
    go_wp2
    exact HK.out _ _ rfl hb
  | true =>
    have HY : Hid (∀ (e : Ending) w1, e = .returned (.tuple #[.int .i64 (find nm S), .int .i64 0]) → Dir hi w1 d (S.take (under nm S) ++ S.drop (under nm S + 1)) → Turn hi w w1 → DirPost hi d w (.tuple #[.int .i64 (find nm S), .int .i64 (remE nm S)]) (remS nm S) e w1) := fun e w1 he hd ht =>
      ⟨by rw [he]; unfold remE; rw [hf]; rfl, by unfold remS; rw [hf]; exact hd, ht⟩
    generalize DirPost hi d w (.tuple #[.int .i64 (find nm S), .int .i64 (remE nm S)]) (remS nm S) = Post at *
    obtain ⟨hlt, _, hn2⟩ := has_place hs hf
    have HN2 : Hid (find nm S = S[under nm S].2) := hn2
    rw [hf] at cP
    clear h hf hn2
    generalize under nm S = p at *
    generalize find nm S = fn at *
    have hz : (p : Int) < (S.length : Int) := by omega
    go_enter Try.func21, Try.ntmps21
    go_wp2_with fail
    refine cP.mono ?_
    rintro e w1 ⟨rfl, hb⟩
    have hd := HD.out w1 hb
    have x0 := hd.box.cell 0 rfl
    obtain ⟨g, cap, rfl, _, _, x1⟩ := ent_cell hd hlt
    rw [← HN2.out] at x1
    have cD := delete_any hi p _ S w1 (by omega) hlt hd.row
    have HD1 : Hid (DirAt hi w1 d (.slice (some ⟨g, 0, none⟩) S.length cap) S) := hd
    clear hd cP HD
    go_wp2_with fail
    refine cD.mono ?_
    rintro e w4 ⟨v', rfl, hrow, hgr⟩
    have hbox := hgr.blk HD1.out.box (by decide)
    obtain ⟨p', cap', rfl, _⟩ := rowS_at hrow
    have HZ : Hid (Dir hi (w4.setCell ⟨d, 0, none⟩ (.slice p' (S.take p ++ S.drop (p + 1)).length cap')) d (S.take p ++ S.drop (p + 1))) := ⟨_, dir_store hbox hrow HD1.out.hid⟩
    have HT : Hid (Turn hi w (w4.setCell ⟨d, 0, none⟩ (.slice p' (S.take p ++ S.drop (p + 1)).length cap'))) :=
      ((Turn.on hb).trans (Turn.of_grow hgr)).trans (Turn.of_but hbox (but_set _ _ _ _) HD1.out.hid)
    have y0 := hbox.cell 0 rfl
    have y1 := hbox.free 0
    generalize (S.take p ++ S.drop (p + 1)) = S' at *
    clear cD hrow hgr hbox x0 x1 HD1
    go_wp2
    exact HY.out _ _ rfl HZ.out HT.out

end Go.Proofs.Ytlpgflkfckhgeaa
