/- What Page and Names answer; what a nil directory answers. -/
import Derived.Test.YtlpgflkfckhgeaaDDirs3
namespace Go.Proofs.Ytlpgflkfckhgeaa
open Go Go.RowKit

theorem elemStr : ElemOk Try.prog 35 9 (.string ⟨#[]⟩) 16 := ⟨Try.underlying35, by kernel_rfl, rfl, by decide⟩
def strV (l : List ByteArray) : List Value := l.map Value.string
theorem strV_len (l : List ByteArray) : (strV l).length = l.length := List.length_map _
/-- Texts are returned. -/
def RetNames (w : World) (l : List ByteArray) (e : Ending) (w' : World) : Prop := ∃ p c, e = .returned (.slice p l.length c) ∧ AtF w.heap.size w' p (strV l) ∧ Below w.heap.size w w'
/-- The first texts of a list, and empty ones behind them. -/
def outN (l : List ByteArray) (k : Nat) : List Value := strV (l.take k) ++ List.replicate (l.length - k) (.string ⟨#[]⟩)
theorem outN_zero (l : List ByteArray) : outN l 0 = List.replicate l.length (.string ⟨#[]⟩) := by simp [outN, strV]
theorem outN_all (l : List ByteArray) : outN l l.length = strV l := by simp [outN]
theorem outN_len (l : List ByteArray) (k : Nat) : (outN l k).length = l.length := by simp [outN, strV]; omega
theorem outN_set (l : List ByteArray) (k : Nat) (h : k < l.length) : (outN l k).set k (.string l[k]) = outN l (k + 1) := by
  have e : (strV (l.take k)).length = k := by simp [strV]; omega
  unfold outN
  rw [List.set_append_right _ _ (by omega), e, Nat.sub_self, show l.length - k = (l.length - (k + 1)) + 1 by omega, List.replicate_succ, List.set_cons_zero]
  rw [List.take_add_one, List.getElem?_eq_getElem h, Option.toList_some]
  unfold strV
  rw [List.map_append, List.append_assoc]
  rfl
/-- The names of entries. -/
def names (S : List Ent) : List ByteArray := S.map (·.1)
theorem names_len (S : List Ent) : (names S).length = S.length := List.length_map _
/-- Some of the names. -/
def pageL (S : List Ent) (fr n : Int) : List ByteArray := if fr < 0 ∨ n < 0 then [] else ((names S).drop fr.toNat).take n.toNat

set_option maxRecDepth 100000 in
set_option maxHeartbeats 1000000 in
theorem page_some (hi d : Nat) (v : Value) (S : List Ent) (fr m : Nat) (n : Int) (w : World) (hlen : S.length ≤ 1000) (hfr : fr < S.length) (hn : 0 ≤ n) (hm : min n ((S.length : Int) - (fr : Int)) = (m : Int)) (h : DirAt hi w d v S) :
    Calls Try.prog 16 #[.pointer (some ⟨d, 0, none⟩), .int .i64 (fr : Int), .int .i64 n] w (RetNames w (((names S).drop fr).take m)) := by
  have hmle : fr + m ≤ S.length := by omega
  obtain ⟨l, hl⟩ : ∃ l, ((names S).drop fr).take m = l := ⟨_, rfl⟩
  have hll : l.length = m := by rw [← hl, List.length_take, List.length_drop, names_len]; omega
  have HLk : Hid (∀ k (hk : k < l.length), ∃ h2 : fr + k < S.length, S[fr + k].1 = l[k]) := fun k hk => ⟨by omega, by
    subst hl
    simp [names]⟩
  have HLn : Hid (∀ w1, Below w.heap.size w w1 → Calls Try.prog 9 #[.pointer (some ⟨d, 0, none⟩)] w1 fun e w' => e = .returned (.int .i64 (S.length : Int)) ∧ w' = w1) := fun w1 hb => len_any hi d v S w1 (h.on hb)
  have HD : Hid (∀ w1, Below w.heap.size w w1 → DirAt hi w1 d v S) := fun w1 hb => h.on hb
  obtain ⟨w0, hmk, hB0, hb0, hs0⟩ := make_row elemStr rfl m (by omega) w
  have HB : Hid (Blk w0 w.heap.size 9 (outN l 0) ∧ Below w.heap.size w w0) := ⟨by rw [outN_zero, hll]; exact hB0, hb0⟩
  have HP : Hid (∀ (e : Ending) w1, e = .returned (.slice (some ⟨w.heap.size, 0, none⟩) m m) → Blk w1 w.heap.size 9 (outN l m) → Below w.heap.size w w1 → RetNames w l e w1) := fun e w1 he hB hb =>
    ⟨some ⟨w.heap.size, 0, none⟩, m, by rw [hll]; exact he, .inr ⟨w.heap.size, 0, rfl, Nat.le_refl _, hB.lt, fun j u hj => by
      rw [Nat.zero_add]
      refine hB.cell j ?_
      rw [← hll, outN_all]; exact hj⟩, hb⟩
  rw [hl]
  have HLL : Hid (l.length = m) := hll
  generalize RetNames w l = Post at *
  have hz1 : ¬ (S.length : Int) ≤ (fr : Int) := by omega
  have hz0 : ¬ (fr : Int) < 0 := by omega
  have hz2 : ¬ n < 0 := by omega
  have hnl : ¬ S.length ≤ fr := by omega
  clear h hl hB0 hb0 hll
  go_enter Try.func16, Try.ntmps16
  go_wp2_with fail
  refine (HLn.out w (Below.refl _ _)).mono ?_
  rintro e w2 ⟨rfl, hw2⟩
  subst hw2
  go_wp2_with fail
  refine (HLn.out w2 (Below.refl _ _)).mono ?_
  rintro e w3 ⟨rfl, hw3⟩
  subst hw3
  go_wp2
  go_loopw [30] (fun i wr => ∃ k : Nat, k ≤ m ∧ i = .int .i64 k ∧ Hid (Blk wr w3.heap.size 9 (outN l k) ∧ Below w3.heap.size w3 wr)) (fun i _ => m - (intOf i).toNat)
  case atStart => exact ⟨0, Nat.zero_le _, rfl, HB⟩
  case round =>
    clear HB
    obtain ⟨k, hk, rfl, HB⟩ := hrel
    by_cases hlt : k < m
    · have hltz : (k : Int) < (m : Int) := by omega
      have hkl : k < l.length := by have := HLL.out; omega
      obtain ⟨h2, hnm⟩ := HLk.out k hkl
      have hd := HD.out wr HB.out.2
      have x0 := hd.box.cell 0 rfl
      obtain ⟨g, cap, rfl, _, x1, _⟩ := ent_cell hd h2
      have y0 : wr.cell? ⟨w3.heap.size, k, none⟩ = some ((outN l k)[k]'(by rw [outN_len]; exact hkl)) := HB.out.1.cell k (List.getElem?_eq_getElem _)
      have y1 := HB.out.1.free k
      have HB2 : Hid (Blk (wr.setCell ⟨w3.heap.size, k, none⟩ (.string l[k])) w3.heap.size 9 (outN l (k + 1)) ∧ Below w3.heap.size w3 (wr.setCell ⟨w3.heap.size, k, none⟩ (.string l[k]))) := by
        refine ⟨?_, below_but HB.out.2 (but_set _ _ _ _) (Nat.le_refl _)⟩
        rw [← outN_set l k hkl]; exact HB.out.1.set k _
      rw [hnm] at x1
      have hzi : (fr : Int) + (k : Int) < (S.length : Int) := by omega
      generalize (outN l k)[k]'(by rw [outN_len]; exact hkl) = old at *
      generalize l[k] = y at *
      clear hd
      go_wp2
      go_roundw
      case rel => exact ⟨k + 1, by omega, by go_num, HB2⟩
      case measure => simp [intOf]; omega
    · obtain rfl : k = m := by omega
      have hltz : ¬ (k : Int) < (k : Int) := by omega
      go_wp2
      exact HP.out _ _ rfl HB.out.1 HB.out.2

end Go.Proofs.Ytlpgflkfckhgeaa
