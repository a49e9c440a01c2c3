/- What an act does to both, and what the laws stand on. -/
import Derived.Test.YtlpgflkfckhgeaaDRef5
namespace Go.Proofs.Ytlpgflkfckhgeaa
open Go Go.RowKit

theorem toList_refl (y : ByteArray) : (y.toList == y.toList) = true := by simp
theorem toList_refl2 (y : ByteArray) : (y.toList != y.toList) = false := by simp

set_option maxRecDepth 100000 in
set_option maxHeartbeats 1000000 in
theorem names_zero (p q : Option Addr) (c d : Nat) (w : World) :
    Calls Try.prog 12 #[.slice p 0 c, .slice q 0 d] w fun e w' => e = .returned (.bool true) ∧ w' = w := by
  go_enter Try.func12, Try.ntmps12
  go_wp2
  go_loop [5] (fun i => i = .int .i64 0) (fun _ => 0)
  case atStart => rfl
  case round =>
    subst hrel
    go_wp2
    go_ret
    exact ⟨rfl, rfl⟩

set_option maxRecDepth 100000 in
set_option maxHeartbeats 1000000 in
theorem names_some (b off b2 off2 : Nat) (c d : Nat) (l : List ByteArray) (w : World) (hl : l.length ≤ 9223372036854775807) (hc : ∀ j, j < l.length → w.cell? ⟨b, off + j, none⟩ = some (.string (l.getD j ByteArray.empty)))
    (hd : ∀ j, j < l.length → w.cell? ⟨b2, off2 + j, none⟩ = some (.string (l.getD j ByteArray.empty))) :
    Calls Try.prog 12 #[.slice (some ⟨b, off, none⟩) l.length c, .slice (some ⟨b2, off2, none⟩) l.length d] w fun e w' => e = .returned (.bool true) ∧ Below w.heap.size w w' := by
  have HC : Hid (∀ j, j < l.length → w.cell? ⟨b, off + j, none⟩ = some (.string (l.getD j ByteArray.empty))) := hc
  have HD : Hid (∀ j, j < l.length → w.cell? ⟨b2, off2 + j, none⟩ = some (.string (l.getD j ByteArray.empty))) := hd
  clear hc hd
  go_enter Try.func12, Try.ntmps12
  go_wp2
  go_loopw [5] (fun i wr => ∃ k q : Nat, k ≤ l.length ∧ i = .int .i64 k ∧ wr = w.drewN q) (fun i _ => l.length - (intOf i).toNat)
  case atStart => exact ⟨0, 0, Nat.zero_le _, rfl, rfl⟩
  case round =>
    obtain ⟨k, q, hk, rfl, rfl⟩ := hrel
    by_cases hlt : k < l.length
    · have hltz : (k : Int) < (l.length : Int) := by omega
      have hck := HC.out k hlt
      have hdk := HD.out k hlt
      generalize l.getD k ByteArray.empty = y at hck hdk
      have e1 := toList_refl y
      have e2 := toList_refl2 y
      go_wp2
      go_quiet (fail)
      go_wp2
      go_roundw
      case rel => exact ⟨k + 1, _, by omega, by go_num, rfl⟩
      case measure => simp [intOf]; omega
    · obtain rfl : k = l.length := by omega
      have hltz : ¬ (l.length : Int) < (l.length : Int) := by omega
      go_wp2
      go_ret
      exact ⟨rfl, on_drewN (Below.refl _ _) _⟩

theorem names_two (p q : Option Addr) (c d : Nat) (l : List ByteArray) (w : World) (hl : l.length ≤ 9223372036854775807) (h : At w p (strV l)) (h2 : At w q (strV l)) :
    Calls Try.prog 12 #[.slice p l.length c, .slice q l.length d] w fun e w' => e = .returned (.bool true) ∧ Below w.heap.size w w' := by
  have key : ∀ j, j < l.length → (strV l)[j]? = some (.string (l.getD j ByteArray.empty)) := fun j hj => by simp [strV, List.getD, hj]
  rcases h with h | ⟨b, off, rfl, _, _, hc⟩
  · obtain rfl : l = [] := by simpa [strV] using h
    refine (names_zero p q c d w).mono ?_
    rintro e w' ⟨rfl, rfl⟩
    exact ⟨rfl, Below.refl _ _⟩
  · rcases h2 with h | ⟨b2, off2, rfl, _, _, hd⟩
    · obtain rfl : l = [] := by simpa [strV] using h
      refine (names_zero (some ⟨b, off, none⟩) q c d w).mono ?_
      rintro e w' ⟨rfl, rfl⟩
      exact ⟨rfl, Below.refl _ _⟩
    · exact names_some b off b2 off2 c d l w hl (fun j hj => hc j _ (key j hj)) (fun j hj => hd j _ (key j hj))

theorem Dir.on {hi d : Nat} {w w' : World} {S : List Ent} (h : Dir hi w d S) (hb : Below w.heap.size w w') : Dir hi w' d S := by
  obtain ⟨v, h⟩ := h
  exact ⟨v, h.on hb⟩
/-- What an act leaves: one directory again. -/
def DoesPost (hi d : Nat) (w : World) (e : Ending) (w' : World) : Prop := ∃ v' S' l', e = .returned (.tuple #[v', .bool true]) ∧ Dir hi w' d S' ∧ RowR 0 w' v' l' ∧ Rel S' l' ∧ Turn hi w w'

set_option maxRecDepth 100000 in
set_option maxHeartbeats 2000000 in
theorem does_set (hi d : Nat) (v : Value) (S l : List Ent) (rv : Value) (kd : Int) (nm : ByteArray) (ino : Int) (w : World) (_hhi : hi ≤ w.heap.size) (hR : Rel S l) (h : DirAt hi w d v S) (hr : RowR 0 w rv l) (hnm : nm.size ≤ 9223372036854775807) (hk : kd = 1) :
    Calls Try.prog 8 #[.pointer (some ⟨d, 0, none⟩), rv, .agg #[.int .i64 kd, .string nm, .int .i64 ino]] w (DoesPost hi d w) := by
  obtain ⟨nm', hnm'⟩ : ∃ nm', (if 100 < nm.size then nm.extract 0 100 else nm) = nm' := ⟨_, rfl⟩
  have hsz : nm'.size ≤ 100 := by
    rw [← hnm']
    split
    · rw [ByteArray.size_extract]; omega
    · omega
  have hB := on_alloc w (.cells #[.int .i64 kd, .string nm', .int .i64 ino] 29)
  have hbx := Blk.new w 29 [.int .i64 kd, .string nm', .int .i64 ino]
  have HB : Hid (Below w.heap.size w (w.alloc (.cells #[.int .i64 kd, .string nm', .int .i64 ino] 29))) := hB
  have HBX : Hid (Blk (w.alloc (.cells #[.int .i64 kd, .string nm', .int .i64 ino] 29)) w.heap.size 29 [.int .i64 kd, .string nm', .int .i64 ino]) := hbx
  have hl := hR.few
  have hS := hR.few'
  subst hk
  have cP := set_any hi d v S nm' ino _ hS hR.sorted (h.on hB)
  rw [hR.setN, hR.setE] at cP
  have HRW : Hid (RowR 0 (w.alloc (.cells #[.int .i64 1, .string nm', .int .i64 ino] 29)) rv l) := rowS_on hr hB
  have HCR : Hid (∀ w2, RowR 0 w2 rv l → Calls Try.prog 22 #[rv, .string nm', .int .i64 ino] w2 (RefPost w2 (fun v' => .tuple #[v', .int .i64 (rSetN nm' ino l), .int .i64 (rSetE nm' ino l)]) (rSet nm' ino l))) := fun w2 hrw => rset_any rv l nm' ino w2 (by omega) hrw
  have HRel : Hid (Rel (setS nm' ino S) (rSet nm' ino l)) := hR.set
  generalize setS nm' ino S = S' at *
  generalize rSet nm' ino l = l' at *
  generalize rSetN nm' ino l = a at *
  generalize rSetE nm' ino l = b at *
  have ha : (a == a) = true := by simp
  have hb : (b == b) = true := by simp
  have HPost : Hid (∀ (x : Value) w3, (∃ v' S' l', x = Value.tuple #[v', .bool true] ∧ Dir hi w3 d S' ∧ RowR 0 w3 v' l' ∧ Rel S' l' ∧ Turn hi w w3) → DoesPost hi d w (.returned x) w3) := fun x w3 ⟨v', S', l', hx, h1⟩ => ⟨v', S', l', by rw [hx], h1⟩
  generalize DoesPost hi d w = Post at *
  obtain ⟨pr, capr, rfl⟩ := row_slice hr
  clear h hr hR hbx hB
  by_cases hc : 100 < nm.size
  · have HC : Hid (nm.extract 0 100 = nm') := by rwa [if_pos hc] at hnm'
    have hcz : (100 : Int) < (nm.size : Int) := by omega
    clear hnm' hc
    go_enter Try.func8, Try.ntmps8
    go_wp2_with fail
    rw [HC.out]
    refine cP.mono ?_
    rintro e w2 ⟨rfl, hdir, ht⟩
    have hbx := ht.blk HBX.out ⟨by decide, by decide⟩
    have hrw := ht.row HRW.out ⟨by decide, by decide⟩
    have x0 := hbx.cell 1 rfl
    have x1 := hbx.cell 2 rfl
    have HDT : Hid (Dir hi w2 d S' ∧ Turn hi w w2) := ⟨hdir, (Turn.on HB.out).trans ht⟩
    have cR := HCR.out w2 hrw
    clear hdir ht hbx hrw cP
    go_wp2_with fail
    refine cR.mono ?_
    rintro e w3 ⟨v3, rfl, hrow, hb3⟩
    have HZ : Hid (∃ v' S' l', Value.tuple #[v3, .bool true] = Value.tuple #[v', .bool true] ∧ Dir hi w3 d S' ∧ RowR 0 w3 v' l' ∧ Rel S' l' ∧ Turn hi w w3) := ⟨v3, S', l', rfl, HDT.out.1.on hb3, hrow, HRel.out, HDT.out.2.trans (Turn.on hb3)⟩
    clear cR hrow HDT
    go_wp2
    exact HPost.out _ _ HZ.out
  · obtain rfl : nm = nm' := by rwa [if_neg hc] at hnm'
    have hcz : ¬ (100 : Int) < (nm.size : Int) := by omega
    clear hnm' hc
    go_enter Try.func8, Try.ntmps8
    go_wp2_with fail
    refine cP.mono ?_
    rintro e w2 ⟨rfl, hdir, ht⟩
    have hbx := ht.blk HBX.out ⟨by decide, by decide⟩
    have hrw := ht.row HRW.out ⟨by decide, by decide⟩
    have x0 := hbx.cell 1 rfl
    have x1 := hbx.cell 2 rfl
    have HDT : Hid (Dir hi w2 d S' ∧ Turn hi w w2) := ⟨hdir, (Turn.on HB.out).trans ht⟩
    have cR := HCR.out w2 hrw
    clear hdir ht hbx hrw cP
    go_wp2_with fail
    refine cR.mono ?_
    rintro e w3 ⟨v3, rfl, hrow, hb3⟩
    have HZ : Hid (∃ v' S' l', Value.tuple #[v3, .bool true] = Value.tuple #[v', .bool true] ∧ Dir hi w3 d S' ∧ RowR 0 w3 v' l' ∧ Rel S' l' ∧ Turn hi w w3) := ⟨v3, S', l', rfl, HDT.out.1.on hb3, hrow, HRel.out, HDT.out.2.trans (Turn.on hb3)⟩
    clear cR hrow HDT
    go_wp2
    exact HPost.out _ _ HZ.out

set_option maxRecDepth 100000 in
set_option maxHeartbeats 2000000 in
theorem does_rem (hi d : Nat) (v : Value) (S l : List Ent) (rv : Value) (kd : Int) (nm : ByteArray) (ino : Int) (w : World) (_hhi : hi ≤ w.heap.size) (hR : Rel S l) (h : DirAt hi w d v S) (hr : RowR 0 w rv l) (hnm : nm.size ≤ 9223372036854775807) (hk : kd = 2) :
    Calls Try.prog 8 #[.pointer (some ⟨d, 0, none⟩), rv, .agg #[.int .i64 kd, .string nm, .int .i64 ino]] w (DoesPost hi d w) := by
  obtain ⟨nm', hnm'⟩ : ∃ nm', (if 100 < nm.size then nm.extract 0 100 else nm) = nm' := ⟨_, rfl⟩
  have hsz : nm'.size ≤ 100 := by
    rw [← hnm']
    split
    · rw [ByteArray.size_extract]; omega
    · omega
  have hB := on_alloc w (.cells #[.int .i64 kd, .string nm', .int .i64 ino] 29)
  have hbx := Blk.new w 29 [.int .i64 kd, .string nm', .int .i64 ino]
  have HB : Hid (Below w.heap.size w (w.alloc (.cells #[.int .i64 kd, .string nm', .int .i64 ino] 29))) := hB
  have HBX : Hid (Blk (w.alloc (.cells #[.int .i64 kd, .string nm', .int .i64 ino] 29)) w.heap.size 29 [.int .i64 kd, .string nm', .int .i64 ino]) := hbx
  have hl := hR.few
  have hS := hR.few'
  subst hk
  have cP := remove_any hi d v S nm' _ hS hR.sorted (h.on hB)
  rw [hR.find, ← hR.last, hR.remE] at cP
  have HRW : Hid (RowR 0 (w.alloc (.cells #[.int .i64 2, .string nm', .int .i64 ino] 29)) rv l) := rowS_on hr hB
  have HCR : Hid (∀ w2, RowR 0 w2 rv l → Calls Try.prog 23 #[rv, .string nm'] w2 (RefPost w2 (fun v' => .tuple #[v', .int .i64 (lastN nm' l), .int .i64 (rRemE nm' l)]) (rRem nm' l))) := fun w2 hrw => rrem_any rv l nm' w2 (by omega) hrw
  have HRel : Hid (Rel (remS nm' S) (rRem nm' l)) := hR.rem
  generalize remS nm' S = S' at *
  generalize rRem nm' l = l' at *
  generalize lastN nm' l = a at *
  generalize rRemE nm' l = b at *
  have ha : (a == a) = true := by simp
  have hb : (b == b) = true := by simp
  have HPost : Hid (∀ (x : Value) w3, (∃ v' S' l', x = Value.tuple #[v', .bool true] ∧ Dir hi w3 d S' ∧ RowR 0 w3 v' l' ∧ Rel S' l' ∧ Turn hi w w3) → DoesPost hi d w (.returned x) w3) := fun x w3 ⟨v', S', l', hx, h1⟩ => ⟨v', S', l', by rw [hx], h1⟩
  generalize DoesPost hi d w = Post at *
  obtain ⟨pr, capr, rfl⟩ := row_slice hr
  clear h hr hR hbx hB
  by_cases hc : 100 < nm.size
  · have HC : Hid (nm.extract 0 100 = nm') := by rwa [if_pos hc] at hnm'
    have hcz : (100 : Int) < (nm.size : Int) := by omega
    clear hnm' hc
    go_enter Try.func8, Try.ntmps8
    go_wp2_with fail
    rw [HC.out]
    refine cP.mono ?_
    rintro e w2 ⟨rfl, hdir, ht⟩
    have hbx := ht.blk HBX.out ⟨by decide, by decide⟩
    have hrw := ht.row HRW.out ⟨by decide, by decide⟩
    have x0 := hbx.cell 1 rfl
    have HDT : Hid (Dir hi w2 d S' ∧ Turn hi w w2) := ⟨hdir, (Turn.on HB.out).trans ht⟩
    have cR := HCR.out w2 hrw
    clear hdir ht hbx hrw cP
    go_wp2_with fail
    refine cR.mono ?_
    rintro e w3 ⟨v3, rfl, hrow, hb3⟩
    have HZ : Hid (∃ v' S' l', Value.tuple #[v3, .bool true] = Value.tuple #[v', .bool true] ∧ Dir hi w3 d S' ∧ RowR 0 w3 v' l' ∧ Rel S' l' ∧ Turn hi w w3) := ⟨v3, S', l', rfl, HDT.out.1.on hb3, hrow, HRel.out, HDT.out.2.trans (Turn.on hb3)⟩
    clear cR hrow HDT
    go_wp2
    exact HPost.out _ _ HZ.out
  · obtain rfl : nm = nm' := by rwa [if_neg hc] at hnm'
    have hcz : ¬ (100 : Int) < (nm.size : Int) := by omega
    clear hnm' hc
    go_enter Try.func8, Try.ntmps8
    go_wp2_with fail
    refine cP.mono ?_
    rintro e w2 ⟨rfl, hdir, ht⟩
    have hbx := ht.blk HBX.out ⟨by decide, by decide⟩
    have hrw := ht.row HRW.out ⟨by decide, by decide⟩
    have x0 := hbx.cell 1 rfl
    have HDT : Hid (Dir hi w2 d S' ∧ Turn hi w w2) := ⟨hdir, (Turn.on HB.out).trans ht⟩
    have cR := HCR.out w2 hrw
    clear hdir ht hbx hrw cP
    go_wp2_with fail
    refine cR.mono ?_
    rintro e w3 ⟨v3, rfl, hrow, hb3⟩
    have HZ : Hid (∃ v' S' l', Value.tuple #[v3, .bool true] = Value.tuple #[v', .bool true] ∧ Dir hi w3 d S' ∧ RowR 0 w3 v' l' ∧ Rel S' l' ∧ Turn hi w w3) := ⟨v3, S', l', rfl, HDT.out.1.on hb3, hrow, HRel.out, HDT.out.2.trans (Turn.on hb3)⟩
    clear cR hrow HDT
    go_wp2
    exact HPost.out _ _ HZ.out

set_option maxRecDepth 100000 in
set_option maxHeartbeats 2000000 in
theorem does_add (hi d : Nat) (v : Value) (S l : List Ent) (rv : Value) (kd : Int) (nm : ByteArray) (ino : Int) (w : World) (hhi : hi ≤ w.heap.size) (hR : Rel S l) (h : DirAt hi w d v S) (hr : RowR 0 w rv l) (hnm : nm.size ≤ 9223372036854775807) (hk1 : (kd == 1) = false) (hk2 : (kd == 2) = false) :
    Calls Try.prog 8 #[.pointer (some ⟨d, 0, none⟩), rv, .agg #[.int .i64 kd, .string nm, .int .i64 ino]] w (DoesPost hi d w) := by
  obtain ⟨nm', hnm'⟩ : ∃ nm', (if 100 < nm.size then nm.extract 0 100 else nm) = nm' := ⟨_, rfl⟩
  have hsz : nm'.size ≤ 100 := by
    rw [← hnm']
    split
    · rw [ByteArray.size_extract]; omega
    · omega
  have hB := on_alloc w (.cells #[.int .i64 kd, .string nm', .int .i64 ino] 29)
  have hbx := Blk.new w 29 [.int .i64 kd, .string nm', .int .i64 ino]
  have HB : Hid (Below w.heap.size w (w.alloc (.cells #[.int .i64 kd, .string nm', .int .i64 ino] 29))) := hB
  have HBX : Hid (Blk (w.alloc (.cells #[.int .i64 kd, .string nm', .int .i64 ino] 29)) w.heap.size 29 [.int .i64 kd, .string nm', .int .i64 ino]) := hbx
  have hl := hR.few
  have hS := hR.few'
  have cR := radd_any rv l nm' ino _ (by omega) (by omega) (rowS_on hr hB)
  have HCP : Hid (∀ w2, Below w.heap.size w w2 → Calls Try.prog 19 #[.pointer (some ⟨d, 0, none⟩), .string nm', .int .i64 ino] w2 (DirPost hi d w2 (.int .i64 (rAddE nm' ino l)) (addS nm' ino S))) := fun w2 hb => by
    have := add_any hi d v S nm' ino w2 (by omega) hS hR.sorted (Nat.le_trans hhi hb.size) (h.on hb)
    rwa [hR.addE] at this
  have HRel : Hid (Rel (addS nm' ino S) (rAdd nm' ino l)) := hR.add
  generalize addS nm' ino S = S' at *
  generalize rAdd nm' ino l = l' at *
  generalize rAddE nm' ino l = a at *
  have ha : (a == a) = true := by simp
  have HPost : Hid (∀ (x : Value) w3, (∃ v' S' l', x = Value.tuple #[v', .bool true] ∧ Dir hi w3 d S' ∧ RowR 0 w3 v' l' ∧ Rel S' l' ∧ Turn hi w w3) → DoesPost hi d w (.returned x) w3) := fun x w3 ⟨v', S', l', hx, h1⟩ => ⟨v', S', l', by rw [hx], h1⟩
  generalize DoesPost hi d w = Post at *
  obtain ⟨pr, capr, rfl⟩ := row_slice hr
  clear h hr hR hbx hB hhi
  by_cases hc : 100 < nm.size
  · have HC : Hid (nm.extract 0 100 = nm') := by rwa [if_pos hc] at hnm'
    have hcz : (100 : Int) < (nm.size : Int) := by omega
    clear hnm' hc
    go_enter Try.func8, Try.ntmps8
    go_wp2_with fail
    rw [HC.out]
    refine cR.mono ?_
    rintro e w2 ⟨v3, rfl, hrow, hb3⟩
    have hbx := HBX.out.on hb3
    have x0 := hbx.cell 1 rfl
    have x1 := hbx.cell 2 rfl
    have HW : Hid (RowR 0 w2 v3 l' ∧ Below w.heap.size w w2) := ⟨hrow, on_trans HB.out hb3⟩
    have cP := HCP.out w2 HW.out.2
    clear hbx hrow cR
    go_wp2_with fail
    refine cP.mono ?_
    rintro e w3 ⟨rfl, hdir, ht⟩
    have HZ : Hid (∃ v' S' l', Value.tuple #[v3, .bool true] = Value.tuple #[v', .bool true] ∧ Dir hi w3 d S' ∧ RowR 0 w3 v' l' ∧ Rel S' l' ∧ Turn hi w w3) := ⟨v3, S', l', rfl, hdir, ht.row HW.out.1 ⟨by decide, by decide⟩, HRel.out, (Turn.on HW.out.2).trans ht⟩
    clear cP hdir
    go_wp2
    exact HPost.out _ _ HZ.out
  · obtain rfl : nm = nm' := by rwa [if_neg hc] at hnm'
    have hcz : ¬ (100 : Int) < (nm.size : Int) := by omega
    clear hnm' hc
    go_enter Try.func8, Try.ntmps8
    go_wp2_with fail
    refine cR.mono ?_
    rintro e w2 ⟨v3, rfl, hrow, hb3⟩
    have hbx := HBX.out.on hb3
    have x0 := hbx.cell 1 rfl
    have x1 := hbx.cell 2 rfl
    have HW : Hid (RowR 0 w2 v3 l' ∧ Below w.heap.size w w2) := ⟨hrow, on_trans HB.out hb3⟩
    have cP := HCP.out w2 HW.out.2
    clear hbx hrow cR
    go_wp2_with fail
    refine cP.mono ?_
    rintro e w3 ⟨rfl, hdir, ht⟩
    have HZ : Hid (∃ v' S' l', Value.tuple #[v3, .bool true] = Value.tuple #[v', .bool true] ∧ Dir hi w3 d S' ∧ RowR 0 w3 v' l' ∧ Rel S' l' ∧ Turn hi w w3) := ⟨v3, S', l', rfl, hdir, ht.row HW.out.1 ⟨by decide, by decide⟩, HRel.out, (Turn.on HW.out.2).trans ht⟩
    clear cP hdir
    go_wp2
    exact HPost.out _ _ HZ.out

end Go.Proofs.Ytlpgflkfckhgeaa
