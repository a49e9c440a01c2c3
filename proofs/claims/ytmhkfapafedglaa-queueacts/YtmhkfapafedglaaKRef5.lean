/- The reference's Take, where something is taken. -/
import Derived.Test.YtmhkfapafedglaaKRef4
namespace Go.Proofs.Ytmhkfapafedglaa.K
open Go Go.RowKit

/-- What stands in 'out' behind so many parts. -/
def outF (k : Int) (B0 : List UInt8) (R : List Pt) (i : Nat) : List Pt := if i = 0 then [] else (if k < (B0.length : Int) then [(B0.drop k.toNat, [])] else []) ++ R.take (i - 1)
theorem outF_end (k m : Int) (x : Pt) (R : List Pt) (hk : ¬ k < 1) : outF k x.1 R (R.length + 1) = (takeF (x :: R) k m).1 := by
  unfold outF takeF
  rw [if_neg (by omega)]
  simp only [Nat.add_sub_cancel, List.take_length, if_neg hk]
  split <;> rfl
theorem outF_succ (k : Int) (B0 : List UInt8) (XR : List PX) (x0 : PX) (i : Nat) (y : PX) (hi : i ≠ 0) (hy : (x0 :: XR)[i]? = some y) : outF k B0 (XR.map PX.pt) (i + 1) = outF k B0 (XR.map PX.pt) i ++ [y.pt] := by
  obtain ⟨j, rfl⟩ : ∃ j, i = j + 1 := ⟨i - 1, by omega⟩
  have hy' : XR[j]? = some y := by simpa using hy
  unfold outF
  rw [if_neg (show ¬ j + 1 + 1 = 0 by omega), if_neg (show ¬ j + 1 = 0 by omega), List.append_assoc]
  simp only [Nat.add_sub_cancel]
  congr 1
  rw [List.take_add_one, List.getElem?_map, hy']
  rfl
theorem outF_one (k : Int) (B0 : List UInt8) (R : List Pt) : outF k B0 R 1 = if k < (B0.length : Int) then [(B0.drop k.toNat, [])] else [] := by
  unfold outF
  rw [if_neg (by omega)]
  simp
theorem UJ.par {O OO : Nat → Prop} {w W : World} {v0 v1 bv ov : Value} {A B : List PV} {T : List UInt8} {ZL : List Pt} (h : UJ O w v0 v1 A B T ZL bv ov W) (hO : ∀ j, O j ∨ w.heap.size ≤ j → OO j) : ParO OO W ov ZL := by
  obtain ⟨Z, g1, g2, g3, g4⟩ := h.row
  obtain ⟨p, c, e, hat, hc⟩ := AtO.of g2
  exact ⟨Z, g1, ⟨p, c, e, hc, hat.mono fun j _ h7 => hO j (.inr h7)⟩, fun y hy => (g3 y hy).mono fun j _ h7 => hO j (.inl h7.1), fun y hy => (g4 y hy).mono fun j _ h7 => hO j (.inl h7.1)⟩
theorem UJ.lt {O : Nat → Prop} {w W : World} {v0 v1 bv ov : Value} {A B : List PV} {T : List UInt8} {ZL : List Pt} (h : UJ O w v0 v1 A B T ZL bv ov W) : ∀ g, ov.ownBlock = some g → g < W.heap.size := fun g e => by
  obtain ⟨Z, g1, g2, _⟩ := h.row
  exact (row_lt g2 e).2.1
theorem UJ.forms {O : Nat → Prop} {w W : World} {v0 v1 bv ov : Value} {A B : List PV} {T : List UInt8} {ZL : List Pt} (h : UJ O w v0 v1 A B T ZL bv ov W) : (∃ q c, bv = .slice q T.length c) ∧ ∃ q c, ov = .slice q ZL.length c := by
  obtain ⟨q, c, e, _⟩ := ownV_at h.byt
  obtain ⟨Z, g1, g2, _⟩ := h.row
  obtain ⟨q2, c2, e2, _⟩ := rowS_at g2
  exact ⟨⟨q, c, by rw [e, List.length_map]⟩, q2, c2, by rw [e2, ← g1, List.length_map]⟩
set_option maxRecDepth 100000 in
set_option maxHeartbeats 8000000 in
theorem rtake_yes {O : Nat → Prop} {w : World} {lv : Value} {x : Pt} {R : List Pt} (h : ParO O w lv (x :: R)) (k m : Int) (n : Nat) (hok : Ok n (x :: R)) (hk1 : ¬ k < 1) : Calls Try.prog 22 #[lv, .int .i64 k, .int .i64 m] w (RTakePost O w (x :: R) k m) := by
  obtain ⟨lp, lc, elv⟩ := par_slice h
  have hmost := hok.most
  have hall := hok.all
  have hRl : R.length + 1 ≤ 16 := by have := hok.few; simpa using this
  obtain ⟨X, eX, hX⟩ := h
  obtain ⟨x0, XR, rfl⟩ : ∃ x0 XR, X = x0 :: XR := by
    cases X with
    | nil => simp at eX
    | cons a b => exact ⟨a, b, rfl⟩
  have ex : x0.pt = x ∧ XR.map PX.pt = R := by simpa using eX
  obtain ⟨rfl, rfl⟩ := ex
  have hX1 : ParM (fun j => O j ∧ j < w.heap.size) w lv (x0 :: XR) := hX.mono fun j h1 h2 => ⟨h2, h1⟩
  obtain ⟨p0, c0, ep, hvw⟩ := par_view hX1
  obtain ⟨lb, lo, rfl, hlb, hl0, hl1⟩ := hvw 0 x0 rfl
  rw [Nat.zero_mul, Nat.add_zero] at hl0 hl1
  rw [elv] at ep
  have hXR : XR.length + 1 ≤ 16 := by simpa using hRl
  obtain ⟨rfl, rfl⟩ : lp = some ⟨lb, lo, none⟩ ∧ lc = c0 := by simpa using ep
  subst elv
  -- the first part
  have hB0 : x0.B ≠ [] := hok.some x0.pt (by simp)
  have hB0l : x0.B.length ≤ 4096 := by
    have h7 : x0.B.length ≤ total (x0.pt :: XR.map PX.pt) := by simp [total, PX.pt]
    omega
  obtain ⟨bp, bc, ebv, hbc, hba⟩ := hX1.byt x0 (by simp)
  have hpm := hX1.pas x0 (by simp)
  obtain ⟨M0, hM0⟩ : ∃ M0, x0.M = M0 := ⟨_, rfl⟩
  rw [hM0] at hpm
  have hM4 : M0.length ≤ 4 := by have := (hok.pass x0.pt (by simp)).1; rw [← hM0]; simpa [PX.pt] using this
  obtain ⟨lq, qc, elq, _, hqa⟩ := hpm.row
  rw [elq] at hl1
  have hpo := pas_view (⟨M0, rfl, hpm⟩ : PasO _ w x0.lv (M0.map Prod.fst))
  have HM : Hid (∀ (i : Nat) (y : PV), M0[i]? = some y → IntsO (fun j => j < w.heap.size) w y.2 y.1.ints) := fun i y hy => (hpm.ints y (List.mem_of_getElem? hy)).mono fun j h1 _ => h1
  have HQ : Hid (∀ (i : Nat) (y : PV), M0[i]? = some y → ∃ qb qo yq yd, lq = some ⟨qb, qo, none⟩ ∧ y.2 = .slice yq y.1.ints.length yd ∧ ∀ W, Below w.heap.size w W → W.cell? ⟨lb, lo + 1, none⟩ = some (.slice (some ⟨qb, qo, none⟩) M0.length qc) ∧ W.cell? ⟨qb, qo + i * 5, none⟩ = some (.int .i64 y.1.file) ∧ W.cell? ⟨qb, qo + i * 5 + 1, none⟩ = some (.int .u32 y.1.rights) ∧ W.cell? ⟨qb, qo + i * 5 + 2, none⟩ = some (.bool y.1.all) ∧ W.cell? ⟨qb, qo + i * 5 + 3, none⟩ = some (.slice yq y.1.ints.length yd) ∧ W.cell? ⟨qb, qo + i * 5 + 4, none⟩ = some (.int .i64 y.1.fc)) := fun i y hy => by
    obtain ⟨yq, yd, ey, _⟩ := hpm.ints y (List.mem_of_getElem? hy)
    have hi := (List.getElem?_eq_some_iff.1 hy).1
    obtain ⟨qb, qo, e1, _, hqb, hqc⟩ := hqa.at.place (k := i * 5) (by rw [flatP_len]; omega)
    have key : ∀ j u, j < 5 → (psC y)[j]? = some u → w.cell? ⟨qb, qo + i * 5 + j, none⟩ = some u := fun j u hj hu => by
      rw [Nat.add_assoc]
      exact hqc _ _ (by rw [flatP_get hy hj]; exact hu)
    refine ⟨qb, qo, yq, yd, e1, ey, fun W hb => ⟨?_, ?_, ?_, ?_, ?_, ?_⟩⟩
    · rw [← e1]; exact (hb.cell (p := ⟨lb, lo + 1, none⟩) hlb).trans hl1
    · exact (hb.cell (p := ⟨qb, qo + i * 5, none⟩) hqb).trans (key 0 _ (by omega) rfl)
    · exact (hb.cell (p := ⟨qb, qo + i * 5 + 1, none⟩) hqb).trans (key 1 _ (by omega) rfl)
    · exact (hb.cell (p := ⟨qb, qo + i * 5 + 2, none⟩) hqb).trans (key 2 _ (by omega) rfl)
    · exact (hb.cell (p := ⟨qb, qo + i * 5 + 3, none⟩) hqb).trans (key 3 _ (by omega) (by simp [psC, ey]))
    · exact (hb.cell (p := ⟨qb, qo + i * 5 + 4, none⟩) hqb).trans (key 4 _ (by omega) rfl)
  have HL1 : Hid (∀ W, Below w.heap.size w W → W.cell? ⟨lb, lo + 1, none⟩ = some (.slice lq M0.length qc)) := fun W hb => (hb.cell (p := ⟨lb, lo + 1, none⟩) hlb).trans hl1
  -- the parts
  have HV : Hid (∀ (i : Nat) (y : PX), (x0 :: XR)[i]? = some y → (∀ W, Below w.heap.size w W → W.cell? ⟨lb, lo + i * 2, none⟩ = some y.bv ∧ W.cell? ⟨lb, lo + i * 2 + 1, none⟩ = some y.lv) ∧ BytO (fun j => O j ∧ j < w.heap.size) w y.bv y.B ∧ PasM (fun j => O j ∧ j < w.heap.size) w y.lv y.M) := fun i y hy => by
    obtain ⟨b', o', e', hb', a0, a1⟩ := hvw i y hy
    cases e'
    exact ⟨fun W hb => ⟨(hb.cell (p := ⟨lb, lo + i * 2, none⟩) hlb).trans a0, (hb.cell (p := ⟨lb, lo + i * 2 + 1, none⟩) hlb).trans a1⟩, hX1.byt y (List.mem_of_getElem? hy), hX1.pas y (List.mem_of_getElem? hy)⟩
  obtain ⟨OO, hOO⟩ : ∃ OO, Up O w.heap.size = OO := ⟨_, rfl⟩
  obtain ⟨LL, hLL⟩ : ∃ LL, takeF (x0.pt :: XR.map PX.pt) k m = LL := ⟨_, rfl⟩
  have HLL : Hid (LL.1 = outF k x0.B (XR.map PX.pt) (XR.length + 1) ∧ LL.2.1 = x0.B.take k.toNat ∧ LL.2.2.1 = (M0.map Prod.fst).take m.toNat ∧ LL.2.2.2 = (M0.map Prod.fst).drop m.toNat) := by
    rw [← hLL, ← hM0]
    refine ⟨?_, ?_, ?_, ?_⟩
    · have := outF_end k m x0.pt (XR.map PX.pt) hk1
      rw [List.length_map] at this
      exact this.symm
    · simp [takeF, hk1, PX.pt]
    · simp [takeF, hk1, PX.pt]
    · simp [takeF, hk1, PX.pt]
  have HP : Hid (∀ W ov bv v0 v1 rb, TFin OO w rb ov bv v0 v1 LL W → RTakePost O w (x0.pt :: XR.map PX.pt) k m (.returned (.tuple #[ov, bv, .agg #[v0, v1]])) W) := fun W ov bv v0 v1 rb h7 => by
    rw [← hLL, ← hOO] at h7
    exact h7.post
  have HOO : Hid (∀ j, O j ∨ w.heap.size ≤ j → OO j) := fun j h7 => by rw [← hOO]; exact h7
  have HTl : Hid (∀ (i : Nat) (y : PX), (x0 :: XR)[i]? = some y → i ≠ 0 → 0 < y.M.length ∧ 0 < y.B.length) := fun i y hy hi => by
    cases i with
    | zero => exact absurd rfl hi
    | succ i =>
      have hy' : y ∈ XR := List.mem_of_getElem? (by simpa using hy)
      refine ⟨List.length_pos_iff.2 fun e => hok.tail y.pt (by simpa using List.mem_map_of_mem hy') (by simp [PX.pt, e]), List.length_pos_iff.2 fun e => hok.some y.pt (by simp; exact .inr ⟨y, hy', rfl⟩) (by simp [PX.pt, e])⟩
  have HBy : Hid (∃ sb so, bp = some ⟨sb, so, none⟩ ∧ ∀ W, Below w.heap.size w W → ∀ j, j < x0.B.length → W.cell? ⟨sb, so + j, none⟩ = some (.int .u8 ((x0.B.getD j 0).toNat : Int))) := by
    have hpos : 0 < x0.B.length := List.length_pos_iff.2 hB0
    obtain ⟨sb, so, e, _, hsb, hc⟩ := hba.at.place (k := 0) (by simpa using hpos)
    exact ⟨sb, so, e, fun W hb j hj => (hb.cell (p := ⟨sb, so + j, none⟩) hsb).trans (hc j _ (bytesV_get hj))⟩
  have HBa : Hid (BytO (fun j => O j ∧ j < w.heap.size) w (.slice bp x0.B.length bc) x0.B) := ⟨bp, bc, rfl, hbc, hba⟩
  -- the boxes
  have n1 := Blk.new w 52 [.slice none 0 0, .slice none 0 0]
  have a1 := on_alloc w (.cells #[.slice none 0 0, .slice none 0 0] 52)
  have a2 := on_alloc (w.alloc (.cells #[.slice none 0 0, .slice none 0 0] 52)) (.cells #[] 5)
  have b2 := ownV_empty (w.alloc (.cells #[.slice none 0 0, .slice none 0 0] 52)) w.heap.size 5 (by simp)
  have n3 := Blk.new ((w.alloc (.cells #[.slice none 0 0, .slice none 0 0] 52)).alloc (.cells #[] 5)) 52 [.slice none 0 0, .slice none 0 0]
  have a3 := on_alloc ((w.alloc (.cells #[.slice none 0 0, .slice none 0 0] 52)).alloc (.cells #[] 5)) (.cells #[.slice none 0 0, .slice none 0 0] 52)
  rw [World.size_alloc, World.size_alloc] at n3
  rw [World.size_alloc] at b2
  have hb := on_trans (on_trans a1 a2) a3
  have n1' := (n1.on a2).on a3
  have b2' := ownV_on b2 a3
  obtain ⟨w1, hw1⟩ : ∃ w1, ((w.alloc (.cells #[.slice none 0 0, .slice none 0 0] 52)).alloc (.cells #[] 5)).alloc (.cells #[.slice none 0 0, .slice none 0 0] 52) = w1 := ⟨_, rfl⟩
  rw [hw1] at n3 hb n1' b2'
  have HJ0 : Hid (TJ w (M0.map Prod.fst) m 0 w1) := ⟨.slice none 0 0, .slice none 0 0, [], [], ⟨n1', n3, World.ownsRow_nil _ _ _ _, World.ownsRow_nil _ _ _ _, (fun g e => by cases e), (fun y hy => by simp at hy), hb, Nat.le_refl _, by omega, by omega⟩, by simp, by simp, b2'⟩
  have HW1 : Hid _ := hw1
  generalize RTakePost O w (x0.pt :: XR.map PX.pt) k m = Post at *
  have hpl : (x0.pt :: XR.map PX.pt).length = XR.length + 1 := by simp
  rw [hpl]
  clear hok hall eX hX hX1 hvw hl0 hl1 hB0 hba hpm hqa hpo hOO hLL n1 n1' n3 a1 a2 a3 b2 b2' hb hw1 hpl hRl ep elq hM0
  have hpl0 : (0 : Int) < (XR.length : Int) + 1 := by omega
  go_enter Try.func22, Try.ntmps22
  go_wp2
  rw [HW1.out]
  clear HW1
  go_loopw [11] (fun iv wr => ∃ i : Nat, i ≤ M0.length ∧ iv = .int .i64 (i : Int) ∧ Hid (TJ w (M0.map Prod.fst) m i wr)) (fun iv _ => M0.length - (intOf iv).toNat)
  case atStart => exact ⟨0, Nat.zero_le _, rfl, HJ0⟩
  case round =>
    clear HJ0
    obtain ⟨i, hi, rfl, HJ⟩ := hrel
    have hJb : Below w.heap.size w wr := by obtain ⟨_, _, _, _, h7, _⟩ := HJ.out; exact h7.below
    have yl1 := HL1.out wr hJb
    by_cases hil : i < M0.length
    · have hiz : (i : Int) < (M0.length : Int) := by omega
      obtain ⟨y, hy⟩ : ∃ y, M0[i]? = some y := ⟨_, List.getElem?_eq_getElem hil⟩
      obtain ⟨qb, qo, yq, yd, rfl, ey, hcc⟩ := HQ.out i y hy
      have hyi := HM.out i y hy
      obtain ⟨va, vb, A, B, hTM, eA, eB, hBE⟩ := HJ.out
      obtain ⟨w1x, rfl⟩ : ∃ w1x, w1x = wr := ⟨_, rfl⟩
      have HC : Hid _ := hcc
      have HS0 : Hid (RS3 w w1x true w1x.drew) := ⟨fun _ => on_drew (Below.refl _ _), on_drew hJb⟩
      have HKn : Hid (∀ W : World, Blk (W.alloc (.cells #[.int .i64 y.1.file, .int .u32 y.1.rights, .bool y.1.all, .slice yq y.1.ints.length yd, .int .i64 y.1.fc] 64)) W.heap.size 64 (psC y)) := fun W => by
        have := Blk.new W 64 (psC y)
        simpa [psC, ey] using this
      have HZ0 : Hid (∀ W, Below w1x.heap.size w1x W → W.cell? ⟨w.heap.size + 1 + 1, 0, none⟩ = some va) := fun W h7 => (hTM.arr.on h7).cell 0 rfl
      have HZ1 : Hid (∀ W, Below w1x.heap.size w1x W → W.cell? ⟨w.heap.size + 1 + 1, 1, none⟩ = some vb) := fun W h7 => (hTM.arr.on h7).cell 1 rfl
      have hAl : A.length ≤ 100 ∧ B.length ≤ 100 := by
        have h7 := congrArg List.length eA
        have h8 := congrArg List.length eB
        simp at h7 h8
        omega
      have htk : (M0.map Prod.fst).take (i + 1) = (M0.map Prod.fst).take i ++ [y.1] := by rw [List.take_add_one, List.getElem?_map, hy]; rfl
      have hti : ((M0.map Prod.fst).take i).length = i := by simp; omega
      by_cases hm : (i : Int) < m
      · have HApp0 : Hid (∀ W, Below w1x.heap.size w1x W → ∀ v, (kn y).ok v W → ∃ v' W', (∀ ty, (Builtin.append_ #[26, 26] ty #[va, v]).run Try.prog W = .ok v' W') ∧ (km0 w y va vb A B).ok v' W' ∧ Below w.heap.size W W') := fun W h7 v ⟨nb, e8, h8⟩ => by
          subst e8
          obtain ⟨v', W', r1, r2, r3, r4⟩ := (hTM.on h7).app0 h8 ((hyi.keep ⟨hJb.os, hJb.tape, hJb.output, hJb.size, fun j _ h => hJb.block j h⟩).keep (keep_on h7)) (by omega)
          exact ⟨v', W', r1, ⟨r2, (hBE.on h7).keep r4 (by decide)⟩, r3⟩
        have HFin0 : Hid (∀ W v, (km0 w y va vb A B).ok v W → TJ w (M0.map Prod.fst) m (i + 1) (W.setCell ⟨w.heap.size + 1 + 1, 0, none⟩ v) ∧ Below w.heap.size w (W.setCell ⟨w.heap.size + 1 + 1, 0, none⟩ v) ∧ Keep (fun k => ¬ w.heap.size ≤ k) W (W.setCell ⟨w.heap.size + 1 + 1, 0, none⟩ v) ∧ (W.cell? ⟨w.heap.size + 1 + 1, 0, none⟩ = some va ∧ W.frozen? ⟨w.heap.size + 1 + 1, 0, none⟩ = false) ∧ ∃ q n c, v = .slice q n c) := fun W v ⟨h7, h8⟩ => by
          have h9 := h7.st 0 v v vb rfl
          have hbut := but_set W (w.heap.size + 1 + 1) 0 v
          refine ⟨⟨v, vb, A ++ [y], B, h9, ?_, ?_, ?_⟩, h9.below, keep_but hbut fun h => h (by omega), ⟨h7.arr.cell 0 rfl, h7.arr.free 0⟩, ?_⟩
          · have hmi : i + 1 ≤ m.toNat := by omega
            have e1 : ((M0.map Prod.fst).take i).take m.toNat = (M0.map Prod.fst).take i := List.take_of_length_le (by rw [hti]; omega)
            have e2 : ((M0.map Prod.fst).take i ++ [y.1]).take m.toNat = (M0.map Prod.fst).take i ++ [y.1] := List.take_of_length_le (by rw [List.length_append, hti]; exact hmi)
            rw [List.map_append, eA, htk, e1, e2]
            rfl
          · rw [eB, htk, List.drop_of_length_le (by rw [hti]; omega), List.drop_of_length_le (by simp; omega)]
          · exact rowS_keep h8 (O := fun j => j ≠ w.heap.size + 1 + 1) (keep_but hbut fun h => h rfl) fun g e e2 => by
              obtain ⟨_, _, cur, h10⟩ := row_lt h8 e
              exact typ_ne ⟨_, _, h10⟩ (e2 ▸ typ_blk h7.arr) (by decide) rfl
          · obtain ⟨q, c, e, _, _⟩ := rowS_at h7.r0
            exact ⟨q, _, c, e⟩
        clear hTM hBE hcc hyi eA eB HJ hJb htk hti
        go_wp2
        refine wp_region_three (S := RS3 w w1x) (u := 10) (Keep := KeepF (fun k => w.heap.size ≤ k) [10, 12])
          (g := fun jj vv WW => (([.is (.pointer (some ⟨w.heap.size + 1 + 1, 0, none⟩)), .is (va), .is (.slice (some ⟨lb, lo, none⟩) (XR.length + 1) lc), .is (.pointer (some ⟨lb, lo, none⟩)), .is (.pointer (some ⟨lb, lo + 1, none⟩)), .is (.slice (some ⟨qb, qo, none⟩) M0.length qc), .is (.int .i64 (i : Int)), .is (.pointer (some ⟨qb, qo + i * 5, none⟩)), .is (.agg #[.int .i64 y.1.file, .int .u32 y.1.rights, .bool y.1.all, .slice yq y.1.ints.length yd, .int .i64 y.1.fc]), kn y, km0 w y va vb A B, .is (.pointer (some ⟨w.heap.size + 1 + 1, 0, none⟩)), kj w (M0.map Prod.fst) m (i + 1)] : List (Kd 0)).getD jj Kd.any).ok vv WW)
          (tab := [[(10, none)], [(41, some 0)], [(0, none)], [(43, some 2)], [(44, some 3)], [(45, some 4)], [(11, none)], [(46, some 5), (47, some 6)], [(48, some 7)], [(49, some 8)], [(42, some 1), (50, some 9)], [(10, none)], [(52, some 11), (51, some 10)]]) (tl := [(9, 10), (10, 12)]) (n := 126)
          (by kernel_rfl) rfl (by kernel_rfl) (keep_f ?kR1) (HS0.out) ?stR1 ?enR1
        case kR1 =>
          intro u hu j hj
          simp only [List.mem_cons, List.not_mem_nil, or_false] at hu
          rcases hu with rfl | rfl
          · match j, hj with
            | 0, _ | 1, _ | 2, _ | 3, _ | 4, _ | 5, _ | 6, _ | 7, _ | 8, _ | 11, _ => exact .inr (.inr (stays_is _))
            | 9, _ => exact .inr (.inl ⟨10, rfl, .inl rfl⟩)
            | 12, _ => exact .inl (by kernel_rfl)
            | 10, hj => exact absurd rfl hj
            | j + 13, _ => exact .inr (.inr stays_any)
          · match j, hj with
            | 0, _ | 1, _ | 2, _ | 3, _ | 4, _ | 5, _ | 6, _ | 7, _ | 8, _ | 11, _ => exact .inr (.inr (stays_is _))
            | 9, _ => exact .inr (.inl ⟨10, rfl, .inr (by kernel_rfl)⟩)
            | 10, _ => exact .inr (.inl ⟨12, rfl, .inl rfl⟩)
            | 12, hj => exact absurd rfl hj
            | j + 13, _ => exact .inr (.inr stays_any)
        case stR1 =>
          refine ⟨fun ρ W f hf hf2 hr hS hs => ?_, fun ρ W f hf hf2 hr hS hs => ?_, fun ρ W f hf hf2 hr hS hs => ?_, fun ρ W f hf hf2 hr hS hs => ?_, fun ρ W f hf hf2 hr hS hs => ?_, fun ρ W f hf hf2 hr hS hs => ?_, fun ρ W f hf hf2 hr hS hs => ?_, fun ρ W f hf hf2 hr hS hs => ?_, fun ρ W f hf hf2 hr hS hs => ?_, fun ρ W f hf hf2 hr hS hs => ?_, fun ρ W f hf hf2 hr hS hs => ?_, fun ρ W f hf hf2 hr hS hs => ?_, fun ρ W f hf hf2 hr hS hs => ?_, trivial⟩
          · have h10 : ρ (.tmp 10) = .pointer (some ⟨w.heap.size + 1 + 1, 0, none⟩) := hs.1
            refine step_plain rfl (leaves_value (v := .pointer (some ⟨w.heap.size + 1 + 1, 0, none⟩)) (w' := W) ?_ ⟨rfl, by simpa using hS, .inr (Below.refl _ _)⟩)
            obtain ⟨y1, e0, e1, e2, e3, e4⟩ := HC.out W hS.2
            have hcn := hr.const; simp [go_sem, hcn, h10]
          · have h41 : ρ (.tmp 41) = .pointer (some ⟨w.heap.size + 1 + 1, 0, none⟩) := hs.1
            obtain rfl : f = true := hf (by kernel_rfl)
            have z0 := HZ0.out W (hS.1 rfl)
            refine step_plain rfl (leaves_value (v := va) (w' := W) ?_ ⟨rfl, by simpa using hS, .inr (Below.refl _ _)⟩)
            obtain ⟨y1, e0, e1, e2, e3, e4⟩ := HC.out W hS.2
            simp [go_sem, h41, z0]
          · have h0 : ρ (.tmp 0) = .slice (some ⟨lb, lo, none⟩) (XR.length + 1) lc := hs.1
            exact step_plain rfl (leaves_move (.tmp 0) rfl ⟨h0, by simpa using hS, .inr (Below.refl _ _)⟩)
          · have h43 : ρ (.tmp 43) = .slice (some ⟨lb, lo, none⟩) (XR.length + 1) lc := hs.1
            refine step_plain rfl (leaves_value (v := .pointer (some ⟨lb, lo, none⟩)) (w' := W) ?_ ⟨rfl, by simpa using hS, .inr (Below.refl _ _)⟩)
            obtain ⟨y1, e0, e1, e2, e3, e4⟩ := HC.out W hS.2
            have hcn := hr.const; simp [go_sem, hcn, h43, hpl0]
          · have h44 : ρ (.tmp 44) = .pointer (some ⟨lb, lo, none⟩) := hs.1
            refine step_plain rfl (leaves_value (v := .pointer (some ⟨lb, lo + 1, none⟩)) (w' := W) ?_ ⟨rfl, by simpa using hS, .inr (Below.refl _ _)⟩)
            obtain ⟨y1, e0, e1, e2, e3, e4⟩ := HC.out W hS.2
            simp [go_sem, h44]
          · have h45 : ρ (.tmp 45) = .pointer (some ⟨lb, lo + 1, none⟩) := hs.1
            refine step_plain rfl (leaves_value (v := .slice (some ⟨qb, qo, none⟩) M0.length qc) (w' := W) ?_ ⟨rfl, by simpa using hS, .inr (Below.refl _ _)⟩)
            obtain ⟨y1, e0, e1, e2, e3, e4⟩ := HC.out W hS.2
            simp [go_sem, h45, y1]
          · have h11 : ρ (.tmp 11) = .int .i64 (i : Int) := hs.1
            exact step_plain rfl (leaves_move (.tmp 11) rfl ⟨h11, by simpa using hS, .inr (Below.refl _ _)⟩)
          · have h46 : ρ (.tmp 46) = .slice (some ⟨qb, qo, none⟩) M0.length qc := hs.1
            have h47 : ρ (.tmp 47) = .int .i64 (i : Int) := hs.2.1
            refine step_plain rfl (leaves_value (v := .pointer (some ⟨qb, qo + i * 5, none⟩)) (w' := W) ?_ ⟨rfl, by simpa using hS, .inr (Below.refl _ _)⟩)
            obtain ⟨y1, e0, e1, e2, e3, e4⟩ := HC.out W hS.2
            simp [go_sem, h46, h47, hiz]
          · have h48 : ρ (.tmp 48) = .pointer (some ⟨qb, qo + i * 5, none⟩) := hs.1
            refine step_plain rfl (leaves_value (v := .agg #[.int .i64 y.1.file, .int .u32 y.1.rights, .bool y.1.all, .slice yq y.1.ints.length yd, .int .i64 y.1.fc]) (w' := W) ?_ ⟨rfl, by simpa using hS, .inr (Below.refl _ _)⟩)
            obtain ⟨y1, e0, e1, e2, e3, e4⟩ := HC.out W hS.2
            simp [go_sem, h48, e0, e1, e2, e3, e4]
          · have h49 : ρ (.tmp 49) = .agg #[.int .i64 y.1.file, .int .u32 y.1.rights, .bool y.1.all, .slice yq y.1.ints.length yd, .int .i64 y.1.fc] := hs.1
            refine step_plain rfl (leaves_value (v := .slice (some ⟨W.heap.size, 0, none⟩) 1 1) (w' := W.alloc (.cells #[.int .i64 y.1.file, .int .u32 y.1.rights, .bool y.1.all, .slice yq y.1.ints.length yd, .int .i64 y.1.fc] 64)) ?_ ⟨⟨W.heap.size, rfl, HKn.out W⟩, by simpa using hS.on (on_alloc _ _), .inr (on_alloc _ _)⟩)
            simp [go_sem, h49]
          · have h42 : ρ (.tmp 42) = va := hs.1
            have h50 := hs.2.1
            obtain rfl : f = true := hf (by kernel_rfl)
            obtain ⟨v', W', hrun, hmid, hbw⟩ := HApp0.out W (hS.1 rfl) _ h50
            exact step_plain rfl (leaves_append (.tmp 42) (.tmp 50) 26 rfl (by rw [h42]; exact hrun _) ⟨hmid, by simpa using hS.did hbw, .inl ⟨by simp, ⟨hbw.os, hbw.tape, hbw.output, hbw.size, fun k _ h7 => hbw.block k (Nat.lt_of_not_le h7)⟩⟩⟩)
          · have h10 : ρ (.tmp 10) = .pointer (some ⟨w.heap.size + 1 + 1, 0, none⟩) := hs.1
            refine step_plain rfl (leaves_value (v := .pointer (some ⟨w.heap.size + 1 + 1, 0, none⟩)) (w' := W) ?_ ⟨rfl, by simpa using hS, .inr (Below.refl _ _)⟩)
            obtain ⟨y1, e0, e1, e2, e3, e4⟩ := HC.out W hS.2
            have hcn := hr.const; simp [go_sem, hcn, h10]
          · have h52 : ρ (.tmp 52) = .pointer (some ⟨w.heap.size + 1 + 1, 0, none⟩) := hs.1
            have h51 := hs.2.1
            obtain rfl : f = false := hf2 (by kernel_rfl)
            have hfin := HFin0.out W _ h51
            refine step_plain rfl (leaves_skip (w' := W.setCell ⟨w.heap.size + 1 + 1, 0, none⟩ (ρ (.tmp 51))) ?_ ⟨hfin.1, by simpa using hS.st hfin.2.1, .inl ⟨by simp, hfin.2.2.1⟩⟩)
            obtain ⟨⟨b0, b1⟩, q9, n9, c9, e9⟩ := hfin.2.2.2
            simp [go_sem, h52, b0, b1, e9]
        case enR1 =>
          intro f W hf hS v0 h0 v1 h1 v2 h2 v3 h3 v4 h4 v5 h5 v6 h6 v7 h7 v8 h8 v9 h9 v10 h10 v11 h11 h12
          obtain rfl : f = false := hf (by decide)
          clear hf
          have e0 : v0 = .pointer (some ⟨w.heap.size + 1 + 1, 0, none⟩) := h0 rfl
          subst v0
          have e1 : v1 = va := h1 rfl
          subst v1
          have e2 : v2 = .slice (some ⟨lb, lo, none⟩) (XR.length + 1) lc := h2 rfl
          subst v2
          have e3 : v3 = .pointer (some ⟨lb, lo, none⟩) := h3 rfl
          subst v3
          have e4 : v4 = .pointer (some ⟨lb, lo + 1, none⟩) := h4 rfl
          subst v4
          have e5 : v5 = .slice (some ⟨qb, qo, none⟩) M0.length qc := h5 rfl
          subst v5
          have e6 : v6 = .int .i64 (i : Int) := h6 rfl
          subst v6
          have e7 : v7 = .pointer (some ⟨qb, qo + i * 5, none⟩) := h7 rfl
          subst v7
          have e8 : v8 = .agg #[.int .i64 y.1.file, .int .u32 y.1.rights, .bool y.1.all, .slice yq y.1.ints.length yd, .int .i64 y.1.fc] := h8 rfl
          subst v8
          have e11 : v11 = .pointer (some ⟨w.heap.size + 1 + 1, 0, none⟩) := h11 rfl
          subst v11
          clear h0 h1 h2 h3 h4 h5 h6 h7 h8 h11
          simp only [ends, Act.put, List.setIfInBounds_toArray, List.set_cons_succ, List.set_cons_zero]
          have HE : Hid _ := h12 rfl
          clear h9 h10 h12 hS HApp0 HFin0 HZ0 HZ1 HKn HS0 HC
          go_wp2
          go_roundw
          case rel => exact ⟨i + 1, by omega, by go_num, HE⟩
          case measure => simp [intOf]; omega
      · have HApp1 : Hid (∀ W, Below w1x.heap.size w1x W → ∀ v, (kn y).ok v W → ∃ v' W', (∀ ty, (Builtin.append_ #[26, 26] ty #[vb, v]).run Try.prog W = .ok v' W') ∧ (km1 w y va vb A B).ok v' W' ∧ Below w.heap.size W W') := fun W h7 v ⟨nb, e8, h8⟩ => by
          subst e8
          obtain ⟨v', W', r1, r2, r3, r4⟩ := (hTM.on h7).app1 h8 ((hyi.keep ⟨hJb.os, hJb.tape, hJb.output, hJb.size, fun j _ h => hJb.block j h⟩).keep (keep_on h7)) (by omega)
          exact ⟨v', W', r1, ⟨r2, (hBE.on h7).keep r4 (by decide)⟩, r3⟩
        have HFin1 : Hid (∀ W v, (km1 w y va vb A B).ok v W → TJ w (M0.map Prod.fst) m (i + 1) (W.setCell ⟨w.heap.size + 1 + 1, 1, none⟩ v) ∧ Below w.heap.size w (W.setCell ⟨w.heap.size + 1 + 1, 1, none⟩ v) ∧ Keep (fun k => ¬ w.heap.size ≤ k) W (W.setCell ⟨w.heap.size + 1 + 1, 1, none⟩ v) ∧ (W.cell? ⟨w.heap.size + 1 + 1, 1, none⟩ = some vb ∧ W.frozen? ⟨w.heap.size + 1 + 1, 1, none⟩ = false) ∧ ∃ q n c, v = .slice q n c) := fun W v ⟨h7, h8⟩ => by
          have h9 := h7.st 1 v va v rfl
          have hbut := but_set W (w.heap.size + 1 + 1) 1 v
          refine ⟨⟨va, v, A, B ++ [y], h9, ?_, ?_, ?_⟩, h9.below, keep_but hbut fun h => h (by omega), ⟨h7.arr.cell 1 rfl, h7.arr.free 1⟩, ?_⟩
          · rw [eA, htk, List.take_append_of_le_length (by rw [hti]; omega)]
          · rw [List.map_append, eB, htk, List.drop_append_of_le_length (by rw [hti]; omega)]
            rfl
          · exact rowS_keep h8 (O := fun j => j ≠ w.heap.size + 1 + 1) (keep_but hbut fun h => h rfl) fun g e e2 => by
              obtain ⟨_, _, cur, h10⟩ := row_lt h8 e
              exact typ_ne ⟨_, _, h10⟩ (e2 ▸ typ_blk h7.arr) (by decide) rfl
          · obtain ⟨q, c, e, _, _⟩ := rowS_at h7.r1
            exact ⟨q, _, c, e⟩
        clear hTM hBE hcc hyi eA eB HJ hJb htk hti
        go_wp2
        refine wp_region_three (S := RS3 w w1x) (u := 10) (Keep := KeepF (fun k => w.heap.size ≤ k) [10, 12])
          (g := fun jj vv WW => (([.is (.pointer (some ⟨w.heap.size + 1 + 1, 1, none⟩)), .is (vb), .is (.slice (some ⟨lb, lo, none⟩) (XR.length + 1) lc), .is (.pointer (some ⟨lb, lo, none⟩)), .is (.pointer (some ⟨lb, lo + 1, none⟩)), .is (.slice (some ⟨qb, qo, none⟩) M0.length qc), .is (.int .i64 (i : Int)), .is (.pointer (some ⟨qb, qo + i * 5, none⟩)), .is (.agg #[.int .i64 y.1.file, .int .u32 y.1.rights, .bool y.1.all, .slice yq y.1.ints.length yd, .int .i64 y.1.fc]), kn y, km1 w y va vb A B, .is (.pointer (some ⟨w.heap.size + 1 + 1, 1, none⟩)), kj w (M0.map Prod.fst) m (i + 1)] : List (Kd 0)).getD jj Kd.any).ok vv WW)
          (tab := [[(10, none)], [(53, some 0)], [(0, none)], [(55, some 2)], [(56, some 3)], [(57, some 4)], [(11, none)], [(58, some 5), (59, some 6)], [(60, some 7)], [(61, some 8)], [(54, some 1), (62, some 9)], [(10, none)], [(64, some 11), (63, some 10)]]) (tl := [(9, 10), (10, 12)]) (n := 126)
          (by kernel_rfl) rfl (by kernel_rfl) (keep_f ?kR2) (HS0.out) ?stR2 ?enR2
        case kR2 =>
          intro u hu j hj
          simp only [List.mem_cons, List.not_mem_nil, or_false] at hu
          rcases hu with rfl | rfl
          · match j, hj with
            | 0, _ | 1, _ | 2, _ | 3, _ | 4, _ | 5, _ | 6, _ | 7, _ | 8, _ | 11, _ => exact .inr (.inr (stays_is _))
            | 9, _ => exact .inr (.inl ⟨10, rfl, .inl rfl⟩)
            | 12, _ => exact .inl (by kernel_rfl)
            | 10, hj => exact absurd rfl hj
            | j + 13, _ => exact .inr (.inr stays_any)
          · match j, hj with
            | 0, _ | 1, _ | 2, _ | 3, _ | 4, _ | 5, _ | 6, _ | 7, _ | 8, _ | 11, _ => exact .inr (.inr (stays_is _))
            | 9, _ => exact .inr (.inl ⟨10, rfl, .inr (by kernel_rfl)⟩)
            | 10, _ => exact .inr (.inl ⟨12, rfl, .inl rfl⟩)
            | 12, hj => exact absurd rfl hj
            | j + 13, _ => exact .inr (.inr stays_any)
        case stR2 =>
          refine ⟨fun ρ W f hf hf2 hr hS hs => ?_, fun ρ W f hf hf2 hr hS hs => ?_, fun ρ W f hf hf2 hr hS hs => ?_, fun ρ W f hf hf2 hr hS hs => ?_, fun ρ W f hf hf2 hr hS hs => ?_, fun ρ W f hf hf2 hr hS hs => ?_, fun ρ W f hf hf2 hr hS hs => ?_, fun ρ W f hf hf2 hr hS hs => ?_, fun ρ W f hf hf2 hr hS hs => ?_, fun ρ W f hf hf2 hr hS hs => ?_, fun ρ W f hf hf2 hr hS hs => ?_, fun ρ W f hf hf2 hr hS hs => ?_, fun ρ W f hf hf2 hr hS hs => ?_, trivial⟩
          · have h10 : ρ (.tmp 10) = .pointer (some ⟨w.heap.size + 1 + 1, 0, none⟩) := hs.1
            refine step_plain rfl (leaves_value (v := .pointer (some ⟨w.heap.size + 1 + 1, 1, none⟩)) (w' := W) ?_ ⟨rfl, by simpa using hS, .inr (Below.refl _ _)⟩)
            obtain ⟨y1, e0, e1, e2, e3, e4⟩ := HC.out W hS.2
            have hcn := hr.const; simp [go_sem, hcn, h10]
          · have h53 : ρ (.tmp 53) = .pointer (some ⟨w.heap.size + 1 + 1, 1, none⟩) := hs.1
            obtain rfl : f = true := hf (by kernel_rfl)
            have z1 := HZ1.out W (hS.1 rfl)
            refine step_plain rfl (leaves_value (v := vb) (w' := W) ?_ ⟨rfl, by simpa using hS, .inr (Below.refl _ _)⟩)
            obtain ⟨y1, e0, e1, e2, e3, e4⟩ := HC.out W hS.2
            simp [go_sem, h53, z1]
          · have h0 : ρ (.tmp 0) = .slice (some ⟨lb, lo, none⟩) (XR.length + 1) lc := hs.1
            exact step_plain rfl (leaves_move (.tmp 0) rfl ⟨h0, by simpa using hS, .inr (Below.refl _ _)⟩)
          · have h55 : ρ (.tmp 55) = .slice (some ⟨lb, lo, none⟩) (XR.length + 1) lc := hs.1
            refine step_plain rfl (leaves_value (v := .pointer (some ⟨lb, lo, none⟩)) (w' := W) ?_ ⟨rfl, by simpa using hS, .inr (Below.refl _ _)⟩)
            obtain ⟨y1, e0, e1, e2, e3, e4⟩ := HC.out W hS.2
            have hcn := hr.const; simp [go_sem, hcn, h55, hpl0]
          · have h56 : ρ (.tmp 56) = .pointer (some ⟨lb, lo, none⟩) := hs.1
            refine step_plain rfl (leaves_value (v := .pointer (some ⟨lb, lo + 1, none⟩)) (w' := W) ?_ ⟨rfl, by simpa using hS, .inr (Below.refl _ _)⟩)
            obtain ⟨y1, e0, e1, e2, e3, e4⟩ := HC.out W hS.2
            simp [go_sem, h56]
          · have h57 : ρ (.tmp 57) = .pointer (some ⟨lb, lo + 1, none⟩) := hs.1
            refine step_plain rfl (leaves_value (v := .slice (some ⟨qb, qo, none⟩) M0.length qc) (w' := W) ?_ ⟨rfl, by simpa using hS, .inr (Below.refl _ _)⟩)
            obtain ⟨y1, e0, e1, e2, e3, e4⟩ := HC.out W hS.2
            simp [go_sem, h57, y1]
          · have h11 : ρ (.tmp 11) = .int .i64 (i : Int) := hs.1
            exact step_plain rfl (leaves_move (.tmp 11) rfl ⟨h11, by simpa using hS, .inr (Below.refl _ _)⟩)
          · have h58 : ρ (.tmp 58) = .slice (some ⟨qb, qo, none⟩) M0.length qc := hs.1
            have h59 : ρ (.tmp 59) = .int .i64 (i : Int) := hs.2.1
            refine step_plain rfl (leaves_value (v := .pointer (some ⟨qb, qo + i * 5, none⟩)) (w' := W) ?_ ⟨rfl, by simpa using hS, .inr (Below.refl _ _)⟩)
            obtain ⟨y1, e0, e1, e2, e3, e4⟩ := HC.out W hS.2
            simp [go_sem, h58, h59, hiz]
          · have h60 : ρ (.tmp 60) = .pointer (some ⟨qb, qo + i * 5, none⟩) := hs.1
            refine step_plain rfl (leaves_value (v := .agg #[.int .i64 y.1.file, .int .u32 y.1.rights, .bool y.1.all, .slice yq y.1.ints.length yd, .int .i64 y.1.fc]) (w' := W) ?_ ⟨rfl, by simpa using hS, .inr (Below.refl _ _)⟩)
            obtain ⟨y1, e0, e1, e2, e3, e4⟩ := HC.out W hS.2
            simp [go_sem, h60, e0, e1, e2, e3, e4]
          · have h61 : ρ (.tmp 61) = .agg #[.int .i64 y.1.file, .int .u32 y.1.rights, .bool y.1.all, .slice yq y.1.ints.length yd, .int .i64 y.1.fc] := hs.1
            refine step_plain rfl (leaves_value (v := .slice (some ⟨W.heap.size, 0, none⟩) 1 1) (w' := W.alloc (.cells #[.int .i64 y.1.file, .int .u32 y.1.rights, .bool y.1.all, .slice yq y.1.ints.length yd, .int .i64 y.1.fc] 64)) ?_ ⟨⟨W.heap.size, rfl, HKn.out W⟩, by simpa using hS.on (on_alloc _ _), .inr (on_alloc _ _)⟩)
            simp [go_sem, h61]
          · have h54 : ρ (.tmp 54) = vb := hs.1
            have h62 := hs.2.1
            obtain rfl : f = true := hf (by kernel_rfl)
            obtain ⟨v', W', hrun, hmid, hbw⟩ := HApp1.out W (hS.1 rfl) _ h62
            exact step_plain rfl (leaves_append (.tmp 54) (.tmp 62) 26 rfl (by rw [h54]; exact hrun _) ⟨hmid, by simpa using hS.did hbw, .inl ⟨by simp, ⟨hbw.os, hbw.tape, hbw.output, hbw.size, fun k _ h7 => hbw.block k (Nat.lt_of_not_le h7)⟩⟩⟩)
          · have h10 : ρ (.tmp 10) = .pointer (some ⟨w.heap.size + 1 + 1, 0, none⟩) := hs.1
            refine step_plain rfl (leaves_value (v := .pointer (some ⟨w.heap.size + 1 + 1, 1, none⟩)) (w' := W) ?_ ⟨rfl, by simpa using hS, .inr (Below.refl _ _)⟩)
            obtain ⟨y1, e0, e1, e2, e3, e4⟩ := HC.out W hS.2
            have hcn := hr.const; simp [go_sem, hcn, h10]
          · have h64 : ρ (.tmp 64) = .pointer (some ⟨w.heap.size + 1 + 1, 1, none⟩) := hs.1
            have h63 := hs.2.1
            obtain rfl : f = false := hf2 (by kernel_rfl)
            have hfin := HFin1.out W _ h63
            refine step_plain rfl (leaves_skip (w' := W.setCell ⟨w.heap.size + 1 + 1, 1, none⟩ (ρ (.tmp 63))) ?_ ⟨hfin.1, by simpa using hS.st hfin.2.1, .inl ⟨by simp, hfin.2.2.1⟩⟩)
            obtain ⟨⟨b0, b1⟩, q9, n9, c9, e9⟩ := hfin.2.2.2
            simp [go_sem, h64, b0, b1, e9]
        case enR2 =>
          intro f W hf hS v0 h0 v1 h1 v2 h2 v3 h3 v4 h4 v5 h5 v6 h6 v7 h7 v8 h8 v9 h9 v10 h10 v11 h11 h12
          obtain rfl : f = false := hf (by decide)
          clear hf
          have e0 : v0 = .pointer (some ⟨w.heap.size + 1 + 1, 1, none⟩) := h0 rfl
          subst v0
          have e1 : v1 = vb := h1 rfl
          subst v1
          have e2 : v2 = .slice (some ⟨lb, lo, none⟩) (XR.length + 1) lc := h2 rfl
          subst v2
          have e3 : v3 = .pointer (some ⟨lb, lo, none⟩) := h3 rfl
          subst v3
          have e4 : v4 = .pointer (some ⟨lb, lo + 1, none⟩) := h4 rfl
          subst v4
          have e5 : v5 = .slice (some ⟨qb, qo, none⟩) M0.length qc := h5 rfl
          subst v5
          have e6 : v6 = .int .i64 (i : Int) := h6 rfl
          subst v6
          have e7 : v7 = .pointer (some ⟨qb, qo + i * 5, none⟩) := h7 rfl
          subst v7
          have e8 : v8 = .agg #[.int .i64 y.1.file, .int .u32 y.1.rights, .bool y.1.all, .slice yq y.1.ints.length yd, .int .i64 y.1.fc] := h8 rfl
          subst v8
          have e11 : v11 = .pointer (some ⟨w.heap.size + 1 + 1, 1, none⟩) := h11 rfl
          subst v11
          clear h0 h1 h2 h3 h4 h5 h6 h7 h8 h11
          simp only [ends, Act.put, List.setIfInBounds_toArray, List.set_cons_succ, List.set_cons_zero]
          have HE : Hid _ := h12 rfl
          clear h9 h10 h12 hS HApp1 HFin1 HZ0 HZ1 HKn HS0 HC
          go_wp2
          go_roundw
          case rel => exact ⟨i + 1, by omega, by go_num, HE⟩
          case measure => simp [intOf]; omega
    · obtain rfl : i = M0.length := by omega
      have hiz : ¬ (M0.length : Int) < (M0.length : Int) := by omega
      obtain ⟨va, vb, A, B, hTM, eA, eB, hBE⟩ := HJ.out
      rw [show (M0.map Prod.fst).take M0.length = M0.map Prod.fst from List.take_of_length_le (by simp)] at eA eB
      have hsz := hTM.below.size
      have hal := on_alloc wr (.cells #[] 45)
      have HU0 : Hid (UJ O w va vb A B [] [] (.slice (some ⟨w.heap.size + 1, 0, none⟩) 0 0) (.slice (some ⟨wr.heap.size, 0, none⟩) 0 0) (wr.alloc (.cells #[] 45))) := ⟨hTM.on hal, hBE.on hal, [], rfl, rowS_empty wr w.heap.size _ 2 hsz, (fun y hy => by simp at hy), fun y hy => by simp at hy⟩
      have HAB : Hid (A.map Prod.fst = (M0.map Prod.fst).take m.toNat ∧ B.map Prod.fst = (M0.map Prod.fst).drop m.toNat) := ⟨eA, eB⟩
      clear hTM hBE HJ eA eB hJb hal
      go_wp2
      generalize wr.alloc (.cells #[] 45) = wc at *
      generalize (Value.slice (some ⟨wr.heap.size, 0, none⟩) 0 0) = oz at *
      clear yl1 hsz
      obtain ⟨wz, rfl⟩ : ∃ wz, wz = wr := ⟨_, rfl⟩
      go_loopw [9, 12, 13, 14] (fun bv ov op iv wy => ∃ (i : Nat) (T : List UInt8) (ob : Bool), i ≤ XR.length + 1 ∧ iv = .int .i64 (i : Int) ∧ op = .bool ob ∧ Hid ((i = 0 → ob = true) ∧ T = (if i = 0 then [] else x0.B.take k.toNat) ∧ UJ O w va vb A B T (outF k x0.B (XR.map PX.pt) i) bv ov wy)) (fun _ _ _ iv _ => XR.length + 1 - (intOf iv).toNat)
      case atStart => exact ⟨0, [], true, Nat.zero_le _, rfl, rfl, fun _ => rfl, rfl, HU0.out⟩
      case round =>
        clear HU0 wz
        obtain ⟨i, T, ob, hi, rfl, rfl, HU⟩ := hrel
        obtain ⟨hob, hT, hU⟩ := HU.out
        clear HU
        have hUb := hU.tm.below
        by_cases hil : i < XR.length + 1
        · have hilz : (i : Int) < (XR.length : Int) + 1 := by omega
          obtain ⟨y, hy⟩ : ∃ y, (x0 :: XR)[i]? = some y := ⟨_, List.getElem?_eq_getElem (by simpa using hil)⟩
          obtain ⟨hcy, hyb, hyp⟩ := HV.out i y hy
          obtain ⟨cb, cl⟩ := hcy wr hUb
          have hkw : ∀ {W}, Below w.heap.size w W → Keep (fun j => O j ∧ j < w.heap.size) w W := fun {W} h7 => ⟨h7.os, h7.tape, h7.output, h7.size, fun j _ h8 => h7.block j h8.2⟩
          have HYb : Hid (∀ W, Below w.heap.size w W → BytO (fun j => O j ∧ j < w.heap.size) W y.bv y.B) := fun W h7 => hyb.keep (hkw h7)
          have HYp : Hid (∀ W, Below w.heap.size w W → PasM (fun j => O j ∧ j < w.heap.size) W y.lv y.M) := fun W h7 => hyp.keep (hkw h7)
          by_cases h0 : i = 0
          · subst h0
            rw [show ((0 : Nat) : Int) = 0 from rfl]
            obtain rfl : x0 = y := by simpa using hy
            obtain rfl : ob = true := hob rfl
            rw [if_pos rfl] at hT
            subst hT
            have hno : outF k x0.B (XR.map PX.pt) 0 = [] := rfl
            obtain ⟨sb, so, rfl, hbyc⟩ := HBy.out
            obtain ⟨ylp, ylc, eyl, _, _⟩ := hyp.row
            rw [Nat.zero_mul, Nat.add_zero] at cb cl
            rw [ebv] at cb
            rw [eyl] at cl
            have hal := on_alloc wr (.cells #[.slice (some ⟨sb, so, none⟩) x0.B.length bc, .slice none 0 0] 45)
            have hbx := Blk.new wr 45 [.slice (some ⟨sb, so, none⟩) x0.B.length bc, .slice none 0 0]
            have HI0 : Hid (UJ O w va vb A B (x0.B.take 0) [] u9 u12 (wr.alloc (.cells #[.slice (some ⟨sb, so, none⟩) x0.B.length bc, .slice none 0 0] 45)) ∧ Blk (wr.alloc (.cells #[.slice (some ⟨sb, so, none⟩) x0.B.length bc, .slice none 0 0] 45)) wr.heap.size 45 [.slice (some ⟨sb, so, none⟩) x0.B.length bc, .slice none 0 0]) := ⟨hU.on hal, hbx⟩
            have HOv : Hid (u12.ownBlock ≠ some wr.heap.size ∧ w.heap.size ≤ wr.heap.size) := ⟨fun e => by have := hU.lt _ e; omega, hUb.size⟩
            have HBc : Hid _ := hbyc
            clear hU hUb hob hal hbx hyb hyp HYb HYp hbyc hno hkw eyl
            generalize x0.M.length = yml at *
            generalize hbl : x0.B.length = bl at *
            have HBl : Hid (x0.B.length = bl) := hbl
            clear hbl
            go_wp2
            obtain ⟨wq, rfl⟩ : ∃ wq, wq = wr := ⟨_, rfl⟩
            obtain ⟨xb, hxb⟩ : ∃ xb, wq.heap.size = xb := ⟨_, rfl⟩
            rw [hxb] at HI0 HOv ⊢
            generalize wq.alloc (.cells #[.slice (some ⟨sb, so, none⟩) bl bc, .slice none 0 0] 45) = wp at *
            clear hxb cb cl
            go_loopw [9, 16] (fun bb kv wy => ∃ j : Nat, j ≤ bl ∧ Hid (j ≤ k.toNat) ∧ kv = .int .i64 (j : Int) ∧ Hid (UJ O w va vb A B (x0.B.take j) [] bb u12 wy ∧ Blk wy xb 45 [.slice (some ⟨sb, so, none⟩) bl bc, .slice none 0 0])) (fun _ kv _ => bl - (intOf kv).toNat)
            case atStart => exact ⟨0, Nat.zero_le _, Nat.zero_le _, rfl, HI0⟩
            case round =>
              clear HI0 wp wq
              obtain ⟨j, hj, hjk, rfl, HI⟩ := hrel
              obtain ⟨hU, hbx⟩ := HI.out
              obtain ⟨⟨bq, bqc, eb⟩, _⟩ := hU.forms
              have hTl : (x0.B.take j).length = j := by rw [List.length_take, HBl.out]; omega
              rw [hTl] at eb
              subst eb
              have x0c := hbx.cell 0 rfl
              have x1c := hbx.cell 1 rfl
              by_cases hjb : j < bl
              · have hjbz : (j : Int) < (bl : Int) := by omega
                by_cases hjk2 : (j : Int) < k
                · have hcj := HBc.out wr hU.tm.below j hjb
                  obtain ⟨v', W', hrun, hU2, hg2⟩ := hU.byte (x0.B.getD j 0) (by rw [hTl]; omega)
                  have e2 : x0.B.take j ++ [x0.B.getD j 0] = x0.B.take (j + 1) := by
                    have hjl : j < x0.B.length := by rw [HBl.out]; exact hjb
                    rw [List.take_add_one]
                    simp [List.getD_eq_getElem?_getD, hjl]
                  rw [e2] at hU2
                  have HI2 : Hid (UJ O w va vb A B (x0.B.take (j + 1)) [] v' u12 W' ∧ Blk W' xb 45 [.slice (some ⟨sb, so, none⟩) bl bc, .slice none 0 0]) := ⟨hU2, hg2.blk hbx (by decide)⟩
                  have hlt8 := (x0.B.getD j 0).toNat_lt
                  clear HI hU hbx hU2 hg2 e2 hTl
                  generalize (x0.B.getD j 0).toNat = xv at *
                  go_wp2_with (at_builtin; refine wpList_run_append (by rfl) _ _ _ (by rfl) _ _ (by rfl) (by rfl) hrun ?_)
                  go_roundw
                  case rel => exact ⟨j + 1, by omega, show j + 1 ≤ k.toNat by omega, by go_num, HI2⟩
                  case measure => simp [intOf]; omega
                · obtain rfl : j = k.toNat := by have := hjk.out; omega
                  -- a part is left
                  have hbut := but_set wr xb 0 (.slice (some ⟨sb, so + k.toNat, none⟩) (bl - k.toNat) (bc - k.toNat))
                  have hUs := hU.but hbx hbut HOv.out.2 HOv.out.1
                  have hnb : BytO (fun j => O j ∧ j < w.heap.size) w (.slice (some ⟨sb, so + k.toNat, none⟩) (bl - k.toNat) (bc - k.toNat)) (x0.B.drop k.toNat) := by
                    obtain ⟨p7, c7, e7, _, a7⟩ := HBa.out
                    cases e7
                    refine ⟨_, bc - k.toNat, by rw [List.length_drop, HBl.out], by rw [List.length_drop, HBl.out]; omega, ?_⟩
                    have := a7.drop k.toNat
                    rwa [← List.map_drop] at this
                  have hkw2 : Keep (fun j => O j ∧ j < w.heap.size) w (wr.setCell ⟨xb, 0, none⟩ (.slice (some ⟨sb, so + k.toNat, none⟩) (bl - k.toNat) (bc - k.toNat))) := ⟨hUs.tm.below.os, hUs.tm.below.tape, hUs.tm.below.output, hUs.tm.below.size, fun j _ h8 => hUs.tm.below.block j h8.2⟩
                  obtain ⟨v', W', hrun, hU'⟩ := hUs.part ⟨x0.B.drop k.toNat, .slice (some ⟨sb, so + k.toNat, none⟩) (bl - k.toNat) (bc - k.toNat), [], .slice none 0 0⟩ (hnb.keep hkw2) (PasM.nil _ _) (by simp)
                  have HE : Hid (x0.B.take k.toNat = (if 1 = 0 then [] else x0.B.take k.toNat) ∧ UJ O w va vb A B (x0.B.take k.toNat) (outF k x0.B (XR.map PX.pt) 1) (.slice bq k.toNat bqc) v' W') := ⟨by rw [if_neg (by omega)], by
                    rw [outF_one, if_pos (by rw [HBl.out]; omega)]
                    simpa [PX.pt] using hU'⟩
                  have hB2 := hbx.set 0 (.slice (some ⟨sb, so + k.toNat, none⟩) (bl - k.toNat) (bc - k.toNat))
                  have y0c := hB2.cell 0 rfl
                  have y1c := hB2.cell 1 rfl
                  have x0f := hbx.free 0
                  have hssz : (wr.setCell ⟨xb, 0, none⟩ (.slice (some ⟨sb, so + k.toNat, none⟩) (bl - k.toNat) (bc - k.toNat))).heap.size = wr.heap.size := hbut.size
                  rw [hssz] at hrun
                  clear HI hU hbx hbut hUs hnb hkw2 hU' hB2 hssz hTl hjk
                  have hkk : k = ((k.toNat : Nat) : Int) := by omega
                  generalize k.toNat = kn at *
                  subst hkk
                  have hc1 : ¬ bc = kn := by omega
                  have hc2 : (kn : Int) ≤ (bl : Int) := by omega
                  have hc3 : (kn : Int) ≤ (bc : Int) := by omega
                  have hc4 : (0 : Int) < ((bl - kn : Nat) : Int) := by omega
                  have hc5 : 0 < bl - kn := by omega
                  have hc6 : kn < bl := by omega
                  have hc7 : ¬ (kn : Int) < (kn : Int) := by omega
                  go_wp2_with (at_builtin; refine wpList_run_append (by rfl) _ _ _ (by rfl) _ _ (by rfl) (by rfl) hrun ?_)
                  go_roundw
                  case rel => exact ⟨1, _, true, by omega, by go_num, rfl, (fun e => by omega), HE.out.1, HE.out.2⟩
                  case measure => simp [intOf]
              · obtain rfl : j = bl := by omega
                have hjbz : ¬ (j : Int) < (j : Int) := by omega
                have hks : x0.B.take j = x0.B.take k.toNat := by
                  have h7 := hjk.out
                  rw [List.take_of_length_le (by rw [HBl.out]; exact Nat.le_refl _), List.take_of_length_le (by rw [HBl.out]; exact h7)]
                have hkj : ¬ k < ((x0.B.length : Nat) : Int) := by have := hjk.out; rw [HBl.out]; omega
                have x0f := hbx.free 0
                have HF : Hid (∀ v, x0.B.take k.toNat = (if 1 = 0 then [] else x0.B.take k.toNat) ∧ UJ O w va vb A B (x0.B.take k.toNat) (outF k x0.B (XR.map PX.pt) 1) (.slice bq j bqc) u12 (wr.setCell ⟨xb, 0, none⟩ v)) := fun v => ⟨by rw [if_neg (by omega)], by
                  rw [outF_one, if_neg hkj, ← hks]
                  exact hU.but hbx (but_set _ _ _ _) HOv.out.2 HOv.out.1⟩
                have hB2 := fun v => (hbx.set 0 v).cell 0 rfl
                clear HI hU hbx hTl hks hkj
                have hc2 : (j : Int) ≤ (bc : Int) := by omega
                by_cases hbc2 : bc = j
                · go_wp2
                  go_roundw
                  case rel => exact ⟨1, _, true, by omega, by go_num, rfl, (fun e => by omega), (HF.out (.bool true)).1, (HF.out _).2⟩
                  case measure => simp [intOf]
                · go_wp2
                  go_roundw
                  case rel => exact ⟨1, _, true, by omega, by go_num, rfl, (fun e => by omega), (HF.out (.bool true)).1, (HF.out _).2⟩
                  case measure => simp [intOf]
          · obtain ⟨hyM, hyB⟩ := HTl.out i y hy h0
            obtain ⟨ybp, ybc, eyb, hybc, hyba⟩ := hyb
            obtain ⟨ylp, ylc, eyl, _, _⟩ := hyp.row
            obtain ⟨yb, yo, rfl, _⟩ := hyba.at.place (k := 0) (by simpa using hyB)
            have hal := on_alloc wr (.cells #[.slice (some ⟨yb, yo, none⟩) y.B.length ybc, .slice ylp y.M.length ylc] 45)
            have hUa := hU.on hal
            obtain ⟨v', W', hrun, hU'⟩ := hUa.part y (HYb.out _ hUa.tm.below) (HYp.out _ hUa.tm.below) (by
              have h7 : (outF k x0.B (XR.map PX.pt) i).length ≤ i := by
                unfold outF
                rw [if_neg h0]
                split <;> simp <;> omega
              omega)
            rw [eyb, eyl, World.size_alloc] at hrun
            rw [← outF_succ k x0.B XR x0 i y h0 hy] at hU'
            obtain ⟨⟨bq, bqc, ebv⟩, oq, oqc, eov⟩ := hU.forms
            have HE : Hid (T = (if i + 1 = 0 then [] else x0.B.take k.toNat) ∧ UJ O w va vb A B T (outF k x0.B (XR.map PX.pt) (i + 1)) u9 v' W') := ⟨by rw [if_neg (by omega), hT, if_neg h0], hU'⟩
            rw [eyb] at cb
            rw [eyl] at cl
            subst ebv
            have h0z : ((i : Int) == 0) = false := by rw [beq_eq_false_iff_ne]; omega
            have h0n : (i == 0) = false := by rw [beq_eq_false_iff_ne]; omega
            clear hU hUa hU' hT hUb hob hal HYb HYp eyb eyl
            generalize y.B.length = ybl at *
            generalize y.M.length = yml at *
            have hm0 : ((yml : Int) == 0) = false := by rw [beq_eq_false_iff_ne]; omega
            have hm0n : (yml == 0) = false := by rw [beq_eq_false_iff_ne]; omega
            have hc0 : ¬ ybc = 0 := by omega
            have hbz : (0 : Int) < (ybl : Int) := by omega
            have hbzn : 0 < ybl := by omega
            have hbc1 : (0 : Int) ≤ (ybl : Int) := by omega
            obtain ⟨wq, rfl⟩ : ∃ wq, wq = wr := ⟨_, rfl⟩
            cases ob
            all_goals
              go_wp2
              go_loopw [9, 16] (fun bb kv wy => bb = .slice bq T.length bqc ∧ kv = .int .i64 0 ∧ wy = wq.alloc (.cells #[.slice (some ⟨yb, yo, none⟩) ybl ybc, .slice ylp yml ylc] 45)) (fun _ _ _ => 0)
              case atStart => exact ⟨rfl, rfl, rfl⟩
              case round =>
                obtain ⟨rfl, rfl, rfl⟩ := hrel
                go_wp2_with (at_builtin; refine wpList_run_append (by rfl) _ _ _ (by rfl) _ _ (by rfl) (by rfl) hrun ?_)
                go_roundw
                case rel => exact ⟨i + 1, T, false, by omega, by go_num, rfl, fun e => by omega, HE.out.1, HE.out.2⟩
                case measure => simp [intOf]; omega
        · obtain rfl : i = XR.length + 1 := by omega
          have hilz : ¬ ((XR.length : Int) + 1) < (XR.length : Int) + 1 := by omega
          rw [if_neg (by omega)] at hT
          have hTe : T = LL.2.1 := by rw [hT]; exact HLL.out.2.1.symm
          have hFinE := hU
          obtain ⟨w1, rfl⟩ : ∃ w1, w1 = wr := ⟨_, rfl⟩
          have HFin : Hid (∀ W, Below w1.heap.size w1 W → TFin OO w w.heap.size u12 u9 va vb LL ((W.setCell ⟨w.heap.size, 0, none⟩ va).setCell ⟨w.heap.size, 1, none⟩ vb) ∧ W.cell? ⟨w.heap.size, 0, none⟩ = some (.slice none 0 0) ∧ W.frozen? ⟨w.heap.size, 0, none⟩ = false ∧ (W.setCell ⟨w.heap.size, 0, none⟩ va).cell? ⟨w.heap.size, 1, none⟩ = some (.slice none 0 0) ∧ (W.setCell ⟨w.heap.size, 0, none⟩ va).frozen? ⟨w.heap.size, 1, none⟩ = false) := fun W h7 => by
            have hW := hFinE.on h7
            refine fin_store hW.tm.res ?_ ?_ ?_ ?_ hW.tm.below (Nat.le_refl _)
            · rw [HLL.out.1]; exact hW.par HOO.out
            · rw [← hTe]; exact (BytO.of_own hW.byt).mono fun _ _ _ => trivial
            · rw [HLL.out.2.2.1, ← HAB.out.1]; exact hW.tm.pas.1
            · rw [HLL.out.2.2.2, ← HAB.out.2]; exact hW.tm.pas.2
          have HAr : Hid (∀ W, Below w1.heap.size w1 W → W.cell? ⟨w.heap.size + 1 + 1, 0, none⟩ = some va ∧ W.cell? ⟨w.heap.size + 1 + 1, 1, none⟩ = some vb) := fun W h7 => ⟨(hFinE.tm.arr.on h7).cell 0 rfl, (hFinE.tm.arr.on h7).cell 1 rfl⟩
          obtain ⟨⟨q0, c0, eva⟩, q1, c1, evb⟩ : (∃ q c, va = .slice q A.length c) ∧ ∃ q c, vb = .slice q B.length c := by
            obtain ⟨q0, c0, e0, _⟩ := rowS_at hU.tm.r0
            obtain ⟨q1, c1, e1, _⟩ := rowS_at hU.tm.r1
            exact ⟨⟨q0, c0, e0⟩, q1, c1, e1⟩
          subst eva
          subst evb
          clear hU hFinE hT hTe hUb hob
          go_wp2
          refine wp_region_two (S := RS2 w1) (u := 5) (Keep := KeepF (fun k => k = w.heap.size) [5])
            (g := fun jj vv WW => (([.is (u12), .is (u9), .is (.agg #[.slice q0 A.length c0, .slice q1 B.length c1]), .is (u12), .is (u9), ktf OO w w.heap.size (u12) (u9) (.slice q0 A.length c0) (.slice q1 B.length c1) LL] : List (Kd 0)).getD jj Kd.any).ok vv WW)
            (tab := [[(12, none)], [(9, none)], [(10, none)], [(123, some 0)], [(124, some 1)], [(8, none), (125, some 2)]]) (tl := []) (n := 126)
            (by kernel_rfl) rfl (by kernel_rfl) (keep_f ?kR3) (fun _ => on_drew (Below.refl _ _)) ?stR3 ?enR3
          case kR3 =>
            intro u hu j hj
            simp only [List.mem_cons, List.not_mem_nil, or_false] at hu
            rcases hu with rfl
            · match j, hj with
              | 0, _ | 1, _ | 2, _ | 3, _ | 4, _ => exact .inr (.inr (stays_is _))
              | 5, hj => exact absurd rfl hj
              | j + 6, _ => exact .inr (.inr stays_any)
          case stR3 =>
            refine ⟨fun ρ W f hf hr hS hs => ?_, fun ρ W f hf hr hS hs => ?_, fun ρ W f hf hr hS hs => ?_, fun ρ W f hf hr hS hs => ?_, fun ρ W f hf hr hS hs => ?_, fun ρ W f hf hr hS hs => ?_, trivial⟩
            · have h12 : ρ (.tmp 12) = u12 := hs.1
              exact step_plain rfl (leaves_move (.tmp 12) rfl ⟨h12, by simpa using hS, .inr (Below.refl _ _)⟩)
            · have h9 : ρ (.tmp 9) = u9 := hs.1
              exact step_plain rfl (leaves_move (.tmp 9) rfl ⟨h9, by simpa using hS, .inr (Below.refl _ _)⟩)
            · have h10 : ρ (.tmp 10) = .pointer (some ⟨w.heap.size + 1 + 1, 0, none⟩) := hs.1
              refine step_plain rfl (leaves_value (v := .agg #[.slice q0 A.length c0, .slice q1 B.length c1]) (w' := W) ?_ ⟨rfl, by simpa using hS, .inr (Below.refl _ _)⟩)
              obtain rfl : f = true := hf (by kernel_rfl); have a0 := (HAr.out W (hS rfl)).1
              have a1 := (HAr.out W (hS rfl)).2
              simp [go_sem, h10, a0, a1]
            · have h123 : ρ (.tmp 123) = u12 := hs.1
              exact step_plain rfl (leaves_assign (.tmp 123) rfl ⟨h123, by simpa using hS, .inr (Below.refl _ _)⟩)
            · have h124 : ρ (.tmp 124) = u9 := hs.1
              exact step_plain rfl (leaves_assign (.tmp 124) rfl ⟨h124, by simpa using hS, .inr (Below.refl _ _)⟩)
            · have h8 : ρ (.tmp 8) = .pointer (some ⟨w.heap.size, 0, none⟩) := hs.1
              have h125 : ρ (.tmp 125) = .agg #[.slice q0 A.length c0, .slice q1 B.length c1] := hs.2.1
              obtain rfl : f = true := hf (by kernel_rfl)
              obtain ⟨hfin, b0, b1, b2, b3⟩ := HFin.out W (hS rfl)
              refine step_plain rfl (leaves_skip (w' := (W.setCell ⟨w.heap.size, 0, none⟩ (.slice q0 A.length c0)).setCell ⟨w.heap.size, 1, none⟩ (.slice q1 B.length c1)) ?_ ⟨hfin, (fun e => by cases e), .inl ⟨by simp, keep_but ((but_set _ _ _ _).trans (but_set _ _ _ _)) fun h7 => h7 rfl⟩⟩)
              simp [go_sem, h8, h125, b0, b1, b2, b3]
          case enR3 =>
            intro f W hf hS v0 h0 v1 h1 v2 h2 v3 h3 v4 h4 h5
            obtain rfl : f = false := hf (by decide)
            clear hf
            have e0 : v0 = u12 := h0 rfl
            subst v0
            have e1 : v1 = u9 := h1 rfl
            subst v1
            have e2 : v2 = .agg #[.slice q0 A.length c0, .slice q1 B.length c1] := h2 rfl
            subst v2
            have e3 : v3 = u12 := h3 rfl
            subst v3
            have e4 : v4 = u9 := h4 rfl
            subst v4
            clear h0 h1 h2 h3 h4
            simp only [ends, Act.put, List.setIfInBounds_toArray, List.set_cons_succ, List.set_cons_zero]
            have hE := h5 rfl
            have HE : Hid _ := HP.out _ _ _ _ _ _ hE
            have HB : Hid _ := hE.res
            clear h5 hS HFin HAr hE
            go_wp2
            exact bodyPost_ret (results_ttc (v1 := u12) (v2 := u9) (cs := [.slice q0 A.length c0, .slice q1 B.length c1]) agg52 info52 rfl _ _ rfl rfl rfl HB.out) rfl HE.out

/-- The reference's Take, whatever is taken. -/
theorem rtake_any {O : Nat → Prop} {w : World} {lv : Value} {ps : List Pt} (h : ParO O w lv ps) (k m : Int) (n : Nat) (hok : Ok n ps) : Calls Try.prog 22 #[lv, .int .i64 k, .int .i64 m] w (RTakePost O w ps k m) := by
  by_cases hk : k < 1
  · exact rtake_no h k m (.inl hk)
  · cases ps with
    | nil => exact rtake_no h k m (.inr rfl)
    | cons x R => exact rtake_yes h k m n hok hk

end Go.Proofs.Ytmhkfapafedglaa.K
