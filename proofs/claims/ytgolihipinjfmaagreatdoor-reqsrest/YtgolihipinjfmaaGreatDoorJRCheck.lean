/- What the reference's Check answers, for every request. -/
import Derived.Test.YtgolihipinjfmaaGreatDoorJCheck
import Derived.Test.YtgolihipinjfmaaGreatDoorJRTake
import Derived.Test.YtgolihipinjfmaaGreatDoorCRefGet
namespace Go.Proofs.YtgolihipinjfmaaGreatDoor.J
open Go Go.RowKit Go.Shelf
open Go.Proofs.YtgolihipinjfmaaGreatDoor.C (cshape cname cgate cneed0 cneed1 byt byt_list byt_size row_size callV callC noV noC Sp rget_at rget_no)

def dN : List UInt8 → Nat
  | [] => 0
  | x :: r => if isCap x || x == 80 then dN r else dN r + 1
theorem dN_shape : ∀ k : Fin 64, dN (cshape k) ≤ 5 := by decide +kernel
theorem scan_cap (a l : List Int) (r : List UInt8) (i : Nat) {x : UInt8} (h : isCap x = true) : scanB a l (x :: r) i = scanB a l r i := by rw [scanB, if_pos h]
theorem scan_P (a l : List Int) (r : List UInt8) (i : Nat) : scanB a l (80 :: r) i = (pairB l && scanB a l r i) := by rw [scanB, if_neg (by decide), if_pos rfl]
theorem scan_other (a l : List Int) (r : List UInt8) (i : Nat) {x : UInt8} (h : isCap x = false) (h2 : x ≠ 80) : scanB a l (x :: r) i = (takesB x.toNat (a.getD i 0) && scanB a l r (i + 1)) := by rw [scanB, if_neg (by rw [h]; simp), if_neg h2]
/-- Where the loop over the letters is. -/
structure Sc (a l : List Int) (sh : List UInt8) (Z : Bool) (Zs Zt Zl : Nat) (Zr : Bool) (j i s t m : Nat) (g : Bool) : Prop where
  z : scanB a l (sh.drop j) i = Z
  zs : sF (sh.drop j) s = Zs
  zt : tF (sh.drop j) t = Zt
  zl : lF (sh.drop j) m = Zl
  zr : rF (sh.drop j) g = Zr
  d : dN (sh.drop j) + i ≤ 5
section
variable {a l : List Int} {sh : List UInt8} {Z : Bool} {Zs Zt Zl : Nat} {Zr : Bool} {j i s t m : Nat} {g : Bool}
theorem Sc.at (h : Sc a l sh Z Zs Zt Zl Zr j i s t m g) {x : UInt8} (hx : sh[j]? = some x) : scanB a l (x :: sh.drop (j + 1)) i = Z ∧ sF (x :: sh.drop (j + 1)) s = Zs ∧ tF (x :: sh.drop (j + 1)) t = Zt ∧ lF (x :: sh.drop (j + 1)) m = Zl ∧ rF (x :: sh.drop (j + 1)) g = Zr ∧ dN (x :: sh.drop (j + 1)) + i ≤ 5 := by
  have hlt := (List.getElem?_eq_some_iff.1 hx).1
  have e : sh.drop j = x :: sh.drop (j + 1) := by rw [List.drop_eq_getElem_cons hlt, (List.getElem?_eq_some_iff.1 hx).2]
  obtain ⟨h1, h2, h3, h4, h5, h6⟩ := h
  rw [e] at h1 h2 h3 h4 h5 h6
  exact ⟨h1, h2, h3, h4, h5, h6⟩
theorem Sc.c83 (h : Sc a l sh Z Zs Zt Zl Zr j i s t m g) (hx : sh[j]? = some 83) : Sc a l sh Z Zs Zt Zl Zr (j + 1) i 4096 t m g := by
  obtain ⟨h1, h2, h3, h4, h5, h6⟩ := h.at hx
  exact ⟨(scan_cap _ _ _ _ (by decide)).symm.trans h1, h2, h3, h4, h5, h6⟩
theorem Sc.c89 (h : Sc a l sh Z Zs Zt Zl Zr j i s t m g) (hx : sh[j]? = some 89) : Sc a l sh Z Zs Zt Zl Zr (j + 1) i 4096 t m g := by
  obtain ⟨h1, h2, h3, h4, h5, h6⟩ := h.at hx
  exact ⟨(scan_cap _ _ _ _ (by decide)).symm.trans h1, h2, h3, h4, h5, h6⟩
theorem Sc.c66 (h : Sc a l sh Z Zs Zt Zl Zr j i s t m g) (hx : sh[j]? = some 66) : Sc a l sh Z Zs Zt Zl Zr (j + 1) i 256 t m g := by
  obtain ⟨h1, h2, h3, h4, h5, h6⟩ := h.at hx
  exact ⟨(scan_cap _ _ _ _ (by decide)).symm.trans h1, h2, h3, h4, h5, h6⟩
theorem Sc.c84 (h : Sc a l sh Z Zs Zt Zl Zr j i s t m g) (hx : sh[j]? = some 84) : Sc a l sh Z Zs Zt Zl Zr (j + 1) i s 4096 m g := by
  obtain ⟨h1, h2, h3, h4, h5, h6⟩ := h.at hx
  exact ⟨(scan_cap _ _ _ _ (by decide)).symm.trans h1, h2, h3, h4, h5, h6⟩
theorem Sc.c76 (h : Sc a l sh Z Zs Zt Zl Zr j i s t m g) (hx : sh[j]? = some 76) : Sc a l sh Z Zs Zt Zl Zr (j + 1) i s t 4 g := by
  obtain ⟨h1, h2, h3, h4, h5, h6⟩ := h.at hx
  exact ⟨(scan_cap _ _ _ _ (by decide)).symm.trans h1, h2, h3, h4, h5, h6⟩
theorem Sc.c73 (h : Sc a l sh Z Zs Zt Zl Zr j i s t m g) (hx : sh[j]? = some 73) : Sc a l sh Z Zs Zt Zl Zr (j + 1) i s t 64 g := by
  obtain ⟨h1, h2, h3, h4, h5, h6⟩ := h.at hx
  exact ⟨(scan_cap _ _ _ _ (by decide)).symm.trans h1, h2, h3, h4, h5, h6⟩
theorem Sc.c82 (h : Sc a l sh Z Zs Zt Zl Zr j i s t m g) (hx : sh[j]? = some 82) : Sc a l sh Z Zs Zt Zl Zr (j + 1) i s t 2 true := by
  obtain ⟨h1, h2, h3, h4, h5, h6⟩ := h.at hx
  exact ⟨(scan_cap _ _ _ _ (by decide)).symm.trans h1, h2, h3, h4, h5, h6⟩
theorem Sc.c80 (h : Sc a l sh Z Zs Zt Zl Zr j i s t m g) (hx : sh[j]? = some 80) (hp : pairB l = true) : Sc a l sh Z Zs Zt Zl Zr (j + 1) i s t 16 g := by
  obtain ⟨h1, h2, h3, h4, h5, h6⟩ := h.at hx
  exact ⟨by rw [scan_P, hp] at h1; exact h1, h2, h3, h4, h5, h6⟩
theorem Sc.n80 (h : Sc a l sh Z Zs Zt Zl Zr j i s t m g) (hx : sh[j]? = some 80) (hp : pairB l = false) : Z = false := by
  have h1 := (h.at hx).1
  rw [scan_P, hp] at h1
  exact h1.symm
/-- A letter that stands for a number. -/
def Plainly (x : UInt8) : Prop := x ≠ 83 ∧ x ≠ 89 ∧ x ≠ 66 ∧ x ≠ 84 ∧ x ≠ 76 ∧ x ≠ 73 ∧ x ≠ 82 ∧ x ≠ 80
theorem Plainly.cap {x : UInt8} (h : Plainly x) : isCap x = false := by
  obtain ⟨h1, h2, h3, h4, h5, h6, h7, h8⟩ := h
  simp [isCap, *]
theorem Sc.room (h : Sc a l sh Z Zs Zt Zl Zr j i s t m g) {x : UInt8} (hx : sh[j]? = some x) (hp : Plainly x) : i < 5 := by
  have h6 := (h.at hx).2.2.2.2.2
  rw [dN, if_neg (by rw [hp.cap]; simpa using hp.2.2.2.2.2.2.2)] at h6
  omega
theorem Sc.next (h : Sc a l sh Z Zs Zt Zl Zr j i s t m g) {x : UInt8} (hx : sh[j]? = some x) (hp : Plainly x) (ht : takesB x.toNat (a.getD i 0) = true) : Sc a l sh Z Zs Zt Zl Zr (j + 1) (i + 1) s t m g := by
  obtain ⟨h1, h2, h3, h4, h5, h6⟩ := h.at hx
  obtain ⟨q1, q2, q3, q4, q5, q6, q7, q8⟩ := hp
  have hc : isCap x = false := Plainly.cap ⟨q1, q2, q3, q4, q5, q6, q7, q8⟩
  refine ⟨by rw [scan_other _ _ _ _ hc q8, ht] at h1; exact h1, ?_, ?_, ?_, ?_, ?_⟩
  · rw [sF, if_neg q1, if_neg q2, if_neg q3] at h2; exact h2
  · rw [tF, if_neg q4] at h3; exact h3
  · rw [lF, if_neg q5, if_neg q6, if_neg q7, if_neg q8] at h4; exact h4
  · rw [rF, if_neg q7] at h5; exact h5
  · rw [dN, if_neg (by rw [hc]; simpa using q8)] at h6; omega
theorem Sc.fails (h : Sc a l sh Z Zs Zt Zl Zr j i s t m g) {x : UInt8} (hx : sh[j]? = some x) (hp : Plainly x) (ht : takesB x.toNat (a.getD i 0) = false) : Z = false := by
  have h1 := (h.at hx).1
  rw [scan_other _ _ _ _ hp.cap hp.2.2.2.2.2.2.2, ht] at h1
  exact h1.symm
theorem Sc.ends (h : Sc a l sh Z Zs Zt Zl Zr j i s t m g) (hj : sh.length ≤ j) : ((a.drop i).all fun n => n == 0) = Z ∧ s = Zs ∧ t = Zt ∧ m = Zl ∧ g = Zr := by
  obtain ⟨h1, h2, h3, h4, h5, _⟩ := h
  rw [List.drop_eq_nil_of_le hj] at h1 h2 h3 h4 h5
  exact ⟨h1, h2, h3, h4, h5⟩
end
theorem byte_int {x : UInt8} {n : Nat} (hn : n < 256) (h : x ≠ UInt8.ofNat n) : ((x.toNat : Int) == (n : Int)) = false := by
  rw [beq_eq_false_iff_ne]
  intro e
  refine h (UInt8.toNat_inj.1 ?_)
  rw [UInt8.toNat_ofNat', Nat.mod_eq_of_lt hn]
  omega

set_option maxRecDepth 100000 in
theorem rcheck_no (r : Rq) (hk : ∀ k : Fin 64, (k.val : Int) + 1 ≠ r.no) (p : Option Addr) (c : Nat) (w : World) :
    Calls Tryz.prog 11 #[rqV r p c] w fun e W => e = .returned (.int .i64 78) ∧ Below w.heap.size w W := by
  have hB := on_alloc w (.cells (rqC r p c).toArray 25)
  have cG := rget_no r.no hk (w.alloc (.cells (rqC r p c).toArray 25))
  unfold noV noC at cG
  unfold rqV
  unfold rqC at *
  clear hk
  go_enter Tryz.func11, Tryz.ntmps11
  go_wp2_with (go_at_call 17; refine cG.mono ?_; rintro e W1 ⟨rfl, hb1⟩)
  go_ret
  exact ⟨rfl, (on_trans hB hb1).alloc (on_trans hB hb1).size _⟩

set_option maxRecDepth 100000 in
set_option maxHeartbeats 4000000 in
theorem rcheck_at (k : Fin 64) (r : Rq) (hk : (k.val : Int) + 1 = r.no) (p : Option Addr) (c : Nat) (w : World) (hat : At w p (ints r.l)) (hl : r.l.length ≤ 1000000) :
    Calls Tryz.prog 11 #[rqV r p c] w fun e W => e = .returned (.int .i64 (chkE (okB k r))) ∧ Below w.heap.size w W := by
  rw [← ref_is k r]
  have hB := on_alloc w (.cells (rqC r p c).toArray 25)
  have bR := Blk.new w 25 (rqC r p c)
  have cG := rget_at k (w.alloc (.cells (rqC r p c).toArray 25))
  rw [hk] at cG
  unfold callV callC at cG
  unfold rqV
  unfold rqC at *
  obtain ⟨P, hP⟩ : ∃ P, refB (cshape k) r = P := ⟨_, rfl⟩
  rw [hP]
  obtain ⟨Z, hZ⟩ : ∃ Z, scanB r.a r.l (cshape k) 0 = Z := ⟨_, rfl⟩
  obtain ⟨Zs, hZs⟩ : ∃ Z, sF (cshape k) 0 = Z := ⟨_, rfl⟩
  obtain ⟨Zt, hZt⟩ : ∃ Z, tF (cshape k) 0 = Z := ⟨_, rfl⟩
  obtain ⟨Zl, hZl⟩ : ∃ Z, lF (cshape k) 0 = Z := ⟨_, rfl⟩
  obtain ⟨Zr, hZr⟩ : ∃ Z, rF (cshape k) false = Z := ⟨_, rfl⟩
  have HO : Hid (P = (Z && decide (r.S.size ≤ Zs) && decide (r.T.size ≤ Zt) && decide (r.l.length ≤ Zl) && (!Zr || decide (r.l.length = 2)))) := by show _ = _; rw [← hP, ← hZ, ← hZs, ← hZt, ← hZl, ← hZr]; rfl
  have HS0 : Hid (Sc r.a r.l (cshape k) Z Zs Zt Zl Zr 0 0 0 0 0 false) := ⟨hZ, hZs, hZt, hZl, hZr, by simpa using dN_shape k⟩
  have hsz : (byt (cshape k)).size = (cshape k).length := byt_size _
  have hix := fun j hj => idx_at (cshape k) j hj (j : Int) rfl
  have HSH : Hid ((cshape k).length ≤ 20) := (row_size k).2
  have HG : Hid (∀ i, r.a.getD i 0 = [r.a0, r.a1, r.a2, r.a3, r.a4].getD i 0) := fun i => rfl
  have HAD : Hid (r.a = [r.a0, r.a1, r.a2, r.a3, r.a4]) := rfl
  have HAt : Hid (At w p (ints r.l)) := hat
  clear hP hZ hZs hZt hZl hZr hat hk
  obtain ⟨n, hn⟩ : ∃ n, r.l.length = n := ⟨_, rfl⟩
  have HN : Hid (r.l.length = n) := hn
  rw [hn] at hl bR hB cG HO ⊢
  clear hn
  generalize r.l = ll at *
  generalize r.a = al at *
  generalize r.no = no at *
  generalize r.a0 = a0 at *
  generalize r.a1 = a1 at *
  generalize r.a2 = a2 at *
  generalize r.a3 = a3 at *
  generalize r.a4 = a4 at *
  generalize r.S = sS at *
  generalize r.T = sT at *
  generalize byt (cname k) = nm at *
  generalize byt (cshape k) = sb at *
  generalize cshape k = sh at *
  generalize cgate k = gt at *
  generalize ((cneed0 k : Nat) : Int) = n0 at *
  generalize ((cneed1 k : Nat) : Int) = n1 at *
  obtain ⟨N, hN⟩ : ∃ N, sh.length = N := ⟨_, rfl⟩
  have HNS : Hid (sh.length = N) := hN
  rw [hN] at hsz hix
  have hN20 : N ≤ 20 := hN ▸ HSH.out
  clear hN
  go_enter Tryz.func11, Tryz.ntmps11
  go_upto_region 4 with (go_at_call 17; refine cG.mono ?_; rintro e W1 ⟨rfl, hb1⟩)
  have bR1 := bR.on hb1
  have hb0 := on_trans hB hb1
  have bD := Blk.new W1 37 [.string nm, .string sb, .int .i64 gt, .int .u32 n0, .int .u32 n1]
  have bR2 := bR1.alloc (.cells #[.string nm, .string sb, .int .i64 gt, .int .u32 n0, .int .u32 n1] 37)
  have hbX := hb0.alloc hb0.size (.cells #[.string nm, .string sb, .int .i64 gt, .int .u32 n0, .int .u32 n1] 37)
  obtain ⟨X, hX⟩ : ∃ X, W1.alloc (.cells #[.string nm, .string sb, .int .i64 gt, .int .u32 n0, .int .u32 n1] 37) = X := ⟨_, rfl⟩
  obtain ⟨D, hD⟩ : ∃ D, W1.heap.size = D := ⟨_, rfl⟩
  obtain ⟨B, hBB⟩ : ∃ B, w.heap.size = B := ⟨_, rfl⟩
  replace bD : Blk X D 37 [.string nm, .string sb, .int .i64 gt, .int .u32 n0, .int .u32 n1] := by rw [← hX, ← hD]; exact bD
  replace bR2 : Blk X B 25 [.int .i64 no, .int .i64 a0, .int .i64 a1, .int .i64 a2, .int .i64 a3, .int .i64 a4, .string sS, .string sT, .slice p n c] := by rw [← hX, ← hBB]; exact bR2
  rw [hX] at hbX
  rw [hX, hD, hBB]
  clear bR1 hb0 cG hB bR hb1 hX hD
  have HD1 : Hid (∀ W, Below X.heap.size X W → W.cell? ⟨D, 1, none⟩ = some (.string sb)) := fun W h => (bD.on h).cell 1 rfl
  have HR : Hid (∀ W, Below X.heap.size X W → Blk W B 25 [.int .i64 no, .int .i64 a0, .int .i64 a1, .int .i64 a2, .int .i64 a3, .int .i64 a4, .string sS, .string sT, .slice p n c]) := fun W h => bR2.on h
  have HL : Hid (∀ W, Below X.heap.size X W → At W p (ints ll)) := fun W h => AtF.on (AtF.on HAt.out hbX) h
  have HW : Hid (∀ W, Below X.heap.size X W → Below w.heap.size w W) := fun W h => on_trans hbX h
  have HX0 : Hid (Below X.heap.size X X) := Below.refl _ _
  rw [← hBB]
  clear bD bR2 hbX HAt
  subst hBB
  go_wp2
  go_loopw [5, 6, 7, 8, 9, 10] (fun v5 v6 v7 v8 v9 v10 wr => ∃ (j i s t m : Nat) (g : Bool), j ≤ N ∧ i ≤ 5 ∧ v5 = .int .i64 (i : Int) ∧ v6 = .int .i64 (s : Int) ∧ v7 = .int .i64 (t : Int) ∧ v8 = .int .i64 (m : Int) ∧ v9 = .bool g ∧ v10 = .int .i64 (j : Int) ∧ Hid (Sc al ll sh Z Zs Zt Zl Zr j i s t m g ∧ Below X.heap.size X wr)) (fun _ _ _ _ _ v10 _ => N - (intOf v10).toNat)
  case atStart => exact ⟨0, 0, 0, 0, 0, false, Nat.zero_le _, by omega, rfl, rfl, rfl, rfl, rfl, rfl, HS0.out, by first | exact HX0.out | exact HX0.out.drew⟩
  case round =>
    clear HS0 HX0
    obtain ⟨j, i, s, t, m, g, hj, hi5, rfl, rfl, rfl, rfl, rfl, rfl, HI⟩ := hrel
    have hd1 := HD1.out wr HI.out.2
    by_cases hlt : j < N
    · have hltz : (j : Int) < (N : Int) := by omega
      obtain ⟨x, hx0⟩ : ∃ x, sh[j]? = some x := ⟨sh[j]'(by rw [HNS.out]; exact hlt), List.getElem?_eq_getElem _⟩
      have hxi := hix j hlt
      rw [ltr_at hx0] at hxi
      have HX : Hid (sh[j]? = some x) := hx0
      clear hx0 hix
      by_cases e83 : x = 83
      · subst e83
        replace hxi : ∀ w, (Instr.index 9 (.string sb) (.int .i64 (j : Int))).run Tryz.prog w = .ok (.int .u8 83) w := hxi
        go_wp2
        refine ⟨⟨j + 1, i, 4096, t, m, g, by omega, by omega, rfl, by go_num, by go_num, by go_num, rfl, by go_num, HI.out.1.c83 HX.out, HI.out.2⟩, by simp [intOf]; omega⟩
      by_cases e89 : x = 89
      · subst e89
        replace hxi : ∀ w, (Instr.index 9 (.string sb) (.int .i64 (j : Int))).run Tryz.prog w = .ok (.int .u8 89) w := hxi
        go_wp2
        refine ⟨⟨j + 1, i, 4096, t, m, g, by omega, by omega, rfl, by go_num, by go_num, by go_num, rfl, by go_num, HI.out.1.c89 HX.out, HI.out.2⟩, by simp [intOf]; omega⟩
      by_cases e66 : x = 66
      · subst e66
        replace hxi : ∀ w, (Instr.index 9 (.string sb) (.int .i64 (j : Int))).run Tryz.prog w = .ok (.int .u8 66) w := hxi
        go_wp2
        refine ⟨⟨j + 1, i, 256, t, m, g, by omega, by omega, rfl, by go_num, by go_num, by go_num, rfl, by go_num, HI.out.1.c66 HX.out, HI.out.2⟩, by simp [intOf]; omega⟩
      by_cases e84 : x = 84
      · subst e84
        replace hxi : ∀ w, (Instr.index 9 (.string sb) (.int .i64 (j : Int))).run Tryz.prog w = .ok (.int .u8 84) w := hxi
        go_wp2
        refine ⟨⟨j + 1, i, s, 4096, m, g, by omega, by omega, rfl, by go_num, by go_num, by go_num, rfl, by go_num, HI.out.1.c84 HX.out, HI.out.2⟩, by simp [intOf]; omega⟩
      by_cases e76 : x = 76
      · subst e76
        replace hxi : ∀ w, (Instr.index 9 (.string sb) (.int .i64 (j : Int))).run Tryz.prog w = .ok (.int .u8 76) w := hxi
        go_wp2
        refine ⟨⟨j + 1, i, s, t, 4, g, by omega, by omega, rfl, by go_num, by go_num, by go_num, rfl, by go_num, HI.out.1.c76 HX.out, HI.out.2⟩, by simp [intOf]; omega⟩
      by_cases e73 : x = 73
      · subst e73
        replace hxi : ∀ w, (Instr.index 9 (.string sb) (.int .i64 (j : Int))).run Tryz.prog w = .ok (.int .u8 73) w := hxi
        go_wp2
        refine ⟨⟨j + 1, i, s, t, 64, g, by omega, by omega, rfl, by go_num, by go_num, by go_num, rfl, by go_num, HI.out.1.c73 HX.out, HI.out.2⟩, by simp [intOf]; omega⟩
      by_cases e82 : x = 82
      · subst e82
        replace hxi : ∀ w, (Instr.index 9 (.string sb) (.int .i64 (j : Int))).run Tryz.prog w = .ok (.int .u8 82) w := hxi
        go_wp2
        refine ⟨⟨j + 1, i, s, t, 2, true, by omega, by omega, rfl, by go_num, by go_num, by go_num, rfl, by go_num, HI.out.1.c82 HX.out, HI.out.2⟩, by simp [intOf]; omega⟩
      by_cases e80 : x = 80
      · subst e80
        replace hxi : ∀ w, (Instr.index 9 (.string sb) (.int .i64 (j : Int))).run Tryz.prog w = .ok (.int .u8 80) w := hxi
        have hR := HR.out wr HI.out.2
        have r8 := hR.cell 8 rfl
        have hre := rem_two n
        rcases Nat.mod_two_eq_zero_or_one n with h2 | h2
        · have e2 : (Int.tmod (n : Int) 2 == 1) = false := by rw [hre, h2]; rfl
          have HI0 : Hid (pairB (ll.drop (1 - 1)) = pairB ll) := rfl
          obtain ⟨Q, hQ⟩ : ∃ Q, pairB ll = Q := ⟨_, rfl⟩
          have HQ : Hid (pairB ll = Q) := hQ
          rw [hQ] at HI0
          clear hre hQ hR
          go_wp2
          go_loopw [12] (fun iv wr2 => ∃ i2 : Nat, i2 ≤ n + 1 ∧ i2 % 2 = 1 ∧ iv = .int .i64 (i2 : Int) ∧ Hid (pairB (ll.drop (i2 - 1)) = Q ∧ Below X.heap.size X wr2)) (fun iv _ => n + 2 - (intOf iv).toNat)
          case atStart => exact ⟨1, by omega, rfl, rfl, HI0.out, by first | exact HI.out.2 | exact HI.out.2.drew⟩
          case round =>
            clear HI0 r8 hd1 hxi
            obtain ⟨i2, hi2, hodd, rfl, HI2⟩ := hrel
            have r8 := (HR.out wr HI2.out.2).cell 8 rfl
            by_cases hlt2 : i2 < n
            · have hltz2 : (i2 : Int) < (n : Int) := by omega
              obtain ⟨b, off, hp, _, hb, hc⟩ := AtF.place (HL.out wr HI2.out.2) (k := i2) (by rw [ints_len, HN.out]; exact hlt2)
              subst hp
              obtain ⟨z, hz⟩ : ∃ z, ll[i2]? = some z := ⟨ll[i2]'(by rw [HN.out]; exact hlt2), List.getElem?_eq_getElem _⟩
              have hxc : wr.cell? ⟨b, off + i2, none⟩ = some (.int .i64 z) := hc _ _ (ints_get hz)
              have HZ : Hid (Q = (decide (1 ≤ z) && decide (z ≤ 3) && pairB (ll.drop (i2 + 2 - 1)))) := by show _ = _; rw [← HI2.out.1, pair_at hodd hz]
              clear hc hz
              by_cases h1 : z < 1
              · have hQf : Q = false := by rw [HZ.out, show decide (1 ≤ z) = false by simpa using h1]; rfl
                have hZf : Z = false := HI.out.1.n80 HX.out (HQ.out.trans hQf)
                have hPf : P = false := by rw [HO.out, hZf]; rfl
                subst hPf
                clear HZ
                go_wp2
                go_ret
                exact ⟨rfl, HW.out _ (by first | exact HI2.out.2 | exact HI2.out.2.drew)⟩
              · by_cases h3 : 3 < z
                · have hQf : Q = false := by rw [HZ.out, show decide (z ≤ 3) = false by simpa using h3]; simp
                  have hZf : Z = false := HI.out.1.n80 HX.out (HQ.out.trans hQf)
                  have hPf : P = false := by rw [HO.out, hZf]; rfl
                  subst hPf
                  clear HZ
                  go_wp2
                  go_ret
                  exact ⟨rfl, HW.out _ (by first | exact HI2.out.2 | exact HI2.out.2.drew)⟩
                · have HZ2 : Hid (pairB (ll.drop (i2 + 2 - 1)) = Q) := by
                    show _ = _
                    rw [HZ.out, show decide (1 ≤ z) = true by simp; omega, show decide (z ≤ 3) = true by simp; omega]
                    rfl
                  clear HZ
                  go_wp2
                  refine ⟨⟨i2 + 2, by omega, by omega, by go_num, HZ2.out, by first | exact HI2.out.2 | exact HI2.out.2.drew⟩, by simp [intOf]; omega⟩
            · have hge : ¬ (i2 : Int) < (n : Int) := by omega
              have HQt : Hid (Q = true) := by show _ = _; rw [← HI2.out.1]; exact pair_done hodd (by rw [HN.out]; exact h2) (by rw [HN.out]; omega)
              go_wp2
              refine ⟨⟨j + 1, i, s, t, 16, g, by omega, by omega, rfl, by go_num, by go_num, by go_num, rfl, by go_num, HI.out.1.c80 HX.out (HQ.out.trans HQt.out), HI2.out.2⟩, by simp [intOf]; omega⟩
        · have e2 : (Int.tmod (n : Int) 2 == 1) = true := by rw [hre, h2]; rfl
          have hZf : Z = false := HI.out.1.n80 HX.out (pair_odd ll (by rw [HN.out]; exact h2))
          have hPf : P = false := by rw [HO.out, hZf]; rfl
          subst hPf
          go_wp2
          go_ret
          exact ⟨rfl, HW.out _ (by first | exact HI.out.2 | exact HI.out.2.drew)⟩
      have hPl : Plainly x := ⟨e83, e89, e66, e84, e76, e73, e82, e80⟩
      have f83 : ((x.toNat : Int) == 83) = false := byte_int (n := 83) (by decide) e83
      have f89 : ((x.toNat : Int) == 89) = false := byte_int (n := 89) (by decide) e89
      have f66 : ((x.toNat : Int) == 66) = false := byte_int (n := 66) (by decide) e66
      have f84 : ((x.toNat : Int) == 84) = false := byte_int (n := 84) (by decide) e84
      have f76 : ((x.toNat : Int) == 76) = false := byte_int (n := 76) (by decide) e76
      have f73 : ((x.toNat : Int) == 73) = false := byte_int (n := 73) (by decide) e73
      have f82 : ((x.toNat : Int) == 82) = false := byte_int (n := 82) (by decide) e82
      have f80 : ((x.toNat : Int) == 80) = false := byte_int (n := 80) (by decide) e80
      have hi4 := HI.out.1.room HX.out hPl
      have HNx : Hid (takesB x.toNat (al.getD i 0) = true → Sc al ll sh Z Zs Zt Zl Zr (j + 1) (i + 1) s t m g) := fun h => HI.out.1.next HX.out hPl h
      have HFl : Hid (takesB x.toNat (al.getD i 0) = false → Z = false) := fun h => HI.out.1.fails HX.out hPl h
      have hR := HR.out wr HI.out.2
      clear hPl e83 e89 e66 e84 e76 e73 e82 e80
      have hi6 : i = 0 ∨ i = 1 ∨ i = 2 ∨ i = 3 ∨ i = 4 := by omega
      rw [HG.out] at HNx HFl
      generalize ((x.toNat : Nat) : Int) = xv at *
      rcases hi6 with rfl | rfl | rfl | rfl | rfl
      · have r1 := hR.cell 1 rfl
        have cT := fun W => rtakes_any xv a0 W
        replace HNx : Hid (takesB xv a0 = true → Sc al ll sh Z Zs Zt Zl Zr (j + 1) (0 + 1) s t m g) := HNx
        replace HFl : Hid (takesB xv a0 = false → Z = false) := HFl
        clear hR
        generalize takesB xv a0 = v at *
        cases v
        · have hPf : P = false := by rw [HO.out, HFl.out rfl]; rfl
          subst hPf
          go_wp2_with (go_at_call 14; refine (cT _).mono ?_; rintro e W2 ⟨rfl, hb2⟩)
          go_ret
          exact ⟨rfl, HW.out _ (on_trans HI.out.2 hb2)⟩
        · go_wp2_with (go_at_call 14; refine (cT _).mono ?_; rintro e W2 ⟨rfl, hb2⟩)
          refine ⟨⟨j + 1, 1, s, t, m, g, by omega, by omega, by go_num, rfl, rfl, rfl, rfl, by go_num, HNx.out (by first | rfl | trivial), on_trans HI.out.2 hb2⟩, by simp [intOf]; omega⟩
      · have r1 := hR.cell 2 rfl
        have cT := fun W => rtakes_any xv a1 W
        replace HNx : Hid (takesB xv a1 = true → Sc al ll sh Z Zs Zt Zl Zr (j + 1) (1 + 1) s t m g) := HNx
        replace HFl : Hid (takesB xv a1 = false → Z = false) := HFl
        clear hR
        generalize takesB xv a1 = v at *
        cases v
        · have hPf : P = false := by rw [HO.out, HFl.out rfl]; rfl
          subst hPf
          go_wp2_with (go_at_call 14; refine (cT _).mono ?_; rintro e W2 ⟨rfl, hb2⟩)
          go_ret
          exact ⟨rfl, HW.out _ (on_trans HI.out.2 hb2)⟩
        · go_wp2_with (go_at_call 14; refine (cT _).mono ?_; rintro e W2 ⟨rfl, hb2⟩)
          refine ⟨⟨j + 1, 2, s, t, m, g, by omega, by omega, by go_num, rfl, rfl, rfl, rfl, by go_num, HNx.out (by first | rfl | trivial), on_trans HI.out.2 hb2⟩, by simp [intOf]; omega⟩
      · have r1 := hR.cell 3 rfl
        have cT := fun W => rtakes_any xv a2 W
        replace HNx : Hid (takesB xv a2 = true → Sc al ll sh Z Zs Zt Zl Zr (j + 1) (2 + 1) s t m g) := HNx
        replace HFl : Hid (takesB xv a2 = false → Z = false) := HFl
        clear hR
        generalize takesB xv a2 = v at *
        cases v
        · have hPf : P = false := by rw [HO.out, HFl.out rfl]; rfl
          subst hPf
          go_wp2_with (go_at_call 14; refine (cT _).mono ?_; rintro e W2 ⟨rfl, hb2⟩)
          go_ret
          exact ⟨rfl, HW.out _ (on_trans HI.out.2 hb2)⟩
        · go_wp2_with (go_at_call 14; refine (cT _).mono ?_; rintro e W2 ⟨rfl, hb2⟩)
          refine ⟨⟨j + 1, 3, s, t, m, g, by omega, by omega, by go_num, rfl, rfl, rfl, rfl, by go_num, HNx.out (by first | rfl | trivial), on_trans HI.out.2 hb2⟩, by simp [intOf]; omega⟩
      · have r1 := hR.cell 4 rfl
        have cT := fun W => rtakes_any xv a3 W
        replace HNx : Hid (takesB xv a3 = true → Sc al ll sh Z Zs Zt Zl Zr (j + 1) (3 + 1) s t m g) := HNx
        replace HFl : Hid (takesB xv a3 = false → Z = false) := HFl
        clear hR
        generalize takesB xv a3 = v at *
        cases v
        · have hPf : P = false := by rw [HO.out, HFl.out rfl]; rfl
          subst hPf
          go_wp2_with (go_at_call 14; refine (cT _).mono ?_; rintro e W2 ⟨rfl, hb2⟩)
          go_ret
          exact ⟨rfl, HW.out _ (on_trans HI.out.2 hb2)⟩
        · go_wp2_with (go_at_call 14; refine (cT _).mono ?_; rintro e W2 ⟨rfl, hb2⟩)
          refine ⟨⟨j + 1, 4, s, t, m, g, by omega, by omega, by go_num, rfl, rfl, rfl, rfl, by go_num, HNx.out (by first | rfl | trivial), on_trans HI.out.2 hb2⟩, by simp [intOf]; omega⟩
      · have r1 := hR.cell 5 rfl
        have cT := fun W => rtakes_any xv a4 W
        replace HNx : Hid (takesB xv a4 = true → Sc al ll sh Z Zs Zt Zl Zr (j + 1) (4 + 1) s t m g) := HNx
        replace HFl : Hid (takesB xv a4 = false → Z = false) := HFl
        clear hR
        generalize takesB xv a4 = v at *
        cases v
        · have hPf : P = false := by rw [HO.out, HFl.out rfl]; rfl
          subst hPf
          go_wp2_with (go_at_call 14; refine (cT _).mono ?_; rintro e W2 ⟨rfl, hb2⟩)
          go_ret
          exact ⟨rfl, HW.out _ (on_trans HI.out.2 hb2)⟩
        · go_wp2_with (go_at_call 14; refine (cT _).mono ?_; rintro e W2 ⟨rfl, hb2⟩)
          refine ⟨⟨j + 1, 5, s, t, m, g, by omega, by omega, by go_num, rfl, rfl, rfl, rfl, by go_num, HNx.out (by first | rfl | trivial), on_trans HI.out.2 hb2⟩, by simp [intOf]; omega⟩
    · have hge : ¬ (j : Int) < (N : Int) := by omega
      obtain ⟨hz0, hz1, hz2, hz3, hz4⟩ := HI.out.1.ends (by rw [HNS.out]; omega)
      rw [HAD.out] at hz0
      have HI0 : Hid (([a0, a1, a2, a3, a4].drop i).all (fun n => n == 0) = Z) := hz0
      have HBw : Hid (Below X.heap.size X wr) := HI.out.2
      subst hz1 hz2 hz3 hz4
      clear HI hz0 hix
      go_wp2
      go_loopw [13] (fun iv wr2 => ∃ i2 : Nat, i2 ≤ 5 ∧ iv = .int .i64 (i2 : Int) ∧ Hid (([a0, a1, a2, a3, a4].drop i2).all (fun n => n == 0) = Z ∧ Below X.heap.size X wr2)) (fun iv _ => 5 - (intOf iv).toNat)
      case atStart => exact ⟨i, hi5, rfl, HI0.out, by first | exact HBw.out | exact HBw.out.drew⟩
      case round =>
        clear HI0 HBw hd1
        obtain ⟨i2, hi2, rfl, HI2⟩ := hrel
        have hR := HR.out wr HI2.out.2
        have hi6 : i2 = 0 ∨ i2 = 1 ∨ i2 = 2 ∨ i2 = 3 ∨ i2 = 4 ∨ i2 = 5 := by omega
        rcases hi6 with rfl | rfl | rfl | rfl | rfl | rfl
        · have r1 := hR.cell 1 rfl
          have HZ : Hid (((a0 == 0) && ([a0, a1, a2, a3, a4].drop 1).all (fun n => n == 0)) = Z) := HI2.out.1
          clear hR
          by_cases h0 : a0 = 0
          · have h0b : (a0 != 0) = false := by rw [h0]; rfl
            have HZ2 : Hid (([a0, a1, a2, a3, a4].drop 1).all (fun n => n == 0) = Z) := by show _ = _; rw [← HZ.out, h0]; simp
            clear h0
            go_wp2
            refine ⟨⟨1, by omega, by go_num, HZ2.out, HI2.out.2⟩, by simp [intOf]⟩
          · have h0b : (a0 != 0) = true := by simpa using h0
            have hZf : Z = false := by rw [← HZ.out, show (a0 == 0) = false by simpa using h0]; rfl
            have hPf : P = false := by rw [HO.out, hZf]; rfl
            subst hPf
            clear h0
            go_wp2
            go_ret
            exact ⟨rfl, HW.out _ HI2.out.2⟩
        · have r1 := hR.cell 2 rfl
          have HZ : Hid (((a1 == 0) && ([a0, a1, a2, a3, a4].drop 2).all (fun n => n == 0)) = Z) := HI2.out.1
          clear hR
          by_cases h0 : a1 = 0
          · have h0b : (a1 != 0) = false := by rw [h0]; rfl
            have HZ2 : Hid (([a0, a1, a2, a3, a4].drop 2).all (fun n => n == 0) = Z) := by show _ = _; rw [← HZ.out, h0]; simp
            clear h0
            go_wp2
            refine ⟨⟨2, by omega, by go_num, HZ2.out, HI2.out.2⟩, by simp [intOf]⟩
          · have h0b : (a1 != 0) = true := by simpa using h0
            have hZf : Z = false := by rw [← HZ.out, show (a1 == 0) = false by simpa using h0]; rfl
            have hPf : P = false := by rw [HO.out, hZf]; rfl
            subst hPf
            clear h0
            go_wp2
            go_ret
            exact ⟨rfl, HW.out _ HI2.out.2⟩
        · have r1 := hR.cell 3 rfl
          have HZ : Hid (((a2 == 0) && ([a0, a1, a2, a3, a4].drop 3).all (fun n => n == 0)) = Z) := HI2.out.1
          clear hR
          by_cases h0 : a2 = 0
          · have h0b : (a2 != 0) = false := by rw [h0]; rfl
            have HZ2 : Hid (([a0, a1, a2, a3, a4].drop 3).all (fun n => n == 0) = Z) := by show _ = _; rw [← HZ.out, h0]; simp
            clear h0
            go_wp2
            refine ⟨⟨3, by omega, by go_num, HZ2.out, HI2.out.2⟩, by simp [intOf]⟩
          · have h0b : (a2 != 0) = true := by simpa using h0
            have hZf : Z = false := by rw [← HZ.out, show (a2 == 0) = false by simpa using h0]; rfl
            have hPf : P = false := by rw [HO.out, hZf]; rfl
            subst hPf
            clear h0
            go_wp2
            go_ret
            exact ⟨rfl, HW.out _ HI2.out.2⟩
        · have r1 := hR.cell 4 rfl
          have HZ : Hid (((a3 == 0) && ([a0, a1, a2, a3, a4].drop 4).all (fun n => n == 0)) = Z) := HI2.out.1
          clear hR
          by_cases h0 : a3 = 0
          · have h0b : (a3 != 0) = false := by rw [h0]; rfl
            have HZ2 : Hid (([a0, a1, a2, a3, a4].drop 4).all (fun n => n == 0) = Z) := by show _ = _; rw [← HZ.out, h0]; simp
            clear h0
            go_wp2
            refine ⟨⟨4, by omega, by go_num, HZ2.out, HI2.out.2⟩, by simp [intOf]⟩
          · have h0b : (a3 != 0) = true := by simpa using h0
            have hZf : Z = false := by rw [← HZ.out, show (a3 == 0) = false by simpa using h0]; rfl
            have hPf : P = false := by rw [HO.out, hZf]; rfl
            subst hPf
            clear h0
            go_wp2
            go_ret
            exact ⟨rfl, HW.out _ HI2.out.2⟩
        · have r1 := hR.cell 5 rfl
          have HZ : Hid (((a4 == 0) && ([a0, a1, a2, a3, a4].drop 5).all (fun n => n == 0)) = Z) := HI2.out.1
          clear hR
          by_cases h0 : a4 = 0
          · have h0b : (a4 != 0) = false := by rw [h0]; rfl
            have HZ2 : Hid (([a0, a1, a2, a3, a4].drop 5).all (fun n => n == 0) = Z) := by show _ = _; rw [← HZ.out, h0]; simp
            clear h0
            go_wp2
            refine ⟨⟨5, by omega, by go_num, HZ2.out, HI2.out.2⟩, by simp [intOf]⟩
          · have h0b : (a4 != 0) = true := by simpa using h0
            have hZf : Z = false := by rw [← HZ.out, show (a4 == 0) = false by simpa using h0]; rfl
            have hPf : P = false := by rw [HO.out, hZf]; rfl
            subst hPf
            clear h0
            go_wp2
            go_ret
            exact ⟨rfl, HW.out _ HI2.out.2⟩
        · have hZt : Z = true := by rw [← HI2.out.1]; rfl
          have r6 := hR.cell 6 rfl
          have r7 := hR.cell 7 rfl
          have r8 := hR.cell 8 rfl
          clear hR
          by_cases q1 : (s : Int) < (sS.size : Int)
          · have hPf : P = false := by rw [HO.out, show decide (sS.size ≤ s) = false by simp; omega]; simp
            subst hPf
            go_wp2
            go_ret
            exact ⟨rfl, HW.out _ (by first | exact HI2.out.2 | exact HI2.out.2.drew)⟩
          · by_cases q2 : (t : Int) < (sT.size : Int)
            · have hPf : P = false := by rw [HO.out, show decide (sT.size ≤ t) = false by simp; omega]; simp
              subst hPf
              go_wp2
              go_ret
              exact ⟨rfl, HW.out _ (by first | exact HI2.out.2 | exact HI2.out.2.drew)⟩
            · by_cases q3 : (m : Int) < (n : Int)
              · have hPf : P = false := by rw [HO.out, show decide (n ≤ m) = false by simp; omega]; simp
                subst hPf
                go_wp2
                go_ret
                exact ⟨rfl, HW.out _ (by first | exact HI2.out.2 | exact HI2.out.2.drew)⟩
              · have HO2 : Hid (P = (!g || decide (n = 2))) := by
                  show _ = _
                  rw [HO.out, hZt, show decide (sS.size ≤ s) = true by simp; omega, show decide (sT.size ≤ t) = true by simp; omega, show decide (n ≤ m) = true by simp; omega]
                  simp
                cases g
                · have hPt : P = true := by rw [HO2.out]; rfl
                  subst hPt
                  go_wp2
                  go_ret
                  exact ⟨rfl, HW.out _ (by first | exact HI2.out.2 | exact HI2.out.2.drew)⟩
                · by_cases q4 : n = 2
                  · have hPt : P = true := by rw [HO2.out, q4]; rfl
                    have q4z : ((n : Int) != 2) = false := by rw [q4]; rfl
                    subst hPt
                    clear q4
                    go_wp2
                    go_ret
                    exact ⟨rfl, HW.out _ (by first | exact HI2.out.2 | exact HI2.out.2.drew)⟩
                  · have hPt : P = false := by rw [HO2.out, show decide (n = 2) = false by simpa using q4]; rfl
                    have q4z : ((n : Int) != 2) = true := by simp; omega
                    subst hPt
                    go_wp2
                    go_ret
                    exact ⟨rfl, HW.out _ (by first | exact HI2.out.2 | exact HI2.out.2.drew)⟩

theorem rcheck_any (r : Rq) (p : Option Addr) (c : Nat) (w : World) (hat : At w p (ints r.l)) (hl : r.l.length ≤ 1000000) :
    Calls Tryz.prog 11 #[rqV r p c] w fun e W => e = .returned (.int .i64 (chk r)) ∧ Below w.heap.size w W := by
  rcases kcases r.no with ⟨k, hk⟩ | hk
  · rw [chk_at hk]; exact rcheck_at k r hk p c w hat hl
  · rw [chk_no hk]; exact rcheck_no r hk p c w

end Go.Proofs.YtgolihipinjfmaaGreatDoor.J
