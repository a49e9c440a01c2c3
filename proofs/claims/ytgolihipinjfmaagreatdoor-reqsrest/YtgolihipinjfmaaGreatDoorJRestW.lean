/- ReqsRest, walked. -/
import Derived.Test.YtgolihipinjfmaaGreatDoorJLaw
import Derived.Test.YtgolihipinjfmaaGreatDoorJRCheck
namespace Go.Proofs.YtgolihipinjfmaaGreatDoor.J
open Go Go.RowKit Go.Shelf
open Go.Proofs.YtgolihipinjfmaaGreatDoor.C (cshape cname cgate cneed0 cneed1 byt byt_list byt_size row_size callV callC noV noC rget_at rget_no)

theorem elemU8 : ElemOk Tryz.prog 40 5 (.int .u8 0) 1 := ⟨Tryz.underlying40, by kernel_rfl, rfl, by decide⟩
/-- Letters, as values. -/
def lv (l : List UInt8) : List Value := l.map fun b => .int .u8 (b.toNat : Int)
theorem lv_len (l : List UInt8) : (lv l).length = l.length := by simp [lv]
theorem lv_snoc (l : List UInt8) (x : UInt8) : lv (l ++ [x]) = lv l ++ [.int .u8 (x.toNat : Int)] := by simp [lv]
def isLow (b : UInt8) : Bool := decide (97 ≤ b.toNat)
theorem low_is : ∀ k : Fin 64, (cshape k).filter isLow = sm k := by decide +kernel
theorem low_take {sh : List UInt8} {j : Nat} {x : UInt8} (hx : sh[j]? = some x) : (sh.take (j + 1)).filter isLow = if isLow x then (sh.take j).filter isLow ++ [x] else (sh.take j).filter isLow := by
  have hlt := (List.getElem?_eq_some_iff.1 hx).1
  rw [List.take_add_one, hx, List.filter_append]
  cases h : isLow x <;> simp [h]
theorem lv_get {l : List UInt8} {j : Nat} (hj : j < l.length) : (lv l)[j]? = some (.int .u8 (ltr l j)) := by
  rw [ltr_at (List.getElem?_eq_getElem hj)]
  simp [lv, hj]
theorem rem_five (a : Nat) : Int.tmod (a : Int) 5 = ((a % 5 : Nat) : Int) := (Int.ofNat_tmod a 5).symm

/-- A request without a call. -/
theorem rest_none (s : Rq) (q : Option Addr) (c2 : Nat) (w : World) (hk : ∀ k : Fin 64, (k.val : Int) + 1 ≠ s.no) (hq : At w q (ints s.l)) (hl : s.l.length ≤ 1000000) (he : Env w) :
    (∀ W, Below w.heap.size w W → Calls Tryz.prog 17 #[.int .i64 s.no] W fun e V => e = .returned (.tuple #[noV, .bool false]) ∧ Below W.heap.size W V) ∧
    (∀ W, Below w.heap.size w W → Calls Tryz.prog 10 #[rqV s q c2] W (OwnPost s W)) ∧
    (∀ W p c, Below w.heap.size w W → At W p (ints s.l) → Calls Tryz.prog 9 #[rqV s p c] W fun e V => e = .returned (.int .i64 78) ∧ Below W.heap.size W V) :=
  ⟨fun W _ => rget_no s.no hk W, fun W h => own_any s q c2 W (AtF.on hq h) hl, fun W p c h h2 => by
    have := check_any s p c W h2 hl (he.below h)
    rwa [chk_no hk] at this⟩

/-- A request with a number in another's place. -/
def setA (s : Rq) (n : Int) : Nat → Rq
  | 0 => { s with a0 := n }
  | 1 => { s with a1 := n }
  | 2 => { s with a2 := n }
  | 3 => { s with a3 := n }
  | _ => { s with a4 := n }
theorem setA_l (s : Rq) (n : Int) (K : Nat) : (setA s n K).l = s.l := by
  match K with
  | 0 => rfl
  | 1 => rfl
  | 2 => rfl
  | 3 => rfl
  | _ + 4 => rfl
theorem setA_no (s : Rq) (n : Int) (K : Nat) : (setA s n K).no = s.no := by
  match K with
  | 0 => rfl
  | 1 => rfl
  | 2 => rfl
  | 3 => rfl
  | _ + 4 => rfl
theorem setA_at (s : Rq) (n : Int) (K : Nat) (hK : K < 5) : (setA s n K).a.getD K 0 = n := by
  match K, hK with
  | 0, _ => rfl
  | 1, _ => rfl
  | 2, _ => rfl
  | 3, _ => rfl
  | 4, _ => rfl
theorem setA_bad {k : Fin 64} {s : Rq} (hk : (k.val : Int) + 1 = s.no) {n : Int} {K : Nat} (hK : K < 5) (h : fitB (ltr (sm k) K) n = false) : chk (setA s n K) = 22 := by
  have h1 : (k.val : Int) + 1 = (setA s n K).no := by rw [setA_no]; exact hk
  rw [chk_at h1, num_bad hK (by rw [setA_at s n K hK]; exact h)]
  rfl


set_option maxRecDepth 100000 in
set_option maxHeartbeats 4000000 in
theorem rest_walk (r : Rq) (p : Option Addr) (c : Nat) (a : Nat) (_ha : a < 256) (n : Int) (w : World) (hat : At w p (ints r.l)) (hc : r.l.length ≤ c) (he : Env w) :
    Calls Tryz.prog 6 #[rqV r p c, .int .u8 (a : Int), .int .i64 n] w fun e W => e = .returned (.bool true) ∧ Below w.heap.size w W := by
  have hB1 := on_alloc w (.cells (rqC r p c).toArray 25)
  have bB1 := Blk.new w 25 (rqC r p c)
  have cS := short_any r p c (w.alloc (.cells (rqC r p c).toArray 25)) (AtF.on hat hB1) hc
  have hl := cutR_len r
  have hs1 : w.heap.size < (w.alloc (.cells (rqC r p c).toArray 25)).heap.size := by simp
  obtain ⟨⟨b0, b1, b2, b3, b4, b5, b6, b7, b8⟩, _⟩ := rq_cells bB1
  have hEnv := fun W (h : Below w.heap.size w W) => he.below h
  clear hat he hc
  generalize cutR r = s at *
  have hl' : s.l.length ≤ 1000000 := by omega
  unfold rqV rqC at *
  go_enter Tryz.func6, Tryz.ntmps6
  go_upto_region 2 with (go_at_call 8; refine cS.mono ?_; rintro e Y ⟨q, c2, rfl, hq, hc2, hb⟩; unfold rqV rqC; have bY := bB1.on hb; obtain ⟨_, f0, f1, f2, f3, f4, f5, f6, f7, f8⟩ := rq_cells bY; obtain ⟨⟨y0, y1, y2, y3, y4, y5, y6, y7, y8⟩, _⟩ := rq_cells bY)
  have bX := (bB1.on hb).put (rqC s q c2) rfl
  have hw := below_but (on_trans hB1 hb) (but_putL w.heap.size (rqC s q c2) Y 0) (Nat.le_refl _)
  have hq2 := (hq.but (but_putL w.heap.size (rqC s q c2) Y 0) hs1).less (show w.heap.size + 1 ≤ _ from hs1)
  clear b0 b1 b2 b3 b4 b5 b6 b7 b8 cS bB1 hB1 hb hq y0 y1 y2 y3 y4 y5 y6 y7 y8 f0 f1 f2 f3 f4 f5 f6 f7 f8 bY hs1
  have HX : ∃ X, putL Y w.heap.size 0 (rqC s q c2) = X := ⟨_, rfl⟩
  obtain ⟨X, hX⟩ := HX
  rw [hX] at bX hw hq2
  unfold rqC at hX
  simp only [putL] at hX
  rw [hX]
  clear hX
  have hBX := bX.lt
  have HLv : Hid (∀ W, Below w.heap.size w W → Calls Tryz.prog 12 #[] W fun e V => e = .returned (.bool true) ∧ Below W.heap.size W V) := fun W h => lives_any W (hEnv W h)
  obtain ⟨⟨x0, x1, x2, x3, x4, x5, x6, x7, x8⟩, _⟩ := rq_cells bX
  rcases kcases s.no with ⟨k, hk⟩ | hk
  · have cG := rget_at k X
    rw [hk] at cG
    have HBad : Hid (∀ K, K < 5 → fitB (ltr (sm k) K) n = false → ∀ W q3 c3, Below w.heap.size w W → At W q3 (ints s.l) → Calls Tryz.prog 9 #[rqV (setA s n K) q3 c3] W fun e V => e = .returned (.int .i64 22) ∧ Below W.heap.size W V) := fun K hK hf W q3 c3 h1 h2 => by
      have := check_any (setA s n K) q3 c3 W (by rw [setA_l]; exact h2) (by rw [setA_l]; exact hl') (hEnv W h1)
      rwa [setA_bad hk hK hf] at this
    have HOw : Hid (∀ K, ∀ W, At W q (ints s.l) → Calls Tryz.prog 10 #[rqV (setA s n K) q c2] W fun e V => ∃ q3 c3, e = .returned (rqV (setA s n K) q3 c3) ∧ At V q3 (ints s.l) ∧ Below W.heap.size W V) := fun K W h => by
      refine (own_any (setA s n K) q c2 W (by rw [setA_l]; exact h) (by rw [setA_l]; exact hl')).mono ?_
      rintro e V ⟨q3, c3, h1, h2, _, h3⟩
      rw [setA_l] at h2
      exact ⟨q3, c3, h1, h2.at, h3⟩
    unfold callV callC at cG
    have hsz : (byt (cshape k)).size = (cshape k).length := byt_size _
    have hix := fun j hj => idx_at (cshape k) j hj (j : Int) rfl
    have HSH : Hid ((cshape k).length ≤ 20) := (row_size k).2
    have HSm : Hid ((cshape k).filter isLow = sm k) := low_is k
    have HS5 : Hid ((sm k).length ≤ 5) := (shape_parts k).2.1
    have HFit : Hid (∀ K n, (K < (sm k).length → fitB (ltr (sm k) K) n = takesB (ltr (sm k) K) n) ∧ (¬ K < (sm k).length → fitB (ltr (sm k) K) n = (n == 0))) := fun K n => ⟨fun h => by
      have hz := List.all_eq_true.1 (shape_parts k).2.2.2.1 (sm k)[K] (List.getElem_mem h)
      simp only [Bool.and_eq_true, bne_iff_ne] at hz
      refine fit_letter ?_
      rw [ltr_at (List.getElem?_eq_getElem h)]
      intro e
      exact hz.2 (by apply UInt8.toNat_inj.1; show (sm k)[K].toNat = 46; omega), fun h => by rw [ltr_no (by omega), fit_none]⟩
    generalize sm k = S5 at *
    generalize byt (cname k) = nm at *
    generalize byt (cshape k) = sb at *
    generalize cshape k = sh at *
    generalize cgate k = gt at *
    generalize ((cneed0 k : Nat) : Int) = n0 at *
    generalize ((cneed1 k : Nat) : Int) = n1 at *
    obtain ⟨N, hN⟩ : ∃ N, sh.length = N := ⟨_, rfl⟩
    have HNS : Hid (sh.length = N) := hN
    rw [hN] at hsz hix
    have hN20 : N ≤ 20 := hN ▸ HSH.out
    clear hN hk
    go_upto_region 5 with (go_at_call 17; refine cG.mono ?_; rintro e Z ⟨rfl, hbZ⟩)
    have hV1 := hbZ.alloc hbZ.size (.cells #[.string nm, .string sb, .int .i64 gt, .int .u32 n0, .int .u32 n1] 37)
    have bDZ := Blk.new Z 37 [.string nm, .string sb, .int .i64 gt, .int .u32 n0, .int .u32 n1]
    obtain ⟨D, hD⟩ : ∃ D, Z.heap.size = D := ⟨_, rfl⟩
    obtain ⟨V, hVV⟩ : ∃ V, Z.alloc (.cells #[.string nm, .string sb, .int .i64 gt, .int .u32 n0, .int .u32 n1] 37) = V := ⟨_, rfl⟩
    rw [hVV] at hV1 bDZ ⊢
    rw [hD] at bDZ ⊢
    have bV := bX.on hV1
    have hqV := hq2.on hV1
    have hwV := hw.trans (hV1.mono hw.size)
    clear hD hVV x0 x1 x2 x3 x4 x5 x6 x7 x8 cG hbZ bX hq2 hw hBX hEnv
    have HD1 : Hid (∀ W, Below V.heap.size V W → W.cell? ⟨D, 1, none⟩ = some (.string sb)) := fun W h => (bDZ.on h).cell 1 rfl
    have HE0 : Hid (OwnV V.heap.size 5 (V.alloc (.cells #[] 5)) (.slice (some ⟨V.heap.size, 0, none⟩) 0 0) (lv ((sh.take 0).filter isLow)) ∧ Below V.heap.size V (V.alloc (.cells #[] 5))) := ⟨by simpa [lv] using ownV_empty V V.heap.size _ (Nat.le_refl _), on_alloc _ _⟩
    go_wp2
    go_loopw [9, 10] (fun v9 v10 wr => ∃ (j : Nat) (u : Value), u = v9 ∧ j ≤ N ∧ v10 = .int .i64 (j : Int) ∧ Hid (OwnV V.heap.size 5 wr u (lv ((sh.take j).filter isLow)) ∧ Below V.heap.size V wr)) (fun _ v10 _ => N - (intOf v10).toNat)
    case atStart => exact ⟨0, _, rfl, Nat.zero_le _, rfl, HE0.out⟩
    case round =>
      clear HE0
      obtain ⟨j, u, hu, hj, rfl, HI⟩ := hrel
      subst hu
      have hd1 := HD1.out wr HI.out.2
      by_cases hlt : j < N
      · have hltz : (j : Int) < (N : Int) := by omega
        obtain ⟨x, hx0⟩ : ∃ x, sh[j]? = some x := ⟨sh[j]'(by rw [HNS.out]; exact hlt), List.getElem?_eq_getElem _⟩
        have hxi := hix j hlt
        rw [ltr_at hx0] at hxi
        have HT := low_take hx0
        have hlen : ((sh.take j).filter isLow).length ≤ 20 := Nat.le_trans (List.length_filter_le _ _) (by simp; omega)
        clear hx0 hix
        cases h97 : isLow x
        · have hx97 : ¬ (97 : Int) ≤ (x.toNat : Int) := by simp [isLow] at h97; omega
          rw [h97] at HT
          have HI2 : Hid (OwnV V.heap.size 5 wr u (lv ((sh.take (j + 1)).filter isLow))) := by show OwnV _ _ _ _ _; rw [HT]; exact HI.out.1
          clear HT h97
          go_wp2
          exact ⟨⟨j + 1, _, rfl, by omega, by go_num, HI2.out, HI.out.2⟩, by simp [intOf]; omega⟩
        · have hx97 : (97 : Int) ≤ (x.toNat : Int) := by simp [isLow] at h97; omega
          rw [h97, if_pos rfl] at HT
          obtain ⟨v', W', hrun, hO2, hB2⟩ := append_one elemU8 V.heap.size _ (lv ((sh.take j).filter isLow)) (.int .u8 (x.toNat : Int)) wr (by rw [lv_len]; omega) rfl HI.out.1 HI.out.2.size
          have HI2 : Hid (OwnV V.heap.size 5 W' v' (lv ((sh.take (j + 1)).filter isLow)) ∧ Below V.heap.size V W') := ⟨by rw [HT, lv_snoc]; exact hO2, HI.out.2.trans hB2⟩
          obtain ⟨p9, c9, h9, _, _⟩ := ownV_at HI.out.1
          rw [lv_len] at h9
          have hl20 : ((sh.take j).filter isLow).length ≤ 20 := hlen
          generalize ((sh.take j).filter isLow).length = l9 at *
          have hd2 : ∀ v, (wr.alloc (.cells #[v] 5)).cell? ⟨D, 1, none⟩ = some (.string sb) := fun v => HD1.out _ (HI.out.2.alloc HI.out.2.size _)
          subst h9
          clear HT h97 hO2 hB2 hlen
          generalize ((x.toNat : Nat) : Int) = xv at *
          go_wp2_with (at_builtin; refine wpList_run_append (by rfl) _ _ _ (by rfl) _ _ (by rfl) (by rfl) hrun ?_)
          exact ⟨⟨j + 1, _, rfl, by omega, by go_num, HI2.out⟩, by simp [intOf]; omega⟩
      · have hge : ¬ (j : Int) < (N : Int) := by omega
        go_upto_region 11 with fail
        have HO : Hid (OwnV V.heap.size 5 wr u (lv S5)) := by
          show OwnV _ _ _ _ _
          have := HI.out.1
          rwa [List.take_of_length_le (by rw [HNS.out]; omega), HSm.out] at this
        have hbV : Below V.heap.size V wr := HI.out.2
        obtain ⟨p9, c9, h9, hat9, _⟩ := ownV_at HO.out
        rw [lv_len] at h9
        subst h9
        have bW := bV.on hbV
        have hqW := hqV.on hbV
        have hwW := hwV.trans (hbV.mono hwV.size)
        have hlv := fun j (hj : j < S5.length) => lv_get hj
        have hBl : w.heap.size < V.heap.size := bV.lt
        have hre := rem_five a
        have hK5 : a % 5 < 5 := Nat.mod_lt _ (by decide)
        obtain ⟨m, hm⟩ : ∃ m, S5.length = m := ⟨_, rfl⟩
        have HM : Hid (S5.length = m) := hm
        have hm5 : m ≤ 5 := hm ▸ HS5.out
        rw [hm] at hlv HFit ⊢
        clear hm HI hix hd1 HO hbV bV hqV hwV
        generalize a % 5 = K at *
        unfold rqC at bW
        have hK6 : K = 0 ∨ K = 1 ∨ K = 2 ∨ K = 3 ∨ K = 4 := by omega
        rcases hK6 with rfl | rfl | rfl | rfl | rfl
        · have xk := bW.cell 1 rfl
          have fk := bW.free 1
          have bT := bW.set 1 (.int .i64 n)
          have kT := but_set wr w.heap.size 1 (.int .i64 n)
          have hwT := below_but hwW kT (Nat.le_refl _)
          have hqT := (hqW.but kT (by omega)).at
          have h9T := hat9.but kT hBl
          simp only [List.set_cons_succ, List.set_cons_zero] at bT
          have HEnd : Hid (∀ W, Below w.heap.size w W → Calls Tryz.prog 12 #[] W fun e U => e = .returned (.bool true) ∧ Below W.heap.size W U) := HLv.out
          replace hre : Int.tmod (a : Int) 5 = 0 := hre
          go_upto_region 13 with fail
          obtain ⟨T, hT⟩ : ∃ T, wr.setCell ⟨w.heap.size, 1, none⟩ (.int .i64 n) = T := ⟨_, rfl⟩
          rw [hT] at bT hwT hqT h9T ⊢
          clear xk fk kT hT hre
          obtain ⟨hf1, hf2⟩ := HFit.out 0 n
          by_cases hKm : 0 < m
          · have hKz : ¬ (m : Int) ≤ 0 := by omega
            have hKy : (0 : Int) < (m : Int) := by omega
            obtain ⟨b9, o9, hp9, _, hb9, hc9⟩ := h9T.place (k := 0) (by rw [lv_len, HM.out]; exact hKm)
            subst hp9
            have xl : T.cell? ⟨b9, o9, none⟩ = some (.int .u8 (ltr S5 0)) := hc9 _ _ (hlv 0 hKm)
            have cT := fun W => rtakes_any (ltr S5 0) n W
            have hf := hf1 hKm
            clear hf1 hf2 hc9 hlv h9T
            generalize hyl : ltr S5 0 = y at *
            have HB2 := fun h => HBad.out 0 (by decide) h
            rw [hyl] at HB2
            rw [hf] at HB2
            generalize takesB y n = v at *
            clear hyl hf
            cases v
            · have HB3 : Hid (∀ W q3 c3, Below w.heap.size w W → At W q3 (ints s.l) → Calls Tryz.prog 9 #[rqV (setA s n 0) q3 c3] W fun e V => e = .returned (.int .i64 22) ∧ Below W.heap.size W V) := HB2 rfl
              clear HB2
              go_upto_region 14 with (go_at_call 14; refine (cT _).mono ?_; rintro e T1 ⟨rfl, hb1⟩)
              have bT1 := bT.on hb1
              have hwT1 := on_trans hwT hb1
              have cO := HOw.out 0 T1 (AtF.on hqT hb1)
              obtain ⟨⟨z0, z1, z2, z3, z4, z5, z6, z7, z8⟩, _⟩ := rq_cells bT1
              unfold rqV rqC setA at cO HB3
              go_wp2_with (first | (go_at_call 10; refine cO.mono ?_; rintro e T2 ⟨q3, c3, rfl, hq3, hb2⟩; have hw2 := on_trans hwT1 hb2; have cK := HB3.out T2 q3 c3 hw2 hq3) | (go_at_call 9; refine cK.mono ?_; rintro e T3 ⟨rfl, hb3⟩; have hw3 := on_trans hw2 hb3) | (go_at_call 12; refine (HLv.out _ hw3).mono ?_; rintro e T4 ⟨rfl, hb4⟩))
              go_ret
              exact ⟨rfl, on_trans hw3 hb4⟩
            · go_wp2_with (first | (go_at_call 14; refine (cT _).mono ?_; rintro e T1 ⟨rfl, hb1⟩; have hwT1 := on_trans hwT hb1) | (go_at_call 12; refine (HLv.out _ hwT1).mono ?_; rintro e T2 ⟨rfl, hb2⟩))
              go_ret
              exact ⟨rfl, on_trans hwT1 hb2⟩
          · have hKz : (m : Int) ≤ 0 := by omega
            have hKy : ¬ (0 : Int) < (m : Int) := by omega
            have hf := hf2 hKm
            have HB2 := fun h => HBad.out 0 (by decide) h
            rw [hf] at HB2
            clear hf1 hf2 hlv h9T hf
            cases h0 : (n == 0)
            · have h0b : (n != 0) = true := by simpa using h0
              have HB3 : Hid (∀ W q3 c3, Below w.heap.size w W → At W q3 (ints s.l) → Calls Tryz.prog 9 #[rqV (setA s n 0) q3 c3] W fun e V => e = .returned (.int .i64 22) ∧ Below W.heap.size W V) := HB2 h0
              clear HB2 h0
              go_upto_region 14 with fail
              have bT1 := bT
              have hwT1 := hwT
              have cO := HOw.out 0 T hqT
              obtain ⟨⟨z0, z1, z2, z3, z4, z5, z6, z7, z8⟩, _⟩ := rq_cells bT1
              unfold rqV rqC setA at cO HB3
              go_wp2_with (first | (go_at_call 10; refine cO.mono ?_; rintro e T2 ⟨q3, c3, rfl, hq3, hb2⟩; have hw2 := on_trans hwT1 hb2; have cK := HB3.out T2 q3 c3 hw2 hq3) | (go_at_call 9; refine cK.mono ?_; rintro e T3 ⟨rfl, hb3⟩; have hw3 := on_trans hw2 hb3) | (go_at_call 12; refine (HLv.out _ hw3).mono ?_; rintro e T4 ⟨rfl, hb4⟩))
              go_ret
              exact ⟨rfl, on_trans hw3 hb4⟩
            · have h0b : (n != 0) = false := by simpa using h0
              clear HB2 h0
              go_wp2_with (go_at_call 12; refine (HLv.out _ hwT).mono ?_; rintro e T2 ⟨rfl, hb2⟩)
              go_ret
              exact ⟨rfl, on_trans hwT hb2⟩
        · have xk := bW.cell 2 rfl
          have fk := bW.free 2
          have bT := bW.set 2 (.int .i64 n)
          have kT := but_set wr w.heap.size 2 (.int .i64 n)
          have hwT := below_but hwW kT (Nat.le_refl _)
          have hqT := (hqW.but kT (by omega)).at
          have h9T := hat9.but kT hBl
          simp only [List.set_cons_succ, List.set_cons_zero] at bT
          have HEnd : Hid (∀ W, Below w.heap.size w W → Calls Tryz.prog 12 #[] W fun e U => e = .returned (.bool true) ∧ Below W.heap.size W U) := HLv.out
          replace hre : Int.tmod (a : Int) 5 = 1 := hre
          go_upto_region 13 with fail
          obtain ⟨T, hT⟩ : ∃ T, wr.setCell ⟨w.heap.size, 2, none⟩ (.int .i64 n) = T := ⟨_, rfl⟩
          rw [hT] at bT hwT hqT h9T ⊢
          clear xk fk kT hT hre
          obtain ⟨hf1, hf2⟩ := HFit.out 1 n
          by_cases hKm : 1 < m
          · have hKz : ¬ (m : Int) ≤ 1 := by omega
            have hKy : (1 : Int) < (m : Int) := by omega
            obtain ⟨b9, o9, hp9, _, hb9, hc9⟩ := h9T.place (k := 1) (by rw [lv_len, HM.out]; exact hKm)
            subst hp9
            have xl : T.cell? ⟨b9, o9 + 1, none⟩ = some (.int .u8 (ltr S5 1)) := hc9 _ _ (hlv 1 hKm)
            have cT := fun W => rtakes_any (ltr S5 1) n W
            have hf := hf1 hKm
            clear hf1 hf2 hc9 hlv h9T
            generalize hyl : ltr S5 1 = y at *
            have HB2 := fun h => HBad.out 1 (by decide) h
            rw [hyl] at HB2
            rw [hf] at HB2
            generalize takesB y n = v at *
            clear hyl hf
            cases v
            · have HB3 : Hid (∀ W q3 c3, Below w.heap.size w W → At W q3 (ints s.l) → Calls Tryz.prog 9 #[rqV (setA s n 1) q3 c3] W fun e V => e = .returned (.int .i64 22) ∧ Below W.heap.size W V) := HB2 rfl
              clear HB2
              go_upto_region 14 with (go_at_call 14; refine (cT _).mono ?_; rintro e T1 ⟨rfl, hb1⟩)
              have bT1 := bT.on hb1
              have hwT1 := on_trans hwT hb1
              have cO := HOw.out 1 T1 (AtF.on hqT hb1)
              obtain ⟨⟨z0, z1, z2, z3, z4, z5, z6, z7, z8⟩, _⟩ := rq_cells bT1
              unfold rqV rqC setA at cO HB3
              go_wp2_with (first | (go_at_call 10; refine cO.mono ?_; rintro e T2 ⟨q3, c3, rfl, hq3, hb2⟩; have hw2 := on_trans hwT1 hb2; have cK := HB3.out T2 q3 c3 hw2 hq3) | (go_at_call 9; refine cK.mono ?_; rintro e T3 ⟨rfl, hb3⟩; have hw3 := on_trans hw2 hb3) | (go_at_call 12; refine (HLv.out _ hw3).mono ?_; rintro e T4 ⟨rfl, hb4⟩))
              go_ret
              exact ⟨rfl, on_trans hw3 hb4⟩
            · go_wp2_with (first | (go_at_call 14; refine (cT _).mono ?_; rintro e T1 ⟨rfl, hb1⟩; have hwT1 := on_trans hwT hb1) | (go_at_call 12; refine (HLv.out _ hwT1).mono ?_; rintro e T2 ⟨rfl, hb2⟩))
              go_ret
              exact ⟨rfl, on_trans hwT1 hb2⟩
          · have hKz : (m : Int) ≤ 1 := by omega
            have hKy : ¬ (1 : Int) < (m : Int) := by omega
            have hf := hf2 hKm
            have HB2 := fun h => HBad.out 1 (by decide) h
            rw [hf] at HB2
            clear hf1 hf2 hlv h9T hf
            cases h0 : (n == 0)
            · have h0b : (n != 0) = true := by simpa using h0
              have HB3 : Hid (∀ W q3 c3, Below w.heap.size w W → At W q3 (ints s.l) → Calls Tryz.prog 9 #[rqV (setA s n 1) q3 c3] W fun e V => e = .returned (.int .i64 22) ∧ Below W.heap.size W V) := HB2 h0
              clear HB2 h0
              go_upto_region 14 with fail
              have bT1 := bT
              have hwT1 := hwT
              have cO := HOw.out 1 T hqT
              obtain ⟨⟨z0, z1, z2, z3, z4, z5, z6, z7, z8⟩, _⟩ := rq_cells bT1
              unfold rqV rqC setA at cO HB3
              go_wp2_with (first | (go_at_call 10; refine cO.mono ?_; rintro e T2 ⟨q3, c3, rfl, hq3, hb2⟩; have hw2 := on_trans hwT1 hb2; have cK := HB3.out T2 q3 c3 hw2 hq3) | (go_at_call 9; refine cK.mono ?_; rintro e T3 ⟨rfl, hb3⟩; have hw3 := on_trans hw2 hb3) | (go_at_call 12; refine (HLv.out _ hw3).mono ?_; rintro e T4 ⟨rfl, hb4⟩))
              go_ret
              exact ⟨rfl, on_trans hw3 hb4⟩
            · have h0b : (n != 0) = false := by simpa using h0
              clear HB2 h0
              go_wp2_with (go_at_call 12; refine (HLv.out _ hwT).mono ?_; rintro e T2 ⟨rfl, hb2⟩)
              go_ret
              exact ⟨rfl, on_trans hwT hb2⟩
        · have xk := bW.cell 3 rfl
          have fk := bW.free 3
          have bT := bW.set 3 (.int .i64 n)
          have kT := but_set wr w.heap.size 3 (.int .i64 n)
          have hwT := below_but hwW kT (Nat.le_refl _)
          have hqT := (hqW.but kT (by omega)).at
          have h9T := hat9.but kT hBl
          simp only [List.set_cons_succ, List.set_cons_zero] at bT
          have HEnd : Hid (∀ W, Below w.heap.size w W → Calls Tryz.prog 12 #[] W fun e U => e = .returned (.bool true) ∧ Below W.heap.size W U) := HLv.out
          replace hre : Int.tmod (a : Int) 5 = 2 := hre
          go_upto_region 13 with fail
          obtain ⟨T, hT⟩ : ∃ T, wr.setCell ⟨w.heap.size, 3, none⟩ (.int .i64 n) = T := ⟨_, rfl⟩
          rw [hT] at bT hwT hqT h9T ⊢
          clear xk fk kT hT hre
          obtain ⟨hf1, hf2⟩ := HFit.out 2 n
          by_cases hKm : 2 < m
          · have hKz : ¬ (m : Int) ≤ 2 := by omega
            have hKy : (2 : Int) < (m : Int) := by omega
            obtain ⟨b9, o9, hp9, _, hb9, hc9⟩ := h9T.place (k := 2) (by rw [lv_len, HM.out]; exact hKm)
            subst hp9
            have xl : T.cell? ⟨b9, o9 + 2, none⟩ = some (.int .u8 (ltr S5 2)) := hc9 _ _ (hlv 2 hKm)
            have cT := fun W => rtakes_any (ltr S5 2) n W
            have hf := hf1 hKm
            clear hf1 hf2 hc9 hlv h9T
            generalize hyl : ltr S5 2 = y at *
            have HB2 := fun h => HBad.out 2 (by decide) h
            rw [hyl] at HB2
            rw [hf] at HB2
            generalize takesB y n = v at *
            clear hyl hf
            cases v
            · have HB3 : Hid (∀ W q3 c3, Below w.heap.size w W → At W q3 (ints s.l) → Calls Tryz.prog 9 #[rqV (setA s n 2) q3 c3] W fun e V => e = .returned (.int .i64 22) ∧ Below W.heap.size W V) := HB2 rfl
              clear HB2
              go_upto_region 14 with (go_at_call 14; refine (cT _).mono ?_; rintro e T1 ⟨rfl, hb1⟩)
              have bT1 := bT.on hb1
              have hwT1 := on_trans hwT hb1
              have cO := HOw.out 2 T1 (AtF.on hqT hb1)
              obtain ⟨⟨z0, z1, z2, z3, z4, z5, z6, z7, z8⟩, _⟩ := rq_cells bT1
              unfold rqV rqC setA at cO HB3
              go_wp2_with (first | (go_at_call 10; refine cO.mono ?_; rintro e T2 ⟨q3, c3, rfl, hq3, hb2⟩; have hw2 := on_trans hwT1 hb2; have cK := HB3.out T2 q3 c3 hw2 hq3) | (go_at_call 9; refine cK.mono ?_; rintro e T3 ⟨rfl, hb3⟩; have hw3 := on_trans hw2 hb3) | (go_at_call 12; refine (HLv.out _ hw3).mono ?_; rintro e T4 ⟨rfl, hb4⟩))
              go_ret
              exact ⟨rfl, on_trans hw3 hb4⟩
            · go_wp2_with (first | (go_at_call 14; refine (cT _).mono ?_; rintro e T1 ⟨rfl, hb1⟩; have hwT1 := on_trans hwT hb1) | (go_at_call 12; refine (HLv.out _ hwT1).mono ?_; rintro e T2 ⟨rfl, hb2⟩))
              go_ret
              exact ⟨rfl, on_trans hwT1 hb2⟩
          · have hKz : (m : Int) ≤ 2 := by omega
            have hKy : ¬ (2 : Int) < (m : Int) := by omega
            have hf := hf2 hKm
            have HB2 := fun h => HBad.out 2 (by decide) h
            rw [hf] at HB2
            clear hf1 hf2 hlv h9T hf
            cases h0 : (n == 0)
            · have h0b : (n != 0) = true := by simpa using h0
              have HB3 : Hid (∀ W q3 c3, Below w.heap.size w W → At W q3 (ints s.l) → Calls Tryz.prog 9 #[rqV (setA s n 2) q3 c3] W fun e V => e = .returned (.int .i64 22) ∧ Below W.heap.size W V) := HB2 h0
              clear HB2 h0
              go_upto_region 14 with fail
              have bT1 := bT
              have hwT1 := hwT
              have cO := HOw.out 2 T hqT
              obtain ⟨⟨z0, z1, z2, z3, z4, z5, z6, z7, z8⟩, _⟩ := rq_cells bT1
              unfold rqV rqC setA at cO HB3
              go_wp2_with (first | (go_at_call 10; refine cO.mono ?_; rintro e T2 ⟨q3, c3, rfl, hq3, hb2⟩; have hw2 := on_trans hwT1 hb2; have cK := HB3.out T2 q3 c3 hw2 hq3) | (go_at_call 9; refine cK.mono ?_; rintro e T3 ⟨rfl, hb3⟩; have hw3 := on_trans hw2 hb3) | (go_at_call 12; refine (HLv.out _ hw3).mono ?_; rintro e T4 ⟨rfl, hb4⟩))
              go_ret
              exact ⟨rfl, on_trans hw3 hb4⟩
            · have h0b : (n != 0) = false := by simpa using h0
              clear HB2 h0
              go_wp2_with (go_at_call 12; refine (HLv.out _ hwT).mono ?_; rintro e T2 ⟨rfl, hb2⟩)
              go_ret
              exact ⟨rfl, on_trans hwT hb2⟩
        · have xk := bW.cell 4 rfl
          have fk := bW.free 4
          have bT := bW.set 4 (.int .i64 n)
          have kT := but_set wr w.heap.size 4 (.int .i64 n)
          have hwT := below_but hwW kT (Nat.le_refl _)
          have hqT := (hqW.but kT (by omega)).at
          have h9T := hat9.but kT hBl
          simp only [List.set_cons_succ, List.set_cons_zero] at bT
          have HEnd : Hid (∀ W, Below w.heap.size w W → Calls Tryz.prog 12 #[] W fun e U => e = .returned (.bool true) ∧ Below W.heap.size W U) := HLv.out
          replace hre : Int.tmod (a : Int) 5 = 3 := hre
          go_upto_region 13 with fail
          obtain ⟨T, hT⟩ : ∃ T, wr.setCell ⟨w.heap.size, 4, none⟩ (.int .i64 n) = T := ⟨_, rfl⟩
          rw [hT] at bT hwT hqT h9T ⊢
          clear xk fk kT hT hre
          obtain ⟨hf1, hf2⟩ := HFit.out 3 n
          by_cases hKm : 3 < m
          · have hKz : ¬ (m : Int) ≤ 3 := by omega
            have hKy : (3 : Int) < (m : Int) := by omega
            obtain ⟨b9, o9, hp9, _, hb9, hc9⟩ := h9T.place (k := 3) (by rw [lv_len, HM.out]; exact hKm)
            subst hp9
            have xl : T.cell? ⟨b9, o9 + 3, none⟩ = some (.int .u8 (ltr S5 3)) := hc9 _ _ (hlv 3 hKm)
            have cT := fun W => rtakes_any (ltr S5 3) n W
            have hf := hf1 hKm
            clear hf1 hf2 hc9 hlv h9T
            generalize hyl : ltr S5 3 = y at *
            have HB2 := fun h => HBad.out 3 (by decide) h
            rw [hyl] at HB2
            rw [hf] at HB2
            generalize takesB y n = v at *
            clear hyl hf
            cases v
            · have HB3 : Hid (∀ W q3 c3, Below w.heap.size w W → At W q3 (ints s.l) → Calls Tryz.prog 9 #[rqV (setA s n 3) q3 c3] W fun e V => e = .returned (.int .i64 22) ∧ Below W.heap.size W V) := HB2 rfl
              clear HB2
              go_upto_region 14 with (go_at_call 14; refine (cT _).mono ?_; rintro e T1 ⟨rfl, hb1⟩)
              have bT1 := bT.on hb1
              have hwT1 := on_trans hwT hb1
              have cO := HOw.out 3 T1 (AtF.on hqT hb1)
              obtain ⟨⟨z0, z1, z2, z3, z4, z5, z6, z7, z8⟩, _⟩ := rq_cells bT1
              unfold rqV rqC setA at cO HB3
              go_wp2_with (first | (go_at_call 10; refine cO.mono ?_; rintro e T2 ⟨q3, c3, rfl, hq3, hb2⟩; have hw2 := on_trans hwT1 hb2; have cK := HB3.out T2 q3 c3 hw2 hq3) | (go_at_call 9; refine cK.mono ?_; rintro e T3 ⟨rfl, hb3⟩; have hw3 := on_trans hw2 hb3) | (go_at_call 12; refine (HLv.out _ hw3).mono ?_; rintro e T4 ⟨rfl, hb4⟩))
              go_ret
              exact ⟨rfl, on_trans hw3 hb4⟩
            · go_wp2_with (first | (go_at_call 14; refine (cT _).mono ?_; rintro e T1 ⟨rfl, hb1⟩; have hwT1 := on_trans hwT hb1) | (go_at_call 12; refine (HLv.out _ hwT1).mono ?_; rintro e T2 ⟨rfl, hb2⟩))
              go_ret
              exact ⟨rfl, on_trans hwT1 hb2⟩
          · have hKz : (m : Int) ≤ 3 := by omega
            have hKy : ¬ (3 : Int) < (m : Int) := by omega
            have hf := hf2 hKm
            have HB2 := fun h => HBad.out 3 (by decide) h
            rw [hf] at HB2
            clear hf1 hf2 hlv h9T hf
            cases h0 : (n == 0)
            · have h0b : (n != 0) = true := by simpa using h0
              have HB3 : Hid (∀ W q3 c3, Below w.heap.size w W → At W q3 (ints s.l) → Calls Tryz.prog 9 #[rqV (setA s n 3) q3 c3] W fun e V => e = .returned (.int .i64 22) ∧ Below W.heap.size W V) := HB2 h0
              clear HB2 h0
              go_upto_region 14 with fail
              have bT1 := bT
              have hwT1 := hwT
              have cO := HOw.out 3 T hqT
              obtain ⟨⟨z0, z1, z2, z3, z4, z5, z6, z7, z8⟩, _⟩ := rq_cells bT1
              unfold rqV rqC setA at cO HB3
              go_wp2_with (first | (go_at_call 10; refine cO.mono ?_; rintro e T2 ⟨q3, c3, rfl, hq3, hb2⟩; have hw2 := on_trans hwT1 hb2; have cK := HB3.out T2 q3 c3 hw2 hq3) | (go_at_call 9; refine cK.mono ?_; rintro e T3 ⟨rfl, hb3⟩; have hw3 := on_trans hw2 hb3) | (go_at_call 12; refine (HLv.out _ hw3).mono ?_; rintro e T4 ⟨rfl, hb4⟩))
              go_ret
              exact ⟨rfl, on_trans hw3 hb4⟩
            · have h0b : (n != 0) = false := by simpa using h0
              clear HB2 h0
              go_wp2_with (go_at_call 12; refine (HLv.out _ hwT).mono ?_; rintro e T2 ⟨rfl, hb2⟩)
              go_ret
              exact ⟨rfl, on_trans hwT hb2⟩
        · have xk := bW.cell 5 rfl
          have fk := bW.free 5
          have bT := bW.set 5 (.int .i64 n)
          have kT := but_set wr w.heap.size 5 (.int .i64 n)
          have hwT := below_but hwW kT (Nat.le_refl _)
          have hqT := (hqW.but kT (by omega)).at
          have h9T := hat9.but kT hBl
          simp only [List.set_cons_succ, List.set_cons_zero] at bT
          have HEnd : Hid (∀ W, Below w.heap.size w W → Calls Tryz.prog 12 #[] W fun e U => e = .returned (.bool true) ∧ Below W.heap.size W U) := HLv.out
          replace hre : Int.tmod (a : Int) 5 = 4 := hre
          go_upto_region 13 with fail
          obtain ⟨T, hT⟩ : ∃ T, wr.setCell ⟨w.heap.size, 5, none⟩ (.int .i64 n) = T := ⟨_, rfl⟩
          rw [hT] at bT hwT hqT h9T ⊢
          clear xk fk kT hT hre
          obtain ⟨hf1, hf2⟩ := HFit.out 4 n
          by_cases hKm : 4 < m
          · have hKz : ¬ (m : Int) ≤ 4 := by omega
            have hKy : (4 : Int) < (m : Int) := by omega
            obtain ⟨b9, o9, hp9, _, hb9, hc9⟩ := h9T.place (k := 4) (by rw [lv_len, HM.out]; exact hKm)
            subst hp9
            have xl : T.cell? ⟨b9, o9 + 4, none⟩ = some (.int .u8 (ltr S5 4)) := hc9 _ _ (hlv 4 hKm)
            have cT := fun W => rtakes_any (ltr S5 4) n W
            have hf := hf1 hKm
            clear hf1 hf2 hc9 hlv h9T
            generalize hyl : ltr S5 4 = y at *
            have HB2 := fun h => HBad.out 4 (by decide) h
            rw [hyl] at HB2
            rw [hf] at HB2
            generalize takesB y n = v at *
            clear hyl hf
            cases v
            · have HB3 : Hid (∀ W q3 c3, Below w.heap.size w W → At W q3 (ints s.l) → Calls Tryz.prog 9 #[rqV (setA s n 4) q3 c3] W fun e V => e = .returned (.int .i64 22) ∧ Below W.heap.size W V) := HB2 rfl
              clear HB2
              go_upto_region 14 with (go_at_call 14; refine (cT _).mono ?_; rintro e T1 ⟨rfl, hb1⟩)
              have bT1 := bT.on hb1
              have hwT1 := on_trans hwT hb1
              have cO := HOw.out 4 T1 (AtF.on hqT hb1)
              obtain ⟨⟨z0, z1, z2, z3, z4, z5, z6, z7, z8⟩, _⟩ := rq_cells bT1
              unfold rqV rqC setA at cO HB3
              go_wp2_with (first | (go_at_call 10; refine cO.mono ?_; rintro e T2 ⟨q3, c3, rfl, hq3, hb2⟩; have hw2 := on_trans hwT1 hb2; have cK := HB3.out T2 q3 c3 hw2 hq3) | (go_at_call 9; refine cK.mono ?_; rintro e T3 ⟨rfl, hb3⟩; have hw3 := on_trans hw2 hb3) | (go_at_call 12; refine (HLv.out _ hw3).mono ?_; rintro e T4 ⟨rfl, hb4⟩))
              go_ret
              exact ⟨rfl, on_trans hw3 hb4⟩
            · go_wp2_with (first | (go_at_call 14; refine (cT _).mono ?_; rintro e T1 ⟨rfl, hb1⟩; have hwT1 := on_trans hwT hb1) | (go_at_call 12; refine (HLv.out _ hwT1).mono ?_; rintro e T2 ⟨rfl, hb2⟩))
              go_ret
              exact ⟨rfl, on_trans hwT1 hb2⟩
          · have hKz : (m : Int) ≤ 4 := by omega
            have hKy : ¬ (4 : Int) < (m : Int) := by omega
            have hf := hf2 hKm
            have HB2 := fun h => HBad.out 4 (by decide) h
            rw [hf] at HB2
            clear hf1 hf2 hlv h9T hf
            cases h0 : (n == 0)
            · have h0b : (n != 0) = true := by simpa using h0
              have HB3 : Hid (∀ W q3 c3, Below w.heap.size w W → At W q3 (ints s.l) → Calls Tryz.prog 9 #[rqV (setA s n 4) q3 c3] W fun e V => e = .returned (.int .i64 22) ∧ Below W.heap.size W V) := HB2 h0
              clear HB2 h0
              go_upto_region 14 with fail
              have bT1 := bT
              have hwT1 := hwT
              have cO := HOw.out 4 T hqT
              obtain ⟨⟨z0, z1, z2, z3, z4, z5, z6, z7, z8⟩, _⟩ := rq_cells bT1
              unfold rqV rqC setA at cO HB3
              go_wp2_with (first | (go_at_call 10; refine cO.mono ?_; rintro e T2 ⟨q3, c3, rfl, hq3, hb2⟩; have hw2 := on_trans hwT1 hb2; have cK := HB3.out T2 q3 c3 hw2 hq3) | (go_at_call 9; refine cK.mono ?_; rintro e T3 ⟨rfl, hb3⟩; have hw3 := on_trans hw2 hb3) | (go_at_call 12; refine (HLv.out _ hw3).mono ?_; rintro e T4 ⟨rfl, hb4⟩))
              go_ret
              exact ⟨rfl, on_trans hw3 hb4⟩
            · have h0b : (n != 0) = false := by simpa using h0
              clear HB2 h0
              go_wp2_with (go_at_call 12; refine (HLv.out _ hwT).mono ?_; rintro e T2 ⟨rfl, hb2⟩)
              go_ret
              exact ⟨rfl, on_trans hwT hb2⟩
  · obtain ⟨cG, cO, cC⟩ := rest_none s q c2 X hk hq2.at hl' (hEnv X hw)
    unfold noV noC at cG
    unfold rqV rqC at cO cC
    clear hk
    go_wp2_with (first | (go_at_call 17; refine (cG _ (Below.refl _ _)).mono ?_; rintro e Z ⟨rfl, hbZ⟩; have hz := hbZ.alloc hbZ.size (.cells #[.string ⟨#[]⟩, .string ⟨#[]⟩, .int .i64 0, .int .u32 0, .int .u32 0] 37); obtain ⟨⟨z0, z1, z2, z3, z4, z5, z6, z7, z8⟩, _⟩ := rq_cells (bX.on hz)) | (go_at_call 10; refine (cO _ hz).mono ?_; rintro e T2 ⟨q3, c3, rfl, hq3, _, hb2⟩; unfold rqV rqC; have hz2 := on_trans hz hb2) | (go_at_call 9; refine (cC _ _ _ hz2 hq3.at).mono ?_; rintro e T3 ⟨rfl, hb3⟩; have hw3 := hw.trans ((on_trans hz2 hb3).mono hw.size)) | (go_at_call 12; refine (HLv.out _ hw3).mono ?_; rintro e T4 ⟨rfl, hb4⟩))
    go_ret
    exact ⟨rfl, on_trans hw3 hb4⟩

theorem rest_all (r : Rq) (p : Option Addr) (c : Nat) (x : Int) (hx : (Lit.int .u8 x).wf = true) (n : Int) (w : World) (hat : At w p (ints r.l)) (hc : r.l.length ≤ c) (he : Env w) :
    Calls Tryz.prog 6 #[rqV r p c, .int .u8 x, .int .i64 n] w fun e W => e = .returned (.bool true) ∧ Below w.heap.size w W := by
  have hb : 0 ≤ x ∧ x ≤ 255 := by
    simp [Lit.wf, IntKind.min, IntKind.max, IntKind.signed, IntKind.bits] at hx
    omega
  have := rest_walk r p c x.toNat (by omega) n w hat hc he
  rwa [show ((x.toNat : Nat) : Int) = x by omega] at this

end Go.Proofs.YtgolihipinjfmaaGreatDoor.J
