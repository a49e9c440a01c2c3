/- The law RingOrder answers true at every input. -/
import Derived.Test.YtfdpiinkjgepkaaBLaw
import Derived.Test.YtfdpiinkjgepkaaBOpen
import Derived.Maps.AppendAt
namespace Go.Proofs.Ytfdpiinkjgepkaa.B
open Go Go.RowKit

/-- append onto a row of one's own, and where the new one lies. -/
theorem append_at {P : Program} {t e : TypeId} {z : Value} {bytes : Nat} (E : ElemOk P t e z bytes) (hi : Nat) (v : Value) (s : List Value) (p : Option Addr) (cap : Nat) (l : List Value) (W : World) (hs : s.length ≤ 1000000) (hl : l.length ≤ 1000000)
    (hone : ∀ u ∈ l, u.oneCell' = true) (hown : OwnV hi e W v s) (h : At W p l) (hhi : hi ≤ W.heap.size) :
    ∃ v' W', (Builtin.append_ #[t, t] t #[v, .slice p l.length cap]).run P W = .ok v' W' ∧ OwnV hi e W' v' (s ++ l) ∧ W.grownBy W' v.ownBlock ∧ (v'.ownBlock = v.ownBlock ∨ v'.ownBlock = some W.heap.size) := by
  obtain ⟨i0, hi0, hz0, hz1, hz2⟩ := info_parts E.info
  cases p with
  | none =>
    obtain rfl : l = [] := by
      rcases h with e | ⟨b, off, e, _⟩
      · exact e
      · cases e
    refine ⟨v, W, ?_, by rw [List.append_nil]; exact hown, ⟨rfl, rfl, rfl, Nat.le_refl _, fun _ _ _ => rfl⟩, .inl rfl⟩
    rcases hown.2 with ⟨rfl, _⟩ | ⟨g, c, cur, rfl, _, _, hnc, _⟩
    · simp [Builtin.append_, run_underlying E.slice, sizeOf, typeInfo, hi0, Builtin.lenOf, Builtin.firstCells]
    · simp [Builtin.append_, run_underlying E.slice, sizeOf, typeInfo, hi0, Builtin.lenOf, Builtin.firstCells, hnc, storeCells]
  | some a =>
    have hfew := E.few
    have hbytes : (s.length + l.length) * bytes ≤ 140737488355328 := by
      have : (s.length + l.length) * bytes ≤ 2000000 * 1000 := Nat.mul_le_mul (by omega) hfew
      omega
    obtain ⟨v', W', hrun, h1, hg, _, h5⟩ := run_append_own_at (P := P) W hi t t e i0 z 1 bytes E.slice hi0 hz0 hz1 hz2 E.one (by decide) v s.length _ hown
      a l.length cap l (by simp) (at_news h) hone (by unfold maxLen; omega) hbytes hhi
    refine ⟨v', W', hrun, ?_, hg, h5⟩
    show W'.ownsRow hi e 1 v' (s ++ l).length (s ++ l)
    rw [List.length_append]; exact h1

/-- What holds while acts are done. -/
structure OI (w : World) (rb pb N hi : Nat) (I O B : List UInt8) (iv ov : Value) (W : World) : Prop where
  ring : RingAt W rb pb N B
  inn : OwnV hi 5 W iv (bytesV I)
  out : OwnV hi 5 W ov (bytesV O)
  apart : ∀ g, iv.ownBlock = some g → ov.ownBlock ≠ some g
  eq : I = O ++ B
  below : Below w.heap.size w W
  size : hi ≤ W.heap.size
section
variable {w W W' : World} {rb pb N hi : Nat} {I O B B' I' O' : List UInt8} {iv ov v' : Value}
theorem own_grown {e : TypeId} {v : Value} {s : List Value} {row : Option Nat} (h : OwnV hi e W v s) (hg : W.grownBy W' row) (hne : v.ownBlock = none ∨ v.ownBlock ≠ row) : OwnV hi e W' v s := by
  refine ⟨h.1, ?_⟩
  rcases h.2 with h0 | ⟨g, cap, cur, rfl, hbs, hg2, h3⟩
  · exact .inl h0
  · refine .inr ⟨g, cap, cur, rfl, hbs, (hg.block g (Array.getElem?_eq_some_iff.1 hg2).1 ?_).trans hg2, h3⟩
    rcases hne with hne | hne
    · simp [Value.ownBlock] at hne
    · exact hne
theorem own_lt {e : TypeId} {v : Value} {s : List Value} (h : OwnV hi e W v s) {g : Nat} (hg : v.ownBlock = some g) : hi ≤ g ∧ g < W.heap.size := by
  rcases h.2 with ⟨rfl, _⟩ | ⟨g', cap, cur, rfl, hbs, hg2, _⟩
  · simp [Value.ownBlock] at hg
  · simp [Value.ownBlock] at hg
    subst hg
    exact ⟨hbs, (Array.getElem?_eq_some_iff.1 hg2).1⟩
theorem ring_grown {row : Option Nat} (h : RingAt W rb pb N B) (hg : W.grownBy W' row) (h1 : some rb ≠ row) (h2 : some pb ≠ row) : RingAt W' rb pb N B := by
  obtain ⟨f, C, h⟩ := h
  exact ⟨f, C, ⟨(hg.block rb h.box.lt h1).trans h.box.row⟩, ⟨(hg.block pb h.row.lt h2).trans h.row.row⟩, h.len, h.pos, h.few, h.most, h.get⟩
theorem below_grown {B0 : Nat} {row : Option Nat} (h : Below B0 w W) (hg : W.grownBy W' row) (h1 : ∀ g, row = some g → B0 ≤ g) (hs : B0 ≤ W.heap.size) : Below B0 w W' :=
  ⟨hg.os.trans h.os, hg.tape.trans h.tape, hg.output.trans h.output, Nat.le_trans h.size hg.size, fun k hk => (hg.block k (by omega) fun e => by have := h1 k e.symm; omega).trans (h.block k hk)⟩
theorem OI.on (h : OI w rb pb N hi I O B iv ov W) (hb : Below W.heap.size W W') (hw : w.heap.size ≤ hi) : OI w rb pb N hi I O B iv ov W' :=
  ⟨h.ring.on hb, ownV_on h.inn hb, ownV_on h.out hb, h.apart, h.eq, h.below.trans (hb.mono (Nat.le_trans hw h.size)), Nat.le_trans h.size hb.size⟩
/-- A buffer's call. -/
structure Mid (w : World) (rb pb N hi : Nat) (I O B : List UInt8) (iv ov : Value) (W : World) : Prop where
  ring : RingAt W rb pb N B
  inn : OwnV hi 5 W iv (bytesV I)
  out : OwnV hi 5 W ov (bytesV O)
  apart : ∀ g, iv.ownBlock = some g → ov.ownBlock ≠ some g
  below : Below w.heap.size w W
  size : hi ≤ W.heap.size
theorem OI.mid (h : OI w rb pb N hi I O B iv ov W) : Mid w rb pb N hi I O B iv ov W := ⟨h.ring, h.inn, h.out, h.apart, h.below, h.size⟩
theorem Mid.on (h : Mid w rb pb N hi I O B iv ov W) (hb : Below W.heap.size W W') (hw : w.heap.size ≤ hi) : Mid w rb pb N hi I O B iv ov W' :=
  ⟨h.ring.on hb, ownV_on h.inn hb, ownV_on h.out hb, h.apart, h.below.trans (hb.mono (Nat.le_trans hw h.size)), Nat.le_trans h.size hb.size⟩
theorem Mid.call (h : Mid w rb pb N hi I O B iv ov W) (ht : Two rb pb W W') (hr : RingAt W' rb pb N B') (h1 : rb < hi ∧ pb < hi ∧ w.heap.size ≤ rb ∧ w.heap.size ≤ pb) : Mid w rb pb N hi I O B' iv ov W' :=
  ⟨hr, ht.own h.inn h1.1 h1.2.1, ht.own h.out h1.1 h1.2.1, h.apart, ht.below h.below h1.2.2.1 h1.2.2.2 (by have := h.size; omega), Nat.le_trans h.size ht.size⟩
theorem Mid.in_ (h : Mid w rb pb N hi I O B iv ov W) (hg : W.grownBy W' iv.ownBlock) (ho : OwnV hi 5 W' v' (bytesV I')) (hv : v'.ownBlock = iv.ownBlock ∨ v'.ownBlock = some W.heap.size) (h1 : rb < hi ∧ pb < hi ∧ w.heap.size ≤ rb ∧ w.heap.size ≤ pb) : Mid w rb pb N hi I' O B v' ov W' := by
  have hne : ∀ k, k < hi → some k ≠ iv.ownBlock := fun k hk e => by have := (own_lt h.inn e.symm).1; omega
  refine ⟨ring_grown h.ring hg (hne _ h1.1) (hne _ h1.2.1), ho, own_grown h.out hg ?_, fun g e => ?_, below_grown h.below hg (fun g e => by have := (own_lt h.inn e).1; omega) (by have := h.size; omega), Nat.le_trans h.size hg.size⟩
  · cases hb : ov.ownBlock with
    | none => exact .inl rfl
    | some g => exact .inr fun e => h.apart g e.symm hb
  · rcases hv with hv | hv
    · exact h.apart g (hv ▸ e)
    · rw [hv] at e
      cases e
      intro e2
      have := (own_lt h.out e2).2
      omega
theorem Mid.out_ (h : Mid w rb pb N hi I O B iv ov W) (hg : W.grownBy W' ov.ownBlock) (ho : OwnV hi 5 W' v' (bytesV O')) (hv : v'.ownBlock = ov.ownBlock ∨ v'.ownBlock = some W.heap.size) (h1 : rb < hi ∧ pb < hi ∧ w.heap.size ≤ rb ∧ w.heap.size ≤ pb) : Mid w rb pb N hi I O' B iv v' W' := by
  have hne : ∀ k, k < hi → some k ≠ ov.ownBlock := fun k hk e => by have := (own_lt h.out e.symm).1; omega
  refine ⟨ring_grown h.ring hg (hne _ h1.1) (hne _ h1.2.1), own_grown h.inn hg ?_, ho, fun g e => ?_, below_grown h.below hg (fun g e => by have := (own_lt h.out e).1; omega) (by have := h.size; omega), Nat.le_trans h.size hg.size⟩
  · cases hb : iv.ownBlock with
    | none => exact .inl rfl
    | some g => exact .inr fun e => h.apart g hb e.symm
  · rcases hv with hv | hv
    · rw [hv]; exact h.apart g e
    · rw [hv]
      intro e2
      cases e2
      have := (own_lt h.inn e).2
      omega
end
theorem slice_form {hi : Nat} {e : TypeId} {w : World} {v : Value} {s : List Value} (h : OwnV hi e w v s) : ∃ p c, v = .slice p s.length c := by
  obtain ⟨p, c, e, _⟩ := ownV_at h
  exact ⟨p, c, e⟩

set_option maxRecDepth 100000 in
set_option maxHeartbeats 1000000 in
theorem order_walk (m : Int) (p : Option Addr) (cap : Nat) (l : List ActV) (w : World) (hm : (Lit.int .u16 m).wf = true) (_hcap : l.length ≤ cap) (_hl : l.length ≤ 9223372036854775807) (hat : ActsAt w p l) :
    Calls Try.prog 4 #[.int .u16 m, .slice p l.length cap] w fun e w' => e = .returned (.bool true) ∧ Below w.heap.size w w' := by
  have hm2 : 0 ≤ m ∧ m ≤ 65535 := by
    simp [Lit.wf, IntKind.min, IntKind.max, IntKind.signed, IntKind.bits] at hm
    omega
  obtain ⟨r, hr0⟩ : ∃ r : Nat, m % 300 = (r : Int) := ⟨(m % 300).toNat, by omega⟩
  have hm0 : 0 ≤ m := hm2.1
  have hrt : Int.tmod m 300 = (r : Int) := by rw [Int.tmod_eq_emod_of_nonneg hm0]; exact hr0
  have hr3 : r < 300 := by omega
  obtain ⟨N, hN⟩ : ∃ N : Nat, 1 + (r : Int) = (N : Int) := ⟨1 + r, by omega⟩
  have hN3 : N ≤ 300 := by omega
  have cN := new_in N w (by omega) (by omega)
  have HA : Hid (ActsAt w p l) := hat
  unfold NewPost at cN
  clear hat hm hm2
  go_enter Try.func4, Try.ntmps4
  go_wp2_with fail
  refine cN.mono ?_
  rintro e w1 ⟨rb, pb, rfl, hrg, hb1, hrb, hpb⟩
  clear cN
  obtain ⟨hr1, hp1⟩ := hrg.lt
  have HLo : Hid (rb < w1.heap.size ∧ pb < w1.heap.size ∧ w.heap.size ≤ rb ∧ w.heap.size ≤ pb) := ⟨hr1, hp1, hrb, hpb⟩
  have hw1 : w.heap.size ≤ w1.heap.size := hb1.size
  have HI0 : Hid (OI w rb pb N w1.heap.size [] [] [] (.slice (some ⟨w1.heap.size, 0, none⟩) 0 0) (.slice (some ⟨w1.heap.size + 1, 0, none⟩) 0 0) ((w1.alloc (.cells #[] 5)).alloc (.cells #[] 5))) := by
    have hbb : Below w1.heap.size w1 ((w1.alloc (.cells #[] 5)).alloc (.cells #[] 5)) := on_trans (on_alloc _ _) (on_alloc _ _)
    have h2 := ownV_empty (w1.alloc (.cells #[] 5)) w1.heap.size 5 (by simp)
    rw [World.size_alloc] at h2
    exact ⟨hrg.on hbb, ownV_on (ownV_empty w1 w1.heap.size 5 (Nat.le_refl _)) (on_alloc _ _), h2, (fun g e => by simp [Value.ownBlock] at e ⊢; omega), rfl, hb1.trans (hbb.mono hw1), hbb.size⟩
  clear hrg hb1 hr1 hp1 hrb hpb
  go_wp2
  obtain ⟨hi, hhi⟩ : ∃ hi, w1.heap.size = hi := ⟨_, rfl⟩
  generalize ((w1.alloc (.cells #[] 5)).alloc (.cells #[] 5)) = w1a at *
  rw [hhi] at HLo hw1 HI0 ⊢
  clear hhi
  go_loopw [7, 8, 9] (fun iv ov kv wr => ∃ (k : Nat) (I O B : List UInt8), k ≤ 100 ∧ k ≤ l.length ∧ kv = .int .i64 (k : Int) ∧ I.length ≤ 400 * k ∧ Hid (OI w rb pb N hi I O B iv ov wr)) (fun _ _ kv _ => 100 - (intOf kv).toNat)
  case atStart => exact ⟨0, [], [], [], Nat.zero_le _, Nat.zero_le _, rfl, Nat.zero_le _, HI0⟩
  case round =>
    clear HI0
    obtain ⟨k, I, O, B, hk, hkl, rfl, hIl, HI⟩ := hrel
    by_cases hgo : k < l.length ∧ k < 100
    · obtain ⟨hlt, hlt2⟩ := hgo
      have hltz : (k : Int) < (l.length : Int) := by omega
      obtain ⟨b, off, hp, _, hb, hc⟩ := HA.out.row.place (k := k * 3) (by rw [actsV_len]; omega)
      cases hp
      have hcw : ∀ i, i < 3 → ∀ v, (l[k].cells)[i]? = some v → wr.cell? ⟨b, off + (k * 3 + i), none⟩ = some v := fun i hi v hv => (HI.out.below.cell (p := ⟨b, off + (k * 3 + i), none⟩) hb).trans (hc _ _ ((actsV_get hlt hi).trans hv))
      have x1 := hcw 1 (by omega) _ rfl
      have x2 := hcw 2 (by omega) _ rfl
      have ok := HA.out.ok l[k] (by simp)
      have HC1 : Hid (∀ W, Below w.heap.size w W → W.cell? ⟨b, off + k * 3 + 1, none⟩ = some (.int .i64 l[k].a)) := fun W hbw => by
        rw [Nat.add_assoc]
        exact (hbw.cell (p := ⟨b, off + (k * 3 + 1), none⟩) hb).trans (hc _ _ ((actsV_get hlt (show 1 < 3 by omega)).trans rfl))
      clear hc hcw
      generalize l[k] = x at *
      obtain ⟨xk, xa, xp, xc, xB⟩ := x
      simp only [← Nat.add_assoc] at x1 x2 HC1
      have hcap2 := ok.cap
      simp only at hcap2
      have HX : Hid (At w xp (bytesV (xB.take 400))) := by
        show At _ _ _
        have := ok.at_.take 400
        simpa [bytesV] using this
      have hplx : 400 < xB.length → ∃ bb oo, xp = some ⟨bb, oo, none⟩ := fun h7 => by
        obtain ⟨bb, oo, e, _⟩ := ok.at_.place (k := 0) (by simp; omega)
        exact ⟨bb, oo, e⟩
      obtain ⟨X, hX⟩ : ∃ X, xB.take 400 = X := ⟨_, rfl⟩
      have hXl : X.length = min 400 xB.length := by rw [← hX]; simp
      rw [hX] at HX
      clear ok hX
      obtain ⟨v1, w2, hrun, hb2, ho2⟩ := append_copy elemByte wr.heap.size wr.heap.size xp xc (bytesV X) (wr.alloc (.cells #[] 5)) (by simp; omega) (one_bytes _) (ownV_empty wr wr.heap.size _ (Nat.le_refl _)) (by simp) ((HX.out.below HI.out.below (Nat.le_refl _)).alloc _)
      have hb12 : Below wr.heap.size wr w2 := on_trans (on_alloc _ _) hb2
      have hM2 := HI.out.mid.on hb12 hw1
      obtain ⟨q, c2, rfl, hat2, _⟩ := ownV_at ho2
      simp only [bytesV, List.length_map] at hrun
      have cP := put_any hM2.ring q c2 X HLo.out.1 HLo.out.2.1 (hat2.less HI.out.size) (by omega)
      unfold PutPost at cP
      obtain ⟨Y, HY⟩ : ∃ Y, Hid (X.take (N - B.length) = Y) := ⟨_, rfl⟩
      have hYl : Y.length ≤ X.length := by rw [← HY.out]; simp; omega
      rw [HY.out] at cP
      have HXY : Hid (X.take Y.length = Y) := by
        have := HY.out
        rw [← this]
        show X.take (X.take (N - B.length)).length = _
        rw [List.length_take, List.take_eq_take_iff]
        omega
      have HM2 : Hid (Mid w rb pb N hi I O B u7 u8 w2) := hM2
      have HEq : Hid (I = O ++ B) := HI.out.eq
      clear hM2 hb2 hb12 ho2 hat2
      by_cases hbig : 400 < xB.length
      · have hbz : (400 : Int) < (xB.length : Int) := by omega
        have hcz : (400 : Int) ≤ (xc : Int) := by omega
        obtain ⟨bp, op, rfl⟩ := hplx hbig
        have HXl : Hid (X.length = 400) := show X.length = 400 by omega
        have hrun2 : (Builtin.append_ #[26, 26] 26 #[.slice (some ⟨wr.heap.size, 0, none⟩) 0 0, .slice (some ⟨bp, op, none⟩) 400 xc]).run Try.prog (wr.alloc (.cells #[] 5)) = .ok (.slice q X.length c2) w2 := by
          rw [← HXl.out]; exact hrun
        have hYb : (Y.length : Int) ≤ 400 := by omega
        have hYbn : Y.length ≤ 400 := by omega
        have hYc : (Y.length : Int) ≤ (xc : Int) := by omega
        clear hplx hXl hrun
        have hY4 : Y.length ≤ 400 := by omega
        have HYl : Hid (Y.length ≤ 400) := hY4
        have hyn : ¬ (Y.length : Int) < 0 := by omega
        clear HI
        go_wp2_with (at_builtin; refine wpList_run_append (by rfl) _ _ _ (by rfl) _ _ (by rfl) (by rfl) hrun2 ?_)
        refine cP.mono ?_
        rintro e w3 ⟨rfl, hr3, t3⟩
        clear cP hrun2
        have hM3 := HM2.out.call t3 hr3 HLo.out
        obtain ⟨v4, w4, hrun4, ho4, hg4, hv4⟩ := append_at elemByte hi u7 (bytesV I) (some ⟨bp, op, none⟩) xc (bytesV Y) w3 (by simp; omega) (by simp; omega) (one_bytes _) hM3.inn (by
          have h7 := (HX.out.below hM3.below (Nat.le_refl _)).take Y.length
          have e7 : (bytesV X).take Y.length = bytesV Y := by rw [← List.map_take, HXY.out]
          rw [e7] at h7
          exact h7) hM3.size
        simp only [bytesV, List.length_map] at hrun4
        have e4 : bytesV I ++ bytesV Y = bytesV (I ++ Y) := by simp [bytesV]
        rw [e4] at ho4
        have HM4 : Hid (Mid w rb pb N hi (I ++ Y) O (B ++ Y) v4 u8 w4) := hM3.in_ hg4 ho4 hv4 HLo.out
        clear hr3 t3 hM3 ho4 hg4 hv4 e4 HM2
        have x1b := HC1.out w4 HM4.out.below
        have cT := take_any HM4.out.ring xa
        unfold TakePost at cT
        go_wp2_with (at_builtin; refine wpList_run_append (by rfl) _ _ _ (by rfl) _ _ (by rfl) (by rfl) hrun4 ?_)
        refine cT.mono ?_
        rintro e w5 ⟨v5, rfl, ho5, hr5, t5⟩
        clear cT hrun4 x1b
        have hM5 := HM4.out.call t5 hr5 HLo.out
        have hOl : O.length ≤ I.length := by rw [HEq.out]; simp
        have hBl : (B ++ Y).length ≤ N := HM4.out.ring.few
        obtain ⟨T, hT⟩ : ∃ T, (B ++ Y).take xa.toNat = T := ⟨_, rfl⟩
        have hTl : T.length ≤ N := by rw [← hT, List.length_take]; omega
        have HT : Hid (T ++ (B ++ Y).drop xa.toNat = B ++ Y) := by rw [← hT]; exact List.take_append_drop _ _
        rw [hT] at ho5
        clear hT
        obtain ⟨q5, c5, rfl, hat5, _⟩ := ownV_at ho5
        obtain ⟨v6, w6, hrun6, ho6, hg6, hv6⟩ := append_at elemByte hi u8 (bytesV O) q5 c5 (bytesV T) w5 (by simp; omega) (by simp; omega) (one_bytes _) hM5.out hat5.at hM5.size
        have e6 : bytesV O ++ bytesV T = bytesV (O ++ T) := by simp only [bytesV, List.map_append]
        rw [e6] at ho6
        simp only [bytesV, List.length_map] at hrun6 ⊢
        have hM6 := hM5.out_ hg6 ho6 hv6 HLo.out
        have HI6 : Hid (OI w rb pb N hi (I ++ Y) (O ++ T) ((B ++ Y).drop xa.toNat) v4 v6 w6) :=
          ⟨hM6.ring, hM6.inn, hM6.out, hM6.apart, by rw [HEq.out, List.append_assoc, List.append_assoc, HT.out], hM6.below, hM6.size⟩
        have hIl2 : (I ++ Y).length ≤ 400 * (k + 1) := by simp; omega
        clear hM5 hM6 ho5 hr5 t5 hat5 ho6 hg6 hv6 e6 HM4 hBl hOl x1 x2
        go_wp2_with (at_builtin; refine wpList_run_append (by rfl) _ _ _ (by rfl) _ _ (by rfl) (by rfl) hrun6 ?_)
        go_roundw
        case rel => exact ⟨k + 1, _, _, _, by omega, by omega, by go_num, hIl2, HI6⟩
        case measure => simp [intOf]; omega
      · have hbz : ¬ (400 : Int) < (xB.length : Int) := by omega
        have HXl : Hid (X.length = xB.length) := show X.length = xB.length by omega
        have hrun2 : (Builtin.append_ #[26, 26] 26 #[.slice (some ⟨wr.heap.size, 0, none⟩) 0 0, .slice xp xB.length xc]).run Try.prog (wr.alloc (.cells #[] 5)) = .ok (.slice q X.length c2) w2 := by
          rw [← HXl.out]; exact hrun
        have hYb : (Y.length : Int) ≤ (xB.length : Int) := by omega
        have hYbn : Y.length ≤ xB.length := by omega
        have hYc : (Y.length : Int) ≤ (xc : Int) := by omega
        clear hplx hXl hrun
        have hY4 : Y.length ≤ 400 := by omega
        have HYl : Hid (Y.length ≤ 400) := hY4
        have hyn : ¬ (Y.length : Int) < 0 := by omega
        clear HI
        go_wp2_with (at_builtin; refine wpList_run_append (by rfl) _ _ _ (by rfl) _ _ (by rfl) (by rfl) hrun2 ?_)
        refine cP.mono ?_
        rintro e w3 ⟨rfl, hr3, t3⟩
        clear cP hrun2
        have hM3 := HM2.out.call t3 hr3 HLo.out
        obtain ⟨v4, w4, hrun4, ho4, hg4, hv4⟩ := append_at elemByte hi u7 (bytesV I) xp xc (bytesV Y) w3 (by simp; omega) (by simp; omega) (one_bytes _) hM3.inn (by
          have h7 := (HX.out.below hM3.below (Nat.le_refl _)).take Y.length
          have e7 : (bytesV X).take Y.length = bytesV Y := by rw [← List.map_take, HXY.out]
          rw [e7] at h7
          exact h7) hM3.size
        simp only [bytesV, List.length_map] at hrun4
        have e4 : bytesV I ++ bytesV Y = bytesV (I ++ Y) := by simp [bytesV]
        rw [e4] at ho4
        have HM4 : Hid (Mid w rb pb N hi (I ++ Y) O (B ++ Y) v4 u8 w4) := hM3.in_ hg4 ho4 hv4 HLo.out
        clear hr3 t3 hM3 ho4 hg4 hv4 e4 HM2
        have x1b := HC1.out w4 HM4.out.below
        have cT := take_any HM4.out.ring xa
        unfold TakePost at cT
        go_wp2_with (at_builtin; refine wpList_run_append (by rfl) _ _ _ (by rfl) _ _ (by rfl) (by rfl) hrun4 ?_)
        refine cT.mono ?_
        rintro e w5 ⟨v5, rfl, ho5, hr5, t5⟩
        clear cT hrun4 x1b
        have hM5 := HM4.out.call t5 hr5 HLo.out
        have hOl : O.length ≤ I.length := by rw [HEq.out]; simp
        have hBl : (B ++ Y).length ≤ N := HM4.out.ring.few
        obtain ⟨T, hT⟩ : ∃ T, (B ++ Y).take xa.toNat = T := ⟨_, rfl⟩
        have hTl : T.length ≤ N := by rw [← hT, List.length_take]; omega
        have HT : Hid (T ++ (B ++ Y).drop xa.toNat = B ++ Y) := by rw [← hT]; exact List.take_append_drop _ _
        rw [hT] at ho5
        clear hT
        obtain ⟨q5, c5, rfl, hat5, _⟩ := ownV_at ho5
        obtain ⟨v6, w6, hrun6, ho6, hg6, hv6⟩ := append_at elemByte hi u8 (bytesV O) q5 c5 (bytesV T) w5 (by simp; omega) (by simp; omega) (one_bytes _) hM5.out hat5.at hM5.size
        have e6 : bytesV O ++ bytesV T = bytesV (O ++ T) := by simp only [bytesV, List.map_append]
        rw [e6] at ho6
        simp only [bytesV, List.length_map] at hrun6 ⊢
        have hM6 := hM5.out_ hg6 ho6 hv6 HLo.out
        have HI6 : Hid (OI w rb pb N hi (I ++ Y) (O ++ T) ((B ++ Y).drop xa.toNat) v4 v6 w6) :=
          ⟨hM6.ring, hM6.inn, hM6.out, hM6.apart, by rw [HEq.out, List.append_assoc, List.append_assoc, HT.out], hM6.below, hM6.size⟩
        have hIl2 : (I ++ Y).length ≤ 400 * (k + 1) := by simp; omega
        clear hM5 hM6 ho5 hr5 t5 hat5 ho6 hg6 hv6 e6 HM4 hBl hOl x1 x2
        go_wp2_with (at_builtin; refine wpList_run_append (by rfl) _ _ _ (by rfl) _ _ (by rfl) (by rfl) hrun6 ?_)
        go_roundw
        case rel => exact ⟨k + 1, _, _, _, by omega, by omega, by go_num, hIl2, HI6⟩
        case measure => simp [intOf]; omega
    · have hno : ¬ ((k : Int) < (l.length : Int) ∧ (k : Int) < 100) := by omega
      have cK := peek_any HI.out.ring (N : Int)
      unfold PeekPost at cK
      have hfew := HI.out.ring.few
      have e9 : B.take ((N : Int)).toNat = B := List.take_of_length_le (by simp; omega)
      rw [e9] at cK
      by_cases hlt : k < l.length
      · have hltz : (k : Int) < (l.length : Int) := by omega
        have h100 : ¬ (k : Int) < 100 := by omega
        have h100n : ¬ k < 100 := by omega
        have hfew2 := HI.out.ring.few
        go_wp2_with fail
        refine cK.mono ?_
        rintro e w5 ⟨v5, rfl, ho5, hb5⟩
        clear cK
        have hM5 := HI.out.mid.on hb5 hw1
        obtain ⟨q5, c5, rfl, hat5, _⟩ := ownV_at ho5
        have hOl : O.length ≤ I.length := by rw [HI.out.eq]; simp
        have hI4 : I.length ≤ 40000 := by omega
        obtain ⟨v6, w6, hrun6, ho6, hg6, hv6⟩ := append_at elemByte hi u8 (bytesV O) q5 c5 (bytesV B) w5 (by simp; omega) (by simp; omega) (one_bytes _) hM5.out hat5.at hM5.size
        have e6 : bytesV O ++ bytesV B = bytesV I := by rw [HI.out.eq]; simp [bytesV]
        rw [e6] at ho6
        have hM6 := hM5.out_ hg6 ho6 hv6 HLo.out
        have HM6 : Hid (Mid w rb pb N hi I I B u7 v6 w6) := hM6
        obtain ⟨q6, c6, rfl, hat6, _⟩ := ownV_at hM6.out
        obtain ⟨q7, c7, rfl, hat7, _⟩ := ownV_at hM6.inn
        simp only [bytesV, List.length_map] at hrun6 ⊢
        have tx6 := text_of (c := c6) hat6.at
        have tx7 := text_of (c := c7) hat7.at
        have cV := lives_any w6
        clear hM5 hM6 ho5 hat5 ho6 hg6 hv6 e6 HI hat6 hat7
        generalize I.length = il at *
        generalize (⟨I.toArray⟩ : ByteArray) = sI at *
        go_wp2_with (at_builtin; refine wpList_run_append (by rfl) _ _ _ (by rfl) _ _ (by rfl) (by rfl) hrun6 ?_)
        refine cV.mono ?_
        rintro e w8 ⟨rfl, hb8⟩
        have HE : Hid (Below w.heap.size w w8) := HM6.out.below.trans (hb8.mono (Nat.le_trans hw1 HM6.out.size))
        clear hb8 cV HM6
        go_wp2
        go_ret
        exact ⟨rfl, HE.out⟩
      · have hltz : ¬ (k : Int) < (l.length : Int) := by omega
        have hfew2 := HI.out.ring.few
        go_wp2_with fail
        refine cK.mono ?_
        rintro e w5 ⟨v5, rfl, ho5, hb5⟩
        clear cK
        have hM5 := HI.out.mid.on hb5 hw1
        obtain ⟨q5, c5, rfl, hat5, _⟩ := ownV_at ho5
        have hOl : O.length ≤ I.length := by rw [HI.out.eq]; simp
        have hI4 : I.length ≤ 40000 := by omega
        obtain ⟨v6, w6, hrun6, ho6, hg6, hv6⟩ := append_at elemByte hi u8 (bytesV O) q5 c5 (bytesV B) w5 (by simp; omega) (by simp; omega) (one_bytes _) hM5.out hat5.at hM5.size
        have e6 : bytesV O ++ bytesV B = bytesV I := by rw [HI.out.eq]; simp [bytesV]
        rw [e6] at ho6
        have hM6 := hM5.out_ hg6 ho6 hv6 HLo.out
        have HM6 : Hid (Mid w rb pb N hi I I B u7 v6 w6) := hM6
        obtain ⟨q6, c6, rfl, hat6, _⟩ := ownV_at hM6.out
        obtain ⟨q7, c7, rfl, hat7, _⟩ := ownV_at hM6.inn
        simp only [bytesV, List.length_map] at hrun6 ⊢
        have tx6 := text_of (c := c6) hat6.at
        have tx7 := text_of (c := c7) hat7.at
        have cV := lives_any w6
        clear hM5 hM6 ho5 hat5 ho6 hg6 hv6 e6 HI hat6 hat7
        generalize I.length = il at *
        generalize (⟨I.toArray⟩ : ByteArray) = sI at *
        go_wp2_with (at_builtin; refine wpList_run_append (by rfl) _ _ _ (by rfl) _ _ (by rfl) (by rfl) hrun6 ?_)
        refine cV.mono ?_
        rintro e w8 ⟨rfl, hb8⟩
        have HE : Hid (Below w.heap.size w w8) := HM6.out.below.trans (hb8.mono (Nat.le_trans hw1 HM6.out.size))
        clear hb8 cV HM6
        go_wp2
        go_ret
        exact ⟨rfl, HE.out⟩

end Go.Proofs.Ytfdpiinkjgepkaa.B
