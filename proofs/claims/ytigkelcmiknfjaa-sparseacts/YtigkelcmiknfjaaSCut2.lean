/- Package sparse: Truncate, where it cuts. -/
import Derived.Test.YtigkelcmiknfjaaSCut
namespace Go.Proofs.Ytigkelcmiknfjaa
open Go Go.RowKit Go.Maps

theorem zeroByte (w : World) : (zeroValue 5).run Try.prog w = .ok (.int .u8 0) w := by kernel_rfl

/-- While a file is cut. -/
structure CutI (w : World) (fb mb r m sz n : Nat) (F : Nat → Prop) (C : Nat → UInt8) (h : Nat → Bool) (left : Lit → Bool) (cnt : Nat) (D : DataW Nat) (wr : World) : Prop where
  rg : wr.ranges Try.prog 3 ptrElem mb r m D left cnt
  fm : FileM wr fb (.map (some mb)) D sz (onlyC C (hl h n left)) (hl h n left)
  sub : ∀ x, foot fb (.map (some mb)) D (hl h n left) x → F x
  go : Foot F w wr
section
variable {w wr w1 : World} {fb mb r m sz n cnt cnt1 k : Nat} {F : Nat → Prop} {C : Nat → UInt8} {h : Nat → Bool} {left : Lit → Bool} {D : DataW Nat}
theorem CutI.next {left' : Lit → Bool} (I : CutI w fb mb r m sz n F C h left cnt D wr) (hF : ∀ x, F x → x ≠ r) (hr : w.heap.size ≤ r) (rg1 : w1.ranges Try.prog 3 ptrElem mb r m D left' cnt1) (hg : wr.grownBy w1 (some r)) (he : hl h n left' = hl h n left) : CutI w fb mb r m sz n F C h left' cnt1 D w1 := by
  refine ⟨rg1, ?_, ?_, ?_⟩
  · rw [he]
    exact I.fm.same fun x hx => hg.block x (I.fm.lt hx) fun e => hF x (I.sub x hx) (by simpa using e)
  · rw [he]; exact I.sub
  · exact ⟨hg.os.trans I.go.os, hg.tape.trans I.go.tape, hg.output.trans I.go.output, Nat.le_trans I.go.size hg.size, fun j hj hn => (hg.block j (Nat.lt_of_lt_of_le hj I.go.size) fun e => by simp at e; omega).trans (I.go.block j hj hn)⟩
theorem CutI.del {w2 : World} {cnt2 : Nat} (I : CutI w fb mb r m sz n F C h left cnt D wr) (hF : ∀ x, F x → x ≠ r) (hr : w.heap.size ≤ r) (hk : hl h n left k = true) (hn : ¬ 64 * k < n) (hg : wr.grownBy w1 (some r))
    (rg2 : w2.ranges Try.prog 3 ptrElem mb r m (D.del (ky k)) (fun z => left z && !z.sameKey (ky k)) cnt2) (hg2 : w1.grownBy w2 (some mb)) : CutI w fb mb r m sz n F C h (fun z => left z && !z.sameKey (ky k)) cnt2 (D.del (ky k)) w2 := by
  have f1 : FileM w1 fb (.map (some mb)) D sz (onlyC C (hl h n left)) (hl h n left) := I.fm.same fun x hx => hg.block x (I.fm.lt hx) fun e => hF x (I.sub x hx) (by simpa using e)
  refine ⟨rg2, ?_, ?_, ?_⟩
  · rw [hl_struck hn]
    exact f1.struck hk rg2.owns hg2 onlyC_gone onlyC_upd
  · rw [hl_struck hn]
    rintro x (e | e | ⟨j, hj, e⟩)
    · exact I.sub x (.inl e)
    · exact I.sub x (.inr (.inl e))
    · have ej : j ≠ k := fun e' => by subst e'; rw [upd_same] at hj; cases hj
      rw [upd_other false ej] at hj
      rw [gOf_del_other ej] at e
      exact I.sub x (.inr (.inr ⟨j, hj, e⟩))
  · have h1 : Foot F w w1 := ⟨hg.os.trans I.go.os, hg.tape.trans I.go.tape, hg.output.trans I.go.output, Nat.le_trans I.go.size hg.size, fun j hj hn => (hg.block j (Nat.lt_of_lt_of_le hj I.go.size) fun e => by simp at e; omega).trans (I.go.block j hj hn)⟩
    exact ⟨hg2.os.trans h1.os, hg2.tape.trans h1.tape, hg2.output.trans h1.output, Nat.le_trans h1.size hg2.size, fun j hj hn => (hg2.block j (Nat.lt_of_lt_of_le hj h1.size) fun e => hn (I.sub j (.inr (.inl (by cases e; rfl))))).trans (h1.block j hj hn)⟩
end

theorem Foot.then {F : Nat → Prop} {w w1 w2 : World} {b : Nat} (h : Foot F w w1) (k : But b w1 w2) (hb : F b) : Foot F w w2 :=
  ⟨k.os.trans h.os, k.tape.trans h.tape, k.output.trans h.output, by rw [k.size]; exact h.size, fun j hj hn => (k.block j fun e => hn (e ▸ hb)).trans (h.block j hj hn)⟩
/-- Behind the loop: the last block cleared, or there is none. -/
theorem FileM.cleared {w : World} {fb sz n : Nat} {mv : Value} {D : DataW Nat} {C : Nat → UInt8} {h : Nat → Bool} (f : FileM w fb mv D sz (onlyC C (cutH h n)) (cutH h n)) (hz : ∀ i, h (i / 64) = false → C i = 0) (hk : cutH h n (n / 64) = true) :
    ∃ w', (∀ ty, (Builtin.clear_ #[25] ty #[.slice (some ⟨gOf D (n / 64), n % 64, none⟩) (64 - n % 64) (64 - n % 64)]).run Try.prog w = .ok (.tuple #[]) w') ∧ FileM w' fb mv D sz (cutC C n) (cutH h n) ∧ But (gOf D (n / 64)) w w' := by
  obtain ⟨w', h1, h2, h3⟩ := clear_end elemByte zeroByte rfl rfl (f.blk _ hk) (n % 64) (64 - n % 64) (64 - n % 64) (by simp [blkB_len]; omega) (by omega)
  refine ⟨w', h1, f.wrote hk h2 ?_ fun i hi => cutC_other hz hi, h2⟩
  rw [cutC_blk hk]
  have e : bytesV (List.take (n % 64) (blkB (onlyC C (cutH h n)) (n / 64)) ++ List.replicate (64 - n % 64) 0) = (bytesV (blkB (onlyC C (cutH h n)) (n / 64))).take (n % 64) ++ List.replicate (64 - n % 64) (.int .u8 0) := by
    simp [bytesV, List.map_take, byteV]
  rw [e]
  exact h3

set_option maxRecDepth 100000 in
set_option maxHeartbeats 1000000 in
theorem trunc_map (fb mb sz n : Nat) (D : DataW Nat) (C : Nat → UInt8) (h : Nat → Bool) (w : World) (f : FileM w fb (.map (some mb)) D sz C h) (hn : n ≤ 65536) :
    Calls Try.prog 16 #[.pointer (some ⟨fb, 0, none⟩), .int .i64 n] w fun e w' => e = .returned (.tuple #[.int .i64 ((cntF 1024 h : Nat) - (cntF 1024 (cutH h n) : Nat) : Int), .int .i64 0]) ∧
      ∃ F', FileAt w' fb F' n (cutC C n) (cutH h n) ∧ Goes (foot fb (.map (some mb)) D h) F' w w' := by
  have x0 := f.box.cell 0 rfl
  have hlen := f.len
  have hc1 := cntF_le 1024 h
  have hc2 := cntF_le 1024 (cutH h n)
  have h1 : ¬ (n : Int) < 0 := by omega
  have h2 : ¬ (65536 : Int) < (n : Int) := by omega
  have hown := f.owns rfl
  have HF : Hid (FileM w fb (.map (some mb)) D sz C h) := f
  have HL : Hid (∀ x, foot fb (.map (some mb)) D h x → x < w.heap.size) := fun x hx => f.lt hx
  clear f
  generalize cntF 1024 h = c1 at *
  obtain ⟨c2, hC2⟩ : ∃ c2, Hid (cntF 1024 (cutH h n) = c2) := ⟨_, rfl⟩
  rw [hC2.out] at hc2 ⊢
  go_enter Try.func16, Try.ntmps16
  go_wp2_with (first
    | (at_range; refine wpList_range_own _ rfl _ 49 rfl 3 57 lawInt Try.underlying49 _ mb (Maps.size D) D rfl hown ?_; intro w0 hrg0 hg0 hs0)
    | go_in)
  have HI0 : Hid (CutI w fb mb w.heap.size (Maps.size D) sz n (foot fb (.map (some mb)) D h) C h (Maps.has D) (Maps.size D) D w0) := by
    refine ⟨hrg0, ?_, ?_, ?_⟩
    · rw [hl_start HF.out.is, onlyC_id HF.out.zero]
      exact HF.out.same fun x hx => hg0.block x (HL.out x hx) (by simp)
    · rw [hl_start HF.out.is]; exact fun x hx => hx
    · exact ⟨hg0.os, hg0.tape, hg0.output, hg0.size, fun j hj _ => hg0.block j hj (by simp)⟩
  clear hrg0 hg0
  go_loopw [7] (fun _ wr => ∃ (left : Lit → Bool) (cnt : Nat) (D' : DataW Nat), Hid (CutI w fb mb w.heap.size (Maps.size D) sz n (foot fb (.map (some mb)) D h) C h left cnt D' wr)) (fun _ wr => wr.rangeLeft mb w.heap.size)
  case atStart => exact ⟨_, _, _, HI0⟩
  case round =>
    clear HI0
    obtain ⟨left, cnt, D', HI⟩ := hrel
    go_wp2_with (first
      | (at_next; refine wpList_next_ranges (α := Int) (β := Value) _ rfl _ rfl 3 lawInt ptrElem (Value.int .i64) id (fun key kl hkey => by obtain ⟨x, rfl, _⟩ := Maps.keyOf_int_inv Try.underlying3 hkey; exact ⟨x, rfl⟩) (fun v y _ => ⟨v, rfl⟩) mb w.heap.size (Maps.size D) D' left cnt rfl HI.out.rg ?_ ?_)
      | go_in)
    · -- nothing is left
      intro _ hl0
      have I := HI.out
      have fm := I.fm
      have hsub := I.sub
      have hgo := I.go
      rw [hl_end hl0] at fm hsub
      have hself := hsub fb (.inl rfl)
      obtain ⟨k, HK⟩ : ∃ k, Hid (n / 64 = k) := ⟨_, rfl⟩
      have hkl : k ≤ 1024 := by have := HK.out; omega
      have hkz : (n : Int) / 64 = (k : Int) := by have := HK.out; omega
      have x0 := fm.box.cell 0 rfl
      clear I HI
      cases hh : cutH h n (n / 64) with
      | false =>
        have hlk := fm.look_no (x := (k : Int)) (ky_wf (k := k) (by omega)) (fun j e => by rw [← Int.ofNat_inj.1 e, ← HK.out]; exact hh)
        rw [onlyC_none HF.out.zero hh] at fm
        have f6 := fm.sized n
        have f1 := fm.box.free 1
        have c1' := fm.box.cell 1 rfl
        have hl6 := f6.len
        have y0 := f6.box.cell 0 rfl
        have HF6 : Hid (FileM (wr.setCell ⟨fb, 1, none⟩ (.int .i64 n)) fb (.map (some mb)) D' n (cutC C n) (cutH h n)) := f6
        have HG6 : Hid (Goes (foot fb (.map (some mb)) D h) (foot fb (.map (some mb)) D' (cutH h n)) w (wr.setCell ⟨fb, 1, none⟩ (.int .i64 n))) := ⟨hgo.then (but_set _ _ _ _) hself, fun x hx => .inl (hsub x hx)⟩
        rw [hC2.out] at hl6
        clear fm hsub hgo f6 hh
        go_wp2
        go_ret2
        exact ⟨rfl, _, ⟨_, _, HF6.out, rfl⟩, HG6.out⟩
      | true =>
        obtain ⟨r, HR⟩ : ∃ r, Hid (n % 64 = r) := ⟨_, rfl⟩
        have hrl : r < 64 := by have := HR.out; omega
        have hrz : (n : Int) % 64 = (r : Int) := by have := HR.out; omega
        have hlk := fm.look_yes hh
        have hsl := fun w => slice_arr (gOf D' (n / 64)) r hrl w
        obtain ⟨w5, hcl, f5, hb5⟩ := fm.cleared HF.out.zero hh
        rw [HR.out] at hcl
        have f6 := f5.sized n
        have f1 := f5.box.free 1
        have c1' := f5.box.cell 1 rfl
        have hl6 := f6.len
        have y0 := f6.box.cell 0 rfl
        have HF6 : Hid (FileM (w5.setCell ⟨fb, 1, none⟩ (.int .i64 n)) fb (.map (some mb)) D' n (cutC C n) (cutH h n)) := f6
        have HG6 : Hid (Goes (foot fb (.map (some mb)) D h) (foot fb (.map (some mb)) D' (cutH h n)) w (w5.setCell ⟨fb, 1, none⟩ (.int .i64 n))) :=
          ⟨(hgo.then hb5 (hsub _ (.inr (.inr ⟨_, hh, rfl⟩)))).then (but_set _ _ _ _) hself, fun x hx => .inl (hsub x hx)⟩
        rw [hC2.out] at hl6
        clear fm hsub hgo f5 f6 hh hb5
        rw [HK.out] at hlk hsl hcl
        go_wp2
        go_ret2
        exact ⟨rfl, _, ⟨_, _, HF6.out, rfl⟩, HG6.out⟩
    · -- an entry has come
      intro x v kl y ys w1 cnt1 hkey hlx hv hat hrg1 hlt hg1 hs1 hen
      obtain ⟨x', ex, ekl, hwx⟩ := Maps.keyOf_int_inv Try.underlying3 hkey
      cases ex
      have hhas : Maps.has D' kl = true := has_true_of_atKey hat
      obtain ⟨k, ek, hk⟩ := HI.out.fm.is.keys kl hhas
      subst ekl
      obtain rfl : x = (k : Int) := by unfold ky at ek; simpa using ek
      have hkl := HI.out.fm.is.small k hk
      have hF : ∀ x, foot fb (.map (some mb)) D h x → x ≠ w.heap.size := fun x hx => by have := HL.out x hx; omega
      have hcnt := HI.out.rg.left_eq
      by_cases hnk : 64 * k < n
      · have hz : ¬ (n : Int) ≤ (k : Int) * 64 := by omega
        have HI2 : Hid _ := HI.out.next hF (Nat.le_refl _) hrg1 hg1 (hl_stays hnk)
        have hlt2 : Hid (w1.rangeLeft mb w.heap.size < wr.rangeLeft mb w.heap.size) := by rw [hcnt, hrg1.left_eq]; exact hlt
        clear hrg1 hg1 HI hF hkey hv hat hhas hk ek hlx hlt hcnt
        go_wp2
        go_roundw
        case rel => exact ⟨_, _, _, HI2⟩
        case measure => exact hlt2.out
      · have hz : (n : Int) ≤ (k : Int) * 64 := by omega
        have f1 : FileM w1 fb (.map (some mb)) D' sz (onlyC C (hl h n left)) (hl h n left) := HI.out.fm.same fun x hx => hg1.block x (HI.out.fm.lt hx) fun e => hF x (HI.out.sub x hx) (by simpa using e)
        have x0 := f1.box.cell 0 rfl
        have HL2 : Hid (∀ w2 cnt2, w2.ranges Try.prog 3 ptrElem mb w.heap.size (Maps.size D) (D'.del (ky k)) (fun z => left z && !z.sameKey (ky k)) cnt2 → cnt2 ≤ cnt1 → w1.mapTurned w2 mb →
            Hid (CutI w fb mb w.heap.size (Maps.size D) sz n (foot fb (.map (some mb)) D h) C h (fun z => left z && !z.sameKey (ky k)) cnt2 (D'.del (ky k)) w2) ∧ Hid (w2.rangeLeft mb w.heap.size < wr.rangeLeft mb w.heap.size)) := fun w2 cnt2 hr2 hle ht => by
          refine ⟨HI.out.del hF (Nat.le_refl _) hk hnk hg1 hr2 ht.grown, ?_⟩
          show _ < _
          rw [hcnt, hr2.left_eq]; omega
        clear f1 HI hF hv hat hhas hk ek hlx hlt hcnt hg1
        go_wp2_with (first
          | (at_delete; refine wpList_delete_ranges _ rfl _ _ 49 3 rfl 57 lawInt Try.underlying49 _ mb w.heap.size (Maps.size D) _ _ _ rfl hrg1 _ _ rfl hkey ?_; intro w2 cnt2 hrg2 hle hturn; go_frame)
          | go_in)
        rw [strike_twice] at hrg2
        obtain ⟨HI2, hlt2⟩ := HL2.out w2 cnt2 hrg2 hle hturn
        go_roundw
        case rel => exact ⟨_, _, _, HI2⟩
        case measure => exact hlt2.out

end Go.Proofs.Ytigkelcmiknfjaa
