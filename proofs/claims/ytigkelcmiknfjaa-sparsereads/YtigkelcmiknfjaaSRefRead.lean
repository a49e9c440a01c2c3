/- The reference's Read. -/
import Derived.Test.YtigkelcmiknfjaaSRef
namespace Go.Proofs.Ytigkelcmiknfjaa
open Go Go.RowKit

/-- Bytes from a place on. -/
def readL (B : List UInt8) (off n : Int) : List UInt8 := if off < 0 ∨ (B.length : Int) ≤ off then [] else (B.drop off.toNat).take n.toNat
theorem bytesV_snoc {B : List UInt8} {o k : Nat} (hk : o ≤ k) (h : k < B.length) : bytesV ((B.drop o).take (k + 1 - o)) = bytesV ((B.drop o).take (k - o)) ++ [.int .u8 ((B.getD k 0).toNat : Int)] := by
  rw [show k + 1 - o = (k - o) + 1 by omega, List.take_add_one]
  simp [byteV, List.getElem?_drop, show o + (k - o) = k by omega, h, List.getD]

set_option maxRecDepth 100000 in
set_option maxHeartbeats 1000000 in
theorem ref_read_any (p q : Option Addr) (c d m : Nat) (B : List UInt8) (off n : Int) (w : World) (hB : B.length ≤ 100000) (h : At w p (bytesV B)) :
    Calls Try.prog 13 #[.agg #[.slice p B.length c, .slice q m d], .int .i64 off, .int .i64 n] w fun e w' => ∃ v, e = .returned v ∧ OwnV w.heap.size 5 w' v (bytesV (readL B off n)) ∧ Below w.heap.size w w' := by
  have hY := ownV_empty (w.alloc (.cells #[.slice p B.length c, .slice q m d] 28)) (w.heap.size + 1) 5 (by simp)
  rw [World.size_alloc] at hY
  have HY : Hid (OwnV (w.heap.size + 1) 5 ((w.alloc (.cells #[.slice p B.length c, .slice q m d] 28)).alloc (.cells #[] 5)) (.slice (some ⟨w.heap.size + 1, 0, none⟩) 0 0) []) := hY
  have HX : Hid (Blk ((w.alloc (.cells #[.slice p B.length c, .slice q m d] 28)).alloc (.cells #[] 5)) w.heap.size 28 [.slice p B.length c, .slice q m d]) := (Blk.new w _ [.slice p B.length c, .slice q m d]).alloc _
  have HB : Hid (Below w.heap.size w ((w.alloc (.cells #[.slice p B.length c, .slice q m d] 28)).alloc (.cells #[] 5))) := on_trans (on_alloc _ _) (on_alloc _ _)
  have HA : Hid (At w p (bytesV B)) := h
  clear h hY
  have x0 := HX.out.cell 0 rfl
  by_cases h1 : off < 0
  · have e : readL B off n = [] := if_pos (.inl h1)
    rw [e]
    clear e HA
    go_enter Try.func13, Try.ntmps13
    go_wp2
    go_ret
    exact ⟨_, rfl, ownV_less HY.out (by omega), HB.out⟩
  by_cases h2 : (B.length : Int) ≤ off
  · have e : readL B off n = [] := if_pos (.inr h2)
    rw [e]
    clear e HA
    go_enter Try.func13, Try.ntmps13
    go_wp2
    go_ret
    exact ⟨_, rfl, ownV_less HY.out (by omega), HB.out⟩
  obtain ⟨o, rfl⟩ := Int.eq_ofNat_of_zero_le (show 0 ≤ off by omega)
  have e : readL B (o : Int) n = (B.drop o).take n.toNat := by
    have : ¬ ((o : Int) < 0 ∨ (B.length : Int) ≤ (o : Int)) := by omega
    simp only [readL, if_neg this, Int.toNat_natCast]
  rw [e]
  have ho : o < B.length := by omega
  clear e x0
  have HR : Hid (∀ k, (B.length ≤ k ∨ k - o = n.toNat) → k - o ≤ n.toNat → (B.drop o).take (k - o) = (B.drop o).take n.toNat) := fun k h1 h2 => by
    rcases h1 with h1 | h1
    · rw [List.take_of_length_le (by simp; omega), List.take_of_length_le (by simp; omega)]
    · rw [h1]
  generalize (B.drop o).take n.toNat = R at *
  go_enter Try.func13, Try.ntmps13
  have x0 := HX.out.cell 0 rfl
  go_wp2
  clear x0
  generalize ((w.alloc (.cells #[.slice p B.length c, .slice q m d] 28)).alloc (.cells #[] 5)) = w0 at *
  generalize Value.slice (some ⟨w.heap.size + 1, 0, none⟩) 0 0 = v0 at *
  go_loopw [7, 8] (fun v i wr => ∃ k : Nat, i = .int .i64 k ∧ o ≤ k ∧ k ≤ B.length ∧ k - o ≤ n.toNat ∧ Hid (OwnV (w.heap.size + 1) 5 wr v (bytesV ((B.drop o).take (k - o)))) ∧ Hid (Blk wr w.heap.size 28 [.slice p B.length c, .slice q m d]) ∧ Hid (Below w.heap.size w wr)) (fun _ i _ => B.length - (intOf i).toNat)
  case atStart => exact ⟨o, rfl, Nat.le_refl _, by omega, by omega, by simpa using HY, HX, HB⟩
  case round =>
    clear HX HB HY
    obtain ⟨k, rfl, hok, hk, hkn, HY, HX, HB⟩ := hrel
    have x0 := HX.out.cell 0 rfl
    by_cases hlt : k < B.length
    · have hltz : (k : Int) < (B.length : Int) := by omega
      by_cases hn : (k : Int) - (o : Int) < n
      · obtain ⟨b, of', hp, _, hb, hc⟩ := (HA.out.on HB.out).place (k := k) (by simpa using hlt)
        subst hp
        have hck := hc k _ (bytesV_get hlt)
        obtain ⟨v', W', hrun, hO2, hB2⟩ := append_one elemByte (w.heap.size + 1) _ (bytesV ((B.drop o).take (k - o))) (.int .u8 ((B.getD k 0).toNat : Int)) wr (by simp; omega) rfl HY.out HX.out.lt
        have HOn : Hid (OwnV (w.heap.size + 1) 5 W' v' (bytesV ((B.drop o).take (k + 1 - o)))) := by show OwnV _ _ _ _ _; rw [bytesV_snoc hok hlt]; exact hO2
        have HXn : Hid (Blk W' w.heap.size 28 [.slice (some ⟨b, of', none⟩) B.length c, .slice q m d]) := HX.out.below hB2 (by omega)
        have HBn : Hid (Below w.heap.size w W') := HB.out.trans (hB2.mono (by omega))
        clear hc hO2 hB2 HX HB HY
        have hx := (B.getD k 0).toNat_lt
        generalize (B.getD k 0).toNat = x at *
        go_wp2_with (at_builtin; refine wpList_run_append (by rfl) _ _ _ (by rfl) _ _ (by rfl) (by rfl) hrun ?_)
        go_roundw
        case rel => exact ⟨k + 1, by go_num, by omega, by omega, by omega, HOn, HXn, HBn⟩
        case measure => simp [intOf]; omega
      · have e := HR.out k (.inr (by omega)) hkn
        rw [e] at HY
        clear e
        go_wp2
        go_ret
        exact ⟨_, rfl, ownV_less HY.out (by omega), HB.out⟩
    · have hltz : ¬ (k : Int) < (B.length : Int) := by omega
      have e := HR.out k (.inl (by omega)) hkn
      rw [e] at HY
      clear e
      go_wp2
      go_ret
      exact ⟨_, rfl, ownV_less HY.out (by omega), HB.out⟩

end Go.Proofs.Ytigkelcmiknfjaa
