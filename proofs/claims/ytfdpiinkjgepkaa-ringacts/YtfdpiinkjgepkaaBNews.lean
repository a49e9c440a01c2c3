/- The law RingNews answers true at every input. -/
import Derived.Test.YtfdpiinkjgepkaaBLives
namespace Go.Proofs.Ytfdpiinkjgepkaa.B
open Go Go.RowKit

theorem oper_append {P : Program} {o : Oper} {a : Act} {w w' : World} {v : Value} {K : Act → World → Prop} {Q : Exit → Act → World → Prop} (s x : Operand) (t : TypeId)
    (ho : o.op = .call { callee := .builtin .append, args := #[s, x], argTypes := #[t, t] }) (u1 u2 : Value) (h1 : a.eval s = u1) (h2 : a.eval x = u2)
    (hrun : (Builtin.append_ #[t, t] o.type #[u1, u2]).run P w = .ok v w') (h : K (a.put o.dst v) w') : o.wp P a w K Q := by
  subst h1 h2
  exact leaves_wp (leaves_append (post := fun u W => u = v ∧ W = w') s x t ho hrun ⟨rfl, rfl⟩) fun u W h2 => by
    obtain ⟨rfl, rfl⟩ := h2
    exact h

theorem want_append {P : Program} {o : Oper} {ops : Array Oper} {rest : List Oper} {a : Act} {w w' : World} {v : Value} {Q : Exit → Act → World → Prop} (hw : Region.wanted o (yielded ops a.tmps) = true) (s x : Operand) (t : TypeId)
    (ho : o.op = .call { callee := .builtin .append, args := #[s, x], argTypes := #[t, t] }) (u1 u2 : Value) (h1 : a.eval s = u1) (h2 : a.eval x = u2)
    (hrun : (Builtin.append_ #[t, t] o.type #[u1, u2]).run P w = .ok v w') (h : wpList P ops Q rest (a.put o.dst v) w') : wpList P ops Q (o :: rest) a w :=
  BigFrame.wpList_want hw fun _ hK => oper_append s x t ho u1 u2 h1 h2 hrun (hK _ _ h)

set_option maxRecDepth 100000 in
set_option maxHeartbeats 2000000 in
theorem news_in (m : Nat) (v : Value) (n : Int) (w : World) (h1 : 1 ≤ m) (h2 : m ≤ 4096) :
    Calls Try.prog 5 #[.int .i64 (m : Int), v, .int .i64 n] w fun e w' => e = .returned (.bool true) ∧ Below w.heap.size w w' := by
  have cN := new_in m w h1 h2
  have h1z : (1 : Int) ≤ (m : Int) := by omega
  have h2z : (m : Int) ≤ 4096 := by omega
  unfold NewPost at cN
  go_enter Try.func5, Try.ntmps5
  go_wp2_with fail
  refine cN.mono ?_
  rintro e w1 ⟨rb, pb, rfl, hr, hb, _, _⟩
  clear cN
  have cL := len_any hr
  have HR : Hid (RingAt w1 rb pb m [] ∧ Below w.heap.size w w1) := ⟨hr, hb⟩
  clear hr hb
  go_wp2_with fail
  refine cL.mono ?_
  rintro e w2 ⟨rfl, rfl⟩
  clear cL
  have cM := room_any HR.out.1
  simp only [List.length_nil] at cM ⊢
  go_wp2_with fail
  refine cM.mono ?_
  rintro e w3 ⟨rfl, q, rfl⟩
  clear cM
  have cV := lives_any (w2.drewN q)
  have HB : Hid (Below w.heap.size w (w2.drewN q)) := on_drewN HR.out.2 q
  clear HR
  go_wp2_with fail
  refine cV.mono ?_
  rintro e w4 ⟨rfl, hb4⟩
  have HE : Hid (Below w.heap.size w w4) := on_trans HB.out hb4
  clear cV hb4 HB
  go_wp2
  go_ret
  exact ⟨rfl, HE.out⟩

set_option maxRecDepth 100000 in
set_option maxHeartbeats 2000000 in
theorem news_no (m : Int) (p : Option Addr) (cap : Nat) (b : List UInt8) (n : Int) (w : World) (h : m < 1 ∨ 4096 < m) (hcap : b.length ≤ cap) (hat : At w p (bytesV b)) :
    Calls Try.prog 5 #[.int .i64 m, .slice p b.length cap, .int .i64 n] w fun e w' => e = .returned (.bool true) ∧ Below w.heap.size w w' := by
  have cN := new_no m w h
  have cC := clear_nil w
  have cL := len_nil w
  have cR := room_nil w
  have app : ∃ v' w', (Builtin.append_ #[26, 26] 26 #[.slice (some ⟨w.heap.size, 0, none⟩) 0 0, .slice p (b.take 400).length cap]).run Try.prog (w.alloc (.cells #[] 5)) = .ok v' w' ∧ Below w.heap.size w w' ∧ ∃ p2 l2 c2, v' = .slice p2 l2 c2 := by
    obtain ⟨v', w', h1, h2, h3⟩ := append_copy elemByte w.heap.size w.heap.size p cap (bytesV (b.take 400)) (w.alloc (.cells #[] 5)) (by simp; omega) (one_bytes _) (ownV_empty w w.heap.size _ (Nat.le_refl _)) (by simp) (by have := (hat.alloc (.cells #[] 5)).take 400; simpa [bytesV] using this)
    obtain ⟨p2, c2, e, _⟩ := ownV_at h3
    simp only [bytesV, List.length_map] at h1
    exact ⟨v', w', h1, on_trans (on_alloc _ _) h2, _, _, _, e⟩
  obtain ⟨v', w', hrun, hb, p2, l2, c2, rfl⟩ := app
  have cP := put_nil p2 l2 c2 w'
  have cT := take_nil n w'
  have cK := peek_nil n w'
  have cV := lives_any w'
  have HB : Hid (Below w.heap.size w w') := hb
  have hpl : 400 < b.length → ∃ bb off, p = some ⟨bb, off, none⟩ := fun h7 => by
    obtain ⟨bb, off, e, _⟩ := hat.place (k := 0) (by simp; omega)
    exact ⟨bb, off, e⟩
  clear hat hb
  by_cases hbig : 400 < b.length
  · have hbz : (400 : Int) < (b.length : Int) := by omega
    have hcz : (400 : Int) ≤ (cap : Int) := by omega
    obtain ⟨bp, op, rfl⟩ := hpl hbig
    have e4 : (b.take 400).length = 400 := by simp; omega
    rw [e4] at hrun
    clear hpl e4
    by_cases h1 : m < 1
    · have h1' : ¬ 1 ≤ m := by omega
      clear h
      go_enter Try.func5, Try.ntmps5
      go_wp2_with fail
      refine cN.mono ?_
      rintro e w1 ⟨rfl, rfl⟩
      go_wp2_with fail
      refine cC.mono ?_
      rintro e w2 ⟨rfl, rfl⟩
      go_wp2_with fail
      refine cL.mono ?_
      rintro e w3 ⟨rfl, rfl⟩
      go_wp2_with fail
      refine cR.mono ?_
      rintro e w4 ⟨rfl, rfl⟩
      go_wp2_with (at_builtin; refine want_append (by rfl) _ _ _ (by rfl) _ _ (by rfl) (by rfl) hrun ?_)
      refine cP.mono ?_
      rintro e w5 ⟨rfl, rfl⟩
      go_wp2_with fail
      refine cT.mono ?_
      rintro e w6 ⟨rfl, rfl⟩
      go_wp2_with fail
      refine cK.mono ?_
      rintro e w7 ⟨rfl, rfl⟩
      go_wp2_with fail
      refine cV.mono ?_
      rintro e w8 ⟨rfl, hb8⟩
      have HE : Hid (Below w4.heap.size w4 w8) := on_trans HB.out hb8
      clear hb8 HB
      go_wp2
      go_ret
      exact ⟨rfl, HE.out⟩
    · have h1' : 1 ≤ m := by omega
      have h2' : ¬ m ≤ 4096 := by omega
      clear h
      go_enter Try.func5, Try.ntmps5
      go_wp2_with fail
      refine cN.mono ?_
      rintro e w1 ⟨rfl, rfl⟩
      go_wp2_with fail
      refine cC.mono ?_
      rintro e w2 ⟨rfl, rfl⟩
      go_wp2_with fail
      refine cL.mono ?_
      rintro e w3 ⟨rfl, rfl⟩
      go_wp2_with fail
      refine cR.mono ?_
      rintro e w4 ⟨rfl, rfl⟩
      go_wp2_with (at_builtin; refine want_append (by rfl) _ _ _ (by rfl) _ _ (by rfl) (by rfl) hrun ?_)
      refine cP.mono ?_
      rintro e w5 ⟨rfl, rfl⟩
      go_wp2_with fail
      refine cT.mono ?_
      rintro e w6 ⟨rfl, rfl⟩
      go_wp2_with fail
      refine cK.mono ?_
      rintro e w7 ⟨rfl, rfl⟩
      go_wp2_with fail
      refine cV.mono ?_
      rintro e w8 ⟨rfl, hb8⟩
      have HE : Hid (Below w4.heap.size w4 w8) := on_trans HB.out hb8
      clear hb8 HB
      go_wp2
      go_ret
      exact ⟨rfl, HE.out⟩
  · have hbz : ¬ (400 : Int) < (b.length : Int) := by omega
    have e4 : (b.take 400).length = b.length := by simp; omega
    rw [e4] at hrun
    clear hpl e4
    by_cases h1 : m < 1
    · have h1' : ¬ 1 ≤ m := by omega
      clear h
      go_enter Try.func5, Try.ntmps5
      go_wp2_with fail
      refine cN.mono ?_
      rintro e w1 ⟨rfl, rfl⟩
      go_wp2_with fail
      refine cC.mono ?_
      rintro e w2 ⟨rfl, rfl⟩
      go_wp2_with fail
      refine cL.mono ?_
      rintro e w3 ⟨rfl, rfl⟩
      go_wp2_with fail
      refine cR.mono ?_
      rintro e w4 ⟨rfl, rfl⟩
      go_wp2_with (at_builtin; refine want_append (by rfl) _ _ _ (by rfl) _ _ (by rfl) (by rfl) hrun ?_)
      refine cP.mono ?_
      rintro e w5 ⟨rfl, rfl⟩
      go_wp2_with fail
      refine cT.mono ?_
      rintro e w6 ⟨rfl, rfl⟩
      go_wp2_with fail
      refine cK.mono ?_
      rintro e w7 ⟨rfl, rfl⟩
      go_wp2_with fail
      refine cV.mono ?_
      rintro e w8 ⟨rfl, hb8⟩
      have HE : Hid (Below w4.heap.size w4 w8) := on_trans HB.out hb8
      clear hb8 HB
      go_wp2
      go_ret
      exact ⟨rfl, HE.out⟩
    · have h1' : 1 ≤ m := by omega
      have h2' : ¬ m ≤ 4096 := by omega
      clear h
      go_enter Try.func5, Try.ntmps5
      go_wp2_with fail
      refine cN.mono ?_
      rintro e w1 ⟨rfl, rfl⟩
      go_wp2_with fail
      refine cC.mono ?_
      rintro e w2 ⟨rfl, rfl⟩
      go_wp2_with fail
      refine cL.mono ?_
      rintro e w3 ⟨rfl, rfl⟩
      go_wp2_with fail
      refine cR.mono ?_
      rintro e w4 ⟨rfl, rfl⟩
      go_wp2_with (at_builtin; refine want_append (by rfl) _ _ _ (by rfl) _ _ (by rfl) (by rfl) hrun ?_)
      refine cP.mono ?_
      rintro e w5 ⟨rfl, rfl⟩
      go_wp2_with fail
      refine cT.mono ?_
      rintro e w6 ⟨rfl, rfl⟩
      go_wp2_with fail
      refine cK.mono ?_
      rintro e w7 ⟨rfl, rfl⟩
      go_wp2_with fail
      refine cV.mono ?_
      rintro e w8 ⟨rfl, hb8⟩
      have HE : Hid (Below w4.heap.size w4 w8) := on_trans HB.out hb8
      clear hb8 HB
      go_wp2
      go_ret
      exact ⟨rfl, HE.out⟩

theorem news_walk (m : Int) (p : Option Addr) (cap : Nat) (b : List UInt8) (n : Int) (w : World) (hcap : b.length ≤ cap) (hat : At w p (bytesV b)) :
    Calls Try.prog 5 #[.int .i64 m, .slice p b.length cap, .int .i64 n] w fun e w' => e = .returned (.bool true) ∧ Below w.heap.size w w' := by
  by_cases h : m < 1 ∨ 4096 < m
  · exact news_no m p cap b n w h hcap hat
  · obtain ⟨k, rfl⟩ : ∃ k : Nat, m = (k : Int) := ⟨m.toNat, by omega⟩
    exact news_in k _ n w (by omega) (by omega)

end Go.Proofs.Ytfdpiinkjgepkaa.B
