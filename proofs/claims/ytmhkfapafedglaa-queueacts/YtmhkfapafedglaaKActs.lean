/- The law QueueActs answers true at every input. -/
import Derived.Test.YtmhkfapafedglaaKDoes2
import Derived.Test.YtmhkfapafedglaaKDoes3
namespace Go.Proofs.Ytmhkfapafedglaa.K
open Go Go.RowKit

theorem does_any {F G : Nat → Prop} {w0 w : World} {qb n : Nat} {ps : List Pt} {lv : Value} (hs : QS w0 F G w qb n ps) (hl : ParO (fun k => ¬ F k) w lv ps) (x : ActV) (hx : ActOk w0 x) (fr : Int) (hf0 : 0 ≤ fr) (hf1 : fr ≤ 1000000) :
    Calls Try.prog 8 #[.pointer (some ⟨qb, 0, none⟩), .int .i64 (n : Int), lv, .agg #[.int .i64 x.k, .slice x.p x.B.length x.c, .int .i64 x.n, .int .i64 x.m], .int .i64 fr] w fun e w' => ∃ ps', DoesPost F G w qb n ps' e w' := by
  obtain ⟨xk, xp, xc, xB, xn, xm⟩ := x
  have hcap := hx.cap
  have hxn := wf_le hx.nw
  simp only at hcap hxn ⊢
  have hplx : 200 < xB.length → ∃ bb oo, xp = some ⟨bb, oo, none⟩ := fun h7 => by
    obtain ⟨bb, oo, e, _⟩ := hx.at_.place (k := 0) (by simp; omega)
    exact ⟨bb, oo, e⟩
  by_cases hk1 : xk = 1
  · subst hk1
    exact (does_take hs.q hl xp xB.length xc xn xm fr hxn hcap hplx).mono fun e w' h => ⟨_, h⟩
  by_cases hk2 : xk = 2
  · subst hk2
    exact (does_clear hs.q hl xp xB.length xc xn xm fr hcap hplx).mono fun e w' h => ⟨_, h⟩
  · have hX : At w0 xp (bytesV (xB.take 200)) := by
      have := hx.at_.take 200
      simpa [bytesV] using this
    exact (does_put hs hl xp xB.length xc xk xn xm fr hk1 hk2 hf0 hf1 hcap hplx (xB.take 200) (by simp) hX).mono fun e w' h => ⟨_, h⟩

set_option maxRecDepth 100000 in
set_option maxHeartbeats 4000000 in
theorem acts_walk (m : Int) (p : Option Addr) (cap : Nat) (l : List ActV) (w : World) (hm : (Lit.int .u8 m).wf = true) (_hcap : l.length ≤ cap) (_hl : l.length ≤ 9223372036854775807) (hat : ActsAt w p l) :
    Calls Try.prog 3 #[.int .u8 m, .slice p l.length cap] w fun e w' => e = .returned (.bool true) ∧ Below w.heap.size w w' := by
  have hm2 : 0 ≤ m ∧ m ≤ 255 := by
    simp [Lit.wf, IntKind.min, IntKind.max, IntKind.signed, IntKind.bits] at hm
    omega
  obtain ⟨r, hr0⟩ : ∃ r : Nat, m % 200 = (r : Int) := ⟨(m % 200).toNat, by omega⟩
  have hm0 : 0 ≤ m := hm2.1
  have hrt : Int.tmod m 200 = (r : Int) := by rw [Int.tmod_eq_emod_of_nonneg hm0]; exact hr0
  have hr3 : r < 200 := by omega
  obtain ⟨N, hN⟩ : ∃ N : Nat, 1 + (r : Int) = (N : Int) := ⟨1 + r, by omega⟩
  have hN3 : N ≤ 200 := by omega
  have cN := new_in N w (by omega) (by omega)
  have HA : Hid (ActsAt w p l) := hat
  obtain ⟨Post, hPost⟩ : ∃ Post : Ending → World → Prop, (fun e w' => e = .returned (.bool true) ∧ Below w.heap.size w w') = Post := ⟨_, rfl⟩
  have HP : Hid (∀ W, Below w.heap.size w W → Post (.returned (.bool true)) W) := fun W hb => by subst hPost; exact ⟨rfl, hb⟩
  rw [hPost]
  clear hPost hat hm hm2
  go_enter Try.func3, Try.ntmps3
  go_wp2_with fail
  refine cN.mono ?_
  intro e w1 hn
  obtain ⟨qb, F, G, rfl, hqs⟩ := QS.new hn
  clear cN hn
  have hbb : Below w1.heap.size w1 (w1.alloc (.cells #[] 45)) := on_alloc _ _
  have HI0 : Hid (QS w F G (w1.alloc (.cells #[] 45)) qb N [] ∧ ParO (fun k => ¬ F k) (w1.alloc (.cells #[] 45)) (.slice (some ⟨w1.heap.size, 0, none⟩) 0 0) []) := by
    refine ⟨hqs.on hbb, ⟨[], rfl, ⟨some ⟨w1.heap.size, 0, none⟩, 0, rfl, Nat.le_refl _, ?_⟩, (fun x hx => by simp at hx), fun x hx => by simp at hx⟩⟩
    exact .inl rfl
  clear hqs hbb
  go_wp2
  generalize (w1.alloc (.cells #[] 45)) = w1a at *
  go_loopw [7, 8] (fun lv kv wr => ∃ (k : Nat) (F G : Nat → Prop) (ps : List Pt), k ≤ 60 ∧ k ≤ l.length ∧ kv = .int .i64 (k : Int) ∧ Hid (QS w F G wr qb N ps ∧ ParO (fun k => ¬ F k) wr lv ps)) (fun _ kv _ => 60 - (intOf kv).toNat)
  case atStart => exact ⟨0, F, G, [], Nat.zero_le _, Nat.zero_le _, rfl, HI0⟩
  case round =>
    clear HI0 F G
    obtain ⟨k, F, G, ps, hk, hkl, rfl, HI⟩ := hrel
    have hwr := HI.out.1.below
    by_cases hgo : k < l.length ∧ k < 60
    · obtain ⟨hlt, hlt2⟩ := hgo
      have hltz : (k : Int) < (l.length : Int) := by omega
      have hlt2z : (k : Int) < 60 := by omega
      obtain ⟨b, off, hp, _, hb, hc⟩ := HA.out.row.place (k := k * 4) (by rw [actsV_len]; omega)
      cases hp
      have hcw : ∀ i, i < 4 → ∀ v, (l[k].cells)[i]? = some v → wr.cell? ⟨b, off + (k * 4 + i), none⟩ = some v := fun i hi v hv => (hwr.cell (p := ⟨b, off + (k * 4 + i), none⟩) hb).trans (hc _ _ ((actsV_get hlt hi).trans hv))
      have x0 := hcw 0 (by omega) _ rfl
      have x1 := hcw 1 (by omega) _ rfl
      have x2 := hcw 2 (by omega) _ rfl
      have x3 := hcw 3 (by omega) _ rfl
      have cD := does_any HI.out.1 HI.out.2 l[k] (HA.out.ok l[k] (by simp)) (10 * (k : Int)) (by omega) (by omega)
      have hmul : IntKind.i64.wrap (10 * (k : Int)) = 10 * (k : Int) := by rw [IntKind.wrap_i64] <;> omega
      clear hc hcw
      generalize l[k] = x at *
      obtain ⟨xk, xp, xc, xB, xn, xm⟩ := x
      simp only [← Nat.add_assoc, Nat.add_zero] at x0 x1 x2 x3 cD
      clear hwr
      go_wp2_with fail
      refine cD.mono ?_
      rintro e w3 ⟨ps', hd⟩
      unfold DoesPost at hd
      obtain ⟨v, pv, F', G', rfl, hp3, hq3, hg3⟩ := hd
      have hs3 := HI.out.1.goes hq3 hg3
      have hok := hq3.ok
      have h6 := few_mono hok
      have hfew : ps'.length ≤ 100 := by have := hok.few; omega
      have htN : total ps' ≤ N := hok.all
      have cE := dump_any hq3
      unfold DumpPost at cE
      have HK3 : Hid (QS w F' G' w3 qb N ps' ∧ ParO (fun k => ¬ F' k) w3 v ps') := ⟨hs3, hp3⟩
      have H6 : Hid _ := h6
      obtain ⟨tl, htl⟩ : ∃ tl, total ps' = tl := ⟨_, rfl⟩
      have HTL : Hid (total ps' = tl) := htl
      rw [htl] at htN
      clear cD hp3 hq3 hg3 hs3 hok h6 x0 x1 x2 x3 HI htl hmul
      go_wp2_with fail
      refine cE.mono ?_
      rintro e w4 ⟨dv, rfl, hpar, hb4⟩
      have HK4 : Hid (QS w F' G' w4 qb N ps' ∧ ParO (fun k => ¬ F' k) w4 v ps') := ⟨HK3.out.1.on hb4, HK3.out.2.keep (keep_on hb4)⟩
      have cS := same_par hpar HK4.out.2 hfew H6.out
      clear cE hpar hb4 HK3
      go_wp2_with fail
      refine cS.mono ?_
      rintro e w5 ⟨rfl, hb5⟩
      have HK5 : Hid (QS w F' G' w5 qb N ps' ∧ ParO (fun k => ¬ F' k) w5 v ps') := ⟨HK4.out.1.on hb5, HK4.out.2.keep (keep_on hb5)⟩
      have cL := len_any HK5.out.1.q
      rw [HTL.out] at cL
      clear cS hb5 HK4
      go_wp2_with fail
      refine cL.mono ?_
      rintro e w6 ⟨rfl, hb6⟩
      have HK6 : Hid (QS w F' G' w6 qb N ps' ∧ ParO (fun k => ¬ F' k) w6 v ps') := ⟨HK5.out.1.on hb6, HK5.out.2.keep (keep_on hb6)⟩
      have cM := rlen_any HK6.out.2 hfew (by rw [HTL.out]; omega)
      rw [HTL.out] at cM
      clear cL hb6 HK5
      go_wp2_with fail
      refine cM.mono ?_
      rintro e w6' ⟨rfl, rfl⟩
      have cR := room_any HK6.out.1.q
      rw [HTL.out] at cR
      clear cM
      go_wp2_with fail
      refine cR.mono ?_
      rintro e w7 ⟨rfl, hb7⟩
      have HK7 : Hid (QS w F' G' w7 qb N ps' ∧ ParO (fun k => ¬ F' k) w7 v ps') := ⟨HK6.out.1.on hb7, HK6.out.2.keep (keep_on hb7)⟩
      have cM := rlen_any HK7.out.2 hfew (by rw [HTL.out]; omega)
      rw [HTL.out] at cM
      have hsub : IntKind.i64.wrap ((N : Int) - (tl : Int)) = (N : Int) - (tl : Int) := by rw [IntKind.wrap_i64] <;> omega
      clear cR hb7 HK6
      go_wp2_with fail
      refine cM.mono ?_
      rintro e w7' ⟨rfl, rfl⟩
      clear cM H6 hfew HTL
      go_wp2
      go_roundw
      case rel => exact ⟨k + 1, _, _, _, by omega, by omega, by go_num, HK7⟩
      case measure => simp [intOf]; omega
    · by_cases hlt : k < l.length
      · have hltz : (k : Int) < (l.length : Int) := by omega
        have h60 : ¬ (k : Int) < 60 := by omega
        have h60n : ¬ k < 60 := by omega
        go_wp2_with fail
        have cV := lives_any wr
        refine cV.mono ?_
        rintro e w9 ⟨rfl, hb9⟩
        have HE := HP.out w9 (on_trans hwr hb9)
        clear cV hb9
        go_wp2
        exact HE
      · have hltz : ¬ (k : Int) < (l.length : Int) := by omega
        go_wp2_with fail
        have cV := lives_any wr
        refine cV.mono ?_
        rintro e w9 ⟨rfl, hb9⟩
        have HE := HP.out w9 (on_trans hwr hb9)
        clear cV hb9
        go_wp2
        exact HE

end Go.Proofs.Ytmhkfapafedglaa.K
