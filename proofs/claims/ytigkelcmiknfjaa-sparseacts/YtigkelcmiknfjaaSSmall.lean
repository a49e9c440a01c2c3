/- The law's small: acts, not too many, of not too many bytes. -/
import Derived.Test.YtigkelcmiknfjaaGRowS
import Derived.Test.YtigkelcmiknfjaaSRef
namespace Go.Proofs.Ytigkelcmiknfjaa
open Go Go.RowKit

/-- An act in memory. -/
structure ActV where
  k : Int
  a : Int
  p : Option Addr
  c : Nat
  B : List UInt8
  r : Int
def ActV.cells (x : ActV) : List Value := [.int .i64 x.k, .int .i64 x.a, .slice x.p x.B.length x.c, .int .i64 x.r]
def actsV (l : List ActV) : List Value := l.flatMap ActV.cells
theorem actsV_len (l : List ActV) : (actsV l).length = l.length * 4 := by
  induction l with
  | nil => rfl
  | cons x r ih => simp only [actsV, List.flatMap_cons, List.length_append, List.length_cons] at *; rw [ih]; simp [ActV.cells]; omega
theorem actsV_get {l : List ActV} {k i : Nat} (hk : k < l.length) (hi : i < 4) : (actsV l)[k * 4 + i]? = (l[k].cells)[i]? := by
  induction l generalizing k with
  | nil => simp at hk
  | cons x r ih =>
    simp only [actsV, List.flatMap_cons]
    have hx : x.cells.length = 4 := rfl
    cases k with
    | zero => rw [List.getElem?_append_left (by omega)]; simp
    | succ k =>
      rw [List.getElem?_append_right (by omega), hx, show (k + 1) * 4 + i - 4 = k * 4 + i by omega]
      exact ih (by simpa using hk)
/-- What an act's values are. -/
structure ActOk (w : World) (x : ActV) : Prop where
  kw : (Lit.int .i64 x.k).wf = true
  aw : (Lit.int .i64 x.a).wf = true
  rw_ : (Lit.int .i64 x.r).wf = true
  cap : x.B.length ≤ x.c
  at_ : At w x.p (bytesV x.B)
/-- An act of not too many bytes. -/
def cutAt (a : Int) : Int := if 3000 < a ∧ a < 65000 then a % 3000 else a
def cutA (x : ActV) : ActV := { x with a := cutAt x.a, B := x.B.take 300 }
def smallL (l : List ActV) : List ActV := (l.take 25).map cutA
theorem smallL_len (l : List ActV) : (smallL l).length = (l.take 25).length := by simp [smallL]
theorem smallL_succ {l : List ActV} {k : Nat} (hk : k < (l.take 25).length) : actsV ((smallL l).take (k + 1)) = actsV ((smallL l).take k) ++ (cutA (l.take 25)[k]).cells := by
  have : (smallL l).take (k + 1) = (smallL l).take k ++ [cutA (l.take 25)[k]] := by
    rw [List.take_add_one]
    congr 1
    rw [List.getElem?_eq_getElem (by rw [smallL_len]; exact hk)]
    simp [smallL]
  rw [this]
  simp [actsV]

theorem elemAct : ElemS Try.prog 22 33 (.agg #[.int .i64 0, .int .i64 0, .slice none 0 0, .int .i64 0]) 4 48 := ⟨Try.underlying22, by kernel_rfl, rfl, by decide, by decide⟩

theorem cells_one (x : ActV) : ∀ u ∈ x.cells, u.oneCell' = true := by
  intro u hu
  simp only [ActV.cells, List.mem_cons, List.not_mem_nil, or_false] at hu
  rcases hu with rfl | rfl | rfl | rfl <;> rfl

/-- A slice of acts, laid anew. -/
def RetActs (w : World) (n : Nat) (l : List ActV) (e : Ending) (w' : World) : Prop := ∃ p c, e = .returned (.slice p n c) ∧ AtF w.heap.size w' p (actsV l) ∧ Below w.heap.size w w'
set_option maxRecDepth 100000 in
set_option maxHeartbeats 4000000 in
theorem small_any (p : Option Addr) (cap : Nat) (l : List ActV) (w : World) (hcap : l.length ≤ cap) (hl : l.length ≤ 9223372036854775807) (h : At w p (actsV l)) (hok : ∀ x ∈ l, ActOk w x) :
    Calls Try.prog 8 #[.slice p l.length cap] w fun e w' => RetActs w (smallL l).length (smallL l) e w' := by
  obtain ⟨L, HL⟩ : ∃ L, Hid (l.take 25 = L) := ⟨_, rfl⟩
  have hlL : l.take 25 = L := HL.out
  have HA : Hid (At w p (actsV L)) := by
    have h2 := h.take (L.length * 4)
    have e : (actsV l).take (L.length * 4) = actsV L := by
      rw [← hlL, ← actsV_len]
      conv => lhs; rw [← List.take_append_drop 25 l]
      simp only [actsV, List.flatMap_append]
      rw [List.take_left']
      simp only [List.take_append_drop]
    rw [← e]; exact h2
  have HOK : Hid (∀ x ∈ L, ActOk w x) := fun x hx => hok x (by rw [← hlL] at hx; exact List.mem_of_mem_take hx)
  have HR : Hid (∀ k, (hk : k < L.length) → actsV ((smallL l).take (k + 1)) = actsV ((smallL l).take k) ++ (cutA L[k]).cells) := fun k hk => by
    subst hlL
    exact smallL_succ hk
  have hSL : (smallL l).length = L.length := by rw [smallL_len, hlL]
  have HN0 : L.length = min 25 l.length := by rw [← hlL]; simp
  have HE : Hid ((w.alloc (.cells #[] 33)).ownsRow w.heap.size 33 4 (.slice (some ⟨w.heap.size, 0, none⟩) 0 0) 0 []) := rowS_empty w w.heap.size _ 4 (Nat.le_refl _)
  have HB0 : Hid (Below w.heap.size w (w.alloc (.cells #[] 33))) := on_alloc w _
  have hpl : 25 < l.length → ∃ b off, p = some ⟨b, off, none⟩ := fun h7 => by
    obtain ⟨b, off, e, _⟩ := h.place (k := 0) (by rw [actsV_len]; omega)
    exact ⟨b, off, e⟩
  rw [hSL]
  clear h hok hlL HL
  by_cases hbig : 25 < l.length
  · have hbz : (25 : Int) < (l.length : Int) := by omega
    have hcz : (25 : Int) ≤ (cap : Int) := by omega
    obtain ⟨bp, op, rfl⟩ := hpl hbig
    have HN : Hid (L.length = 25) := show L.length = 25 by omega
    have HS25 : Hid ((smallL l).length = 25) := show (smallL l).length = 25 by rw [hSL]; exact HN.out
    rw [HN.out]
    clear hpl hSL HN0
    go_enter Try.func8, Try.ntmps8
    go_wp2
    generalize w.alloc (.cells #[] 33) = w0 at *
    go_loopw [3, 4] (fun ov iv wr => ∃ k : Nat, k ≤ 25 ∧ iv = .int .i64 k ∧ Hid (wr.ownsRow w.heap.size 33 4 ov k (actsV ((smallL l).take k)) ∧ Below w.heap.size w wr)) (fun _ iv _ => 25 - (intOf iv).toNat)
    case atStart => exact ⟨0, Nat.zero_le _, rfl, HE.out, HB0.out⟩
    case round =>
      clear HE HB0
      obtain ⟨k, hk, rfl, HI⟩ := hrel
      by_cases hlt : k < 25
      · have hltz : (k : Int) < (25 : Int) := by omega
        have hlt2 : k < L.length := by have := HN.out; omega
        obtain ⟨b, off, hp, _, hb, hc⟩ := HA.out.place (k := k * 4) (by rw [actsV_len]; omega)
        cases hp
        have hcw : ∀ i, i < 4 → ∀ v, (L[k].cells)[i]? = some v → wr.cell? ⟨bp, op + (k * 4 + i), none⟩ = some v := fun i hi v hv => (HI.out.2.cell (p := ⟨bp, op + (k * 4 + i), none⟩) hb).trans (hc _ _ ((actsV_get hlt2 hi).trans hv))
        have x0 := hcw 0 (by omega) _ rfl
        have x1 := hcw 1 (by omega) _ rfl
        have x2 := hcw 2 (by omega) _ rfl
        have x3 := hcw 3 (by omega) _ rfl
        have ok := HOK.out L[k] (by simp)
        have HK := HR.out k hlt2
        clear hc hcw
        generalize L[k] = x at *
        obtain ⟨xk, xa, xp, xc, xB, xr⟩ := x
        simp only [Nat.add_zero, ← Nat.add_assoc] at x0 x1 x2 x3
        have hcap2 := ok.cap
        simp only at hcap2
        have hor : w.heap.size ≤ wr.heap.size := HI.out.2.size
        by_cases h3 : 300 < xB.length
        · have h3z : (300 : Int) < (xB.length : Int) := by omega
          have h3c : (300 : Int) ≤ (xc : Int) := by omega
          obtain ⟨bb, oo, hxp, _⟩ := ok.at_.place (k := 0) (by simp; omega)
          subst hxp
          clear ok
          by_cases ha : 3000 < xa
          · by_cases hb2 : xa < 65000
            · have HC : (cutA ⟨xk, xa, (some ⟨bb, oo, none⟩), xc, xB, xr⟩).cells = [.int .i64 xk, .int .i64 (xa % 3000), .slice (some ⟨bb, oo, none⟩) 300 xc, .int .i64 xr] := by
                have e1 : cutAt xa = xa % 3000 := if_pos (by omega)
                have e2 : (xB.take 300).length = 300 := by simp; omega
                simp only [cutA, ActV.cells, e1, e2]
              rw [HC] at HK
              obtain ⟨v', W', hrun, hown', hgr⟩ := append_struct elemAct w.heap.size u3 k (actsV ((smallL l).take k)) [.int .i64 xk, .int .i64 (xa % 3000), .slice (some ⟨bb, oo, none⟩) 300 xc, .int .i64 xr] (wr.alloc (.cells #[.int .i64 xk, .int .i64 (xa % 3000), .slice (some ⟨bb, oo, none⟩) 300 xc, .int .i64 xr] 33)) (by omega) rfl (by intro u hu; simp only [List.mem_cons, List.not_mem_nil, or_false] at hu; rcases hu with rfl | rfl | rfl | rfl <;> rfl) (rowS_on HI.out.1 (on_alloc _ _)) (by simp; omega)
              rw [World.size_alloc] at hrun
              rw [← HK] at hown'
              have HI2 : Hid (W'.ownsRow w.heap.size 33 4 v' (k + 1) (actsV ((smallL l).take (k + 1))) ∧ Below w.heap.size w W') := ⟨hown', hgr.below (on_trans HI.out.2 (on_alloc _ _)) (Nat.le_refl _) (by simp; omega)⟩
              clear HC HK hown' hgr HI
              have hrem : 0 ≤ xa := by omega
              go_wp2_with (at_builtin; refine wpList_run_append (by rfl) _ _ _ (by rfl) _ _ (by rfl) (by rfl) hrun ?_)
              go_roundw
              case rel => exact ⟨k + 1, by omega, by go_num, HI2⟩
              case measure => simp [intOf]; omega
            · have HC : (cutA ⟨xk, xa, (some ⟨bb, oo, none⟩), xc, xB, xr⟩).cells = [.int .i64 xk, .int .i64 (xa), .slice (some ⟨bb, oo, none⟩) 300 xc, .int .i64 xr] := by
                have e1 : cutAt xa = xa := if_neg (by omega)
                have e2 : (xB.take 300).length = 300 := by simp; omega
                simp only [cutA, ActV.cells, e1, e2]
              rw [HC] at HK
              obtain ⟨v', W', hrun, hown', hgr⟩ := append_struct elemAct w.heap.size u3 k (actsV ((smallL l).take k)) [.int .i64 xk, .int .i64 (xa), .slice (some ⟨bb, oo, none⟩) 300 xc, .int .i64 xr] (wr.alloc (.cells #[.int .i64 xk, .int .i64 (xa), .slice (some ⟨bb, oo, none⟩) 300 xc, .int .i64 xr] 33)) (by omega) rfl (by intro u hu; simp only [List.mem_cons, List.not_mem_nil, or_false] at hu; rcases hu with rfl | rfl | rfl | rfl <;> rfl) (rowS_on HI.out.1 (on_alloc _ _)) (by simp; omega)
              rw [World.size_alloc] at hrun
              rw [← HK] at hown'
              have HI2 : Hid (W'.ownsRow w.heap.size 33 4 v' (k + 1) (actsV ((smallL l).take (k + 1))) ∧ Below w.heap.size w W') := ⟨hown', hgr.below (on_trans HI.out.2 (on_alloc _ _)) (Nat.le_refl _) (by simp; omega)⟩
              clear HC HK hown' hgr HI
              go_wp2_with (at_builtin; refine wpList_run_append (by rfl) _ _ _ (by rfl) _ _ (by rfl) (by rfl) hrun ?_)
              go_roundw
              case rel => exact ⟨k + 1, by omega, by go_num, HI2⟩
              case measure => simp [intOf]; omega
          · have HC : (cutA ⟨xk, xa, (some ⟨bb, oo, none⟩), xc, xB, xr⟩).cells = [.int .i64 xk, .int .i64 (xa), .slice (some ⟨bb, oo, none⟩) 300 xc, .int .i64 xr] := by
              have e1 : cutAt xa = xa := if_neg (by omega)
              have e2 : (xB.take 300).length = 300 := by simp; omega
              simp only [cutA, ActV.cells, e1, e2]
            rw [HC] at HK
            obtain ⟨v', W', hrun, hown', hgr⟩ := append_struct elemAct w.heap.size u3 k (actsV ((smallL l).take k)) [.int .i64 xk, .int .i64 (xa), .slice (some ⟨bb, oo, none⟩) 300 xc, .int .i64 xr] (wr.alloc (.cells #[.int .i64 xk, .int .i64 (xa), .slice (some ⟨bb, oo, none⟩) 300 xc, .int .i64 xr] 33)) (by omega) rfl (by intro u hu; simp only [List.mem_cons, List.not_mem_nil, or_false] at hu; rcases hu with rfl | rfl | rfl | rfl <;> rfl) (rowS_on HI.out.1 (on_alloc _ _)) (by simp; omega)
            rw [World.size_alloc] at hrun
            rw [← HK] at hown'
            have HI2 : Hid (W'.ownsRow w.heap.size 33 4 v' (k + 1) (actsV ((smallL l).take (k + 1))) ∧ Below w.heap.size w W') := ⟨hown', hgr.below (on_trans HI.out.2 (on_alloc _ _)) (Nat.le_refl _) (by simp; omega)⟩
            clear HC HK hown' hgr HI
            go_wp2_with (at_builtin; refine wpList_run_append (by rfl) _ _ _ (by rfl) _ _ (by rfl) (by rfl) hrun ?_)
            go_roundw
            case rel => exact ⟨k + 1, by omega, by go_num, HI2⟩
            case measure => simp [intOf]; omega
        · have h3z : ¬ (300 : Int) < (xB.length : Int) := by omega
          clear ok
          by_cases ha : 3000 < xa
          · by_cases hb2 : xa < 65000
            · have HC : (cutA ⟨xk, xa, xp, xc, xB, xr⟩).cells = [.int .i64 xk, .int .i64 (xa % 3000), .slice xp xB.length xc, .int .i64 xr] := by
                have e1 : cutAt xa = xa % 3000 := if_pos (by omega)
                have e2 : (xB.take 300).length = xB.length := by simp; omega
                simp only [cutA, ActV.cells, e1, e2]
              rw [HC] at HK
              obtain ⟨v', W', hrun, hown', hgr⟩ := append_struct elemAct w.heap.size u3 k (actsV ((smallL l).take k)) [.int .i64 xk, .int .i64 (xa % 3000), .slice xp xB.length xc, .int .i64 xr] (wr.alloc (.cells #[.int .i64 xk, .int .i64 (xa % 3000), .slice xp xB.length xc, .int .i64 xr] 33)) (by omega) rfl (by intro u hu; simp only [List.mem_cons, List.not_mem_nil, or_false] at hu; rcases hu with rfl | rfl | rfl | rfl <;> rfl) (rowS_on HI.out.1 (on_alloc _ _)) (by simp; omega)
              rw [World.size_alloc] at hrun
              rw [← HK] at hown'
              have HI2 : Hid (W'.ownsRow w.heap.size 33 4 v' (k + 1) (actsV ((smallL l).take (k + 1))) ∧ Below w.heap.size w W') := ⟨hown', hgr.below (on_trans HI.out.2 (on_alloc _ _)) (Nat.le_refl _) (by simp; omega)⟩
              clear HC HK hown' hgr HI
              have hrem : 0 ≤ xa := by omega
              go_wp2_with (at_builtin; refine wpList_run_append (by rfl) _ _ _ (by rfl) _ _ (by rfl) (by rfl) hrun ?_)
              go_roundw
              case rel => exact ⟨k + 1, by omega, by go_num, HI2⟩
              case measure => simp [intOf]; omega
            · have HC : (cutA ⟨xk, xa, xp, xc, xB, xr⟩).cells = [.int .i64 xk, .int .i64 (xa), .slice xp xB.length xc, .int .i64 xr] := by
                have e1 : cutAt xa = xa := if_neg (by omega)
                have e2 : (xB.take 300).length = xB.length := by simp; omega
                simp only [cutA, ActV.cells, e1, e2]
              rw [HC] at HK
              obtain ⟨v', W', hrun, hown', hgr⟩ := append_struct elemAct w.heap.size u3 k (actsV ((smallL l).take k)) [.int .i64 xk, .int .i64 (xa), .slice xp xB.length xc, .int .i64 xr] (wr.alloc (.cells #[.int .i64 xk, .int .i64 (xa), .slice xp xB.length xc, .int .i64 xr] 33)) (by omega) rfl (by intro u hu; simp only [List.mem_cons, List.not_mem_nil, or_false] at hu; rcases hu with rfl | rfl | rfl | rfl <;> rfl) (rowS_on HI.out.1 (on_alloc _ _)) (by simp; omega)
              rw [World.size_alloc] at hrun
              rw [← HK] at hown'
              have HI2 : Hid (W'.ownsRow w.heap.size 33 4 v' (k + 1) (actsV ((smallL l).take (k + 1))) ∧ Below w.heap.size w W') := ⟨hown', hgr.below (on_trans HI.out.2 (on_alloc _ _)) (Nat.le_refl _) (by simp; omega)⟩
              clear HC HK hown' hgr HI
              go_wp2_with (at_builtin; refine wpList_run_append (by rfl) _ _ _ (by rfl) _ _ (by rfl) (by rfl) hrun ?_)
              go_roundw
              case rel => exact ⟨k + 1, by omega, by go_num, HI2⟩
              case measure => simp [intOf]; omega
          · have HC : (cutA ⟨xk, xa, xp, xc, xB, xr⟩).cells = [.int .i64 xk, .int .i64 (xa), .slice xp xB.length xc, .int .i64 xr] := by
              have e1 : cutAt xa = xa := if_neg (by omega)
              have e2 : (xB.take 300).length = xB.length := by simp; omega
              simp only [cutA, ActV.cells, e1, e2]
            rw [HC] at HK
            obtain ⟨v', W', hrun, hown', hgr⟩ := append_struct elemAct w.heap.size u3 k (actsV ((smallL l).take k)) [.int .i64 xk, .int .i64 (xa), .slice xp xB.length xc, .int .i64 xr] (wr.alloc (.cells #[.int .i64 xk, .int .i64 (xa), .slice xp xB.length xc, .int .i64 xr] 33)) (by omega) rfl (by intro u hu; simp only [List.mem_cons, List.not_mem_nil, or_false] at hu; rcases hu with rfl | rfl | rfl | rfl <;> rfl) (rowS_on HI.out.1 (on_alloc _ _)) (by simp; omega)
            rw [World.size_alloc] at hrun
            rw [← HK] at hown'
            have HI2 : Hid (W'.ownsRow w.heap.size 33 4 v' (k + 1) (actsV ((smallL l).take (k + 1))) ∧ Below w.heap.size w W') := ⟨hown', hgr.below (on_trans HI.out.2 (on_alloc _ _)) (Nat.le_refl _) (by simp; omega)⟩
            clear HC HK hown' hgr HI
            go_wp2_with (at_builtin; refine wpList_run_append (by rfl) _ _ _ (by rfl) _ _ (by rfl) (by rfl) hrun ?_)
            go_roundw
            case rel => exact ⟨k + 1, by omega, by go_num, HI2⟩
            case measure => simp [intOf]; omega
      · obtain rfl : k = 25 := by omega
        have hltz : ¬ (25 : Int) < (25 : Int) := by omega
        have hI := HI.out
        rw [List.take_of_length_le (by rw [HS25.out]; exact Nat.le_refl _)] at hI
        obtain ⟨q, c, rfl, hat, _⟩ := rowS_at hI.1
        have HAt : Hid (AtF w.heap.size wr q (actsV (smallL l))) := hat
        clear hI hat
        go_wp2
        go_ret
        exact ⟨q, c, rfl, HAt.out, HI.out.2⟩
  · have hbz : ¬ (25 : Int) < (l.length : Int) := by omega
    obtain ⟨N, hN⟩ : ∃ N, l.length = N := ⟨_, rfl⟩
    have HN : Hid (L.length = N) := show L.length = N by omega
    have HS25 : Hid ((smallL l).length = N) := show (smallL l).length = N by rw [hSL]; exact HN.out
    rw [HN.out, hN]
    rw [hN] at hbig hbz hcap hl
    clear hpl hSL HN0 hN
    go_enter Try.func8, Try.ntmps8
    go_wp2
    generalize w.alloc (.cells #[] 33) = w0 at *
    go_loopw [3, 4] (fun ov iv wr => ∃ k : Nat, k ≤ N ∧ iv = .int .i64 k ∧ Hid (wr.ownsRow w.heap.size 33 4 ov k (actsV ((smallL l).take k)) ∧ Below w.heap.size w wr)) (fun _ iv _ => N - (intOf iv).toNat)
    case atStart => exact ⟨0, Nat.zero_le _, rfl, HE.out, HB0.out⟩
    case round =>
      clear HE HB0
      obtain ⟨k, hk, rfl, HI⟩ := hrel
      by_cases hlt : k < N
      · have hltz : (k : Int) < (N : Int) := by omega
        have hlt2 : k < L.length := by have := HN.out; omega
        obtain ⟨b, off, hp, _, hb, hc⟩ := HA.out.place (k := k * 4) (by rw [actsV_len]; omega)
        cases hp
        have hcw : ∀ i, i < 4 → ∀ v, (L[k].cells)[i]? = some v → wr.cell? ⟨b, off + (k * 4 + i), none⟩ = some v := fun i hi v hv => (HI.out.2.cell (p := ⟨b, off + (k * 4 + i), none⟩) hb).trans (hc _ _ ((actsV_get hlt2 hi).trans hv))
        have x0 := hcw 0 (by omega) _ rfl
        have x1 := hcw 1 (by omega) _ rfl
        have x2 := hcw 2 (by omega) _ rfl
        have x3 := hcw 3 (by omega) _ rfl
        have ok := HOK.out L[k] (by simp)
        have HK := HR.out k hlt2
        clear hc hcw
        generalize L[k] = x at *
        obtain ⟨xk, xa, xp, xc, xB, xr⟩ := x
        simp only [Nat.add_zero, ← Nat.add_assoc] at x0 x1 x2 x3
        have hcap2 := ok.cap
        simp only at hcap2
        have hor : w.heap.size ≤ wr.heap.size := HI.out.2.size
        by_cases h3 : 300 < xB.length
        · have h3z : (300 : Int) < (xB.length : Int) := by omega
          have h3c : (300 : Int) ≤ (xc : Int) := by omega
          obtain ⟨bb, oo, hxp, _⟩ := ok.at_.place (k := 0) (by simp; omega)
          subst hxp
          clear ok
          by_cases ha : 3000 < xa
          · by_cases hb2 : xa < 65000
            · have HC : (cutA ⟨xk, xa, (some ⟨bb, oo, none⟩), xc, xB, xr⟩).cells = [.int .i64 xk, .int .i64 (xa % 3000), .slice (some ⟨bb, oo, none⟩) 300 xc, .int .i64 xr] := by
                have e1 : cutAt xa = xa % 3000 := if_pos (by omega)
                have e2 : (xB.take 300).length = 300 := by simp; omega
                simp only [cutA, ActV.cells, e1, e2]
              rw [HC] at HK
              obtain ⟨v', W', hrun, hown', hgr⟩ := append_struct elemAct w.heap.size u3 k (actsV ((smallL l).take k)) [.int .i64 xk, .int .i64 (xa % 3000), .slice (some ⟨bb, oo, none⟩) 300 xc, .int .i64 xr] (wr.alloc (.cells #[.int .i64 xk, .int .i64 (xa % 3000), .slice (some ⟨bb, oo, none⟩) 300 xc, .int .i64 xr] 33)) (by omega) rfl (by intro u hu; simp only [List.mem_cons, List.not_mem_nil, or_false] at hu; rcases hu with rfl | rfl | rfl | rfl <;> rfl) (rowS_on HI.out.1 (on_alloc _ _)) (by simp; omega)
              rw [World.size_alloc] at hrun
              rw [← HK] at hown'
              have HI2 : Hid (W'.ownsRow w.heap.size 33 4 v' (k + 1) (actsV ((smallL l).take (k + 1))) ∧ Below w.heap.size w W') := ⟨hown', hgr.below (on_trans HI.out.2 (on_alloc _ _)) (Nat.le_refl _) (by simp; omega)⟩
              clear HC HK hown' hgr HI
              have hrem : 0 ≤ xa := by omega
              go_wp2_with (at_builtin; refine wpList_run_append (by rfl) _ _ _ (by rfl) _ _ (by rfl) (by rfl) hrun ?_)
              go_roundw
              case rel => exact ⟨k + 1, by omega, by go_num, HI2⟩
              case measure => simp [intOf]; omega
            · have HC : (cutA ⟨xk, xa, (some ⟨bb, oo, none⟩), xc, xB, xr⟩).cells = [.int .i64 xk, .int .i64 (xa), .slice (some ⟨bb, oo, none⟩) 300 xc, .int .i64 xr] := by
                have e1 : cutAt xa = xa := if_neg (by omega)
                have e2 : (xB.take 300).length = 300 := by simp; omega
                simp only [cutA, ActV.cells, e1, e2]
              rw [HC] at HK
              obtain ⟨v', W', hrun, hown', hgr⟩ := append_struct elemAct w.heap.size u3 k (actsV ((smallL l).take k)) [.int .i64 xk, .int .i64 (xa), .slice (some ⟨bb, oo, none⟩) 300 xc, .int .i64 xr] (wr.alloc (.cells #[.int .i64 xk, .int .i64 (xa), .slice (some ⟨bb, oo, none⟩) 300 xc, .int .i64 xr] 33)) (by omega) rfl (by intro u hu; simp only [List.mem_cons, List.not_mem_nil, or_false] at hu; rcases hu with rfl | rfl | rfl | rfl <;> rfl) (rowS_on HI.out.1 (on_alloc _ _)) (by simp; omega)
              rw [World.size_alloc] at hrun
              rw [← HK] at hown'
              have HI2 : Hid (W'.ownsRow w.heap.size 33 4 v' (k + 1) (actsV ((smallL l).take (k + 1))) ∧ Below w.heap.size w W') := ⟨hown', hgr.below (on_trans HI.out.2 (on_alloc _ _)) (Nat.le_refl _) (by simp; omega)⟩
              clear HC HK hown' hgr HI
              go_wp2_with (at_builtin; refine wpList_run_append (by rfl) _ _ _ (by rfl) _ _ (by rfl) (by rfl) hrun ?_)
              go_roundw
              case rel => exact ⟨k + 1, by omega, by go_num, HI2⟩
              case measure => simp [intOf]; omega
          · have HC : (cutA ⟨xk, xa, (some ⟨bb, oo, none⟩), xc, xB, xr⟩).cells = [.int .i64 xk, .int .i64 (xa), .slice (some ⟨bb, oo, none⟩) 300 xc, .int .i64 xr] := by
              have e1 : cutAt xa = xa := if_neg (by omega)
              have e2 : (xB.take 300).length = 300 := by simp; omega
              simp only [cutA, ActV.cells, e1, e2]
            rw [HC] at HK
            obtain ⟨v', W', hrun, hown', hgr⟩ := append_struct elemAct w.heap.size u3 k (actsV ((smallL l).take k)) [.int .i64 xk, .int .i64 (xa), .slice (some ⟨bb, oo, none⟩) 300 xc, .int .i64 xr] (wr.alloc (.cells #[.int .i64 xk, .int .i64 (xa), .slice (some ⟨bb, oo, none⟩) 300 xc, .int .i64 xr] 33)) (by omega) rfl (by intro u hu; simp only [List.mem_cons, List.not_mem_nil, or_false] at hu; rcases hu with rfl | rfl | rfl | rfl <;> rfl) (rowS_on HI.out.1 (on_alloc _ _)) (by simp; omega)
            rw [World.size_alloc] at hrun
            rw [← HK] at hown'
            have HI2 : Hid (W'.ownsRow w.heap.size 33 4 v' (k + 1) (actsV ((smallL l).take (k + 1))) ∧ Below w.heap.size w W') := ⟨hown', hgr.below (on_trans HI.out.2 (on_alloc _ _)) (Nat.le_refl _) (by simp; omega)⟩
            clear HC HK hown' hgr HI
            go_wp2_with (at_builtin; refine wpList_run_append (by rfl) _ _ _ (by rfl) _ _ (by rfl) (by rfl) hrun ?_)
            go_roundw
            case rel => exact ⟨k + 1, by omega, by go_num, HI2⟩
            case measure => simp [intOf]; omega
        · have h3z : ¬ (300 : Int) < (xB.length : Int) := by omega
          clear ok
          by_cases ha : 3000 < xa
          · by_cases hb2 : xa < 65000
            · have HC : (cutA ⟨xk, xa, xp, xc, xB, xr⟩).cells = [.int .i64 xk, .int .i64 (xa % 3000), .slice xp xB.length xc, .int .i64 xr] := by
                have e1 : cutAt xa = xa % 3000 := if_pos (by omega)
                have e2 : (xB.take 300).length = xB.length := by simp; omega
                simp only [cutA, ActV.cells, e1, e2]
              rw [HC] at HK
              obtain ⟨v', W', hrun, hown', hgr⟩ := append_struct elemAct w.heap.size u3 k (actsV ((smallL l).take k)) [.int .i64 xk, .int .i64 (xa % 3000), .slice xp xB.length xc, .int .i64 xr] (wr.alloc (.cells #[.int .i64 xk, .int .i64 (xa % 3000), .slice xp xB.length xc, .int .i64 xr] 33)) (by omega) rfl (by intro u hu; simp only [List.mem_cons, List.not_mem_nil, or_false] at hu; rcases hu with rfl | rfl | rfl | rfl <;> rfl) (rowS_on HI.out.1 (on_alloc _ _)) (by simp; omega)
              rw [World.size_alloc] at hrun
              rw [← HK] at hown'
              have HI2 : Hid (W'.ownsRow w.heap.size 33 4 v' (k + 1) (actsV ((smallL l).take (k + 1))) ∧ Below w.heap.size w W') := ⟨hown', hgr.below (on_trans HI.out.2 (on_alloc _ _)) (Nat.le_refl _) (by simp; omega)⟩
              clear HC HK hown' hgr HI
              have hrem : 0 ≤ xa := by omega
              go_wp2_with (at_builtin; refine wpList_run_append (by rfl) _ _ _ (by rfl) _ _ (by rfl) (by rfl) hrun ?_)
              go_roundw
              case rel => exact ⟨k + 1, by omega, by go_num, HI2⟩
              case measure => simp [intOf]; omega
            · have HC : (cutA ⟨xk, xa, xp, xc, xB, xr⟩).cells = [.int .i64 xk, .int .i64 (xa), .slice xp xB.length xc, .int .i64 xr] := by
                have e1 : cutAt xa = xa := if_neg (by omega)
                have e2 : (xB.take 300).length = xB.length := by simp; omega
                simp only [cutA, ActV.cells, e1, e2]
              rw [HC] at HK
              obtain ⟨v', W', hrun, hown', hgr⟩ := append_struct elemAct w.heap.size u3 k (actsV ((smallL l).take k)) [.int .i64 xk, .int .i64 (xa), .slice xp xB.length xc, .int .i64 xr] (wr.alloc (.cells #[.int .i64 xk, .int .i64 (xa), .slice xp xB.length xc, .int .i64 xr] 33)) (by omega) rfl (by intro u hu; simp only [List.mem_cons, List.not_mem_nil, or_false] at hu; rcases hu with rfl | rfl | rfl | rfl <;> rfl) (rowS_on HI.out.1 (on_alloc _ _)) (by simp; omega)
              rw [World.size_alloc] at hrun
              rw [← HK] at hown'
              have HI2 : Hid (W'.ownsRow w.heap.size 33 4 v' (k + 1) (actsV ((smallL l).take (k + 1))) ∧ Below w.heap.size w W') := ⟨hown', hgr.below (on_trans HI.out.2 (on_alloc _ _)) (Nat.le_refl _) (by simp; omega)⟩
              clear HC HK hown' hgr HI
              go_wp2_with (at_builtin; refine wpList_run_append (by rfl) _ _ _ (by rfl) _ _ (by rfl) (by rfl) hrun ?_)
              go_roundw
              case rel => exact ⟨k + 1, by omega, by go_num, HI2⟩
              case measure => simp [intOf]; omega
          · have HC : (cutA ⟨xk, xa, xp, xc, xB, xr⟩).cells = [.int .i64 xk, .int .i64 (xa), .slice xp xB.length xc, .int .i64 xr] := by
              have e1 : cutAt xa = xa := if_neg (by omega)
              have e2 : (xB.take 300).length = xB.length := by simp; omega
              simp only [cutA, ActV.cells, e1, e2]
            rw [HC] at HK
            obtain ⟨v', W', hrun, hown', hgr⟩ := append_struct elemAct w.heap.size u3 k (actsV ((smallL l).take k)) [.int .i64 xk, .int .i64 (xa), .slice xp xB.length xc, .int .i64 xr] (wr.alloc (.cells #[.int .i64 xk, .int .i64 (xa), .slice xp xB.length xc, .int .i64 xr] 33)) (by omega) rfl (by intro u hu; simp only [List.mem_cons, List.not_mem_nil, or_false] at hu; rcases hu with rfl | rfl | rfl | rfl <;> rfl) (rowS_on HI.out.1 (on_alloc _ _)) (by simp; omega)
            rw [World.size_alloc] at hrun
            rw [← HK] at hown'
            have HI2 : Hid (W'.ownsRow w.heap.size 33 4 v' (k + 1) (actsV ((smallL l).take (k + 1))) ∧ Below w.heap.size w W') := ⟨hown', hgr.below (on_trans HI.out.2 (on_alloc _ _)) (Nat.le_refl _) (by simp; omega)⟩
            clear HC HK hown' hgr HI
            go_wp2_with (at_builtin; refine wpList_run_append (by rfl) _ _ _ (by rfl) _ _ (by rfl) (by rfl) hrun ?_)
            go_roundw
            case rel => exact ⟨k + 1, by omega, by go_num, HI2⟩
            case measure => simp [intOf]; omega
      · obtain rfl : k = N := by omega
        have hltz : ¬ (k : Int) < (k : Int) := by omega
        have hI := HI.out
        rw [List.take_of_length_le (by rw [HS25.out]; exact Nat.le_refl _)] at hI
        obtain ⟨q, c, rfl, hat, _⟩ := rowS_at hI.1
        have HAt : Hid (AtF w.heap.size wr q (actsV (smallL l))) := hat
        clear hI hat
        go_wp2
        go_ret
        exact ⟨q, c, rfl, HAt.out, HI.out.2⟩

end Go.Proofs.Ytigkelcmiknfjaa
