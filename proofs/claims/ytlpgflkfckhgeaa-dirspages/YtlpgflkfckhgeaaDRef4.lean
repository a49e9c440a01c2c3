/- What the reference's Names and Page answer. -/
import Derived.Test.YtlpgflkfckhgeaaDRef3
namespace Go.Proofs.Ytlpgflkfckhgeaa
open Go Go.RowKit

theorem under_take (nm : ByteArray) (l : List Ent) (k : Nat) (h : k < l.length) : under nm (l.take (k + 1)) = under nm (l.take k) + if lt l[k].1 nm then 1 else 0 := by
  unfold under
  rw [List.take_add_one, List.getElem?_eq_getElem h, Option.toList_some, List.countP_append]
  cases hs : lt l[k].1 nm <;> simp [hs]
theorem under_lt {S l : List Ent} (h : Rel S l) {i : Nat} (hi : i < l.length) : under l[i].1 l < l.length := by
  obtain ⟨k, hk, e⟩ := List.mem_iff_getElem.1 (h.perm.mem_iff.2 (List.getElem_mem hi))
  rw [← h.under, ← h.len]
  have h1 := sorted_under l[i].1 S h.sorted k hk
  rw [e, lt_irrefl] at h1
  have h2 : ¬ k < under l[i].1 S := fun h2 => by simp [h2] at h1
  omega
/-- A sorted list's entry lies behind as many as are below it. -/
theorem under_self {S : List Ent} (hs : Sorted S) {k : Nat} (hk : k < S.length) : under S[k].1 S = k := by
  have hh : has S[k].1 S = true := List.any_eq_true.2 ⟨_, List.getElem_mem hk, same_iff.2 rfl⟩
  obtain ⟨hlt, hn, _⟩ := has_place hs hh
  exact sorted_index hs hlt hk hn
theorem under_inj {S l : List Ent} (h : Rel S l) {i j : Nat} (hi : i < l.length) (hj : j < l.length) (e : under l[i].1 l = under l[j].1 l) : l[i].1 = l[j].1 := by
  obtain ⟨a, ha, ea⟩ := List.mem_iff_getElem.1 (h.perm.mem_iff.2 (List.getElem_mem hi))
  obtain ⟨b, hb, eb⟩ := List.mem_iff_getElem.1 (h.perm.mem_iff.2 (List.getElem_mem hj))
  rw [← h.under, ← h.under, ← ea, ← eb, under_self h.sorted ha, under_self h.sorted hb] at e
  subst e
  rw [← ea, ← eb]
/-- What is laid behind k entries: each at its place. -/
def Placed (l : List Ent) (k : Nat) (out : List Value) : Prop := out.length = l.length ∧ ∀ i (hi : i < l.length), i < k → out[under l[i].1 l]? = some (.string l[i].1)
theorem placed_next {S l : List Ent} (h : Rel S l) {k : Nat} (hk : k < l.length) {out : List Value} (hp : Placed l k out) : Placed l (k + 1) (out.set (under l[k].1 l) (.string l[k].1)) := by
  refine ⟨by rw [List.length_set]; exact hp.1, fun i hi hik => ?_⟩
  by_cases e : under l[k].1 l = under l[i].1 l
  · rw [← e, List.getElem?_set_self (by rw [hp.1]; exact under_lt h hk), under_inj h hk hi e]
  · rw [List.getElem?_set_ne e]
    refine hp.2 i hi ?_
    have : i ≠ k := fun e' => by subst e'; exact e rfl
    omega
theorem placed_all {S l : List Ent} (h : Rel S l) {out : List Value} (hp : Placed l l.length out) : out = strV (names S) := by
  refine List.ext_getElem? fun j => ?_
  by_cases hj : j < S.length
  · obtain ⟨i, hi, e⟩ := List.mem_iff_getElem.1 (h.perm.mem_iff.1 (List.getElem_mem hj))
    have := hp.2 i hi hi
    rw [e, ← h.under, under_self h.sorted hj] at this
    rw [this]
    simp [strV, names, hj]
  · rw [List.getElem?_eq_none (by rw [hp.1, ← h.len]; omega), List.getElem?_eq_none (by rw [strV_len, names_len]; omega)]

set_option maxRecDepth 100000 in
set_option maxHeartbeats 2000000 in
theorem rnames_any (v : Value) (S l : List Ent) (w : World) (hR : Rel S l) (h : RowR 0 w v l) :
    Calls Try.prog 14 #[v] w (RetNames w (names S)) := by
  have hl := hR.few
  have HL : Hid (∀ w1, Below w.heap.size w w1 → RowR 0 w1 v l) := fun w1 hb => rowS_on h hb
  obtain ⟨w0, hmk, hB0, hb0, hs0⟩ := make_row elemStr rfl l.length (by omega) w
  have HI : Hid (∃ out, Blk w0 w.heap.size 9 out ∧ Placed l 0 out ∧ Below w.heap.size w w0) := ⟨_, hB0, ⟨by simp, fun i _ h => absurd h (Nat.not_lt_zero _)⟩, hb0⟩
  have HP : Hid (∀ (e : Ending) w1, e = .returned (.slice (some ⟨w.heap.size, 0, none⟩) l.length l.length) → (∃ out, Blk w1 w.heap.size 9 out ∧ Placed l l.length out ∧ Below w.heap.size w w1) → RetNames w (names S) e w1) := fun e w1 he ⟨out, hB, hpl, hb⟩ => by
    have e2 := placed_all hR hpl
    subst e2
    exact ⟨some ⟨w.heap.size, 0, none⟩, l.length, by rw [names_len, hR.len]; exact he, .inr ⟨w.heap.size, 0, rfl, Nat.le_refl _, hB.lt, fun j u hj => by
      rw [Nat.zero_add]
      exact hB.cell j hj⟩, hb⟩
  have HRel : Hid (Rel S l) := hR
  obtain ⟨p, cap, rfl⟩ := row_slice h
  generalize RetNames w (names S) = Post at *
  clear h hB0 hb0 hR
  go_enter Try.func14, Try.ntmps14
  go_wp2
  go_loopw [4] (fun i wr => ∃ k : Nat, k ≤ l.length ∧ i = .int .i64 k ∧ Hid (∃ out, Blk wr w.heap.size 9 out ∧ Placed l k out ∧ Below w.heap.size w wr)) (fun i _ => l.length - (intOf i).toNat)
  case atStart => exact ⟨0, Nat.zero_le _, rfl, HI⟩
  case round =>
    clear HI
    obtain ⟨k, hk, rfl, HI⟩ := hrel
    by_cases hlt : k < l.length
    · have hltz : (k : Int) < (l.length : Int) := by omega
      have HB : Hid (Below w.heap.size w wr) := HI.out.choose_spec.2.2
      have hkl : k < l.length := hlt
      have HNL : Hid (under l[k].1 l < l.length) := under_lt HRel.out hlt
      go_wp2
      go_loopw [5, 6] (fun n i w2 => ∃ j q : Nat, j ≤ l.length ∧ i = .int .i64 j ∧ n = .int .i64 (under l[k].1 (l.take j) : Nat) ∧ w2 = wr.drewN q) (fun _ i _ => l.length - (intOf i).toNat)
      case atStart => exact ⟨0, 0, Nat.zero_le _, rfl, rfl, rfl⟩
      case round =>
        obtain ⟨j, q, hj, rfl, rfl, hw2⟩ := hrel
        subst hw2
        by_cases hjl : j < l.length
        · have hjz : (j : Int) < (l.length : Int) := by omega
          obtain ⟨g, cap', e, _, _, x0, _⟩ := row_place (HL.out wr HB.out) hlt
          cases e
          obtain ⟨g', cap', e, _, _, x1, _⟩ := row_place (HL.out wr HB.out) hjl
          cases e
          have HU : Hid (under l[k].1 (l.take (j + 1)) = under l[k].1 (l.take j) + if lt l[j].1 l[k].1 then 1 else 0) := under_take _ l j hjl
          have hle : under l[k].1 (l.take j) ≤ 64 := by
            have := under_le l[k].1 (l.take j)
            rw [List.length_take] at this
            omega
          have hs : Op.bytesLess l[j].1.toList l[k].1.toList = lt l[j].1 l[k].1 := rfl
          obtain ⟨n0, hn0⟩ : ∃ n0, under l[k].1 (l.take j) = n0 := ⟨_, rfl⟩
          obtain ⟨n1, hn1⟩ : ∃ n1, under l[k].1 (l.take (j + 1)) = n1 := ⟨_, rfl⟩
          rw [hn0] at hle ⊢
          have HU2 : Hid (n1 = n0 + if lt l[j].1 l[k].1 then 1 else 0) := by rw [← hn0, ← hn1]; exact HU.out
          have HN1 : Hid (under l[k].1 (l.take (j + 1)) = n1) := hn1
          clear hn0 hn1 HU
          cases hq : lt l[j].1 l[k].1 with
          | true =>
            rw [hq] at hs
            have HU3 : Hid (n1 = n0 + 1) := by have := HU2.out; rwa [hq] at this
            clear HU2 hq
            go_wp2
            go_quiet (fail)
            go_wp2
            go_roundw
            case rel => exact ⟨j + 1, _, by omega, by go_num, by rw [HN1.out, HU3.out]; rfl, rfl⟩
            case measure => simp [intOf]; omega
          | false =>
            rw [hq] at hs
            have HU3 : Hid (n1 = n0) := by have := HU2.out; rwa [hq] at this
            clear HU2 hq
            go_wp2
            go_quiet (fail)
            go_wp2
            go_roundw
            case rel => exact ⟨j + 1, _, by omega, by go_num, by rw [HN1.out, HU3.out], rfl⟩
            case measure => simp [intOf]; omega
        · obtain rfl : j = l.length := by omega
          have hjz : ¬ (l.length : Int) < (l.length : Int) := by omega
          rw [List.take_length]
          obtain ⟨g, cap', e, _, _, x0, _⟩ := row_place (HL.out (wr.drewN q) (on_drewN HB.out q)) hlt
          cases e
          obtain ⟨out, hBo, hpo, _⟩ := HI.out
          have hul := HNL.out
          have hulz : ((under l[k].1 l : Nat) : Int) < (l.length : Int) := by omega
          have hBo2 : Blk (wr.drewN q) w.heap.size 9 out := ⟨hBo.row⟩
          have hul2 : under l[k].1 l < out.length := by rw [hpo.1]; exact hul
          have y0 : (wr.drewN q).cell? ⟨w.heap.size, under l[k].1 l, none⟩ = some (out[under l[k].1 l]) := hBo2.cell _ (List.getElem?_eq_getElem hul2)
          have y1 := hBo2.free (under l[k].1 l)
          have HX : Hid (∃ out, Blk ((wr.drewN q).setCell ⟨w.heap.size, under l[k].1 l, none⟩ (.string l[k].1)) w.heap.size 9 out ∧ Placed l (k + 1) out ∧ Below w.heap.size w ((wr.drewN q).setCell ⟨w.heap.size, under l[k].1 l, none⟩ (.string l[k].1))) :=
            ⟨_, hBo2.set _ _, placed_next HRel.out hlt hpo, below_but (on_drewN HB.out q) (but_set _ _ _ _) (Nat.le_refl _)⟩
          generalize out[under l[k].1 l] = old at *
          clear hBo hpo hBo2 hul2
          generalize under l[k].1 l = n0 at *
          generalize l[k].1 = nk at *
          go_wp2
          go_roundw
          case rel => exact ⟨k + 1, by omega, by go_num, HX⟩
          case measure => simp [intOf]; omega
    · obtain rfl : k = l.length := by omega
      have hltz : ¬ (l.length : Int) < (l.length : Int) := by omega
      go_wp2
      exact HP.out _ _ rfl HI.out

end Go.Proofs.Ytlpgflkfckhgeaa
