/- The law's does: an act done to both. -/
import Derived.Test.YtmhkfapafedglaaKRef5
import Derived.Deep.Cut
namespace Go.Proofs.Ytmhkfapafedglaa.K
open Go Go.RowKit

/-- What is left behind an act. -/
def actF (n : Nat) (ps : List Pt) (k : Int) (X : List UInt8) (a m fr : Int) : List Pt := if k = 1 then (takeF ps a m).1 else if k = 2 then [] else (putF n ps X (passedF a fr)).1
theorem few_mono {ps : List Pt} {n : Nat} (h : Ok n ps) : ∀ x ∈ ps, x.2.length ≤ 6 ∧ ∀ y ∈ x.2, y.ints.length ≤ 1000 := fun x hx => ⟨by have := (h.pass x hx).1; omega, fun y hy => by have := (h.pass x hx).2 y hy; omega⟩
/-- What an act leaves. -/
def DoesPost (F G : Nat → Prop) (w : World) (qb n : Nat) (ps' : List Pt) (e : Ending) (w' : World) : Prop :=
  ∃ v pv F' G', e = .returned (.tuple #[v, pv, .bool true]) ∧ ParO (fun k => ¬ F' k) w' v ps' ∧ QAt F' G' w' qb n ps' ∧ Goes F G F' G' w w'
theorem Goes.trans {F G F' G' F2 G2 : Nat → Prop} {w w1 w2 : World} (h : Goes F G F' G' w w1) (h2 : Goes F' G' F2 G2 w1 w2) : Goes F G F2 G2 w w2 :=
  ⟨⟨h2.keep.os.trans h.keep.os, h2.keep.tape.trans h.keep.tape, h2.keep.output.trans h.keep.output, Nat.le_trans h.keep.size h2.keep.size, fun k hk h7 => (h2.keep.block k (Nat.lt_of_lt_of_le hk h.keep.size) (h.out k hk h7)).trans (h.keep.block k hk h7)⟩,
   fun k hk => by
    rcases h2.sub k hk with h7 | h7
    · exact h.sub k h7
    · exact .inr (Nat.le_trans h.keep.size h7), fun k hk => by
    rcases h2.subG k hk with h7 | h7
    · exact h.subG k h7
    · exact .inr (Nat.le_trans h.keep.size h7)⟩
theorem Goes.after {F G F' G' : Nat → Prop} {w w1 w2 : World} (h : Goes F G F' G' w w1) (hb : Below w1.heap.size w1 w2) : Goes F G F' G' w w2 := h.trans (.on hb)
theorem Goes.before {F G F' G' : Nat → Prop} {w w1 w2 : World} (hb : Below w.heap.size w w1) (h : Goes F G F' G' w1 w2) : Goes F G F' G' w w2 := (Goes.on hb).trans h
theorem up_par {F : Nat → Prop} {w w' : World} {v : Value} {ps : List Pt} (h : ParO (Up (fun k => ¬ F k) w.heap.size) w' v ps) (hF : ∀ k, F k → k < w.heap.size) : ParO (fun k => ¬ F k) w' v ps := h.mono fun k _ h7 h8 => by
  rcases h7 with h7 | h7
  · exact h7 h8
  · have := hF k h8; omega
theorem nextF_len (ps : List Pt) : nextF ps = match ps with | [] => 0 | x :: _ => x.2.length := rfl

set_option maxRecDepth 100000 in
set_option maxHeartbeats 4000000 in
theorem does_take {F G : Nat → Prop} {w : World} {qb n : Nat} {ps : List Pt} {lv : Value} (h : QAt F G w qb n ps) (hl : ParO (fun k => ¬ F k) w lv ps) (p : Option Addr) (bl c : Nat) (a m fr : Int) (ha : a ≤ 9223372036854775807) (hbc : bl ≤ c) (hp : 200 < bl → ∃ b o, p = some ⟨b, o, none⟩) :
    Calls Try.prog 8 #[.pointer (some ⟨qb, 0, none⟩), .int .i64 (n : Int), lv, .agg #[.int .i64 1, .slice p bl c, .int .i64 a, .int .i64 m], .int .i64 fr] w (DoesPost F G w qb n (takeF ps a m).1) := by
  have hok := h.ok
  have hlt := h.lt
  have h6 := few_mono hok
  obtain ⟨lp, lc, rfl⟩ := par_slice hl
  -- the act's box, cut or not
  have key : ∀ (q : Option Addr) (L : Nat), Hid (∀ w1, w1 = w.alloc (.cells #[.int .i64 1, .slice q L c, .int .i64 a, .int .i64 m] 31) → QAt F G w1 qb n ps ∧ ParO (fun k => ¬ F k) w1 (.slice lp ps.length lc) ps ∧ Below w.heap.size w w1 ∧ Blk w1 w.heap.size 31 [.int .i64 1, .slice q L c, .int .i64 a, .int .i64 m]) := fun q L w1 e => by
    subst e
    have a1 := on_alloc w (.cells #[.int .i64 1, .slice q L c, .int .i64 a, .int .i64 m] 31)
    exact ⟨h.on a1, hl.keep (keep_on a1), a1, Blk.new w _ _⟩
  have HL0 : Hid (∀ W, Below w.heap.size w W → 0 < ps.length → ∃ b o q c2, lp = some ⟨b, o, none⟩ ∧ W.cell? ⟨b, o + 1, none⟩ = some (.slice q (nextF ps) c2)) := fun W hb hpos => by
    obtain ⟨X, rfl, hX⟩ := hl
    obtain ⟨p', c', e', hv⟩ := par_view hX
    cases X with
    | nil => simp at hpos
    | cons x R =>
      obtain ⟨b, o, e1, hb1, _, h1⟩ := hv 0 x rfl
      obtain ⟨q, c2, e2, _⟩ := (hX.pas x (by simp)).row
      have e3 : lp = p' := (by simpa using e' : lp = p' ∧ lc = c').1
      rw [Nat.zero_mul, Nat.add_zero] at h1
      refine ⟨b, o, q, c2, by rw [e3, e1], ?_⟩
      rw [(hb.cell (p := ⟨b, o + 1, none⟩) hb1), h1, e2]
      simp [nextF, PX.pt]
  have HN0 : Hid (ps.length = 0 → nextF ps = 0) := fun e => by rw [List.eq_nil_of_length_eq_zero e]; rfl
  obtain ⟨LL, hLL⟩ : ∃ LL, takeF ps a m = LL := ⟨_, rfl⟩
  have HLL : Hid (takeF ps a m = LL) := hLL
  have HOk : Hid (Ok n ps) := hok
  have hTl0 : LL.2.1.length ≤ 4096 ∧ LL.2.2.1.length ≤ 4 ∧ LL.2.2.2.length ≤ 4 ∧ (∀ y ∈ LL.2.2.1, y.ints.length ≤ 1000) ∧ ∀ y ∈ LL.2.2.2, y.ints.length ≤ 1000 := by
    rw [← hLL]
    cases ps with
    | nil => simp [takeF]
    | cons x R =>
      have h7 : x.1.length ≤ total (x :: R) := by simp [total]
      have h8 := hok.all
      have h9 := hok.most
      have h10 := hok.pass x (by simp)
      unfold takeF
      simp only
      split
      · simp
      · refine ⟨by simp; omega, by have := h10.1; simp; omega, by have := h10.1; simp; omega, fun y hy => ?_, fun y hy => ?_⟩
        · have := h10.2 y (List.mem_of_mem_take hy); omega
        · have := h10.2 y (List.mem_of_mem_drop hy); omega
  have HTl : Hid _ := hTl0
  clear hTl0
  rw [hLL]
  have HPo : Hid (∀ v pv F' W, ParO (fun k => ¬ F' k) W v LL.1 → QAt F' G W qb n LL.1 → Goes F G F' G w W → DoesPost F G w qb n LL.1 (.returned (.tuple #[v, pv, .bool true])) W) := fun v pv F' W h1 h2 h3 => ⟨v, pv, F', G, rfl, h1, h2, h3⟩
  generalize DoesPost F G w qb n LL.1 = Post at *
  clear hLL h hl h6 hok hlt
  generalize hpl : ps.length = pl at *
  have HPl : Hid (ps.length = pl) := hpl
  clear hpl
  by_cases hbig : 200 < bl
  · have hbz : (200 : Int) < (bl : Int) := by omega
    have hcz : (200 : Int) ≤ (c : Int) := by omega
    obtain ⟨bb, bo, rfl⟩ := hp hbig
    clear hp
    go_enter Try.func8, Try.ntmps8
    go_wp2_with fail
    generalize hw1 : w.alloc (.cells #[.int .i64 1, .slice (some ⟨bb, bo, none⟩) 200 c, .int .i64 a, .int .i64 m] 31) = w1
    obtain ⟨hq1, hl1, hb1, hB1⟩ := (key (some ⟨bb, bo, none⟩) 200).out w1 hw1.symm
    clear key hw1
    refine (next_any hq1).mono ?_
    rintro e w2 ⟨rfl, hb2⟩
    have HQ2 : Hid (QAt F G w2 qb n ps ∧ ParO (fun k => ¬ F k) w2 (.slice lp pl lc) ps ∧ Below w.heap.size w w2 ∧ Blk w2 w.heap.size 31 [.int .i64 1, .slice (some ⟨bb, bo, none⟩) 200 c, .int .i64 a, .int .i64 m]) := ⟨hq1.on hb2, hl1.keep (keep_on hb2), on_trans hb1 hb2, hB1.on hb2⟩
    clear hq1 hl1 hb1 hB1 hb2
    have y2 := HQ2.out.2.2.2.cell 2 rfl
    have y3 := HQ2.out.2.2.2.cell 3 rfl
    have cT := take_any HQ2.out.1 a m ha
    unfold TakePost at cT
    rw [HLL.out] at cT
    obtain ⟨nx, hnx⟩ : ∃ nx, nextF ps = nx := ⟨_, rfl⟩
    have hfin : ∀ (want : Int), want = (nx : Int) → True := fun _ _ => trivial
    by_cases hpos : 0 < pl
    · obtain ⟨lb, lo, lq, lqc, rfl, hc1⟩ := HL0.out w2 HQ2.out.2.2.1 hpos
      rw [hnx] at hc1 ⊢
      have hposz : (0 : Int) < (pl : Int) := by omega
      go_wp2_with fail
      refine cT.mono ?_
      rintro e w3 ⟨F', v1, v2, v3, rfl, q3, g3, hby, hp2, hp3⟩
      have hl3 := HQ2.out.2.1.goes g3
      have hB3 : Blk w3 w.heap.size 31 [.int .i64 1, .slice (some ⟨bb, bo, none⟩) 200 c, .int .i64 a, .int .i64 m] := by
        have := g3.keep.blk HQ2.out.2.2.2 (fun h7 => by
          have h8 := HQ2.out.1.wr _ h7
          have h9 := typ_blk HQ2.out.2.2.2
          rcases h8 with h8 | h8 | h8 <;> exact typ_ne h8 h9 (by decide) rfl)
        exact this
      have z2 := hB3.cell 2 rfl
      have z3 := hB3.cell 3 rfl
      have cR := rtake_any hl3 a m n HOk.out
      unfold RTakePost at cR
      rw [HLL.out] at cR
      have hlt3 := q3.lt
      have HK3 : Hid (QAt F' G w3 qb n LL.1 ∧ Goes F G F' G w w3 ∧ BytO (fun _ => True) w3 v1 LL.2.1 ∧ PasO (fun _ => True) w3 v2 LL.2.2.1 ∧ PasO (fun _ => True) w3 v3 LL.2.2.2 ∧ ∀ k, F' k → k < w3.heap.size) := ⟨q3, .before HQ2.out.2.2.1 g3, hby.mono fun _ _ _ => trivial, hp2.mono fun _ _ _ => trivial, hp3.mono fun _ _ _ => trivial, hlt3⟩
      clear cT HQ2 q3 g3 hby hp2 hp3 hl3 hB3 hlt3 y2 y3
      go_wp2_with fail
      refine cR.mono ?_
      rintro e w4 ⟨v, b, p0, p1, rfl, r1, r2, r3, r4, r5⟩
      have r1' := up_par r1 HK3.out.2.2.2.2.2
      obtain ⟨hq3, hg3, hby3, hp23, hp33, _⟩ := HK3.out
      obtain ⟨q1, c1, ev1, _, at1⟩ := hby3.keep (keep_on r5)
      obtain ⟨q2, c2, ev2, _, at2⟩ := r2
      obtain ⟨M2, em2, hM2⟩ := hp23.keep (keep_on r5)
      obtain ⟨M3, em3, hM3⟩ := hp33.keep (keep_on r5)
      obtain ⟨s2, d2, es2, _⟩ := hM2.row
      obtain ⟨s3, d3, es3, _⟩ := hM3.row
      obtain ⟨t0, f0, et0⟩ := pas_slice r3
      obtain ⟨t1, f1, et1⟩ := pas_slice r4
      subst ev1 ev2 es2 es3 et0 et1
      have hML : M2.length ≤ 4 ∧ M3.length ≤ 4 := by
        have h7 := congrArg List.length em2
        have h8 := congrArg List.length em3
        have := HTl.out
        rw [List.length_map] at h7 h8
        omega
      have a5 := on_alloc w4 (.cells #[.slice t0 LL.2.2.1.length f0, .slice t1 LL.2.2.2.length f1] 52)
      have n5 := Blk.new w4 52 [.slice t0 LL.2.2.1.length f0, .slice t1 LL.2.2.2.length f1]
      have HK4 : Hid (QAt F' G w4 qb n LL.1 ∧ Goes F G F' G w w4 ∧ ParO (fun k => ¬ F' k) w4 v LL.1) := ⟨hq3.on r5, hg3.after r5, r1'⟩
      have HT1 : Hid (At w4 q1 (bytesV LL.2.1)) := at1.at
      have HT2 : Hid (At w4 q2 (bytesV LL.2.1)) := at2.at
      have HG1 : Hid (PasO (fun _ => True) w4 (.slice s2 M2.length d2) LL.2.2.1 ∧ PasO (fun _ => True) w4 (.slice t0 LL.2.2.1.length f0) LL.2.2.1 ∧ PasO (fun _ => True) w4 (.slice s3 M3.length d3) LL.2.2.2 ∧ PasO (fun _ => True) w4 (.slice t1 LL.2.2.2.length f1) LL.2.2.2) := ⟨⟨M2, em2, hM2⟩, r3, ⟨M3, em3, hM3⟩, r4⟩
      have HM23 : Hid (PasM (fun _ => True) w4 (.slice s2 M2.length d2) M2 ∧ PasM (fun _ => True) w4 (.slice s3 M3.length d3) M3) := ⟨hM2, hM3⟩
      have HA5 : Hid _ := a5
      have HN5 : Hid _ := n5
      clear cR r1 r1' r3 r4 r5 hq3 hg3 hby3 hp23 hp33 at1 at2 hM2 hM3 em2 em3 a5 n5 HK3 z2 z3
      go_upto_region 10 with fail
      generalize hw5 : w4.alloc (.cells #[.slice t0 LL.2.2.1.length f0, .slice t1 LL.2.2.2.length f1] 52) = w5 at *
      clear hw5
      have hb5 := HA5.out
      have hs5 : w5.heap.size = w5.heap.size := rfl
      have hC0 : ClrI (fun j => j < w5.heap.size) w5 [] (.slice (some ⟨w5.heap.size, 0, none⟩) 0 0) (w5.alloc (.cells #[] 64)) := ⟨⟨[], rfl, rowS_empty w5 w5.heap.size _ 5 (Nat.le_refl _), fun x hx => by simp at hx⟩, on_alloc _ _⟩
      have hM25 := (HM23.out.1.keep (keep_on hb5)).mono (O' := fun j => j < w5.heap.size) fun j h1 _ => h1
      have hM35 := (HM23.out.2.keep (keep_on hb5)).mono (O' := fun j => j < w5.heap.size) fun j h1 _ => h1
      obtain ⟨v6, w6, hr6, hC6, _⟩ := hC0.more (hM25.keep (keep_on (on_alloc _ _))) (fun _ h => h) (by simp) (by omega)
      have hb6 := hC6.below
      obtain ⟨v7, w7, hr7, hC7, _⟩ := hC6.more (hM35.keep ⟨hb6.os, hb6.tape, hb6.output, hb6.size, fun j _ h7 => hb6.block j h7⟩) (fun _ h => h) (by simp; omega) (by omega)
      have hb7 := hC7.below
      have hrA := hr6 26
      have hrB := hr7 26
      have tx1 := text_of (c := c1) ((HT1.out.on hb5).on hb7)
      have tx2 := text_of (c := c2) ((HT2.out.on hb5).on hb7)
      have cG1 := given_eq ((HG1.out.1.keep (keep_on hb5)).keep (keep_on hb7)) ((HG1.out.2.1.keep (keep_on hb5)).keep (keep_on hb7)) (by have := HTl.out; omega) HTl.out.2.2.2.1
      have n7 := (HN5.out.on hb7)
      have m0 := n7.cell 0 rfl
      have m1 := n7.cell 1 rfl
      have hb57 := on_trans hb5 hb7
      have HB7 : Hid (Below w4.heap.size w4 w7) := hb57
      have HN7 : Hid _ := n7
      clear hC0 hM25 hM35 hC6 hC7 hr6 hr7 hb6 hb7 hb5 HA5 HN5 HM23 hs5 hb57 n7
      generalize LL.2.1.length = t1l at *
      generalize (⟨LL.2.1.toArray⟩ : ByteArray) = t1s at *
      go_wp2_with (first | (at_builtin; refine wpList_run_append (by rfl) _ _ _ (by rfl) _ _ (by rfl) (by rfl) hrB ?_) | (at_builtin; refine wpList_run_append (by rfl) _ _ _ (by rfl) _ _ (by rfl) (by rfl) hrA ?_))
      refine cG1.mono ?_
      rintro e w8 ⟨rfl, hb8⟩
      clear cG1
      have hb78 := on_trans HB7.out hb8
      have cG2 := given_eq (HG1.out.2.2.1.keep (keep_on hb78)) (HG1.out.2.2.2.keep (keep_on hb78)) (by have := HTl.out; omega) HTl.out.2.2.2.2
      have m2 := (HN7.out.on hb8).cell 1 rfl
      have HB8 : Hid _ := hb78
      clear hb78 hb8
      go_wp2_with fail
      refine cG2.mono ?_
      rintro e w9 ⟨rfl, hb9⟩
      have hb49 := on_trans HB8.out hb9
      have HE := HPo.out _ v7 _ _ (HK4.out.2.2.keep (keep_on hb49)) (HK4.out.1.on hb49) (HK4.out.2.1.after hb49)
      clear cG2 hb9 hb49
      go_wp2
      go_ret3
      exact HE
    · obtain rfl : pl = 0 := by omega
      have hz := HN0.out rfl
      rw [hz]
      go_wp2_with fail
      refine cT.mono ?_
      rintro e w3 ⟨F', v1, v2, v3, rfl, q3, g3, hby, hp2, hp3⟩
      have hl3 := HQ2.out.2.1.goes g3
      have hB3 : Blk w3 w.heap.size 31 [.int .i64 1, .slice (some ⟨bb, bo, none⟩) 200 c, .int .i64 a, .int .i64 m] := by
        have := g3.keep.blk HQ2.out.2.2.2 (fun h7 => by
          have h8 := HQ2.out.1.wr _ h7
          have h9 := typ_blk HQ2.out.2.2.2
          rcases h8 with h8 | h8 | h8 <;> exact typ_ne h8 h9 (by decide) rfl)
        exact this
      have z2 := hB3.cell 2 rfl
      have z3 := hB3.cell 3 rfl
      have cR := rtake_any hl3 a m n HOk.out
      unfold RTakePost at cR
      rw [HLL.out] at cR
      have hlt3 := q3.lt
      have HK3 : Hid (QAt F' G w3 qb n LL.1 ∧ Goes F G F' G w w3 ∧ BytO (fun _ => True) w3 v1 LL.2.1 ∧ PasO (fun _ => True) w3 v2 LL.2.2.1 ∧ PasO (fun _ => True) w3 v3 LL.2.2.2 ∧ ∀ k, F' k → k < w3.heap.size) := ⟨q3, .before HQ2.out.2.2.1 g3, hby.mono fun _ _ _ => trivial, hp2.mono fun _ _ _ => trivial, hp3.mono fun _ _ _ => trivial, hlt3⟩
      clear cT HQ2 q3 g3 hby hp2 hp3 hl3 hB3 hlt3 y2 y3
      go_wp2_with fail
      refine cR.mono ?_
      rintro e w4 ⟨v, b, p0, p1, rfl, r1, r2, r3, r4, r5⟩
      have r1' := up_par r1 HK3.out.2.2.2.2.2
      obtain ⟨hq3, hg3, hby3, hp23, hp33, _⟩ := HK3.out
      obtain ⟨q1, c1, ev1, _, at1⟩ := hby3.keep (keep_on r5)
      obtain ⟨q2, c2, ev2, _, at2⟩ := r2
      obtain ⟨M2, em2, hM2⟩ := hp23.keep (keep_on r5)
      obtain ⟨M3, em3, hM3⟩ := hp33.keep (keep_on r5)
      obtain ⟨s2, d2, es2, _⟩ := hM2.row
      obtain ⟨s3, d3, es3, _⟩ := hM3.row
      obtain ⟨t0, f0, et0⟩ := pas_slice r3
      obtain ⟨t1, f1, et1⟩ := pas_slice r4
      subst ev1 ev2 es2 es3 et0 et1
      have hML : M2.length ≤ 4 ∧ M3.length ≤ 4 := by
        have h7 := congrArg List.length em2
        have h8 := congrArg List.length em3
        have := HTl.out
        rw [List.length_map] at h7 h8
        omega
      have a5 := on_alloc w4 (.cells #[.slice t0 LL.2.2.1.length f0, .slice t1 LL.2.2.2.length f1] 52)
      have n5 := Blk.new w4 52 [.slice t0 LL.2.2.1.length f0, .slice t1 LL.2.2.2.length f1]
      have HK4 : Hid (QAt F' G w4 qb n LL.1 ∧ Goes F G F' G w w4 ∧ ParO (fun k => ¬ F' k) w4 v LL.1) := ⟨hq3.on r5, hg3.after r5, r1'⟩
      have HT1 : Hid (At w4 q1 (bytesV LL.2.1)) := at1.at
      have HT2 : Hid (At w4 q2 (bytesV LL.2.1)) := at2.at
      have HG1 : Hid (PasO (fun _ => True) w4 (.slice s2 M2.length d2) LL.2.2.1 ∧ PasO (fun _ => True) w4 (.slice t0 LL.2.2.1.length f0) LL.2.2.1 ∧ PasO (fun _ => True) w4 (.slice s3 M3.length d3) LL.2.2.2 ∧ PasO (fun _ => True) w4 (.slice t1 LL.2.2.2.length f1) LL.2.2.2) := ⟨⟨M2, em2, hM2⟩, r3, ⟨M3, em3, hM3⟩, r4⟩
      have HM23 : Hid (PasM (fun _ => True) w4 (.slice s2 M2.length d2) M2 ∧ PasM (fun _ => True) w4 (.slice s3 M3.length d3) M3) := ⟨hM2, hM3⟩
      have HA5 : Hid _ := a5
      have HN5 : Hid _ := n5
      clear cR r1 r1' r3 r4 r5 hq3 hg3 hby3 hp23 hp33 at1 at2 hM2 hM3 em2 em3 a5 n5 HK3 z2 z3
      go_upto_region 10 with fail
      generalize hw5 : w4.alloc (.cells #[.slice t0 LL.2.2.1.length f0, .slice t1 LL.2.2.2.length f1] 52) = w5 at *
      clear hw5
      have hb5 := HA5.out
      have hs5 : w5.heap.size = w5.heap.size := rfl
      have hC0 : ClrI (fun j => j < w5.heap.size) w5 [] (.slice (some ⟨w5.heap.size, 0, none⟩) 0 0) (w5.alloc (.cells #[] 64)) := ⟨⟨[], rfl, rowS_empty w5 w5.heap.size _ 5 (Nat.le_refl _), fun x hx => by simp at hx⟩, on_alloc _ _⟩
      have hM25 := (HM23.out.1.keep (keep_on hb5)).mono (O' := fun j => j < w5.heap.size) fun j h1 _ => h1
      have hM35 := (HM23.out.2.keep (keep_on hb5)).mono (O' := fun j => j < w5.heap.size) fun j h1 _ => h1
      obtain ⟨v6, w6, hr6, hC6, _⟩ := hC0.more (hM25.keep (keep_on (on_alloc _ _))) (fun _ h => h) (by simp) (by omega)
      have hb6 := hC6.below
      obtain ⟨v7, w7, hr7, hC7, _⟩ := hC6.more (hM35.keep ⟨hb6.os, hb6.tape, hb6.output, hb6.size, fun j _ h7 => hb6.block j h7⟩) (fun _ h => h) (by simp; omega) (by omega)
      have hb7 := hC7.below
      have hrA := hr6 26
      have hrB := hr7 26
      have tx1 := text_of (c := c1) ((HT1.out.on hb5).on hb7)
      have tx2 := text_of (c := c2) ((HT2.out.on hb5).on hb7)
      have cG1 := given_eq ((HG1.out.1.keep (keep_on hb5)).keep (keep_on hb7)) ((HG1.out.2.1.keep (keep_on hb5)).keep (keep_on hb7)) (by have := HTl.out; omega) HTl.out.2.2.2.1
      have n7 := (HN5.out.on hb7)
      have m0 := n7.cell 0 rfl
      have m1 := n7.cell 1 rfl
      have hb57 := on_trans hb5 hb7
      have HB7 : Hid (Below w4.heap.size w4 w7) := hb57
      have HN7 : Hid _ := n7
      clear hC0 hM25 hM35 hC6 hC7 hr6 hr7 hb6 hb7 hb5 HA5 HN5 HM23 hs5 hb57 n7
      generalize LL.2.1.length = t1l at *
      generalize (⟨LL.2.1.toArray⟩ : ByteArray) = t1s at *
      go_wp2_with (first | (at_builtin; refine wpList_run_append (by rfl) _ _ _ (by rfl) _ _ (by rfl) (by rfl) hrB ?_) | (at_builtin; refine wpList_run_append (by rfl) _ _ _ (by rfl) _ _ (by rfl) (by rfl) hrA ?_))
      refine cG1.mono ?_
      rintro e w8 ⟨rfl, hb8⟩
      clear cG1
      have hb78 := on_trans HB7.out hb8
      have cG2 := given_eq (HG1.out.2.2.1.keep (keep_on hb78)) (HG1.out.2.2.2.keep (keep_on hb78)) (by have := HTl.out; omega) HTl.out.2.2.2.2
      have m2 := (HN7.out.on hb8).cell 1 rfl
      have HB8 : Hid _ := hb78
      clear hb78 hb8
      go_wp2_with fail
      refine cG2.mono ?_
      rintro e w9 ⟨rfl, hb9⟩
      have hb49 := on_trans HB8.out hb9
      have HE := HPo.out _ v7 _ _ (HK4.out.2.2.keep (keep_on hb49)) (HK4.out.1.on hb49) (HK4.out.2.1.after hb49)
      clear cG2 hb9 hb49
      go_wp2
      go_ret3
      exact HE
  · have hbz : ¬ (200 : Int) < (bl : Int) := by omega
    clear hp
    go_enter Try.func8, Try.ntmps8
    go_wp2_with fail
    generalize hw1 : w.alloc (.cells #[.int .i64 1, .slice p bl c, .int .i64 a, .int .i64 m] 31) = w1
    obtain ⟨hq1, hl1, hb1, hB1⟩ := (key p bl).out w1 hw1.symm
    clear key hw1
    refine (next_any hq1).mono ?_
    rintro e w2 ⟨rfl, hb2⟩
    have HQ2 : Hid (QAt F G w2 qb n ps ∧ ParO (fun k => ¬ F k) w2 (.slice lp pl lc) ps ∧ Below w.heap.size w w2 ∧ Blk w2 w.heap.size 31 [.int .i64 1, .slice p bl c, .int .i64 a, .int .i64 m]) := ⟨hq1.on hb2, hl1.keep (keep_on hb2), on_trans hb1 hb2, hB1.on hb2⟩
    clear hq1 hl1 hb1 hB1 hb2
    have y2 := HQ2.out.2.2.2.cell 2 rfl
    have y3 := HQ2.out.2.2.2.cell 3 rfl
    have cT := take_any HQ2.out.1 a m ha
    unfold TakePost at cT
    rw [HLL.out] at cT
    obtain ⟨nx, hnx⟩ : ∃ nx, nextF ps = nx := ⟨_, rfl⟩
    have hfin : ∀ (want : Int), want = (nx : Int) → True := fun _ _ => trivial
    by_cases hpos : 0 < pl
    · obtain ⟨lb, lo, lq, lqc, rfl, hc1⟩ := HL0.out w2 HQ2.out.2.2.1 hpos
      rw [hnx] at hc1 ⊢
      have hposz : (0 : Int) < (pl : Int) := by omega
      go_wp2_with fail
      refine cT.mono ?_
      rintro e w3 ⟨F', v1, v2, v3, rfl, q3, g3, hby, hp2, hp3⟩
      have hl3 := HQ2.out.2.1.goes g3
      have hB3 : Blk w3 w.heap.size 31 [.int .i64 1, .slice p bl c, .int .i64 a, .int .i64 m] := by
        have := g3.keep.blk HQ2.out.2.2.2 (fun h7 => by
          have h8 := HQ2.out.1.wr _ h7
          have h9 := typ_blk HQ2.out.2.2.2
          rcases h8 with h8 | h8 | h8 <;> exact typ_ne h8 h9 (by decide) rfl)
        exact this
      have z2 := hB3.cell 2 rfl
      have z3 := hB3.cell 3 rfl
      have cR := rtake_any hl3 a m n HOk.out
      unfold RTakePost at cR
      rw [HLL.out] at cR
      have hlt3 := q3.lt
      have HK3 : Hid (QAt F' G w3 qb n LL.1 ∧ Goes F G F' G w w3 ∧ BytO (fun _ => True) w3 v1 LL.2.1 ∧ PasO (fun _ => True) w3 v2 LL.2.2.1 ∧ PasO (fun _ => True) w3 v3 LL.2.2.2 ∧ ∀ k, F' k → k < w3.heap.size) := ⟨q3, .before HQ2.out.2.2.1 g3, hby.mono fun _ _ _ => trivial, hp2.mono fun _ _ _ => trivial, hp3.mono fun _ _ _ => trivial, hlt3⟩
      clear cT HQ2 q3 g3 hby hp2 hp3 hl3 hB3 hlt3 y2 y3
      go_wp2_with fail
      refine cR.mono ?_
      rintro e w4 ⟨v, b, p0, p1, rfl, r1, r2, r3, r4, r5⟩
      have r1' := up_par r1 HK3.out.2.2.2.2.2
      obtain ⟨hq3, hg3, hby3, hp23, hp33, _⟩ := HK3.out
      obtain ⟨q1, c1, ev1, _, at1⟩ := hby3.keep (keep_on r5)
      obtain ⟨q2, c2, ev2, _, at2⟩ := r2
      obtain ⟨M2, em2, hM2⟩ := hp23.keep (keep_on r5)
      obtain ⟨M3, em3, hM3⟩ := hp33.keep (keep_on r5)
      obtain ⟨s2, d2, es2, _⟩ := hM2.row
      obtain ⟨s3, d3, es3, _⟩ := hM3.row
      obtain ⟨t0, f0, et0⟩ := pas_slice r3
      obtain ⟨t1, f1, et1⟩ := pas_slice r4
      subst ev1 ev2 es2 es3 et0 et1
      have hML : M2.length ≤ 4 ∧ M3.length ≤ 4 := by
        have h7 := congrArg List.length em2
        have h8 := congrArg List.length em3
        have := HTl.out
        rw [List.length_map] at h7 h8
        omega
      have a5 := on_alloc w4 (.cells #[.slice t0 LL.2.2.1.length f0, .slice t1 LL.2.2.2.length f1] 52)
      have n5 := Blk.new w4 52 [.slice t0 LL.2.2.1.length f0, .slice t1 LL.2.2.2.length f1]
      have HK4 : Hid (QAt F' G w4 qb n LL.1 ∧ Goes F G F' G w w4 ∧ ParO (fun k => ¬ F' k) w4 v LL.1) := ⟨hq3.on r5, hg3.after r5, r1'⟩
      have HT1 : Hid (At w4 q1 (bytesV LL.2.1)) := at1.at
      have HT2 : Hid (At w4 q2 (bytesV LL.2.1)) := at2.at
      have HG1 : Hid (PasO (fun _ => True) w4 (.slice s2 M2.length d2) LL.2.2.1 ∧ PasO (fun _ => True) w4 (.slice t0 LL.2.2.1.length f0) LL.2.2.1 ∧ PasO (fun _ => True) w4 (.slice s3 M3.length d3) LL.2.2.2 ∧ PasO (fun _ => True) w4 (.slice t1 LL.2.2.2.length f1) LL.2.2.2) := ⟨⟨M2, em2, hM2⟩, r3, ⟨M3, em3, hM3⟩, r4⟩
      have HM23 : Hid (PasM (fun _ => True) w4 (.slice s2 M2.length d2) M2 ∧ PasM (fun _ => True) w4 (.slice s3 M3.length d3) M3) := ⟨hM2, hM3⟩
      have HA5 : Hid _ := a5
      have HN5 : Hid _ := n5
      clear cR r1 r1' r3 r4 r5 hq3 hg3 hby3 hp23 hp33 at1 at2 hM2 hM3 em2 em3 a5 n5 HK3 z2 z3
      go_upto_region 10 with fail
      generalize hw5 : w4.alloc (.cells #[.slice t0 LL.2.2.1.length f0, .slice t1 LL.2.2.2.length f1] 52) = w5 at *
      clear hw5
      have hb5 := HA5.out
      have hs5 : w5.heap.size = w5.heap.size := rfl
      have hC0 : ClrI (fun j => j < w5.heap.size) w5 [] (.slice (some ⟨w5.heap.size, 0, none⟩) 0 0) (w5.alloc (.cells #[] 64)) := ⟨⟨[], rfl, rowS_empty w5 w5.heap.size _ 5 (Nat.le_refl _), fun x hx => by simp at hx⟩, on_alloc _ _⟩
      have hM25 := (HM23.out.1.keep (keep_on hb5)).mono (O' := fun j => j < w5.heap.size) fun j h1 _ => h1
      have hM35 := (HM23.out.2.keep (keep_on hb5)).mono (O' := fun j => j < w5.heap.size) fun j h1 _ => h1
      obtain ⟨v6, w6, hr6, hC6, _⟩ := hC0.more (hM25.keep (keep_on (on_alloc _ _))) (fun _ h => h) (by simp) (by omega)
      have hb6 := hC6.below
      obtain ⟨v7, w7, hr7, hC7, _⟩ := hC6.more (hM35.keep ⟨hb6.os, hb6.tape, hb6.output, hb6.size, fun j _ h7 => hb6.block j h7⟩) (fun _ h => h) (by simp; omega) (by omega)
      have hb7 := hC7.below
      have hrA := hr6 26
      have hrB := hr7 26
      have tx1 := text_of (c := c1) ((HT1.out.on hb5).on hb7)
      have tx2 := text_of (c := c2) ((HT2.out.on hb5).on hb7)
      have cG1 := given_eq ((HG1.out.1.keep (keep_on hb5)).keep (keep_on hb7)) ((HG1.out.2.1.keep (keep_on hb5)).keep (keep_on hb7)) (by have := HTl.out; omega) HTl.out.2.2.2.1
      have n7 := (HN5.out.on hb7)
      have m0 := n7.cell 0 rfl
      have m1 := n7.cell 1 rfl
      have hb57 := on_trans hb5 hb7
      have HB7 : Hid (Below w4.heap.size w4 w7) := hb57
      have HN7 : Hid _ := n7
      clear hC0 hM25 hM35 hC6 hC7 hr6 hr7 hb6 hb7 hb5 HA5 HN5 HM23 hs5 hb57 n7
      generalize LL.2.1.length = t1l at *
      generalize (⟨LL.2.1.toArray⟩ : ByteArray) = t1s at *
      go_wp2_with (first | (at_builtin; refine wpList_run_append (by rfl) _ _ _ (by rfl) _ _ (by rfl) (by rfl) hrB ?_) | (at_builtin; refine wpList_run_append (by rfl) _ _ _ (by rfl) _ _ (by rfl) (by rfl) hrA ?_))
      refine cG1.mono ?_
      rintro e w8 ⟨rfl, hb8⟩
      clear cG1
      have hb78 := on_trans HB7.out hb8
      have cG2 := given_eq (HG1.out.2.2.1.keep (keep_on hb78)) (HG1.out.2.2.2.keep (keep_on hb78)) (by have := HTl.out; omega) HTl.out.2.2.2.2
      have m2 := (HN7.out.on hb8).cell 1 rfl
      have HB8 : Hid _ := hb78
      clear hb78 hb8
      go_wp2_with fail
      refine cG2.mono ?_
      rintro e w9 ⟨rfl, hb9⟩
      have hb49 := on_trans HB8.out hb9
      have HE := HPo.out _ v7 _ _ (HK4.out.2.2.keep (keep_on hb49)) (HK4.out.1.on hb49) (HK4.out.2.1.after hb49)
      clear cG2 hb9 hb49
      go_wp2
      go_ret3
      exact HE
    · obtain rfl : pl = 0 := by omega
      have hz := HN0.out rfl
      rw [hz]
      go_wp2_with fail
      refine cT.mono ?_
      rintro e w3 ⟨F', v1, v2, v3, rfl, q3, g3, hby, hp2, hp3⟩
      have hl3 := HQ2.out.2.1.goes g3
      have hB3 : Blk w3 w.heap.size 31 [.int .i64 1, .slice p bl c, .int .i64 a, .int .i64 m] := by
        have := g3.keep.blk HQ2.out.2.2.2 (fun h7 => by
          have h8 := HQ2.out.1.wr _ h7
          have h9 := typ_blk HQ2.out.2.2.2
          rcases h8 with h8 | h8 | h8 <;> exact typ_ne h8 h9 (by decide) rfl)
        exact this
      have z2 := hB3.cell 2 rfl
      have z3 := hB3.cell 3 rfl
      have cR := rtake_any hl3 a m n HOk.out
      unfold RTakePost at cR
      rw [HLL.out] at cR
      have hlt3 := q3.lt
      have HK3 : Hid (QAt F' G w3 qb n LL.1 ∧ Goes F G F' G w w3 ∧ BytO (fun _ => True) w3 v1 LL.2.1 ∧ PasO (fun _ => True) w3 v2 LL.2.2.1 ∧ PasO (fun _ => True) w3 v3 LL.2.2.2 ∧ ∀ k, F' k → k < w3.heap.size) := ⟨q3, .before HQ2.out.2.2.1 g3, hby.mono fun _ _ _ => trivial, hp2.mono fun _ _ _ => trivial, hp3.mono fun _ _ _ => trivial, hlt3⟩
      clear cT HQ2 q3 g3 hby hp2 hp3 hl3 hB3 hlt3 y2 y3
      go_wp2_with fail
      refine cR.mono ?_
      rintro e w4 ⟨v, b, p0, p1, rfl, r1, r2, r3, r4, r5⟩
      have r1' := up_par r1 HK3.out.2.2.2.2.2
      obtain ⟨hq3, hg3, hby3, hp23, hp33, _⟩ := HK3.out
      obtain ⟨q1, c1, ev1, _, at1⟩ := hby3.keep (keep_on r5)
      obtain ⟨q2, c2, ev2, _, at2⟩ := r2
      obtain ⟨M2, em2, hM2⟩ := hp23.keep (keep_on r5)
      obtain ⟨M3, em3, hM3⟩ := hp33.keep (keep_on r5)
      obtain ⟨s2, d2, es2, _⟩ := hM2.row
      obtain ⟨s3, d3, es3, _⟩ := hM3.row
      obtain ⟨t0, f0, et0⟩ := pas_slice r3
      obtain ⟨t1, f1, et1⟩ := pas_slice r4
      subst ev1 ev2 es2 es3 et0 et1
      have hML : M2.length ≤ 4 ∧ M3.length ≤ 4 := by
        have h7 := congrArg List.length em2
        have h8 := congrArg List.length em3
        have := HTl.out
        rw [List.length_map] at h7 h8
        omega
      have a5 := on_alloc w4 (.cells #[.slice t0 LL.2.2.1.length f0, .slice t1 LL.2.2.2.length f1] 52)
      have n5 := Blk.new w4 52 [.slice t0 LL.2.2.1.length f0, .slice t1 LL.2.2.2.length f1]
      have HK4 : Hid (QAt F' G w4 qb n LL.1 ∧ Goes F G F' G w w4 ∧ ParO (fun k => ¬ F' k) w4 v LL.1) := ⟨hq3.on r5, hg3.after r5, r1'⟩
      have HT1 : Hid (At w4 q1 (bytesV LL.2.1)) := at1.at
      have HT2 : Hid (At w4 q2 (bytesV LL.2.1)) := at2.at
      have HG1 : Hid (PasO (fun _ => True) w4 (.slice s2 M2.length d2) LL.2.2.1 ∧ PasO (fun _ => True) w4 (.slice t0 LL.2.2.1.length f0) LL.2.2.1 ∧ PasO (fun _ => True) w4 (.slice s3 M3.length d3) LL.2.2.2 ∧ PasO (fun _ => True) w4 (.slice t1 LL.2.2.2.length f1) LL.2.2.2) := ⟨⟨M2, em2, hM2⟩, r3, ⟨M3, em3, hM3⟩, r4⟩
      have HM23 : Hid (PasM (fun _ => True) w4 (.slice s2 M2.length d2) M2 ∧ PasM (fun _ => True) w4 (.slice s3 M3.length d3) M3) := ⟨hM2, hM3⟩
      have HA5 : Hid _ := a5
      have HN5 : Hid _ := n5
      clear cR r1 r1' r3 r4 r5 hq3 hg3 hby3 hp23 hp33 at1 at2 hM2 hM3 em2 em3 a5 n5 HK3 z2 z3
      go_upto_region 10 with fail
      generalize hw5 : w4.alloc (.cells #[.slice t0 LL.2.2.1.length f0, .slice t1 LL.2.2.2.length f1] 52) = w5 at *
      clear hw5
      have hb5 := HA5.out
      have hs5 : w5.heap.size = w5.heap.size := rfl
      have hC0 : ClrI (fun j => j < w5.heap.size) w5 [] (.slice (some ⟨w5.heap.size, 0, none⟩) 0 0) (w5.alloc (.cells #[] 64)) := ⟨⟨[], rfl, rowS_empty w5 w5.heap.size _ 5 (Nat.le_refl _), fun x hx => by simp at hx⟩, on_alloc _ _⟩
      have hM25 := (HM23.out.1.keep (keep_on hb5)).mono (O' := fun j => j < w5.heap.size) fun j h1 _ => h1
      have hM35 := (HM23.out.2.keep (keep_on hb5)).mono (O' := fun j => j < w5.heap.size) fun j h1 _ => h1
      obtain ⟨v6, w6, hr6, hC6, _⟩ := hC0.more (hM25.keep (keep_on (on_alloc _ _))) (fun _ h => h) (by simp) (by omega)
      have hb6 := hC6.below
      obtain ⟨v7, w7, hr7, hC7, _⟩ := hC6.more (hM35.keep ⟨hb6.os, hb6.tape, hb6.output, hb6.size, fun j _ h7 => hb6.block j h7⟩) (fun _ h => h) (by simp; omega) (by omega)
      have hb7 := hC7.below
      have hrA := hr6 26
      have hrB := hr7 26
      have tx1 := text_of (c := c1) ((HT1.out.on hb5).on hb7)
      have tx2 := text_of (c := c2) ((HT2.out.on hb5).on hb7)
      have cG1 := given_eq ((HG1.out.1.keep (keep_on hb5)).keep (keep_on hb7)) ((HG1.out.2.1.keep (keep_on hb5)).keep (keep_on hb7)) (by have := HTl.out; omega) HTl.out.2.2.2.1
      have n7 := (HN5.out.on hb7)
      have m0 := n7.cell 0 rfl
      have m1 := n7.cell 1 rfl
      have hb57 := on_trans hb5 hb7
      have HB7 : Hid (Below w4.heap.size w4 w7) := hb57
      have HN7 : Hid _ := n7
      clear hC0 hM25 hM35 hC6 hC7 hr6 hr7 hb6 hb7 hb5 HA5 HN5 HM23 hs5 hb57 n7
      generalize LL.2.1.length = t1l at *
      generalize (⟨LL.2.1.toArray⟩ : ByteArray) = t1s at *
      go_wp2_with (first | (at_builtin; refine wpList_run_append (by rfl) _ _ _ (by rfl) _ _ (by rfl) (by rfl) hrB ?_) | (at_builtin; refine wpList_run_append (by rfl) _ _ _ (by rfl) _ _ (by rfl) (by rfl) hrA ?_))
      refine cG1.mono ?_
      rintro e w8 ⟨rfl, hb8⟩
      clear cG1
      have hb78 := on_trans HB7.out hb8
      have cG2 := given_eq (HG1.out.2.2.1.keep (keep_on hb78)) (HG1.out.2.2.2.keep (keep_on hb78)) (by have := HTl.out; omega) HTl.out.2.2.2.2
      have m2 := (HN7.out.on hb8).cell 1 rfl
      have HB8 : Hid _ := hb78
      clear hb78 hb8
      go_wp2_with fail
      refine cG2.mono ?_
      rintro e w9 ⟨rfl, hb9⟩
      have hb49 := on_trans HB8.out hb9
      have HE := HPo.out _ v7 _ _ (HK4.out.2.2.keep (keep_on hb49)) (HK4.out.1.on hb49) (HK4.out.2.1.after hb49)
      clear cG2 hb9 hb49
      go_wp2
      go_ret3
      exact HE

end Go.Proofs.Ytmhkfapafedglaa.K
