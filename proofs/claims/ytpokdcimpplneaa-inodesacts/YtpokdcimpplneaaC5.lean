/- Rows of numbers, sorted. -/
import Derived.Test.YtpokdcimpplneaaC4
namespace Go.Proofs.Ytpokdcimpplneaa
open Go Go.RowKit Go.Shelf Go.Sort

abbrev intsV (l : List Int) : List Value := l.map (Value.int .i64)
theorem elemInt : ElemOk Try.prog 59 3 (.int .i64 0) 8 := ⟨Try.underlying59, by kernel_rfl, rfl, by decide⟩
theorem rises_unique : ∀ {a b : List Int}, a.Pairwise (· < ·) → b.Pairwise (· < ·) → (∀ x, x ∈ a ↔ x ∈ b) → a = b
  | [], [], _, _, _ => rfl
  | [], y :: r, _, _, h => absurd ((h y).2 (by simp)) (by simp)
  | x :: r, [], _, _, h => absurd ((h x).1 (by simp)) (by simp)
  | x :: r, y :: t, ha, hb, h => by
    have ha' := List.pairwise_cons.1 ha
    have hb' := List.pairwise_cons.1 hb
    have hxy : x = y := by
      rcases List.mem_cons.1 ((h x).1 (by simp)) with e | e
      · exact e
      · rcases List.mem_cons.1 ((h y).2 (by simp)) with e2 | e2
        · exact e2.symm
        · have h1 := hb'.1 x e
          have h2 := ha'.1 y e2
          omega
    subst hxy
    congr 1
    refine rises_unique ha'.2 hb'.2 fun z => ⟨fun hz => ?_, fun hz => ?_⟩
    · rcases List.mem_cons.1 ((h z).1 (List.mem_cons_of_mem _ hz)) with e | e
      · have := ha'.1 z hz; omega
      · exact e
    · rcases List.mem_cons.1 ((h z).2 (List.mem_cons_of_mem _ hz)) with e | e
      · have := hb'.1 z hz; omega
      · exact e

/-- A row of numbers that the call has made. -/
structure Mine (w : World) (base g off : Nat) (l : List Int) : Prop where
  base : base ≤ g
  lt : g < w.heap.size
  held : Holds (Value.int .i64) w g off l.toArray

theorem mine_of_row {w : World} {base n : Nat} {v : Value} {l : List Int} (h : w.ownsRow base 3 1 v n (l.map (Value.int .i64))) (hv : v ≠ .slice none 0 0) :
    ∃ g cap, v = .slice (some ⟨g, 0, none⟩) n cap ∧ Mine w base g 0 l ∧ n = l.length ∧ n ≤ cap := by
  have hn : n = l.length := by have := h.1; simpa using this.symm
  rcases h.2 with ⟨h0, h1⟩ | ⟨g, cap, cur, rfl, hb, hg, hc, _, hs, ht⟩
  · exact absurd h0 hv
  · refine ⟨g, cap, rfl, ⟨hb, (Array.getElem?_eq_some_iff.1 hg).1, fun j hj => ⟨?_, ?_⟩⟩, hn, hc⟩
    · have hj' : j < l.length := by simpa using hj
      have hu : (l.map (Value.int .i64))[j]? = some (.int .i64 l[j]) := by simp [hj']
      rw [← ht, List.getElem?_take_of_lt (by omega)] at hu
      rw [Nat.zero_add, getElem!_pos l.toArray j hj]
      simp only [World.cell?, hg]
      simpa using hu
    · simp [World.frozen?, hg]

theorem below_rows {B : Nat} {w0 w : World} {g off q : Nat} {d : Array Int} {os : Array Obj} (h : Below B w0 w) (hg : B ≤ g) (hlt : g < w.heap.size) :
    Below B w0 (grow (putRow (Value.int .i64) (Sort.ahead w q) g off d) os) := by
  have hs : (putRow (Value.int .i64) (Sort.ahead w q) g off d).heap.size = w.heap.size := by simp [putRow, mapBlock, Sort.ahead]
  refine ⟨h.os, h.tape, h.output, ?_, fun k hk => ?_⟩
  · have := h.size
    show w0.heap.size ≤ ((putRow (Value.int .i64) (Sort.ahead w q) g off d).heap ++ os).size
    rw [Array.size_append, hs]; omega
  · rw [← h.block k hk]
    show ((putRow (Value.int .i64) (Sort.ahead w q) g off d).heap ++ os)[k]? = _
    rw [Array.getElem?_append_left (by rw [hs]; omega)]
    simp [putRow, mapBlock, Sort.ahead, Array.getElem?_modify, show g ≠ k by omega]

theorem sort_mine (g cap base : Nat) (l : List Int) (w : World) (hm : Mine w base g 0 l) (hl : l.length < 4611686018427387904) :
    Calls Try.prog 48 #[.slice (some ⟨g, 0, none⟩) l.length cap] w fun e w' => e = .returned (.tuple #[]) ∧ Below base w w' ∧ Mine w' base g 0 (l.mergeSort fun x y => decide (x ≤ y)) := by
  refine (Try.slices_Sort_int g 0 cap l w hm.held hm.lt hl).mono ?_
  rintro e w' ⟨rfl, q, os, rfl⟩
  have hlt : g < (putRow (Value.int .i64) (Sort.ahead w q) g 0 (l.mergeSort fun x y => decide (x ≤ y)).toArray).heap.size := by simpa [putRow, mapBlock, Sort.ahead] using hm.lt
  refine ⟨rfl, below_rows (Below.refl _ _) hm.base hm.lt, hm.base, ?_, holds_grow _ _ _ _ _ _ hlt (holds_putRow _ _ _ _ l.toArray _ (holds_ahead _ _ _ _ _ _ hm.held) (by simp))⟩
  show g < (_ ++ os : Array Obj).size
  rw [Array.size_append]; omega

theorem Mine.at {w : World} {base g : Nat} {l : List Int} (h : Mine w base g 0 l) : AtF base w (some ⟨g, 0, none⟩) (intsV l) :=
  .inr ⟨g, 0, rfl, h.base, h.lt, fun j v hj => by
    have hj' : j < l.length := by have := (List.getElem?_eq_some_iff.1 hj).1; simpa using this
    have h1 := (h.held j (by simpa using hj')).1
    rw [h1, getElem!_pos l.toArray j (by simpa using hj')]
    rw [List.getElem?_map, List.getElem?_eq_getElem hj'] at hj
    simpa using hj⟩
/-- Numbers of which none comes twice, sorted: they rise. -/
theorem merge_rises {l : List Int} (h : l.Nodup) : (l.mergeSort fun x y => decide (x ≤ y)).Pairwise (· < ·) := by
  have h1 := List.pairwise_mergeSort (le := fun x y : Int => decide (x ≤ y)) (fun a b c h1 h2 => by simp at *; omega) (fun a b => by simp; omega) l
  have h2 : (l.mergeSort fun x y => decide (x ≤ y)).Nodup := (List.mergeSort_perm l _).nodup_iff.2 h
  refine (h1.and h2).imp ?_
  intro a b ⟨h3, h4⟩
  simp at h3
  omega

end Go.Proofs.Ytpokdcimpplneaa

namespace Go.Proofs.Ytpokdcimpplneaa
open Go Go.RowKit Go.Maps

/-- The numbers that there are. -/
def keysL (L : List Nd) : List Int := L.map fun n => (n.ino : Int)
theorem keysL_rises {L : List Nd} (h : L.Pairwise fun a b => a.ino < b.ino) : (keysL L).Pairwise (· < ·) := by
  unfold keysL
  rw [List.pairwise_map]
  exact h.imp fun h => by omega
theorem ranges_grow {H : Type} {P : Program} {k : TypeId} {R : Value → Option (DataW H × List MemPlace)} {w w' : World} {b r n hi : Nat} {e : TypeId} {D : DataW H} {left : Lit → Bool} {cnt : Nat} (h : w.ranges P k R b r n D left cnt) (hg : RowGrow hi e w w') : w'.ranges P k R b r n D left cnt := by
  obtain ⟨es, clock, since, seen, c0, hb, F, hs, hD, hr, rest⟩ := h
  obtain ⟨q, h1, h2⟩ := hg.block
  refine ⟨es, clock, since, seen, c0, (h2 b (Array.getElem?_eq_some_iff.1 hb).1 fun e => ?_).trans hb, F, hs, hD, (h2 r (Array.getElem?_eq_some_iff.1 hr).1 fun e => ?_).trans hr, rest⟩
  · obtain ⟨_, cs, fr, h3⟩ := h1 b e
    rw [hb] at h3; cases h3
  · obtain ⟨_, cs, fr, h3⟩ := h1 r e
    rw [hr] at h3; cases h3
/-- While the numbers are gathered. -/
structure AllI (w : World) (mb r m : Nat) (D : DataW Nat) (L : List Nd) (left : Lit → Bool) (cnt : Nat) (acc : List Int) (ov : Value) (wr : World) : Prop where
  rg : wr.ranges Try.prog 3 ptrElem mb r m D left cnt
  row : OwnV w.heap.size 3 wr ov (intsV acc)
  some_ : ov ≠ .slice none 0 0
  below : Below w.heap.size w wr
  nodup : acc.Nodup
  mem : ∀ x, x ∈ acc ↔ ∃ n ∈ L, x = (n.ino : Int) ∧ left (ky n.ino) = false
  few : acc.length + cnt ≤ 1024
theorem all_nil (w : World) : Calls Try.prog 18 #[.pointer none] w fun e w' => e = .returned (.slice none 0 0) ∧ w' = w := by
  go_enter Try.func18, Try.ntmps18
  go_wp2
  go_ret
  exact ⟨rfl, rfl⟩
def AllPost (L : List Nd) (w : World) (e : Ending) (w' : World) : Prop := ∃ p c, e = .returned (.slice p L.length c) ∧ AtF w.heap.size w' p (intsV (keysL L)) ∧ Below w.heap.size w w'
theorem sameKey_ky {j k : Nat} : (ky j).sameKey (ky k) = decide (j = k) := by
  by_cases h : j = k
  · subst h; simp [Lit.sameKey]
  · simp [Lit.sameKey, h]; omega
set_option maxRecDepth 100000 in
set_option maxHeartbeats 2000000 in
theorem all_any {hi sb c : Nat} {w : World} {s : SS} (h : StoreAt hi w sb s) (hf : Wf s c) : Calls Try.prog 18 #[ptr sb] w (AllPost s.L w) := by
  obtain ⟨mb, D, Fs, h⟩ := h
  have hsz : Maps.size D ≤ 1024 := by rw [h.is.count]; exact cntF_le _ _
  have hlen : Maps.size D = s.L.length := by rw [h.is.count]; exact cntF_hasK hf.sorted fun n hn => h.is.small _ (hasK_of hn)
  have x0 := h.box.cell 0 rfl
  have hl := h.len hf.sorted
  obtain ⟨i0, hi0, hz0, hz1, hz2⟩ := info_parts elemInt.info
  obtain ⟨w1, hmk, hrow1, hg1⟩ := run_make_own (P := Try.prog) w w.heap.size 59 3 i0 (.int .i64 0) 1 elemInt.slice hi0 hz0 hz1 .i64 .i64 s.L.length (by rw [hz2]; omega) (by unfold maxLen; omega) (Nat.le_refl _)
  have hB1 : Below w.heap.size w w1 := ⟨hg1.os, hg1.tape, hg1.output, hg1.size, fun k hk => hg1.block k hk (by simp)⟩
  have h1 := h.on hB1
  have y0 := h1.box.cell 0 rfl
  have hown := h1.map
  have HROW : Hid (OwnV w.heap.size 3 w1 (.slice (some ⟨w.heap.size, 0, none⟩) 0 s.L.length) (intsV [])) := hrow1
  have HB1 : Hid (Below w.heap.size w w1) := hB1
  have HW1 : Hid (w.heap.size ≤ w1.heap.size) := hB1.size
  have HK : Hid (∀ kl, Maps.has D kl = true → ∃ n ∈ s.L, kl = ky n.ino) := fun kl hk => by
    obtain ⟨k, e, hk'⟩ := h.is.keys kl hk
    obtain ⟨n, hn, rfl⟩ := hasK_iff.1 hk'
    exact ⟨n, hn, e⟩
  have HH : Hid (∀ n ∈ s.L, Maps.has D (ky n.ino) = true) := fun n hn => (h.is.held _ (hasK_of hn)).1
  have HS : Hid (s.L.Pairwise fun a b => a.ino < b.ino) := hf.sorted
  have HLen : Hid (Maps.size D = s.L.length) := hlen
  have HP : Hid (∀ g cc w', Mine w' w.heap.size g 0 (keysL s.L) → Below w.heap.size w w' → AllPost s.L w (.returned (.slice (some ⟨g, 0, none⟩) s.L.length cc)) w') := fun g cc w' h1 h2 => ⟨_, cc, rfl, h1.at, h2⟩
  generalize AllPost s.L w = Post at *
  clear h h1 hf hrow1 hB1 hg1 hlen
  go_enter Try.func18, Try.ntmps18
  go_wp2_with (first
    | (at_range; refine wpList_range_own _ rfl _ 88 rfl 3 82 lawInt Try.underlying88 _ mb (Maps.size D) D rfl hown ?_; intro w0 hrg0 hg0 hs0; go_frame)
    | go_in)
  have HI0 : Hid (AllI w mb w1.heap.size (Maps.size D) D s.L (Maps.has D) (Maps.size D) [] (.slice (some ⟨w.heap.size, 0, none⟩) 0 s.L.length) w0) := by
    have hb0 : Below w1.heap.size w1 w0 := ⟨hg0.os, hg0.tape, hg0.output, hg0.size, fun k hk => hg0.block k hk (by simp)⟩
    refine ⟨hrg0, ownV_on HROW.out hb0, by simp, on_trans HB1.out hb0, .nil, fun x => ⟨(fun hx => by cases hx), fun ⟨n, hn, _, hl⟩ => ?_⟩, by simpa using hsz⟩
    rw [HH.out n hn] at hl; cases hl
  clear hrg0 hg0 HROW HB1
  go_loopw [3] (fun ov wr => ∃ (left : Lit → Bool) (cnt : Nat) (acc : List Int), Hid (AllI w mb w1.heap.size (Maps.size D) D s.L left cnt acc ov wr)) (fun _ wr => wr.rangeLeft mb w1.heap.size)
  case atStart => exact ⟨_, _, _, HI0⟩
  case round =>
    clear HI0
    obtain ⟨left, cnt, acc, HI⟩ := hrel
    go_wp2_with (first
      | (at_next; refine wpList_next_ranges (α := Int) (β := Value) _ rfl _ rfl 3 lawInt ptrElem (Value.int .i64) id (fun key kl hkey => by obtain ⟨x, rfl, _⟩ := Maps.keyOf_int_inv Try.underlying3 hkey; exact ⟨x, rfl⟩) (fun v y _ => ⟨v, rfl⟩) mb w1.heap.size (Maps.size D) D left cnt rfl HI.out.rg ?_ ?_)
      | go_in)
    · -- nothing is left
      intro _ hl0
      have I := HI.out
      have hk : (acc.mergeSort fun x y => decide (x ≤ y)) = keysL s.L := rises_unique (merge_rises I.nodup) (keysL_rises HS.out) fun x => by
        rw [(List.mergeSort_perm acc _).mem_iff, I.mem]
        unfold keysL
        rw [List.mem_map]
        exact ⟨fun ⟨n, hn, e, _⟩ => ⟨n, hn, e.symm⟩, fun ⟨n, hn, e⟩ => ⟨n, hn, e.symm, hl0 _⟩⟩
      have hal : acc.length = s.L.length := by
        have := congrArg List.length hk
        simpa [keysL] using this
      obtain ⟨g, cap, rfl, hm, _, _⟩ := mine_of_row I.row I.some_
      rw [show (intsV acc).length = acc.length by simp] at *
      have cS := sort_mine g cap w.heap.size acc wr hm (by have := I.few; omega)
      rw [hk, hal] at cS
      have HBW : Hid (Below w.heap.size w wr) := I.below
      rw [hal]
      clear I HI hm hk hal hl0
      go_wp2_with fail
      refine cS.mono ?_
      rintro e w2 ⟨rfl, hb2, hm2⟩
      have HZ : Hid _ := HP.out g cap w2 hm2 (HBW.out.trans hb2)
      clear HP cS hb2 hm2
      go_wp2
      exact HZ.out
    · -- an entry has come
      intro x v kl y ys w2 cnt2 hkey hlx hv hat hrg2 hlt hg2 hs2 hen
      obtain ⟨x', ex, ekl, hwx⟩ := Maps.keyOf_int_inv Try.underlying3 hkey
      cases ex
      have hhas : Maps.has D kl = true := has_true_of_atKey hat
      obtain ⟨n, hn, ek⟩ := HK.out kl hhas
      subst ekl
      obtain rfl : x = (n.ino : Int) := by unfold ky at ek; simpa using ek
      have I := HI.out
      have hb2 : Below w1.heap.size wr w2 := ⟨hg2.os, hg2.tape, hg2.output, hg2.size, fun k hk => hg2.block k (by have := I.rg.lt; omega) fun e => by cases e; omega⟩
      have hrow2 : OwnV w.heap.size 3 w2 u3 (intsV acc) := by
        refine ⟨I.row.1, ?_⟩
        rcases I.row.2 with h0 | ⟨g, cap, cur, rfl, hbs, hg, h3⟩
        · exact absurd h0.1 I.some_
        · refine .inr ⟨g, cap, cur, rfl, hbs, (hg2.block g (Array.getElem?_eq_some_iff.1 hg).1 fun e => ?_).trans hg, h3⟩
          cases e
          obtain ⟨es, clock, since, seen, c0, _, _, _, _, hr, _⟩ := I.rg
          rw [hr] at hg; cases hg
      have hlo : w.heap.size ≤ w2.heap.size := Nat.le_trans I.below.size hg2.size
      have hB2 : Below w.heap.size w w2 := ⟨hg2.os.trans I.below.os, hg2.tape.trans I.below.tape, hg2.output.trans I.below.output, hlo, fun k hk => (hg2.block k (by have := I.below.size; omega) fun e => by cases e; have := HW1.out; omega).trans (I.below.block k hk)⟩
      obtain ⟨v', w3, hrun, hown3, hgr3⟩ := append_one_grow elemInt w.heap.size u3 (intsV acc) (.int .i64 (n.ino : Int)) w2 (by have := I.few; simp; omega) rfl hrow2 hlo
      have hcnt := I.rg.left_eq
      have hnew : (n.ino : Int) ∉ acc := fun hx => by
        obtain ⟨n', hn', e, hf'⟩ := (I.mem _).1 hx
        have e2 : n'.ino = n.ino := by omega
        rw [e2] at hf'
        rw [ek, hf'] at hlx; cases hlx
      have HI2 : Hid (AllI w mb w1.heap.size (Maps.size D) D s.L (fun z => left z && !z.sameKey (ky n.ino)) cnt2 (acc ++ [(n.ino : Int)]) v' w3) := by
        refine ⟨ranges_grow hrg2 hgr3, by simpa [intsV] using hown3, fun e => ?_, hgr3.below hB2 (Nat.le_refl _) hlo, ?_, fun z => ?_, by have := I.few; simp; omega⟩
        · subst e
          rcases hown3.2 with ⟨_, h0⟩ | ⟨g, cap, cur, h0, _⟩
          · simp at h0
          · cases h0
        · rw [List.nodup_append]
          exact ⟨I.nodup, by simp, fun a ha b hb => by rw [List.mem_singleton.1 hb]; intro e; exact hnew (e ▸ ha)⟩
        · rw [List.mem_append, List.mem_singleton, I.mem]
          constructor
          · rintro (⟨a, ha, rfl, hfa⟩ | rfl)
            · exact ⟨a, ha, rfl, by rw [hfa]; rfl⟩
            · exact ⟨n, hn, rfl, by rw [sameKey_ky]; simp⟩
          · rintro ⟨a, ha, rfl, hfa⟩
            rw [sameKey_ky] at hfa
            by_cases e : a.ino = n.ino
            · exact .inr (by rw [e])
            · exact .inl ⟨a, ha, rfl, by simpa [e] using hfa⟩
      have hlt2 : Hid (w3.rangeLeft mb w1.heap.size < wr.rangeLeft mb w1.heap.size) := by
        show _ < _
        rw [hcnt, HI2.out.rg.left_eq]; exact hlt
      clear I hb2 hrow2 hlo hB2 hown3 hgr3 hcnt hnew HI hrg2 hg2 hat hhas hlx hv hs2
      go_wp2_with (at_builtin; refine wpList_run_append (by rfl) _ _ _ (by rfl) _ _ (by rfl) (by rfl) hrun ?_)
      go_roundw
      case rel => exact ⟨_, _, _, HI2⟩
      case measure => exact hlt2.out

end Go.Proofs.Ytpokdcimpplneaa

namespace Go.Proofs.Ytpokdcimpplneaa
open Go Go.RowKit

set_option maxRecDepth 100000 in
set_option maxHeartbeats 1000000 in
theorem nums_same (p q : Option Addr) (c d : Nat) (l : List Int) (w : World) (hl : l.length ≤ 1000000) (h1 : At w p (intsV l)) (h2 : At w q (intsV l)) : Calls Try.prog 38 #[.slice p l.length c, .slice q l.length d] w fun e w' => e = .returned (.bool true) ∧ Below w.heap.size w w' := by
  have HA : Hid (At w p (intsV l)) := h1
  have HA2 : Hid (At w q (intsV l)) := h2
  clear h1 h2
  have hll : (l.length : Int) = (l.length : Int) := rfl
  go_enter Try.func38, Try.ntmps38
  go_wp2
  go_loopw [5] (fun i wr => ∃ k qq : Nat, k ≤ l.length ∧ i = .int .i64 k ∧ wr = w.drewN qq) (fun i _ => l.length - (intOf i).toNat)
  case atStart => exact ⟨0, 0, Nat.zero_le _, rfl, rfl⟩
  case round =>
    obtain ⟨k, qq, hk, rfl, rfl⟩ := hrel
    by_cases hlt : k < l.length
    · have hltz : (k : Int) < (l.length : Int) := by omega
      obtain ⟨b, off, rfl, _, _, hc⟩ := HA.out.place (k := k) (by simpa using hlt)
      obtain ⟨b2, off2, rfl, _, _, hd⟩ := HA2.out.place (k := k) (by simpa using hlt)
      have hv : (intsV l)[k]? = some (.int .i64 l[k]) := by simp [hlt]
      have hck := hc k _ hv
      have hdk := hd k _ hv
      clear hc hd hv
      generalize l[k] = y at *
      go_wp2
      go_quiet (fail)
      go_wp2
      go_roundw
      case rel => exact ⟨k + 1, _, by omega, by go_num, rfl⟩
      case measure => simp [intOf]; omega
    · obtain rfl : k = l.length := by omega
      have hltz : ¬ (l.length : Int) < (l.length : Int) := by omega
      go_wp2
      go_ret
      exact ⟨rfl, on_drewN (Below.refl _ _) _⟩

end Go.Proofs.Ytpokdcimpplneaa

namespace Go.Proofs.Ytpokdcimpplneaa
open Go Go.RowKit

theorem StoreAt.on6 {hi sb : Nat} {s : SS} {w w' : World} (h : StoreAt hi w sb s) (hb : Below w.heap.size w w') : StoreAt hi w' sb s := by
  obtain ⟨mb, D, Fs, h⟩ := h
  exact ⟨mb, D, Fs, h.on hb⟩
def lv0 : SS := newS 3 4
def lv1 : SS := makeS lv0 1 ByteArray.empty
def lv2 : SS := moreS lv1 1 true
def lv3 : SS := lessS lv2 1 false
def lv4 : SS := lessS lv3 1 true
theorem lv_wf1 : Wf lv1 1 := (wf_new (by decide) (by decide)).make 1 ByteArray.empty
theorem lv_wf2 : Wf lv2 2 := lv_wf1.more1 1 true
theorem lv_wf3 : Wf lv3 3 := lv_wf2.less1 1 false
theorem lv_wf4 : Wf lv4 4 := lv_wf3.less1 1 true
theorem lv_e1 : makeE lv0 1 ByteArray.empty = 0 := by rfl
theorem lv_n1 : makeN lv0 1 ByteArray.empty = 1 := by rfl
theorem lv_e2 : moreE lv1 1 true = 0 := by rfl
theorem lv_e3 : lessE lv2 1 false = 0 := by rfl
theorem lv_e4 : lessE lv3 1 true = 0 := by rfl
theorem lv_k3 : keysL lv3.L = [1] := by rfl
theorem lv_l3 : lv3.L.length = 1 := by rfl
theorem lv_l4 : lv4.L.length = 0 := by rfl
theorem lv_x4 : lv4.next = 2 := by rfl
theorem wf1 : (Lit.int .i64 1).wf = true := by decide

set_option maxRecDepth 100000 in
set_option maxHeartbeats 4000000 in
theorem lives_any (w : World) : Calls Try.prog 10 #[] w fun e w' => e = .returned (.bool true) ∧ Below w.heap.size w w' := by
  have cN := new_yes 3 4 w (by decide)
  obtain ⟨hi, HH⟩ : ∃ hi, Hid (w.heap.size = hi) := ⟨_, rfl⟩
  have HP : Hid (∀ w', Below w.heap.size w w' → (Ending.returned (.bool true) = Ending.returned (.bool true) ∧ Below w.heap.size w w')) := fun w' h => ⟨rfl, h⟩
  have HQ : Hid (∀ w', Below w.heap.size w w' → (fun e w' => e = Ending.returned (.bool true) ∧ Below w.heap.size w w') (Ending.returned (.bool true)) w') := fun w' h => ⟨rfl, h⟩
  generalize (fun e w' => e = Ending.returned (.bool true) ∧ Below w.heap.size w w') = Post at *
  clear HP
  go_enter Try.func10, Try.ntmps10
  go_wp2_with fail
  refine cN.mono ?_
  rintro e w1 ⟨sb, rfl, h1, hb1⟩
  have c1 := make_any6 h1 (wf_new (by decide) (by decide)) (by decide) 1 ByteArray.empty (by decide)
  have HB1 : Hid (Below w.heap.size w w1) := hb1
  clear hb1 h1 cN
  go_wp2_with fail
  refine c1.mono ?_
  rintro e w2 ⟨rfl, h2, t2⟩
  rw [show makeN (newS 3 4) 1 ByteArray.empty = 1 from lv_n1, show makeE (newS 3 4) 1 ByteArray.empty = 0 from lv_e1]
  have h2' : StoreAt w.heap.size w2 sb lv1 := h2
  have HB2 : Hid (Below w.heap.size w w2) := t2.below HB1.out (Nat.le_refl _) HB1.out.size
  have c2 := link_any h2' lv_wf1 (by decide) 1 wf1
  clear h2 t2 c1 h2'
  go_wp2_with fail
  refine c2.mono ?_
  rintro e w3 ⟨rfl, h3, t3⟩
  rw [lv_e2]
  have h3' : StoreAt w.heap.size w3 sb lv2 := h3
  have HB3 : Hid (Below w.heap.size w w3) := t3.below HB2.out (Nat.le_refl _) HB2.out.size
  have c3 := release_any h3' lv_wf2 (by decide) 1 wf1
  clear h3 t3 c2 h3'
  go_wp2_with fail
  refine c3.mono ?_
  rintro e w4 ⟨rfl, h4, t4⟩
  rw [lv_e3]
  have h4' : StoreAt w.heap.size w4 sb lv3 := h4
  have HB4 : Hid (Below w.heap.size w w4) := t4.below HB3.out (Nat.le_refl _) HB3.out.size
  have c4 := all_any h4' lv_wf3
  have HS4 : Hid (StoreAt w.heap.size w4 sb lv3) := h4'
  clear h4 t4 c3 h4'
  go_wp2_with fail
  refine c4.mono ?_
  rintro e w5 ⟨p5, cc5, rfl, ha5, hb5⟩
  rw [lv_k3] at ha5
  rw [lv_l3]
  have HB5 : Hid (Below w4.heap.size w4 w5) := hb5
  have c5 := nums_same p5 (some ⟨w5.heap.size, 0, none⟩) cc5 1 [1] (w5.alloc (.cells #[.int .i64 1] 3)) (by decide) (ha5.at.on (on_alloc _ _)) (at_row1 w5 3 (.int .i64 1)).at
  clear ha5 hb5 c4
  go_wp2_with fail
  refine c5.mono ?_
  rintro e w6 ⟨rfl, hb6⟩
  have hb46 : Below w4.heap.size w4 w6 := on_trans (on_trans HB5.out (on_alloc _ _)) hb6
  have c6 := unlink_any (HS4.out.on6 hb46) lv_wf3 (by decide) 1 wf1
  have HB6 : Hid (Below w.heap.size w w6) := HB4.out.trans (hb46.mono HB4.out.size)
  clear hb46 hb6 c5
  go_wp2_with fail
  refine c6.mono ?_
  rintro e w7 ⟨rfl, h7, t7⟩
  rw [lv_e4]
  have h7' : StoreAt w.heap.size w7 sb lv4 := h7
  have HB7 : Hid (Below w.heap.size w w7) := t7.below HB6.out (Nat.le_refl _) HB6.out.size
  have c7 := all_any h7' lv_wf4
  have HS7 : Hid (StoreAt w.heap.size w7 sb lv4) := h7'
  clear h7 t7 c6 h7'
  go_wp2_with fail
  refine c7.mono ?_
  rintro e w8 ⟨p8, cc8, rfl, ha8, hb8⟩
  rw [lv_l4]
  have c8 := next_any (HS7.out.on6 hb8)
  rw [lv_x4] at c8
  have HB8 : Hid (Below w.heap.size w w8) := HB7.out.trans (hb8.mono HB7.out.size)
  clear ha8 hb8 c7
  go_wp2_with fail
  refine c8.mono ?_
  rintro e w9 ⟨rfl, hw9⟩
  subst w9
  have HZ : Hid _ := HQ.out w8 HB8.out
  clear HQ
  go_wp2
  exact HZ.out

end Go.Proofs.Ytpokdcimpplneaa

namespace Go.Proofs.Ytpokdcimpplneaa
open Go Go.RowKit

/-- A place that is not too far. -/
def cutAt6 (a : Int) : Int := if 5000 < a ∧ a < 65000 then a % 5000 else a
def cutT6 (t : ByteArray) : ByteArray := if 300 < t.size then t.extract 0 300 else t
theorem cutAt6_wf {a : Int} (h : (Lit.int .i64 a).wf = true) : (Lit.int .i64 (cutAt6 a)).wf = true := by
  unfold cutAt6
  split
  · exact WalkArith.wf_i64 (by omega)
  · exact h
theorem cutT6_size (t : ByteArray) : (cutT6 t).size ≤ 300 := by
  unfold cutT6
  split
  · rw [ByteArray.size_extract]; omega
  · omega
theorem infoAct6 : (Try.prog.info? 30).map (·.size) = some 4 := by kernel_rfl
set_option maxRecDepth 100000 in
set_option maxHeartbeats 2000000 in
theorem short_any (k ino a : Int) (t : ByteArray) (w : World) (ht : t.size ≤ 9223372036854775807) : Calls Try.prog 21 #[.agg #[.int .i64 k, .int .i64 ino, .int .i64 a, .string t]] w fun e w' => e = .returned (.agg #[.int .i64 k, .int .i64 ino, .int .i64 (cutAt6 a), .string (cutT6 t)]) ∧ Below w.heap.size w w' := by
  have HB : Hid (∀ o1 o2, Below w.heap.size w ((w.alloc o1).alloc o2)) := fun o1 o2 => on_trans (on_alloc _ _) (on_alloc _ _)
  have HX : Hid (∀ (o1 : Obj) (cs : List Value), Blk ((w.alloc o1).alloc (.cells cs.toArray 30)) (w.heap.size + 1) 30 cs) := fun o1 cs => by
    have := Blk.new (w.alloc o1) 30 cs
    rwa [World.size_alloc] at this
  by_cases h3 : 300 < t.size
  · have h3z : (300 : Int) < (t.size : Int) := by omega
    have eT : cutT6 t = t.extract 0 300 := if_pos h3
    rw [eT]
    by_cases ha : 5000 < a
    · by_cases hb : a < 65000
      · have eA : cutAt6 a = a % 5000 := if_pos ⟨ha, hb⟩
        rw [eA]
        have ha0 : 0 ≤ a := by omega
        go_enter Try.func21, Try.ntmps21
        go_wp2
        exact bodyPost_ret (results_blk (cs := [.int .i64 k, .int .i64 ino, .int .i64 (a % 5000), .string (t.extract 0 300)]) Try.isAgg30 infoAct6 rfl _ _ rfl (HX.out _ _)) rfl ⟨rfl, HB.out _ _⟩
      · have eA : cutAt6 a = a := if_neg fun h => hb h.2
        rw [eA]
        go_enter Try.func21, Try.ntmps21
        go_wp2
        exact bodyPost_ret (results_blk (cs := [.int .i64 k, .int .i64 ino, .int .i64 a, .string (t.extract 0 300)]) Try.isAgg30 infoAct6 rfl _ _ rfl (HX.out _ _)) rfl ⟨rfl, HB.out _ _⟩
    · have eA : cutAt6 a = a := if_neg fun h => ha h.1
      rw [eA]
      go_enter Try.func21, Try.ntmps21
      go_wp2
      exact bodyPost_ret (results_blk (cs := [.int .i64 k, .int .i64 ino, .int .i64 a, .string (t.extract 0 300)]) Try.isAgg30 infoAct6 rfl _ _ rfl (HX.out _ _)) rfl ⟨rfl, HB.out _ _⟩
  · have h3z : ¬ (300 : Int) < (t.size : Int) := by omega
    have eT : cutT6 t = t := if_neg h3
    rw [eT]
    by_cases ha : 5000 < a
    · by_cases hb : a < 65000
      · have eA : cutAt6 a = a % 5000 := if_pos ⟨ha, hb⟩
        rw [eA]
        have ha0 : 0 ≤ a := by omega
        go_enter Try.func21, Try.ntmps21
        go_wp2
        exact bodyPost_ret (results_blk (cs := [.int .i64 k, .int .i64 ino, .int .i64 (a % 5000), .string t]) Try.isAgg30 infoAct6 rfl _ _ rfl (HX.out _ _)) rfl ⟨rfl, HB.out _ _⟩
      · have eA : cutAt6 a = a := if_neg fun h => hb h.2
        rw [eA]
        go_enter Try.func21, Try.ntmps21
        go_wp2
        exact bodyPost_ret (results_blk (cs := [.int .i64 k, .int .i64 ino, .int .i64 a, .string t]) Try.isAgg30 infoAct6 rfl _ _ rfl (HX.out _ _)) rfl ⟨rfl, HB.out _ _⟩
    · have eA : cutAt6 a = a := if_neg fun h => ha h.1
      rw [eA]
      go_enter Try.func21, Try.ntmps21
      go_wp2
      exact bodyPost_ret (results_blk (cs := [.int .i64 k, .int .i64 ino, .int .i64 a, .string t]) Try.isAgg30 infoAct6 rfl _ _ rfl (HX.out _ _)) rfl ⟨rfl, HB.out _ _⟩
/-- One of eight kinds. -/
theorem kind_any (n : Int) (w : World) (hn : (Lit.int .i64 n).wf = true) : Calls Try.prog 30 #[.int .i64 n] w fun e w' => ∃ r : Int, (0 ≤ r ∧ r < 8) ∧ e = .returned (.int .i64 r) ∧ w' = w := by
  have hb : -9223372036854775808 ≤ n ∧ n ≤ 9223372036854775807 := by have := hn; simp [Lit.wf, IntKind.min, IntKind.max, IntKind.signed, IntKind.bits] at this; omega
  by_cases h : 0 ≤ n
  · refine Calls.mono (R := fun e w' => e = .returned (.int .i64 (n % 8)) ∧ w' = w) ?_ fun e w' ⟨e1, e2⟩ => ⟨n % 8, by omega, e1, e2⟩
    have h1 : ¬ n % 8 < 0 := by omega
    go_enter Try.func30, Try.ntmps30
    go_wp2
    go_ret
    exact ⟨rfl, rfl⟩
  · have hz := Int.lt_tmod_of_pos n (b := 8) (by decide)
    have hz2 : n.tmod 8 ≤ 0 := by
      rw [show n = -(-n) by omega, Int.neg_tmod, Int.tmod_eq_emod_of_nonneg (by omega)]; omega
    by_cases hr : n.tmod 8 < 0
    · refine Calls.mono (R := fun e w' => e = .returned (.int .i64 (n.tmod 8 + 8)) ∧ w' = w) ?_ fun e w' ⟨e1, e2⟩ => ⟨n.tmod 8 + 8, by omega, e1, e2⟩
      go_enter Try.func30, Try.ntmps30
      go_wp2
      go_ret
      exact ⟨rfl, rfl⟩
    · refine Calls.mono (R := fun e w' => e = .returned (.int .i64 (n.tmod 8)) ∧ w' = w) ?_ fun e w' ⟨e1, e2⟩ => ⟨n.tmod 8, by omega, e1, e2⟩
      go_enter Try.func30, Try.ntmps30
      go_wp2
      go_ret
      exact ⟨rfl, rfl⟩

end Go.Proofs.Ytpokdcimpplneaa
