/- What Put, Set and Clone answer and do. -/
import Derived.Test.YtmccfcllehfebaaZFun4
namespace Go.Proofs.Ytmccfcllehfebaa.Z
open Go Go.RowKit

abbrev AtN (base : Nat) (w : World) (p : Option Addr) (l : List Int) : Prop := W.AtF base w p l
theorem en_fresh : ∀ args w, (callFunc 40 args).run Try.prog w = .ok (.enter 40 args) w := fun _ _ => by simp [callFunc, Try.func40]; rfl
/-- A descriptor in new memory. -/
def kf (x : Sl) (n : Nat) : Kd 0 := ⟨fun v Y => ∃ nb p c, v = ptr nb ∧ n ≤ nb ∧ Blk Y nb 34 (slC x (.slice p x.ints.length c)) ∧ AtN (nb + 1) Y p x.ints, none, fun _ _ _ ⟨nb, p, c, e, h1, h2, h3⟩ hb => ⟨nb, p, c, e, h1, h2.on hb, h3.on hb⟩, fun _ _ _ _ _ _ hlt _ => absurd hlt (by omega)⟩
/-- Ahead of the store to the row, and behind it. -/
def layS (w : World) (rb k : Nat) (x : Sl) (f : Bool) (Y : World) : Prop :=
  (f = true → Below w.heap.size w Y) ∧
  (f = false → ∃ Y1 nb p c, Below w.heap.size w Y1 ∧ w.heap.size ≤ nb ∧ Blk Y1 nb 34 (slC x (.slice p x.ints.length c)) ∧ AtN (nb + 1) Y1 p x.ints ∧ Y = Y1.setCell ⟨rb, k, none⟩ (ptr nb))
theorem fresh_kf {x : Sl} {p : Option Addr} {c : Nat} {w Y : World} (h : W.At w p x.ints) (hl : x.ints.length ≤ 1000) (hb : Below w.heap.size w Y) (n : Nat) (hn : n ≤ Y.heap.size) :
    Calls Try.prog 40 #[.agg (slC x (.slice p x.ints.length c)).toArray] Y fun e Y' => ∃ v, e = .returned v ∧ (kf x n).ok v Y' ∧ Below Y.heap.size Y Y' :=
  (fresh_any x p c Y (h.on hb) hl).mono fun _e _Y' ⟨h1, h2, p', c', h3, h4⟩ => ⟨_, h1, ⟨_, p', c', rfl, hn, h3, h4⟩, h2⟩
section
variable {D F : Nat → Prop} {w w1 : World} {tb rb k : Nat} {M : List Ent} {S : List Sl} {x : Sl}
/-- What the region leaves. -/
theorem TabM.laid (h : TabM D F w tb rb M) (hD : Lt D w) (hk : k < M.length) (hf : x.file ≠ 0) {nb c : Nat} {p : Option Addr} (hb : Below w.heap.size w w1) (hn : w.heap.size ≤ nb) (hB : Blk w1 nb 34 (slC x (.slice p x.ints.length c))) (hi : AtN (nb + 1) w1 p x.ints) :
    TabM (Or D fun j => j = nb) (Or F fun j => j = nb) (w1.setCell ⟨rb, k, none⟩ (ptr nb)) tb rb (M.set k ⟨x, nb, .slice p x.ints.length c⟩) ∧ Goes F (Or F fun j => j = nb) w (w1.setCell ⟨rb, k, none⟩ (ptr nb)) := by
  have h1 : TabM (Or D fun j => j = nb) F w1 tb rb M := (h.up (ups_temp D hn) fun j hj => .inl (h.sub j hj).1).keep (keep_on hb)
  refine ⟨h1.lay hk ⟨x, nb, .slice p x.ints.length c⟩ hf hB (IntD.of hi fun j hj => ?_) (.inr rfl) fun h7 => ?_, ⟨((Goes.on hb).trans (goes_set h.frow k (ptr nb))).keep, ups_temp F hn⟩⟩
  · rcases hj with hj | rfl
    · have := hD j hj; omega
    · omega
  · have := (h.sub nb h7).2; omega
theorem laid_at {nb : Nat} (h : TabM (Or D fun j => j = nb) (Or F fun j => j = nb) w tb rb M) (hF : ∀ j, F j → D j) : TabAt (Or D (Or F fun j => j = nb)) (Or F fun j => j = nb) w tb (M.map Ent.sl) :=
  ⟨rb, M, rfl, h.up (fun j hj => by
    rcases hj with h1 | h1 | h1
    · exact .inl (.inl h1)
    · exact .inl (.inl (hF j h1))
    · exact .inl (.inr h1)) fun j hj => .inr hj⟩
set_option maxRecDepth 100000 in
set_option maxHeartbeats 2000000 in
theorem put_any (h : TabAt D F w tb S) (hS : Fits S) (hD : Lt D w) (hl : S.length ≤ 64) (fd : Int) (p : Option Addr) (c : Nat) (hx : W.At w p x.ints) (hxl : x.ints.length ≤ 1000) :
    Calls Try.prog 18 #[ptr tb, .int .i64 fd, .agg (slC x (.slice p x.ints.length c)).toArray] w (TPost D F tb w (putS S fd x) (.tuple #[.int .i64 (putN S fd x), .int .i64 (putE S fd x)])) := by
  change Calls Try.prog 18 #[ptr tb, .int .i64 fd, .agg #[.int .i64 x.file, .int .u32 (x.rights : Int), .bool x.all, .slice p x.ints.length c, .int .i64 x.fc]] w _
  have HB : Hid (Below w.heap.size w (w.alloc (.cells #[.int .i64 x.file, .int .u32 (x.rights : Int), .bool x.all, .slice p x.ints.length c, .int .i64 x.fc] 34))) := on_alloc w _
  have HX : Hid (Blk (w.alloc (.cells #[.int .i64 x.file, .int .u32 (x.rights : Int), .bool x.all, .slice p x.ints.length c, .int .i64 x.fc] 34)) w.heap.size 34 (slC x (.slice p x.ints.length c))) := Blk.new w _ (slC x (.slice p x.ints.length c))
  have cC : Calls Try.prog 46 #[.agg #[.int .i64 x.file, .int .u32 (x.rights : Int), .bool x.all, .slice p x.ints.length c, .int .i64 x.fc]] (w.alloc (.cells #[.int .i64 x.file, .int .u32 (x.rights : Int), .bool x.all, .slice p x.ints.length c, .int .i64 x.fc] 34)) fun e w' => e = .returned (.bool (canS x)) ∧ Below (w.alloc (.cells #[.int .i64 x.file, .int .u32 (x.rights : Int), .bool x.all, .slice p x.ints.length c, .int .i64 x.fc] 34)).heap.size (w.alloc (.cells #[.int .i64 x.file, .int .u32 (x.rights : Int), .bool x.all, .slice p x.ints.length c, .int .i64 x.fc] 34)) w' := can_any x p c _ (hx.on HB.out) hxl
  have b0 := HX.out.cell 0 rfl
  have b1 := HX.out.cell 1 rfl
  have b2 := HX.out.cell 2 rfl
  have b3 := HX.out.cell 3 rfl
  have b4 := HX.out.cell 4 rfl
  have HP : Hid (∀ w2, canS x = false → Below w.heap.size w w2 → TPost D F tb w (putS S fd x) (.tuple #[.int .i64 (putN S fd x), .int .i64 (putE S fd x)]) (.returned (.tuple #[.int .i64 0, .int .i64 22])) w2) := fun w2 h1 hb => by
    have e1 : putS S fd x = S := by unfold putS; rw [h1]; rfl
    have e2 : putN S fd x = 0 := by unfold putN; rw [h1]; rfl
    have e3 : putE S fd x = 22 := by unfold putE; rw [h1]; rfl
    rw [e1, e2, e3]; exact TPost.same h hb
  have HQ : Hid (∀ w2, canS x = true → ¬ freeE S fd = 0 → Below w.heap.size w w2 → TPost D F tb w (putS S fd x) (.tuple #[.int .i64 (putN S fd x), .int .i64 (putE S fd x)]) (.returned (.tuple #[.int .i64 0, .int .i64 (freeE S fd)])) w2) := fun w2 h1 h2 hb => by
    have hn : (inB S fd && decide (frF S fd.toNat < S.length)) = false := by
      unfold freeE at h2
      cases h3 : inB S fd with
      | false => rfl
      | true =>
        rw [h3] at h2
        by_cases h4 : frF S fd.toNat < S.length
        · rw [if_pos rfl, if_pos h4] at h2; exact absurd rfl h2
        · rw [decide_eq_false h4]; rfl
    have e1 : putS S fd x = S := by unfold putS; rw [h1, hn]; rfl
    have e2 : putN S fd x = 0 := by unfold putN freeN; rw [h1, hn]; rfl
    have e3 : putE S fd x = freeE S fd := by unfold putE; rw [h1]; rfl
    rw [e1, e2, e3]; exact TPost.same h hb
  have HF : Hid (∀ w2, Below w.heap.size w w2 → Calls Try.prog 14 #[ptr tb, .int .i64 fd] w2 fun e w' => e = .returned (.tuple #[.int .i64 (freeN S fd), .int .i64 (freeE S fd)]) ∧ w' = w2) := fun w2 hb => free_any (h.on hb) hl fd
  cases hc : canS x with
  | false =>
    rw [hc] at cC
    have HP2 : Hid _ := fun w2 => HP.out w2 hc
    generalize TPost D F tb w (putS S fd x) (.tuple #[.int .i64 (putN S fd x), .int .i64 (putE S fd x)]) = Post at *
    clear h hS hD hx HQ HF HP hc
    go_enter Try.func18, Try.ntmps18
    go_wp2_with fail
    generalize w.alloc (.cells #[.int .i64 x.file, .int .u32 (x.rights : Int), .bool x.all, .slice p x.ints.length c, .int .i64 x.fc] 34) = w0 at *
    refine cC.mono ?_
    rintro e w1 ⟨rfl, hb1⟩
    have HZ : Hid _ := HP2.out w1 (on_trans HB.out hb1)
    clear HP2 HB HX hb1
    go_wp2
    exact HZ.out
  | true =>
    rw [hc] at cC
    have HQ2 : Hid _ := fun w2 => HQ.out w2 hc
    by_cases hE : freeE S fd = 0
    · have hi : inB S fd = true ∧ frF S fd.toNat < S.length := by
        unfold freeE at hE
        cases h3 : inB S fd with
        | false => rw [h3] at hE; simp at hE
        | true =>
          rw [h3] at hE
          refine ⟨rfl, ?_⟩
          by_cases h4 : frF S fd.toNat < S.length
          · exact h4
          · rw [if_pos rfl, if_neg h4] at hE; simp at hE
      have hfx := can_file hc
      obtain ⟨k, hk0⟩ : ∃ k, frF S fd.toNat = k := ⟨_, rfl⟩
      rw [hk0] at hi
      have hN : freeN S fd = (k : Int) := by unfold freeN; rw [hi.1, hk0, decide_eq_true hi.2]; rfl
      have e1 : putS S fd x = S.set k x := by unfold putS; rw [hc, hi.1, hk0, decide_eq_true hi.2]; rfl
      have e2 : putN S fd x = (k : Int) := by unfold putN; rw [hc]; exact hN
      have e3 : putE S fd x = 0 := by unfold putE; rw [hc]; exact hE
      rw [e1, e2, e3] at HP HQ HQ2 ⊢
      rw [hN, hE] at HF
      clear e1 e2 e3 hN HP HQ HQ2 hE hk0
      obtain ⟨rb, M, rfl, h⟩ := h
      have hkM : k < M.length := by simpa using hi.2
      have HM : Hid (∀ w2, Below w.heap.size w w2 → TabM D F w2 tb rb M ∧ Lt D w2) := fun w2 hb => ⟨h.keep (keep_on hb), fun j hj => Nat.lt_of_lt_of_le (hD j hj) hb.size⟩
      have HR0 : Hid (∀ w2, Below w.heap.size w w2 → (∃ v, w2.cell? ⟨rb, k, none⟩ = some v) ∧ w2.frozen? ⟨rb, k, none⟩ = false) := fun w2 hb => by
        obtain ⟨e, he, _⟩ := ent_at M hkM
        exact ⟨⟨_, (HM.out w2 hb).1.look he⟩, (HM.out w2 hb).1.row.free k⟩
      have HPP : Hid (∀ w2 w3 nb p' c', Below w.heap.size w w2 → w.heap.size ≤ nb → Below w2.heap.size w2 w3 → w2.heap.size ≤ nb → Blk w3 nb 34 (slC x (.slice p' x.ints.length c')) → AtN (nb + 1) w3 p' x.ints → TPost D F tb w ((M.map Ent.sl).set k x) (.tuple #[.int .i64 (k : Int), .int .i64 0]) (.returned (.tuple #[.int .i64 (k : Int), .int .i64 0])) (w3.setCell ⟨rb, k, none⟩ (ptr nb))) := fun w2 w3 nb p' c' hb2 hnb hb3 hnb2 hB hi' => by
        obtain ⟨h5, h6⟩ := TabM.laid (HM.out w2 hb2).1 (HM.out w2 hb2).2 hkM (by omega) hb3 hnb2 hB hi'
        have h7 := laid_at h5 fun j hj => (h.sub j hj).1
        rw [List.map_set] at h7
        exact ⟨rfl, _, h7, (Goes.on hb2).trans h6⟩
      generalize TPost D F tb w ((M.map Ent.sl).set k x) (.tuple #[.int .i64 (k : Int), .int .i64 0]) = Post at *
      have hkn : k < M.length := hkM
      have hz : (k : Int) < (M.length : Int) := by omega
      have hz0 : ¬ (k : Int) < 0 := by omega
      have HA : Hid (W.At w p x.ints ∧ x.ints.length ≤ 1000) := ⟨hx, hxl⟩
      have y00 := h.box
      have HYB : Hid (∀ w2, Below w.heap.size w w2 → w2.cell? ⟨tb, 0, none⟩ = some (.slice (some ⟨rb, 0, none⟩) M.length M.length)) := fun w2 hb => (y00.on hb).cell 0 rfl
      clear h hS hx hi hfx hD y00 hc
      generalize M.length = n at *
      go_enter Try.func18, Try.ntmps18
      go_wp2_with fail
      generalize w.alloc (.cells #[.int .i64 x.file, .int .u32 (x.rights : Int), .bool x.all, .slice p x.ints.length c, .int .i64 x.fc] 34) = w0 at *
      refine cC.mono ?_
      rintro e w1 ⟨rfl, hb1⟩
      have HB1 : Hid (Below w.heap.size w w1) := on_trans HB.out hb1
      have HX1 : Hid (Blk w1 w.heap.size 34 (slC x (.slice p x.ints.length c))) := HX.out.on hb1
      have cF := HF.out w1 HB1.out
      clear cC b0 b1 b2 b3 b4 HB HX hb1 HF
      go_wp2_with fail
      refine cF.mono ?_
      rintro e wb ⟨rfl, hw2⟩
      subst hw2
      clear cF
      obtain ⟨pb, hpb⟩ : ∃ pb, w.heap.size = pb := ⟨_, rfl⟩
      rw [hpb] at HX1
      have HSZ : Hid (w.heap.size = pb) := hpb
      rw [hpb]
      clear hpb
      have HY : Hid (∀ W, Below wb.heap.size wb W → W.cell? ⟨tb, 0, none⟩ = some (.slice (some ⟨rb, 0, none⟩) n n)) := fun W hb => HYB.out W (on_trans HB1.out hb)
      have HR : Hid (∀ W, Below wb.heap.size wb W → (∃ v, W.cell? ⟨rb, k, none⟩ = some v) ∧ W.frozen? ⟨rb, k, none⟩ = false) := fun W hb => HR0.out W (on_trans HB1.out hb)
      have HPB : Hid (∀ W, Below wb.heap.size wb W → Blk W pb 34 (slC x (.slice p x.ints.length c))) := fun W hb => HX1.out.on hb
      have HC : Hid (∀ Y, Below wb.heap.size wb Y → Calls Try.prog 40 #[.agg (slC x (.slice p x.ints.length c)).toArray] Y fun e Y' => ∃ v, e = .returned v ∧ (kf x wb.heap.size).ok v Y' ∧ Below Y.heap.size Y Y') := fun Y hb => fresh_kf (HA.out.1.on HB1.out) HA.out.2 hb _ hb.size
      have HS0 : Hid (layS wb rb k x true wb.drew) := ⟨fun _ => on_drew (Below.refl _ _), (fun e => by cases e)⟩
      go_wp2
      refine wp_region_two (S := layS wb rb k x) (u := 8) (Keep := KeepU 8)
        (g := fun jj vv WW => (([.is (ptr tb), .is (ptr tb), .is (.pointer (some ⟨tb, 0, none⟩)), .is (.slice (some ⟨rb, 0, none⟩) n n), .is (.int .i64 (k : Int)), .is (.agg (slC x (.slice p x.ints.length c)).toArray), kf x wb.heap.size, .is (.pointer (some ⟨rb, k, none⟩)), .any] : List (Kd 0)).getD jj Kd.any).ok vv WW)
        (tab := [[(0, none)], [(22, some 0)], [(23, some 1)], [(24, some 2)], [(8, none)], [(5, none)], [(27, some 5)], [(25, some 3), (26, some 4)], [(29, some 7), (28, some 6)]]) (tl := [(6, 8)]) (n := 31)
        (by kernel_rfl) rfl (by kernel_rfl) (keep_u ?k) (HS0.out) ?st ?en
      case k =>
        intro j hj
        match j, hj with
        | 0, _ | 1, _ | 2, _ | 3, _ | 4, _ | 5, _ | 7, _ => exact .inr (pure_is _)
        | 6, _ => exact .inl rfl
        | 8, hj => exact absurd rfl hj
        | j + 9, _ => exact .inr pure_any
      case st =>
        refine ⟨fun ρ W f hf hr hS hs => ?_, fun ρ W f hf hr hS hs => ?_, fun ρ W f hf hr hS hs => ?_, fun ρ W f hf hr hS hs => ?_, fun ρ W f hf hr hS hs => ?_, fun ρ W f hf hr hS hs => ?_, fun ρ W f hf hr hS hs => ?_, fun ρ W f hf hr hS hs => ?_, fun ρ W f hf hr hS hs => ?_, trivial⟩
        · have h0 : ρ (.tmp 0) = ptr tb := hs.1
          exact step_plain rfl (leaves_move (.tmp 0) rfl ⟨h0, by simpa using hS, .inr (Below.refl _ _)⟩)
        · have h22 : ρ (.tmp 22) = ptr tb := hs.1
          refine step_plain rfl (leaves_value (v := ptr tb) (w' := W) ?_ ⟨rfl, by simpa using hS, .inr (Below.refl _ _)⟩)
          simp [go_sem, h22]
        · have h23 : ρ (.tmp 23) = ptr tb := hs.1
          refine step_plain rfl (leaves_value (v := .pointer (some ⟨tb, 0, none⟩)) (w' := W) ?_ ⟨rfl, by simpa using hS, .inr (Below.refl _ _)⟩)
          simp [go_sem, h23]
        · have h24 : ρ (.tmp 24) = .pointer (some ⟨tb, 0, none⟩) := hs.1
          obtain rfl : f = true := hf (by kernel_rfl)
          refine step_plain rfl (leaves_value (v := .slice (some ⟨rb, 0, none⟩) n n) (w' := W) ?_ ⟨rfl, by simpa using hS, .inr (Below.refl _ _)⟩)
          have y0 := HY.out W (hS.1 rfl)
          simp [go_sem, h24, y0]
        · have h8 : ρ (.tmp 8) = .int .i64 (k : Int) := hs.1
          exact step_plain rfl (leaves_move (.tmp 8) rfl ⟨h8, by simpa using hS, .inr (Below.refl _ _)⟩)
        · have h5 : ρ (.tmp 5) = ptr pb := hs.1
          obtain rfl : f = true := hf (by kernel_rfl)
          exact step_plain rfl (leaves_load (cs := slC x (.slice p x.ints.length c)) Try.isAgg34 infoS (.tmp 5) rfl h5 (HPB.out W (hS.1 rfl)) ⟨rfl, by simpa using hS, .inr (Below.refl _ _)⟩)
        · have h27 : ρ (.tmp 27) = .agg (slC x (.slice p x.ints.length c)).toArray := hs.1
          obtain rfl : f = true := hf (by kernel_rfl)
          refine step_plain rfl (leaves_call1 en_fresh hr (.tmp 27) _ rfl h27 ((HC.out W (hS.1 rfl)).mono ?_))
          rintro e W' ⟨v9, rfl, h9, hb9⟩
          exact ⟨_, rfl, h9, ⟨fun _ => on_trans (hS.1 rfl) hb9, (fun e => by cases e)⟩, .inr hb9⟩
        · have h25 : ρ (.tmp 25) = .slice (some ⟨rb, 0, none⟩) n n := hs.1
          have h26 : ρ (.tmp 26) = .int .i64 (k : Int) := hs.2.1
          refine step_plain rfl (leaves_value (v := .pointer (some ⟨rb, k, none⟩)) (w' := W) ?_ ⟨rfl, by simpa using hS, .inr (Below.refl _ _)⟩)
          simp [go_sem, h25, h26, hz, hz0]
        · have h29 : ρ (.tmp 29) = .pointer (some ⟨rb, k, none⟩) := hs.1
          have h28 := hs.2.1
          obtain rfl : f = true := hf (by kernel_rfl)
          obtain ⟨nb, p9, c9, e9, h91, h92, h93⟩ := h28
          change ρ (.tmp 28) = _ at e9
          have y1 := HR.out W (hS.1 rfl)
          refine step_plain rfl (leaves_skip (w' := W.setCell ⟨rb, k, none⟩ (ptr nb)) ?_ ⟨trivial, ⟨(fun e => by cases e), fun _ => ⟨W, nb, p9, c9, hS.1 rfl, h91, h92, h93, rfl⟩⟩, .inl rfl⟩)
          obtain ⟨y2, y3⟩ := y1
          obtain ⟨y4, y2⟩ := y2
          simp [go_sem, h29, e9, y2, y3]
      case en =>
        intro f W hf hS v0 h0 v1 h1 v2 h2 v3 h3 v4 h4 v5 h5 v6 h6 v7 h7 h8
        obtain rfl : f = false := hf (by decide)
        clear hf
        have e0 : v0 = ptr tb := h0 rfl
        subst v0
        have e1 : v1 = ptr tb := h1 rfl
        subst v1
        have e2 : v2 = .pointer (some ⟨tb, 0, none⟩) := h2 rfl
        subst v2
        have e3 : v3 = .slice (some ⟨rb, 0, none⟩) n n := h3 rfl
        subst v3
        have e4 : v4 = .int .i64 (k : Int) := h4 rfl
        subst v4
        have e5 : v5 = .agg (slC x (.slice p x.ints.length c)).toArray := h5 rfl
        subst v5
        have e7 : v7 = .pointer (some ⟨rb, k, none⟩) := h7 rfl
        subst v7
        clear h0 h1 h2 h3 h4 h5 h7 h8
        simp only [ends, Act.put, List.setIfInBounds_toArray, List.set_cons_succ, List.set_cons_zero]
        obtain ⟨Y1, nb, p9, c9, h91, h92, h93, h94, rfl⟩ := hS.2 rfl
        have HZ : Hid _ := HPP.out wb Y1 nb p9 c9 HB1.out (Nat.le_trans HB1.out.size h92) h91 h92 h93 h94
        clear HPP HC HPB HR HR0 HY HYB HS0 HA HM HX1 HB1 h91 h92 h93 h94 hS
        generalize Y1.setCell ⟨rb, k, none⟩ (ptr nb) = w5 at *
        go_wp2
        exact HZ.out
    · have z0 : (freeE S fd != 0) = true := by simpa using hE
      have HZ1 : Hid _ := fun w2 => HQ2.out w2 hE
      generalize TPost D F tb w (putS S fd x) (.tuple #[.int .i64 (putN S fd x), .int .i64 (putE S fd x)]) = Post at *
      generalize freeE S fd = E at *
      generalize freeN S fd = N at *
      clear h hS hD hx HQ HQ2 HP hc hE
      go_enter Try.func18, Try.ntmps18
      go_wp2_with fail
      generalize w.alloc (.cells #[.int .i64 x.file, .int .u32 (x.rights : Int), .bool x.all, .slice p x.ints.length c, .int .i64 x.fc] 34) = w0 at *
      refine cC.mono ?_
      rintro e w1 ⟨rfl, hb1⟩
      have cF := HF.out w1 (on_trans HB.out hb1)
      have HZ : Hid _ := HZ1.out w1 (on_trans HB.out hb1)
      clear HZ1 HB HX hb1 HF
      go_wp2_with fail
      refine cF.mono ?_
      rintro e w2 ⟨rfl, hw2⟩
      subst hw2
      go_wp2
      exact HZ.out

/-- What Set leaves: a descriptor laid, and the answer's block written. -/
theorem set_post {w2 w3 : World} {e : Ent} (h : TabM D F w tb rb M) (hD : Lt D w) (hk : M[k]? = some e) (hf : x.file ≠ 0) (t : Nat) (ht : w.heap.size ≤ t) (hb2 : Below w.heap.size w w2) (ht2 : t < w2.heap.size) (hb3 : Below w2.heap.size w2 w3) {nb c : Nat} {p : Option Addr} (hn : w2.heap.size ≤ nb)
    (hB : Blk w3 nb 34 (slC x (.slice p x.ints.length c))) (hi : AtN (nb + 1) w3 p x.ints) (cs : List Value) :
    ∃ F', TabAt (Or D F') F' (putL (w3.setCell ⟨rb, k, none⟩ (ptr nb)) t 0 cs) tb ((M.map Ent.sl).set k x) ∧ Goes F F' w (putL (w3.setCell ⟨rb, k, none⟩ (ptr nb)) t 0 cs) ∧ (e.sl.file ≠ 0 → IntD (Or D F') (putL (w3.setCell ⟨rb, k, none⟩ (ptr nb)) t 0 cs) e.lv e.sl.ints) := by
  have hkM := (List.getElem?_eq_some_iff.1 hk).1
  have h2 : TabM (Or D fun j => j = t) F w2 tb rb M := (h.up (ups_temp D ht) fun j hj => .inl (h.sub j hj).1).keep (keep_on hb2)
  have hD2 : Lt (Or D fun j => j = t) w2 := fun j hj => by
    rcases hj with hj | rfl
    · exact Nat.lt_of_lt_of_le (hD j hj) hb2.size
    · exact ht2
  obtain ⟨h5, g5⟩ := h2.laid hD2 hkM hf hb3 hn hB hi
  have hBt := but_putL t cs (w3.setCell ⟨rb, k, none⟩ (ptr nb)) 0
  have hFt : ¬ Or F (fun j => j = nb) t := by
    rintro (h7 | h7)
    · have := (h.sub t h7).2; omega
    · omega
  have h6 := h5.keep (keep_but hBt fun h7 => by
    rcases h7 with h7 | h7
    · exact h7 (.inl (.inr rfl))
    · exact hFt h7)
  have hFD : ∀ j, F j → D j := fun j hj => (h.sub j hj).1
  have hup : ∀ n, Ups (Or (Or D fun j => j = t) fun j => j = nb) (Or D (Or F fun j => j = nb)) n := fun n j hj => by
    rcases hj with h7 | h7 | h7
    · exact .inl (.inl (.inl h7))
    · exact .inl (.inl (.inl (hFD j h7)))
    · exact .inl (.inr h7)
  refine ⟨Or F fun j => j = nb, ⟨rb, _, by rw [List.map_set], h6.up (hup _) fun j hj => .inr hj⟩, ⟨((Goes.on hb2).trans g5).keep.temp hBt ht, fun j hj => ?_⟩, fun he => ?_⟩
  · rcases hj with h7 | rfl
    · exact .inl h7
    · exact .inr (Nat.le_trans hb2.size hn)
  · have i2 := (h2.ent k e hk he).2.2
    have i3 := (i2.up (ups_temp _ hn)).on hb3
    have i4 := i3.keep (keep_but (but_set w3 rb k (ptr nb)) fun h7 => h7 (.inl (.inl (hFD rb h.frow))))
    have i5 := i4.keep (keep_but hBt fun h7 => h7 (.inl (.inr rfl)))
    exact i5.up (hup _)

theorem results_blk3 {P : Program} {fn : Func} {p u u2 : Tmp} {t : TypeId} {cs : List Value} {v1 v2 : Value} (hagg : ∀ w, (isAgg t).run P w = .ok true w) (hi : (P.info? t).map (·.size) = some cs.length) (h : fn.results = #[.cell p t, .tmp u, .tmp u2]) (tmps : Array Value) (w : World) {b : Nat}
    (hp : tmps.getD p undef = .pointer (some ⟨b, 0, none⟩)) (h1 : tmps.getD u undef = v1) (h2 : tmps.getD u2 undef = v2) (hb : Blk w b t cs) : (results fn tmps).run P w = .ok (.tuple #[.agg cs.toArray, v1, v2]) w := by
  have hp' : tmps[p]?.getD undef = .pointer (some ⟨b, 0, none⟩) := by simpa using hp
  have h1' : tmps[u]?.getD undef = v1 := by simpa using h1
  have h2' : tmps[u2]?.getD undef = v2 := by simpa using h2
  simp [results, h, hp', h1', h2', asAddr, run_loadVar_blk hagg hi hb]
/-- A call that lays a descriptor, and hands another one out. -/
def SPost (D F : Nat → Prop) (tb : Nat) (w : World) (S : List Sl) (x : Sl) (b : Bool) (E : Int) (e : Ending) (w' : World) : Prop := ∃ F' u, e = .returned (.tuple #[u, .bool b, .int .i64 E]) ∧ TabAt (Or D F') F' w' tb S ∧ Goes F F' w w' ∧ SlD (Or D F') w' u x
set_option maxRecDepth 100000 in
set_option maxHeartbeats 2000000 in
theorem set_no (h : TabAt D F w tb S) (fd : Int) (p : Option Addr) (c : Nat) (hx : W.At w p x.ints) (hxl : x.ints.length ≤ 1000) (E : Int) (hE : (canS x = false ∧ E = 22) ∨ (canS x = true ∧ inB S fd = false ∧ E = 9)) :
    Calls Try.prog 29 #[ptr tb, .int .i64 fd, .agg (slC x (.slice p x.ints.length c)).toArray] w (SPost D F tb w S zS false E) := by
  change Calls Try.prog 29 #[ptr tb, .int .i64 fd, .agg #[.int .i64 x.file, .int .u32 (x.rights : Int), .bool x.all, .slice p x.ints.length c, .int .i64 x.fc]] w _
  have HB : Hid (Below w.heap.size w ((w.alloc (.cells #[.int .i64 x.file, .int .u32 (x.rights : Int), .bool x.all, .slice p x.ints.length c, .int .i64 x.fc] 34)).alloc (.cells #[.int .i64 0, .int .u32 0, .bool false, .slice none 0 0, .int .i64 0] 34))) := on_trans (on_alloc w _) (on_alloc _ _)
  have HX : Hid (Blk ((w.alloc (.cells #[.int .i64 x.file, .int .u32 (x.rights : Int), .bool x.all, .slice p x.ints.length c, .int .i64 x.fc] 34)).alloc (.cells #[.int .i64 0, .int .u32 0, .bool false, .slice none 0 0, .int .i64 0] 34)) w.heap.size 34 (slC x (.slice p x.ints.length c))) := (Blk.new w _ (slC x (.slice p x.ints.length c))).alloc _
  have HZ : Hid (Blk ((w.alloc (.cells #[.int .i64 x.file, .int .u32 (x.rights : Int), .bool x.all, .slice p x.ints.length c, .int .i64 x.fc] 34)).alloc (.cells #[.int .i64 0, .int .u32 0, .bool false, .slice none 0 0, .int .i64 0] 34)) (w.heap.size + 1) 34 (slC zS (.slice none 0 0))) := by
    have := zBlk (w.alloc (.cells #[.int .i64 x.file, .int .u32 (x.rights : Int), .bool x.all, .slice p x.ints.length c, .int .i64 x.fc] 34))
    rwa [World.size_alloc] at this
  have cC : Calls Try.prog 46 #[.agg #[.int .i64 x.file, .int .u32 (x.rights : Int), .bool x.all, .slice p x.ints.length c, .int .i64 x.fc]] ((w.alloc (.cells #[.int .i64 x.file, .int .u32 (x.rights : Int), .bool x.all, .slice p x.ints.length c, .int .i64 x.fc] 34)).alloc (.cells #[.int .i64 0, .int .u32 0, .bool false, .slice none 0 0, .int .i64 0] 34)) fun e w' => e = .returned (.bool (canS x)) ∧ Below ((w.alloc (.cells #[.int .i64 x.file, .int .u32 (x.rights : Int), .bool x.all, .slice p x.ints.length c, .int .i64 x.fc] 34)).alloc (.cells #[.int .i64 0, .int .u32 0, .bool false, .slice none 0 0, .int .i64 0] 34)).heap.size ((w.alloc (.cells #[.int .i64 x.file, .int .u32 (x.rights : Int), .bool x.all, .slice p x.ints.length c, .int .i64 x.fc] 34)).alloc (.cells #[.int .i64 0, .int .u32 0, .bool false, .slice none 0 0, .int .i64 0] 34)) w' := can_any x p c _ (hx.on HB.out) hxl
  have HN : Hid (∀ w1, Below w.heap.size w w1 → Calls Try.prog 42 #[ptr tb, .int .i64 fd] w1 fun e w' => e = .returned (.bool (inB S fd)) ∧ w' = w1) := fun w1 hb => by
    obtain ⟨rb, M, rfl, h⟩ := h
    exact numbers_any ((h.keep (keep_on hb)).box.cell 0 rfl) (by simp) fd
  have HP : Hid (∀ w1, Below w.heap.size w w1 → SPost D F tb w S zS false E (.returned (.tuple #[.agg (slC zS (.slice none 0 0)).toArray, .bool false, .int .i64 E])) w1) := fun w1 hb => ⟨F, _, rfl, tab_or (h.on hb), .on hb, .slice none 0 0, rfl, .nil _ _⟩
  generalize SPost D F tb w S zS false E = Post at *
  have b0 := HX.out.cell 0 rfl
  have b1 := HX.out.cell 1 rfl
  have b2 := HX.out.cell 2 rfl
  have b3 := HX.out.cell 3 rfl
  have b4 := HX.out.cell 4 rfl
  clear h hx HX
  rcases hE with ⟨hc, rfl⟩ | ⟨hc, hn, rfl⟩
  · rw [hc] at cC
    clear hc HN
    go_enter Try.func29, Try.ntmps29
    go_wp2_with fail
    generalize (w.alloc (.cells #[.int .i64 x.file, .int .u32 (x.rights : Int), .bool x.all, .slice p x.ints.length c, .int .i64 x.fc] 34)).alloc (.cells #[.int .i64 0, .int .u32 0, .bool false, .slice none 0 0, .int .i64 0] 34) = w0 at *
    refine cC.mono ?_
    rintro e w1 ⟨rfl, hb1⟩
    have HZ1 : Hid (Blk w1 (w.heap.size + 1) 34 (slC zS (.slice none 0 0))) := HZ.out.on hb1
    have HB1 : Hid (Below w.heap.size w w1) := on_trans HB.out hb1
    have f := HZ1.out
    have f0 := f.free 0
    have f1 := f.free 1
    have f2 := f.free 2
    have f3 := f.free 3
    have f4 := f.free 4
    have x0 := f.cell 0 rfl
    have x1 := f.cell 1 rfl
    have x2 := f.cell 2 rfl
    have x3 := f.cell 3 rfl
    have x4 := f.cell 4 rfl
    simp only [zS, Int.natCast_zero] at x0 x1 x2 x3 x4
    clear HZ HB hb1 cC b0 b1 b2 b3 b4 f
    go_wp2
    exact bodyPost_ret (results_blk3 (cs := slC zS (.slice none 0 0)) (v1 := .bool false) (v2 := .int .i64 22) Try.isAgg34 infoS rfl _ _ rfl rfl rfl (HZ1.out.put (slC zS (.slice none 0 0)) rfl)) rfl (HP.out _ (below_but HB1.out (but_putL (w.heap.size + 1) (slC zS (.slice none 0 0)) _ 0) (by omega)))
  · rw [hc] at cC
    rw [hn] at HN
    clear hc hn
    go_enter Try.func29, Try.ntmps29
    go_wp2_with fail
    generalize (w.alloc (.cells #[.int .i64 x.file, .int .u32 (x.rights : Int), .bool x.all, .slice p x.ints.length c, .int .i64 x.fc] 34)).alloc (.cells #[.int .i64 0, .int .u32 0, .bool false, .slice none 0 0, .int .i64 0] 34) = w0 at *
    refine cC.mono ?_
    rintro e w1 ⟨rfl, hb1⟩
    have HZ1 : Hid (Blk w1 (w.heap.size + 1) 34 (slC zS (.slice none 0 0))) := HZ.out.on hb1
    have HB1 : Hid (Below w.heap.size w w1) := on_trans HB.out hb1
    have cN := HN.out w1 HB1.out
    have f := HZ1.out
    have f0 := f.free 0
    have f1 := f.free 1
    have f2 := f.free 2
    have f3 := f.free 3
    have f4 := f.free 4
    have x0 := f.cell 0 rfl
    have x1 := f.cell 1 rfl
    have x2 := f.cell 2 rfl
    have x3 := f.cell 3 rfl
    have x4 := f.cell 4 rfl
    simp only [zS, Int.natCast_zero] at x0 x1 x2 x3 x4
    clear HZ HB hb1 cC b0 b1 b2 b3 b4 f HN
    go_wp2_with fail
    refine cN.mono ?_
    rintro e w2 ⟨rfl, hw2⟩
    subst hw2
    go_wp2
    exact bodyPost_ret (results_blk3 (cs := slC zS (.slice none 0 0)) (v1 := .bool false) (v2 := .int .i64 9) Try.isAgg34 infoS rfl _ _ rfl rfl rfl (HZ1.out.put (slC zS (.slice none 0 0)) rfl)) rfl (HP.out _ (below_but HB1.out (but_putL (w.heap.size + 1) (slC zS (.slice none 0 0)) _ 0) (by omega)))
set_option maxRecDepth 100000 in
set_option maxHeartbeats 2000000 in
theorem set_yes (h : TabAt D F w tb S) (hS : Fits S) (hD : Lt D w) (fd : Int) (p : Option Addr) (c : Nat) (hx : W.At w p x.ints) (hxl : x.ints.length ≤ 1000) (hc : canS x = true) (hi : inB S fd = true) :
    Calls Try.prog 29 #[ptr tb, .int .i64 fd, .agg (slC x (.slice p x.ints.length c)).toArray] w (SPost D F tb w (S.set fd.toNat x) (atS S fd) (liveB S fd) 0) := by
  change Calls Try.prog 29 #[ptr tb, .int .i64 fd, .agg #[.int .i64 x.file, .int .u32 (x.rights : Int), .bool x.all, .slice p x.ints.length c, .int .i64 x.fc]] w _
  obtain ⟨k, rfl⟩ : ∃ k : Nat, fd = (k : Int) := ⟨fd.toNat, by have := (in_iff.1 hi).1; omega⟩
  have hkS : k < S.length := by have := (in_iff.1 hi).2; omega
  rw [live_of hkS, show atS S (k : Int) = S.getD k zS from rfl, show (k : Int).toNat = k from rfl]
  have hfit := hS.at (k : Int)
  rw [show atS S (k : Int) = S.getD k zS from rfl] at hfit
  have hfx : x.file ≠ 0 := by have := can_file hc; omega
  have HB : Hid (Below w.heap.size w ((w.alloc (.cells #[.int .i64 x.file, .int .u32 (x.rights : Int), .bool x.all, .slice p x.ints.length c, .int .i64 x.fc] 34)).alloc (.cells #[.int .i64 0, .int .u32 0, .bool false, .slice none 0 0, .int .i64 0] 34))) := on_trans (on_alloc w _) (on_alloc _ _)
  have HX : Hid (Blk ((w.alloc (.cells #[.int .i64 x.file, .int .u32 (x.rights : Int), .bool x.all, .slice p x.ints.length c, .int .i64 x.fc] 34)).alloc (.cells #[.int .i64 0, .int .u32 0, .bool false, .slice none 0 0, .int .i64 0] 34)) w.heap.size 34 (slC x (.slice p x.ints.length c))) := (Blk.new w _ (slC x (.slice p x.ints.length c))).alloc _
  have HZ : Hid (Blk ((w.alloc (.cells #[.int .i64 x.file, .int .u32 (x.rights : Int), .bool x.all, .slice p x.ints.length c, .int .i64 x.fc] 34)).alloc (.cells #[.int .i64 0, .int .u32 0, .bool false, .slice none 0 0, .int .i64 0] 34)) (w.heap.size + 1) 34 (slC zS (.slice none 0 0))) := by
    have := zBlk (w.alloc (.cells #[.int .i64 x.file, .int .u32 (x.rights : Int), .bool x.all, .slice p x.ints.length c, .int .i64 x.fc] 34))
    rwa [World.size_alloc] at this
  have cC : Calls Try.prog 46 #[.agg #[.int .i64 x.file, .int .u32 (x.rights : Int), .bool x.all, .slice p x.ints.length c, .int .i64 x.fc]] ((w.alloc (.cells #[.int .i64 x.file, .int .u32 (x.rights : Int), .bool x.all, .slice p x.ints.length c, .int .i64 x.fc] 34)).alloc (.cells #[.int .i64 0, .int .u32 0, .bool false, .slice none 0 0, .int .i64 0] 34)) fun e w' => e = .returned (.bool (canS x)) ∧ Below ((w.alloc (.cells #[.int .i64 x.file, .int .u32 (x.rights : Int), .bool x.all, .slice p x.ints.length c, .int .i64 x.fc] 34)).alloc (.cells #[.int .i64 0, .int .u32 0, .bool false, .slice none 0 0, .int .i64 0] 34)).heap.size ((w.alloc (.cells #[.int .i64 x.file, .int .u32 (x.rights : Int), .bool x.all, .slice p x.ints.length c, .int .i64 x.fc] 34)).alloc (.cells #[.int .i64 0, .int .u32 0, .bool false, .slice none 0 0, .int .i64 0] 34)) w' := can_any x p c _ (hx.on HB.out) hxl
  rw [hc] at cC
  have HN : Hid (∀ w1, Below w.heap.size w w1 → Calls Try.prog 42 #[ptr tb, .int .i64 (k : Int)] w1 fun e w' => e = .returned (.bool true) ∧ w' = w1) := fun w1 hb => by
    rw [← hi]
    obtain ⟨rb, M, rfl, h⟩ := h
    exact numbers_any ((h.keep (keep_on hb)).box.cell 0 rfl) (by simp) _
  obtain ⟨rb, M, rfl, h⟩ := h
  have hkM : k < M.length := by simpa using hkS
  obtain ⟨e, hke, he⟩ := ent_at M hkM
  rw [he] at hfit ⊢
  have HM : Hid (∀ w2, Below w.heap.size w w2 → TabM D F w2 tb rb M) := fun w2 hb => h.keep (keep_on hb)
  have HR0 : Hid (∀ w2, Below w.heap.size w w2 → (∃ v, w2.cell? ⟨rb, k, none⟩ = some v) ∧ w2.frozen? ⟨rb, k, none⟩ = false) := fun w2 hb => ⟨⟨_, (HM.out w2 hb).look hke⟩, (HM.out w2 hb).row.free k⟩
  have HYB : Hid (∀ w2, Below w.heap.size w w2 → w2.cell? ⟨tb, 0, none⟩ = some (.slice (some ⟨rb, 0, none⟩) M.length M.length)) := fun w2 hb => (HM.out w2 hb).box.cell 0 rfl
  have HW : Hid (∀ w2, Below w.heap.size w w2 → w2.cell? ⟨rb, k, none⟩ = some e.ptr) := fun w2 hb => (HM.out w2 hb).look hke
  have HPP : Hid (∀ w2 w3 nb p' c' cs, Below w.heap.size w w2 → w.heap.size + 1 < w2.heap.size → Below w2.heap.size w2 w3 → w2.heap.size ≤ nb → Blk w3 nb 34 (slC x (.slice p' x.ints.length c')) → AtN (nb + 1) w3 p' x.ints → ∃ F', TabAt (Or D F') F' (putL (w3.setCell ⟨rb, k, none⟩ (ptr nb)) (w.heap.size + 1) 0 cs) tb ((M.map Ent.sl).set k x) ∧ Goes F F' w (putL (w3.setCell ⟨rb, k, none⟩ (ptr nb)) (w.heap.size + 1) 0 cs) ∧ (e.sl.file ≠ 0 → IntD (Or D F') (putL (w3.setCell ⟨rb, k, none⟩ (ptr nb)) (w.heap.size + 1) 0 cs) e.lv e.sl.ints)) :=
    fun w2 w3 nb p' c' cs h1 h2 h3 h4 h5 h6 => set_post h hD hke hfx (w.heap.size + 1) (by omega) h1 h2 h3 h4 h5 h6 cs
  have HBE : Hid (e.sl.file ≠ 0 → ∀ w2 w3 nb, Below w.heap.size w w2 → Below w2.heap.size w2 w3 → Blk (w3.setCell ⟨rb, k, none⟩ (ptr nb)) e.bk 34 (slC e.sl e.lv)) := fun hf w2 w3 nb h1 h2 =>
    ((HM.out w3 (on_trans h1 h2)).ent k e hke hf).2.1.but (but_set _ _ _ _) (h.rb_ne hke hf)
  have HLV : Hid (e.sl.file ≠ 0 → ∃ p5 c5, e.lv = .slice p5 e.sl.ints.length c5) := fun hf => by
    obtain ⟨p5, c5, h5, _⟩ := (h.ent k e hke hf).2.2
    exact ⟨p5, c5, h5⟩
  have HRB : Hid (rb < w.heap.size) := h.row.lt
  have hkn : k < M.length := hkM
  have hz : (k : Int) < (M.length : Int) := by omega
  have hz0 : ¬ (k : Int) < 0 := by omega
  have HA : Hid (W.At w p x.ints ∧ x.ints.length ≤ 1000) := ⟨hx, hxl⟩
  have b0 := HX.out.cell 0 rfl
  have b1 := HX.out.cell 1 rfl
  have b2 := HX.out.cell 2 rfl
  have b3 := HX.out.cell 3 rfl
  have b4 := HX.out.cell 4 rfl
  clear h hx hS hi hc hfx hkS hke he hD
  have HPost : Hid (∀ u w4 F', TabAt (Or D F') F' w4 tb ((M.map Ent.sl).set k x) → Goes F F' w w4 → SlD (Or D F') w4 u e.sl → SPost D F tb w ((M.map Ent.sl).set k x) e.sl (decide (e.sl.file ≠ 0)) 0 (.returned (.tuple #[u, .bool (decide (e.sl.file ≠ 0)), .int .i64 0])) w4) := fun u w4 F' h1 h2 h3 => ⟨F', u, rfl, h1, h2, h3⟩
  generalize SPost D F tb w ((M.map Ent.sl).set k x) e.sl (decide (e.sl.file ≠ 0)) 0 = Post at *
  generalize hS2 : (M.map Ent.sl).set k x = S2 at *
  clear hS2
  generalize M.length = n at *
  have HFit : Hid (e.sl.file = 0 → e.sl = zS) := fun h => hfit.none h
  clear hfit
  obtain ⟨ex, bk, lv⟩ := e
  simp only [Ent.ptr] at HPP HBE HLV HW HPost HFit
  by_cases hf : ex.file = 0
  · have hex := HFit.out hf
    subst hex
    rw [if_pos hf] at HW
    rw [show decide (zS.file ≠ 0) = false from rfl] at HPost
    clear hf HFit HLV HBE
    go_enter Try.func29, Try.ntmps29
    go_wp2_with fail
    generalize hw0 : (w.alloc (.cells #[.int .i64 x.file, .int .u32 (x.rights : Int), .bool x.all, .slice p x.ints.length c, .int .i64 x.fc] 34)).alloc (.cells #[.int .i64 0, .int .u32 0, .bool false, .slice none 0 0, .int .i64 0] 34) = w0 at *
    refine cC.mono ?_
    rintro e w1 ⟨rfl, hb1⟩
    have HZ1 : Hid (Blk w1 (w.heap.size + 1) 34 (slC zS (.slice none 0 0))) := HZ.out.on hb1
    have HX1 : Hid (Blk w1 w.heap.size 34 (slC x (.slice p x.ints.length c))) := HX.out.on hb1
    have HB1 : Hid (Below w.heap.size w w1) := on_trans HB.out hb1
    have cN := HN.out w1 HB1.out
    clear HZ HB hb1 cC b0 b1 b2 b3 b4 HN HX hw0
    go_wp2_with fail
    refine cN.mono ?_
    rintro e wb ⟨rfl, hw2⟩
    subst hw2
    clear cN
    have HY : Hid (∀ W, Below wb.heap.size wb W → W.cell? ⟨tb, 0, none⟩ = some (.slice (some ⟨rb, 0, none⟩) n n)) := fun W hb => HYB.out W (on_trans HB1.out hb)
    have HR : Hid (∀ W, Below wb.heap.size wb W → (∃ v, W.cell? ⟨rb, k, none⟩ = some v) ∧ W.frozen? ⟨rb, k, none⟩ = false) := fun W hb => HR0.out W (on_trans HB1.out hb)
    have HPB : Hid (∀ W, Below wb.heap.size wb W → Blk W w.heap.size 34 (slC x (.slice p x.ints.length c))) := fun W hb => HX1.out.on hb
    have HC : Hid (∀ Y, Below wb.heap.size wb Y → Calls Try.prog 40 #[.agg (slC x (.slice p x.ints.length c)).toArray] Y fun e Y' => ∃ v, e = .returned v ∧ (kf x wb.heap.size).ok v Y' ∧ Below Y.heap.size Y Y') := fun Y hb => fresh_kf (HA.out.1.on HB1.out) HA.out.2 hb _ hb.size
    have HS0 : Hid (layS wb rb k x true wb.drew) := ⟨fun _ => on_drew (Below.refl _ _), (fun e => by cases e)⟩
    have y9 := HYB.out wb HB1.out
    have y8 := HW.out wb HB1.out
    go_wp2
    refine wp_region_two (S := layS wb rb k x) (u := 8) (Keep := KeepU 8)
      (g := fun jj vv WW => (([.is (ptr tb), .is (ptr tb), .is (.pointer (some ⟨tb, 0, none⟩)), .is (.slice (some ⟨rb, 0, none⟩) n n), .is (.int .i64 (k : Int)), .is (.agg (slC x (.slice p x.ints.length c)).toArray), kf x wb.heap.size, .is (.pointer (some ⟨rb, k, none⟩)), .any] : List (Kd 0)).getD jj Kd.any).ok vv WW)
      (tab := [[(0, none)], [(30, some 0)], [(31, some 1)], [(32, some 2)], [(1, none)], [(5, none)], [(35, some 5)], [(33, some 3), (34, some 4)], [(37, some 7), (36, some 6)]]) (tl := [(6, 8)]) (n := 44)
      (by kernel_rfl) rfl (by kernel_rfl) (keep_u ?k) (HS0.out) ?st ?en
    case k =>
      intro j hj
      match j, hj with
      | 0, _ | 1, _ | 2, _ | 3, _ | 4, _ | 5, _ | 7, _ => exact .inr (pure_is _)
      | 6, _ => exact .inl rfl
      | 8, hj => exact absurd rfl hj
      | j + 9, _ => exact .inr pure_any
    case st =>
      refine ⟨fun ρ W f hf hr hS hs => ?_, fun ρ W f hf hr hS hs => ?_, fun ρ W f hf hr hS hs => ?_, fun ρ W f hf hr hS hs => ?_, fun ρ W f hf hr hS hs => ?_, fun ρ W f hf hr hS hs => ?_, fun ρ W f hf hr hS hs => ?_, fun ρ W f hf hr hS hs => ?_, fun ρ W f hf hr hS hs => ?_, trivial⟩
      · have h0 : ρ (.tmp 0) = ptr tb := hs.1
        exact step_plain rfl (leaves_move (.tmp 0) rfl ⟨h0, by simpa using hS, .inr (Below.refl _ _)⟩)
      · have h30 : ρ (.tmp 30) = ptr tb := hs.1
        refine step_plain rfl (leaves_value (v := ptr tb) (w' := W) ?_ ⟨rfl, by simpa using hS, .inr (Below.refl _ _)⟩)
        simp [go_sem, h30]
      · have h31 : ρ (.tmp 31) = ptr tb := hs.1
        refine step_plain rfl (leaves_value (v := .pointer (some ⟨tb, 0, none⟩)) (w' := W) ?_ ⟨rfl, by simpa using hS, .inr (Below.refl _ _)⟩)
        simp [go_sem, h31]
      · have h32 : ρ (.tmp 32) = .pointer (some ⟨tb, 0, none⟩) := hs.1
        obtain rfl : f = true := hf (by kernel_rfl)
        refine step_plain rfl (leaves_value (v := .slice (some ⟨rb, 0, none⟩) n n) (w' := W) ?_ ⟨rfl, by simpa using hS, .inr (Below.refl _ _)⟩)
        have y0 := HY.out W (hS.1 rfl)
        simp [go_sem, h32, y0]
      · have h1 : ρ (.tmp 1) = .int .i64 (k : Int) := hs.1
        exact step_plain rfl (leaves_move (.tmp 1) rfl ⟨h1, by simpa using hS, .inr (Below.refl _ _)⟩)
      · have h5 : ρ (.tmp 5) = ptr w.heap.size := hs.1
        obtain rfl : f = true := hf (by kernel_rfl)
        exact step_plain rfl (leaves_load (cs := slC x (.slice p x.ints.length c)) Try.isAgg34 infoS (.tmp 5) rfl h5 (HPB.out W (hS.1 rfl)) ⟨rfl, by simpa using hS, .inr (Below.refl _ _)⟩)
      · have h35 : ρ (.tmp 35) = .agg (slC x (.slice p x.ints.length c)).toArray := hs.1
        obtain rfl : f = true := hf (by kernel_rfl)
        refine step_plain rfl (leaves_call1 en_fresh hr (.tmp 35) _ rfl h35 ((HC.out W (hS.1 rfl)).mono ?_))
        rintro e W' ⟨v9, rfl, h9, hb9⟩
        exact ⟨_, rfl, h9, ⟨fun _ => on_trans (hS.1 rfl) hb9, (fun e => by cases e)⟩, .inr hb9⟩
      · have h33 : ρ (.tmp 33) = .slice (some ⟨rb, 0, none⟩) n n := hs.1
        have h34 : ρ (.tmp 34) = .int .i64 (k : Int) := hs.2.1
        refine step_plain rfl (leaves_value (v := .pointer (some ⟨rb, k, none⟩)) (w' := W) ?_ ⟨rfl, by simpa using hS, .inr (Below.refl _ _)⟩)
        simp [go_sem, h33, h34, hz, hz0]
      · have h37 : ρ (.tmp 37) = .pointer (some ⟨rb, k, none⟩) := hs.1
        have h36 := hs.2.1
        obtain rfl : f = true := hf (by kernel_rfl)
        obtain ⟨nb, p9, c9, e9, h91, h92, h93⟩ := h36
        change ρ (.tmp 36) = _ at e9
        have y1 := HR.out W (hS.1 rfl)
        refine step_plain rfl (leaves_skip (w' := W.setCell ⟨rb, k, none⟩ (ptr nb)) ?_ ⟨trivial, ⟨(fun e => by cases e), fun _ => ⟨W, nb, p9, c9, hS.1 rfl, h91, h92, h93, rfl⟩⟩, .inl rfl⟩)
        obtain ⟨y2, y3⟩ := y1
        obtain ⟨y4, y2⟩ := y2
        simp [go_sem, h37, e9, y2, y3]
    case en =>
      intro f W hf hS v0 h0 v1 h1 v2 h2 v3 h3 v4 h4 v5 h5 v6 h6 v7 h7 h8
      obtain rfl : f = false := hf (by decide)
      clear hf
      have e0 : v0 = ptr tb := h0 rfl
      subst v0
      have e1 : v1 = ptr tb := h1 rfl
      subst v1
      have e2 : v2 = .pointer (some ⟨tb, 0, none⟩) := h2 rfl
      subst v2
      have e3 : v3 = .slice (some ⟨rb, 0, none⟩) n n := h3 rfl
      subst v3
      have e4 : v4 = .int .i64 (k : Int) := h4 rfl
      subst v4
      have e5 : v5 = .agg (slC x (.slice p x.ints.length c)).toArray := h5 rfl
      subst v5
      have e7 : v7 = .pointer (some ⟨rb, k, none⟩) := h7 rfl
      subst v7
      clear h0 h1 h2 h3 h4 h5 h7 h8
      simp only [ends, Act.put, List.setIfInBounds_toArray, List.set_cons_succ, List.set_cons_zero]
      obtain ⟨Y1, nb, p9, c9, h91, h92, h93, h94, rfl⟩ := hS.2 rfl
      have HZ5 : Hid (Blk (Y1.setCell ⟨rb, k, none⟩ (ptr nb)) (w.heap.size + 1) 34 (slC zS (.slice none 0 0))) := (HZ1.out.on h91).but (but_set _ _ _ _) (by have := HRB.out; omega)
      obtain ⟨F', q1, q2, _⟩ := HPP.out wb Y1 nb p9 c9 (slC zS (.slice none 0 0)) HB1.out HZ1.out.lt h91 h92 h93 h94
      have HQ : Hid _ := HPost.out (.agg (slC zS (.slice none 0 0)).toArray) _ F' q1 q2 ⟨_, rfl, .nil _ _⟩
      have f := HZ5.out
      have f0 := f.free 0
      have f1 := f.free 1
      have f2 := f.free 2
      have f3 := f.free 3
      have f4 := f.free 4
      have x0 := f.cell 0 rfl
      have x1 := f.cell 1 rfl
      have x2 := f.cell 2 rfl
      have x3 := f.cell 3 rfl
      have x4 := f.cell 4 rfl
      simp only [zS, Int.natCast_zero] at x0 x1 x2 x3 x4
      clear HPP HPost HC HPB HR HR0 HY HYB HS0 HA HM HX1 HZ1 HB1 HW h91 h92 h93 h94 hS q1 q2 f y8 y9
      generalize Y1.setCell ⟨rb, k, none⟩ (ptr nb) = w5 at *
      go_wp2
      exact bodyPost_ret (results_blk3 (cs := slC zS (.slice none 0 0)) (v1 := .bool false) (v2 := .int .i64 0) Try.isAgg34 infoS rfl _ _ rfl rfl rfl (HZ5.out.put (slC zS (.slice none 0 0)) rfl)) rfl HQ.out
  · rw [if_neg hf] at HW
    rw [show decide (ex.file ≠ 0) = true from decide_eq_true hf] at HPost
    obtain ⟨p5, c5, rfl⟩ := HLV.out hf
    have HBE2 : Hid _ := HBE.out hf
    have HF5 : Hid (ex.file ≠ 0) := hf
    clear hf HFit HLV HBE
    go_enter Try.func29, Try.ntmps29
    go_wp2_with fail
    generalize hw0 : (w.alloc (.cells #[.int .i64 x.file, .int .u32 (x.rights : Int), .bool x.all, .slice p x.ints.length c, .int .i64 x.fc] 34)).alloc (.cells #[.int .i64 0, .int .u32 0, .bool false, .slice none 0 0, .int .i64 0] 34) = w0 at *
    refine cC.mono ?_
    rintro e w1 ⟨rfl, hb1⟩
    have HZ1 : Hid (Blk w1 (w.heap.size + 1) 34 (slC zS (.slice none 0 0))) := HZ.out.on hb1
    have HX1 : Hid (Blk w1 w.heap.size 34 (slC x (.slice p x.ints.length c))) := HX.out.on hb1
    have HB1 : Hid (Below w.heap.size w w1) := on_trans HB.out hb1
    have cN := HN.out w1 HB1.out
    clear HZ HB hb1 cC b0 b1 b2 b3 b4 HN HX hw0
    go_wp2_with fail
    refine cN.mono ?_
    rintro e wb ⟨rfl, hw2⟩
    subst hw2
    clear cN
    have HY : Hid (∀ W, Below wb.heap.size wb W → W.cell? ⟨tb, 0, none⟩ = some (.slice (some ⟨rb, 0, none⟩) n n)) := fun W hb => HYB.out W (on_trans HB1.out hb)
    have HR : Hid (∀ W, Below wb.heap.size wb W → (∃ v, W.cell? ⟨rb, k, none⟩ = some v) ∧ W.frozen? ⟨rb, k, none⟩ = false) := fun W hb => HR0.out W (on_trans HB1.out hb)
    have HPB : Hid (∀ W, Below wb.heap.size wb W → Blk W w.heap.size 34 (slC x (.slice p x.ints.length c))) := fun W hb => HX1.out.on hb
    have HC : Hid (∀ Y, Below wb.heap.size wb Y → Calls Try.prog 40 #[.agg (slC x (.slice p x.ints.length c)).toArray] Y fun e Y' => ∃ v, e = .returned v ∧ (kf x wb.heap.size).ok v Y' ∧ Below Y.heap.size Y Y') := fun Y hb => fresh_kf (HA.out.1.on HB1.out) HA.out.2 hb _ hb.size
    have HS0 : Hid (layS wb rb k x true wb.drew) := ⟨fun _ => on_drew (Below.refl _ _), (fun e => by cases e)⟩
    have y9 := HYB.out wb HB1.out
    have y8 := HW.out wb HB1.out
    go_wp2
    refine wp_region_two (S := layS wb rb k x) (u := 8) (Keep := KeepU 8)
      (g := fun jj vv WW => (([.is (ptr tb), .is (ptr tb), .is (.pointer (some ⟨tb, 0, none⟩)), .is (.slice (some ⟨rb, 0, none⟩) n n), .is (.int .i64 (k : Int)), .is (.agg (slC x (.slice p x.ints.length c)).toArray), kf x wb.heap.size, .is (.pointer (some ⟨rb, k, none⟩)), .any] : List (Kd 0)).getD jj Kd.any).ok vv WW)
      (tab := [[(0, none)], [(30, some 0)], [(31, some 1)], [(32, some 2)], [(1, none)], [(5, none)], [(35, some 5)], [(33, some 3), (34, some 4)], [(37, some 7), (36, some 6)]]) (tl := [(6, 8)]) (n := 44)
      (by kernel_rfl) rfl (by kernel_rfl) (keep_u ?k) (HS0.out) ?st ?en
    case k =>
      intro j hj
      match j, hj with
      | 0, _ | 1, _ | 2, _ | 3, _ | 4, _ | 5, _ | 7, _ => exact .inr (pure_is _)
      | 6, _ => exact .inl rfl
      | 8, hj => exact absurd rfl hj
      | j + 9, _ => exact .inr pure_any
    case st =>
      refine ⟨fun ρ W f hf hr hS hs => ?_, fun ρ W f hf hr hS hs => ?_, fun ρ W f hf hr hS hs => ?_, fun ρ W f hf hr hS hs => ?_, fun ρ W f hf hr hS hs => ?_, fun ρ W f hf hr hS hs => ?_, fun ρ W f hf hr hS hs => ?_, fun ρ W f hf hr hS hs => ?_, fun ρ W f hf hr hS hs => ?_, trivial⟩
      · have h0 : ρ (.tmp 0) = ptr tb := hs.1
        exact step_plain rfl (leaves_move (.tmp 0) rfl ⟨h0, by simpa using hS, .inr (Below.refl _ _)⟩)
      · have h30 : ρ (.tmp 30) = ptr tb := hs.1
        refine step_plain rfl (leaves_value (v := ptr tb) (w' := W) ?_ ⟨rfl, by simpa using hS, .inr (Below.refl _ _)⟩)
        simp [go_sem, h30]
      · have h31 : ρ (.tmp 31) = ptr tb := hs.1
        refine step_plain rfl (leaves_value (v := .pointer (some ⟨tb, 0, none⟩)) (w' := W) ?_ ⟨rfl, by simpa using hS, .inr (Below.refl _ _)⟩)
        simp [go_sem, h31]
      · have h32 : ρ (.tmp 32) = .pointer (some ⟨tb, 0, none⟩) := hs.1
        obtain rfl : f = true := hf (by kernel_rfl)
        refine step_plain rfl (leaves_value (v := .slice (some ⟨rb, 0, none⟩) n n) (w' := W) ?_ ⟨rfl, by simpa using hS, .inr (Below.refl _ _)⟩)
        have y0 := HY.out W (hS.1 rfl)
        simp [go_sem, h32, y0]
      · have h1 : ρ (.tmp 1) = .int .i64 (k : Int) := hs.1
        exact step_plain rfl (leaves_move (.tmp 1) rfl ⟨h1, by simpa using hS, .inr (Below.refl _ _)⟩)
      · have h5 : ρ (.tmp 5) = ptr w.heap.size := hs.1
        obtain rfl : f = true := hf (by kernel_rfl)
        exact step_plain rfl (leaves_load (cs := slC x (.slice p x.ints.length c)) Try.isAgg34 infoS (.tmp 5) rfl h5 (HPB.out W (hS.1 rfl)) ⟨rfl, by simpa using hS, .inr (Below.refl _ _)⟩)
      · have h35 : ρ (.tmp 35) = .agg (slC x (.slice p x.ints.length c)).toArray := hs.1
        obtain rfl : f = true := hf (by kernel_rfl)
        refine step_plain rfl (leaves_call1 en_fresh hr (.tmp 35) _ rfl h35 ((HC.out W (hS.1 rfl)).mono ?_))
        rintro e W' ⟨v9, rfl, h9, hb9⟩
        exact ⟨_, rfl, h9, ⟨fun _ => on_trans (hS.1 rfl) hb9, (fun e => by cases e)⟩, .inr hb9⟩
      · have h33 : ρ (.tmp 33) = .slice (some ⟨rb, 0, none⟩) n n := hs.1
        have h34 : ρ (.tmp 34) = .int .i64 (k : Int) := hs.2.1
        refine step_plain rfl (leaves_value (v := .pointer (some ⟨rb, k, none⟩)) (w' := W) ?_ ⟨rfl, by simpa using hS, .inr (Below.refl _ _)⟩)
        simp [go_sem, h33, h34, hz, hz0]
      · have h37 : ρ (.tmp 37) = .pointer (some ⟨rb, k, none⟩) := hs.1
        have h36 := hs.2.1
        obtain rfl : f = true := hf (by kernel_rfl)
        obtain ⟨nb, p9, c9, e9, h91, h92, h93⟩ := h36
        change ρ (.tmp 36) = _ at e9
        have y1 := HR.out W (hS.1 rfl)
        refine step_plain rfl (leaves_skip (w' := W.setCell ⟨rb, k, none⟩ (ptr nb)) ?_ ⟨trivial, ⟨(fun e => by cases e), fun _ => ⟨W, nb, p9, c9, hS.1 rfl, h91, h92, h93, rfl⟩⟩, .inl rfl⟩)
        obtain ⟨y2, y3⟩ := y1
        obtain ⟨y4, y2⟩ := y2
        simp [go_sem, h37, e9, y2, y3]
    case en =>
      intro f W hf hS v0 h0 v1 h1 v2 h2 v3 h3 v4 h4 v5 h5 v6 h6 v7 h7 h8
      obtain rfl : f = false := hf (by decide)
      clear hf
      have e0 : v0 = ptr tb := h0 rfl
      subst v0
      have e1 : v1 = ptr tb := h1 rfl
      subst v1
      have e2 : v2 = .pointer (some ⟨tb, 0, none⟩) := h2 rfl
      subst v2
      have e3 : v3 = .slice (some ⟨rb, 0, none⟩) n n := h3 rfl
      subst v3
      have e4 : v4 = .int .i64 (k : Int) := h4 rfl
      subst v4
      have e5 : v5 = .agg (slC x (.slice p x.ints.length c)).toArray := h5 rfl
      subst v5
      have e7 : v7 = .pointer (some ⟨rb, k, none⟩) := h7 rfl
      subst v7
      clear h0 h1 h2 h3 h4 h5 h7 h8
      simp only [ends, Act.put, List.setIfInBounds_toArray, List.set_cons_succ, List.set_cons_zero]
      obtain ⟨Y1, nb, p9, c9, h91, h92, h93, h94, rfl⟩ := hS.2 rfl
      have HZ5 : Hid (Blk (Y1.setCell ⟨rb, k, none⟩ (ptr nb)) (w.heap.size + 1) 34 (slC zS (.slice none 0 0))) := (HZ1.out.on h91).but (but_set _ _ _ _) (by have := HRB.out; omega)
      obtain ⟨F', q1, q2, q3⟩ := HPP.out wb Y1 nb p9 c9 (slC ex (.slice p5 ex.ints.length c5)) HB1.out HZ1.out.lt h91 h92 h93 h94
      have HQ : Hid _ := HPost.out (.agg (slC ex (.slice p5 ex.ints.length c5)).toArray) _ F' q1 q2 ⟨_, rfl, q3 HF5.out⟩
      have g := HBE2.out wb Y1 nb HB1.out h91
      have f := HZ5.out
      have f0 := f.free 0
      have f1 := f.free 1
      have f2 := f.free 2
      have f3 := f.free 3
      have f4 := f.free 4
      have x0 := f.cell 0 rfl
      have x1 := f.cell 1 rfl
      have x2 := f.cell 2 rfl
      have x3 := f.cell 3 rfl
      have x4 := f.cell 4 rfl
      simp only [zS, Int.natCast_zero] at x0 x1 x2 x3 x4
      have g0 := g.cell 0 rfl
      have g1 := g.cell 1 rfl
      have g2 := g.cell 2 rfl
      have g3 := g.cell 3 rfl
      have g4 := g.cell 4 rfl
      clear HPP HPost HC HPB HR HR0 HY HYB HS0 HA HM HX1 HZ1 HB1 HW h91 h92 h93 h94 hS q1 q2 q3 f g y8 y9 HBE2 HF5
      generalize Y1.setCell ⟨rb, k, none⟩ (ptr nb) = w5 at *
      go_wp2
      exact bodyPost_ret (results_blk3 (cs := slC ex (.slice p5 ex.ints.length c5)) (v1 := .bool true) (v2 := .int .i64 0) Try.isAgg34 infoS rfl _ _ rfl rfl rfl (HZ5.out.put (slC ex (.slice p5 ex.ints.length c5)) rfl)) rfl HQ.out
theorem set_any (h : TabAt D F w tb S) (hS : Fits S) (hD : Lt D w) (fd : Int) (p : Option Addr) (c : Nat) (hx : W.At w p x.ints) (hxl : x.ints.length ≤ 1000) :
    Calls Try.prog 29 #[ptr tb, .int .i64 fd, .agg (slC x (.slice p x.ints.length c)).toArray] w (SPost D F tb w (setS S fd x) (setX S fd x) (setB S fd x) (setE S fd x)) := by
  unfold setS setX setB setE
  cases hc : canS x with
  | false => exact set_no h fd p c hx hxl 22 (.inl ⟨hc, rfl⟩)
  | true =>
    cases hi : inB S fd with
    | false =>
      have hl : liveB S fd = false := by unfold liveB; rw [hi]; rfl
      rw [hl]
      exact set_no h fd p c hx hxl 9 (.inr ⟨hc, hi, rfl⟩)
    | true => exact set_yes h hS hD fd p c hx hxl hc hi
end

end Go.Proofs.Ytmccfcllehfebaa.Z
