/- What Clone answers and does. -/
import Derived.Test.YtmccfcllehfebaaZPut
namespace Go.Proofs.Ytmccfcllehfebaa.Z
open Go Go.RowKit

/-- The first k of them, and room for the others. -/
def part (S : List Sl) (k : Nat) : List Sl := S.take k ++ List.replicate (S.length - k) zS
theorem part_len {S : List Sl} {k : Nat} (h : k ≤ S.length) : (part S k).length = S.length := by unfold part; simp; omega
theorem part_zero (S : List Sl) : part S 0 = List.replicate S.length zS := by simp [part]
theorem part_all (S : List Sl) : part S S.length = S := by simp [part]
theorem part_set {S : List Sl} {k : Nat} (h : k < S.length) : (part S k).set k (S.getD k zS) = part S (k + 1) := by
  unfold part
  rw [List.set_append_right _ _ (by simp; omega), show S.length - k = (S.length - (k + 1)) + 1 by omega, List.replicate_succ]
  have e : k - (S.take k).length = 0 := by simp; omega
  rw [e, List.set_cons_zero, List.take_succ_eq_append_getElem h, List.append_assoc, show S.getD k zS = S[k] by simp [List.getD, h]]
  rfl
theorem part_same {S : List Sl} {k : Nat} (h : k < S.length) (hz : S.getD k zS = zS) : part S k = part S (k + 1) := by
  rw [← part_set h, hz]
  unfold part
  rw [List.set_append_right _ _ (by simp; omega), show S.length - k = (S.length - (k + 1)) + 1 by omega, List.replicate_succ]
  have e : k - (S.take k).length = 0 := by simp; omega
  rw [e, List.set_cons_zero]
/-- The clone on its way. -/
structure CI (D : Nat → Prop) (w : World) (cb crb : Nat) (S : List Sl) (k : Nat) (wr : World) : Prop where
  is : ∃ F M, TabM (Or D F) F wr cb crb M ∧ M.map Ent.sl = part S k ∧ (∀ j, F j → w.heap.size ≤ j)
  below : Below w.heap.size w wr
section
variable {D F : Nat → Prop} {w : World} {tb : Nat} {S : List Sl}
theorem CI.next {cb crb k : Nat} {wr w1 : World} (h : CI D w cb crb S k wr) (hD : Lt D w) (hk : k < S.length) (hf : (S.getD k zS).file ≠ 0) {nb c : Nat} {p : Option Addr} (hb : Below wr.heap.size wr w1) (hn : wr.heap.size ≤ nb) (hB : Blk w1 nb 34 (slC (S.getD k zS) (.slice p (S.getD k zS).ints.length c))) (hi : AtN (nb + 1) w1 p (S.getD k zS).ints) :
    CI D w cb crb S (k + 1) (w1.setCell ⟨crb, k, none⟩ (ptr nb)) := by
  obtain ⟨F, M, h1, h2, h3⟩ := h.is
  have hlM : M.length = S.length := by rw [← part_len (Nat.le_of_lt hk), ← h2, List.length_map]
  have hD2 : Lt (Or D F) wr := fun j hj => by
    rcases hj with hj | hj
    · exact Nat.lt_of_lt_of_le (hD j hj) h.below.size
    · exact (h1.sub j hj).2
  obtain ⟨h5, g5⟩ := h1.laid (k := k) hD2 (by omega) hf hb hn hB hi
  have hlow : ∀ j, Or F (fun j => j = nb) j → w.heap.size ≤ j := fun j hj => by
    rcases hj with hj | rfl
    · exact h3 j hj
    · exact Nat.le_trans h.below.size hn
  refine ⟨⟨Or F fun j => j = nb, _, h5.up (fun j hj => ?_) fun j hj => .inr hj, ?_, hlow⟩, g5.below h.below h3 h.below.size⟩
  · rcases hj with hj | hj | hj
    · exact .inl (.inl (.inl hj))
    · exact .inl (.inl (.inr hj))
    · exact .inl (.inr hj)
  · rw [List.map_set, h2]
    exact part_set hk
theorem CI.skip {cb crb k : Nat} {wr : World} (h : CI D w cb crb S k wr) (hk : k < S.length) (hz : S.getD k zS = zS) : CI D w cb crb S (k + 1) wr := ⟨by rw [← part_same hk hz]; exact h.is, h.below⟩
set_option maxRecDepth 100000 in
set_option maxHeartbeats 2000000 in
theorem clone_any (h : TabAt D F w tb S) (hS : Fits S) (hD : Lt D w) (hl : S.length ≤ 64) :
    Calls Try.prog 24 #[ptr tb] w (MadePost D w S) := by
  obtain ⟨n, hn0⟩ : ∃ n, S.length = n := ⟨_, rfl⟩
  obtain ⟨w0, hmk, hB0, hb0, hs0⟩ := make_row elemP rfl n (by omega) w
  have hal := on_alloc w0 (.cells #[.slice (some ⟨w.heap.size, 0, none⟩) n n] 67)
  have HCI : Hid (CI D w w0.heap.size w.heap.size S 0 (w0.alloc (.cells #[.slice (some ⟨w.heap.size, 0, none⟩) n n] 67))) := by
    refine ⟨⟨fun j => j = w.heap.size, List.replicate n Ent.z, ⟨?_, ?_, fun i a hi hf => ?_, fun i j a b hi _ _ hf => ?_, rfl, fun k hk => ⟨.inr hk, ?_⟩, ?_⟩, by rw [List.map_replicate, part_zero, hn0]; rfl, fun k hk => Nat.le_of_eq hk.symm⟩, on_trans hb0 hal⟩
    · rw [List.length_replicate]; exact Blk.new w0 _ [.slice (some ⟨w.heap.size, 0, none⟩) n n]
    · rw [List.map_replicate]; exact hB0.on hal
    · rw [List.eq_of_mem_replicate (List.mem_of_getElem? hi)] at hf; exact absurd rfl hf
    · rw [List.eq_of_mem_replicate (List.mem_of_getElem? hi)] at hf; exact absurd rfl hf
    · have := hal.size; omega
    · rintro (h | h)
      · have := hD _ h; omega
      · omega
  obtain ⟨rb, M, hM, h⟩ := h
  have hlM : M.length = n := by rw [← hn0, ← hM, List.length_map]
  have y0 := h.box.cell 0 rfl
  rw [hlM] at y0
  have y1 := ((h.keep (keep_on hb0)).keep (keep_on hal)).box.cell 0 rfl
  rw [hlM] at y1
  have HF : Hid (∀ wr, Below w.heap.size w wr → ∀ k, k < n → ∃ v, wr.cell? ⟨rb, k, none⟩ = some v ∧ ((S.getD k zS).file = 0 → v = .pointer none ∧ S.getD k zS = zS) ∧ ((S.getD k zS).file ≠ 0 → ∃ b p c, v = ptr b ∧ Blk wr b 34 (slC (S.getD k zS) (.slice p (S.getD k zS).ints.length c)) ∧ W.At wr p (S.getD k zS).ints ∧ (S.getD k zS).ints.length ≤ 1000)) := fun wr hb k hk => by
    obtain ⟨e, hke, he⟩ := ent_at M (k := k) (by omega)
    rw [hM] at he
    have hw := h.keep (keep_on hb)
    have hfit := hS.at (k : Int)
    rw [show atS S (k : Int) = S.getD k zS from rfl] at hfit
    refine ⟨e.ptr, hw.look hke, fun h1 => ⟨?_, hfit.none h1⟩, fun h1 => ?_⟩
    · rw [he] at h1; unfold Ent.ptr; rw [if_pos h1]
    · rw [he] at h1 hfit ⊢
      obtain ⟨_, h5, p, c, h6, h7⟩ := hw.ent k e hke h1
      refine ⟨e.bk, p, c, ?_, by rw [← h6]; exact h5, W.at_ints.2 h7.at, by have := hfit.len; omega⟩
      unfold Ent.ptr; rw [if_neg h1]
  have HN : Hid (S.length = n) := hn0
  have HD : Hid (Lt D w) := hD
  have HP : Hid (∀ wr, CI D w w0.heap.size w.heap.size S n wr → MadePost D w S (.returned (ptr w0.heap.size)) wr) := fun wr hc => by
    obtain ⟨F', M', h1, h2, h3⟩ := hc.is
    rw [← hn0, part_all] at h2
    exact ⟨w0.heap.size, F', rfl, ⟨_, M', h2, h1⟩, hc.below, h3⟩
  have HY0 : Hid (∀ wr k, k < n → CI D w w0.heap.size w.heap.size S k wr → ∀ Y, Below wr.heap.size wr Y → Y.cell? ⟨w0.heap.size, 0, none⟩ = some (.slice (some ⟨w.heap.size, 0, none⟩) n n) ∧ (∃ v, Y.cell? ⟨w.heap.size, k, none⟩ = some v) ∧ Y.frozen? ⟨w.heap.size, k, none⟩ = false) := fun wr k hk hc Y hY => by
    obtain ⟨F', M', h1, h2, h3⟩ := hc.is
    have hl' : M'.length = n := by rw [← hn0, ← part_len (S := S) (k := k) (by omega), ← h2, List.length_map]
    have h1 := h1.keep (keep_on hY)
    refine ⟨by have := h1.box.cell 0 rfl; rwa [hl'] at this, ?_⟩
    obtain ⟨e, he, _⟩ := ent_at M' (k := k) (by omega)
    exact ⟨⟨_, h1.look he⟩, h1.row.free k⟩
  generalize MadePost D w S = Post at *
  have hn64 : n ≤ 64 := by omega
  clear h hM hlM hS hD hB0 hb0 hs0 hal hn0 hl
  go_enter Try.func24, Try.ntmps24
  go_wp2
  generalize w0.alloc (.cells #[.slice (some ⟨w.heap.size, 0, none⟩) n n] 67) = w1 at *
  generalize w0.heap.size = cb at *
  clear y0 y1 hmk
  go_loopw [21] (fun i wr => ∃ k : Nat, i = .int .i64 (k : Int) ∧ k ≤ n ∧ Hid (CI D w cb w.heap.size S k wr)) (fun i _ => n - (intOf i).toNat)
  case atStart => exact ⟨0, rfl, Nat.zero_le _, HCI⟩
  case round =>
    obtain ⟨k, rfl, hk, HC1⟩ := hrel
    clear HCI
    by_cases hlt : k < n
    · have hltz : (k : Int) < (n : Int) := by omega
      obtain ⟨v, x1, hv0, hv1⟩ := HF.out wr HC1.out.below k hlt
      by_cases hf : (S.getD k zS).file = 0
      · obtain ⟨hvv, hzz⟩ := hv0 hf
        subst hvv
        have HR : Hid (CI D w cb w.heap.size S (k + 1) wr) := HC1.out.skip (by rw [HN.out]; exact hlt) hzz
        clear hv0 hv1 hf hzz
        go_wp2
        go_roundw
        case rel => exact ⟨k + 1, by go_num, by omega, HR⟩
        case measure => simp [intOf]; omega
      · obtain ⟨pb, p, c, rfl, hPB, hA, hA2⟩ := hv1 hf
        have HY : Hid (∀ W, Below wr.heap.size wr W → W.cell? ⟨cb, 0, none⟩ = some (.slice (some ⟨w.heap.size, 0, none⟩) n n)) := fun W hb => (HY0.out wr k hlt HC1.out W hb).1
        have HR : Hid (∀ W, Below wr.heap.size wr W → (∃ v, W.cell? ⟨w.heap.size, k, none⟩ = some v) ∧ W.frozen? ⟨w.heap.size, k, none⟩ = false) := fun W hb => (HY0.out wr k hlt HC1.out W hb).2
        have HNX : Hid (∀ (w5 : World) (nb c9 : Nat) (p9 : Option Addr), Below wr.heap.size wr w5 → wr.heap.size ≤ nb → Blk w5 nb 34 (slC (S.getD k zS) (.slice p9 (S.getD k zS).ints.length c9)) → AtN (nb + 1) w5 p9 (S.getD k zS).ints → CI D w cb w.heap.size S (k + 1) (w5.setCell ⟨w.heap.size, k, none⟩ (ptr nb))) := fun w5 nb c9 p9 a1 a2 a3 a4 => HC1.out.next HD.out (by rw [HN.out]; exact hlt) hf a1 a2 a3 a4
        have HPB : Hid (∀ W, Below wr.heap.size wr W → Blk W pb 34 (slC (S.getD k zS) (.slice p (S.getD k zS).ints.length c))) := fun W hb => hPB.on hb
        have HC : Hid (∀ Y, Below wr.heap.size wr Y → Calls Try.prog 40 #[.agg (slC (S.getD k zS) (.slice p (S.getD k zS).ints.length c)).toArray] Y fun e Y' => ∃ v, e = .returned v ∧ (kf (S.getD k zS) wr.heap.size).ok v Y' ∧ Below Y.heap.size Y Y') := fun Y hb => fresh_kf hA hA2 hb _ hb.size
        have HS0 : Hid (layS wr w.heap.size k (S.getD k zS) true wr.drew) := ⟨fun _ => on_drew (Below.refl _ _), (fun e => by cases e)⟩
        have hz : (k : Int) < (n : Int) := hltz
        have hz0 : ¬ (k : Int) < 0 := by omega
        have hkn : k < n := hlt
        clear hv0 hv1 hf hA hA2 hPB HC1 HF HY0 HP
        generalize S.getD k zS = x at *
        go_wp2
        refine wp_region_two (S := layS wr w.heap.size k x) (u := 10) (Keep := KeepU 10)
          (g := fun jj vv WW => (([.is (ptr cb), .is (ptr cb), .is (.pointer (some ⟨cb, 0, none⟩)), .is (.slice (some ⟨w.heap.size, 0, none⟩) n n), .is (.int .i64 (k : Int)), .is (ptr pb), .is (ptr pb), .is (.agg (slC x (.slice p x.ints.length c)).toArray), kf x wr.heap.size, .is (.pointer (some ⟨w.heap.size, k, none⟩)), .any] : List (Kd 0)).getD jj Kd.any).ok vv WW)
          (tab := [[(3, none)], [(28, some 0)], [(29, some 1)], [(30, some 2)], [(4, none)], [(5, none)], [(33, some 5)], [(34, some 6)], [(35, some 7)], [(31, some 3), (32, some 4)], [(37, some 9), (36, some 8)]]) (tl := [(8, 10)]) (n := 40)
          (by kernel_rfl) rfl (by kernel_rfl) (keep_u ?k) (HS0.out) ?st ?en
        case k =>
          intro j hj
          match j, hj with
          | 0, _ | 1, _ | 2, _ | 3, _ | 4, _ | 5, _ | 6, _ | 7, _ | 9, _ => exact .inr (pure_is _)
          | 8, _ => exact .inl rfl
          | 10, hj => exact absurd rfl hj
          | j + 11, _ => exact .inr pure_any
        case st =>
          refine ⟨fun ρ W f hf hr hS hs => ?_, fun ρ W f hf hr hS hs => ?_, fun ρ W f hf hr hS hs => ?_, fun ρ W f hf hr hS hs => ?_, fun ρ W f hf hr hS hs => ?_, fun ρ W f hf hr hS hs => ?_, fun ρ W f hf hr hS hs => ?_, fun ρ W f hf hr hS hs => ?_, fun ρ W f hf hr hS hs => ?_, fun ρ W f hf hr hS hs => ?_, fun ρ W f hf hr hS hs => ?_, trivial⟩
          · have h3 : ρ (.tmp 3) = ptr cb := hs.1
            exact step_plain rfl (leaves_move (.tmp 3) rfl ⟨h3, by simpa using hS, .inr (Below.refl _ _)⟩)
          · have h28 : ρ (.tmp 28) = ptr cb := hs.1
            refine step_plain rfl (leaves_value (v := ptr cb) (w' := W) ?_ ⟨rfl, by simpa using hS, .inr (Below.refl _ _)⟩)
            simp [go_sem, h28]
          · have h29 : ρ (.tmp 29) = ptr cb := hs.1
            refine step_plain rfl (leaves_value (v := .pointer (some ⟨cb, 0, none⟩)) (w' := W) ?_ ⟨rfl, by simpa using hS, .inr (Below.refl _ _)⟩)
            simp [go_sem, h29]
          · have h30 : ρ (.tmp 30) = .pointer (some ⟨cb, 0, none⟩) := hs.1
            obtain rfl : f = true := hf (by kernel_rfl)
            refine step_plain rfl (leaves_value (v := .slice (some ⟨w.heap.size, 0, none⟩) n n) (w' := W) ?_ ⟨rfl, by simpa using hS, .inr (Below.refl _ _)⟩)
            have y0 := HY.out W (hS.1 rfl)
            simp [go_sem, h30, y0]
          · have h4 : ρ (.tmp 4) = .int .i64 (k : Int) := hs.1
            exact step_plain rfl (leaves_move (.tmp 4) rfl ⟨h4, by simpa using hS, .inr (Below.refl _ _)⟩)
          · have h5 : ρ (.tmp 5) = ptr pb := hs.1
            exact step_plain rfl (leaves_move (.tmp 5) rfl ⟨h5, by simpa using hS, .inr (Below.refl _ _)⟩)
          · have h33 : ρ (.tmp 33) = ptr pb := hs.1
            refine step_plain rfl (leaves_value (v := ptr pb) (w' := W) ?_ ⟨rfl, by simpa using hS, .inr (Below.refl _ _)⟩)
            simp [go_sem, h33]
          · have h34 : ρ (.tmp 34) = ptr pb := hs.1
            obtain rfl : f = true := hf (by kernel_rfl)
            exact step_plain rfl (leaves_load (cs := slC x (.slice p x.ints.length c)) Try.isAgg34 infoS (.tmp 34) rfl h34 (HPB.out W (hS.1 rfl)) ⟨rfl, by simpa using hS, .inr (Below.refl _ _)⟩)
          · have h35 : ρ (.tmp 35) = .agg (slC x (.slice p x.ints.length c)).toArray := hs.1
            obtain rfl : f = true := hf (by kernel_rfl)
            refine step_plain rfl (leaves_call1 en_fresh hr (.tmp 35) _ rfl h35 ((HC.out W (hS.1 rfl)).mono ?_))
            rintro e W' ⟨v9, rfl, h9, hb9⟩
            exact ⟨_, rfl, h9, ⟨fun _ => on_trans (hS.1 rfl) hb9, (fun e => by cases e)⟩, .inr hb9⟩
          · have h31 : ρ (.tmp 31) = .slice (some ⟨w.heap.size, 0, none⟩) n n := hs.1
            have h32 : ρ (.tmp 32) = .int .i64 (k : Int) := hs.2.1
            refine step_plain rfl (leaves_value (v := .pointer (some ⟨w.heap.size, k, none⟩)) (w' := W) ?_ ⟨rfl, by simpa using hS, .inr (Below.refl _ _)⟩)
            simp [go_sem, h31, h32, hz, hz0]
          · have h37 : ρ (.tmp 37) = .pointer (some ⟨w.heap.size, k, none⟩) := hs.1
            have h36 := hs.2.1
            obtain rfl : f = true := hf (by kernel_rfl)
            obtain ⟨nb, p9, c9, e9, h91, h92, h93⟩ := h36
            change ρ (.tmp 36) = _ at e9
            have y1 := HR.out W (hS.1 rfl)
            refine step_plain rfl (leaves_skip (w' := W.setCell ⟨w.heap.size, k, none⟩ (ptr nb)) ?_ ⟨trivial, ⟨(fun e => by cases e), fun _ => ⟨W, nb, p9, c9, hS.1 rfl, h91, h92, h93, rfl⟩⟩, .inl rfl⟩)
            obtain ⟨y2, y3⟩ := y1
            obtain ⟨y4, y2⟩ := y2
            simp [go_sem, h37, e9, y2, y3]
        case en =>
          intro f W hf hS v0 h0 v1 h1 v2 h2 v3 h3 v4 h4 v5 h5 v6 h6 v7 h7 v8 h8 v9 h9 h10
          obtain rfl : f = false := hf (by decide)
          clear hf
          have e0 : v0 = ptr cb := h0 rfl
          subst v0
          have e1 : v1 = ptr cb := h1 rfl
          subst v1
          have e2 : v2 = .pointer (some ⟨cb, 0, none⟩) := h2 rfl
          subst v2
          have e3 : v3 = .slice (some ⟨w.heap.size, 0, none⟩) n n := h3 rfl
          subst v3
          have e4 : v4 = .int .i64 (k : Int) := h4 rfl
          subst v4
          have e5 : v5 = ptr pb := h5 rfl
          subst v5
          have e6 : v6 = ptr pb := h6 rfl
          subst v6
          have e7 : v7 = .agg (slC x (.slice p x.ints.length c)).toArray := h7 rfl
          subst v7
          have e9 : v9 = .pointer (some ⟨w.heap.size, k, none⟩) := h9 rfl
          subst v9
          clear h0 h1 h2 h3 h4 h5 h6 h7 h9 h10
          simp only [ends, Act.put, List.setIfInBounds_toArray, List.set_cons_succ, List.set_cons_zero]
          obtain ⟨Y1, nb, p9, c9, h91, h92, h93, h94, rfl⟩ := hS.2 rfl
          have HR2 : Hid _ := HNX.out Y1 nb c9 p9 h91 h92 h93 h94
          clear HNX HC HPB HR HY HS0 h91 h92 h93 h94 hS h8
          generalize Y1.setCell ⟨w.heap.size, k, none⟩ (ptr nb) = w5 at *
          go_wp2
          go_roundw
          case rel => exact ⟨k + 1, by go_num, by omega, HR2⟩
          case measure => simp [intOf]; omega
    · obtain rfl : k = n := by omega
      have hltz : ¬ (k : Int) < (k : Int) := by omega
      have HZ : Hid _ := HP.out _ HC1.out
      go_wp2
      exact HZ.out
end

end Go.Proofs.Ytmccfcllehfebaa.Z
