/- Package queue: takeBytes, Take. -/
import Derived.Test.YtfhkdndgiofidaaKDel
import Derived.Test.YtfhkdndgiofidaaKCut
namespace Go.Proofs.Ytfhkdndgiofidaa.K
open Go Go.RowKit

/-- A queue whose box and row of parts are laid anew. -/
theorem QM.repl {F G : Nat → Prop} {w w' : World} {qb g n : Nat} {cs : List Value} {pv : Value} {X : List PX} (hB : Blk w qb 111 cs) (tg : typ w g 87) (hk : Keep (fun k => k ≠ g ∧ k ≠ qb) w w') (hbox : Blk w' qb 111 [.int .i64 (n : Int), pv])
    (hrow : w'.ownsRow 0 87 2 pv X.length (flatX X)) (hF : ∀ j, pv.ownBlock = some j → F j) (own : F qb) (byt : ∀ x ∈ X, BytM F w x.bv x.B) (pas : ∀ x ∈ X, PasM G w x.lv x.M) (apart : X.Pairwise fun x y => blkOf x.bv ≠ blkOf y.bv) : QM F G w' qb n X := by
  have tq := typ_blk hB
  refine ⟨⟨pv, hbox, hrow, hF⟩, own, fun x hx => ?_, fun x hx => ?_, apart⟩
  · obtain ⟨_, c2, hb⟩ := (byt x hx).blk
    exact (byt x hx).same (hk.block _ hb.lt ⟨typ_ne (typ_blk hb) tg (by decide), typ_ne (typ_blk hb) tq (by decide)⟩)
  · refine (pas x hx).keepT (hk.mono fun k _ h7 => ?_)
    rcases h7.2 with h8 | h8
    · exact ⟨typ_ne h8 tg (by decide), typ_ne h8 tq (by decide)⟩
    · exact ⟨typ_ne h8 tg (by decide), typ_ne h8 tq (by decide)⟩
theorem make_cap (m : Nat) (hm : m ≤ 100000) (w : World) (hi : Nat) (hhi : hi ≤ w.heap.size) :
    ∃ w', (Instr.makeSlice 28 (.int .i64 0) (.int .i64 (m : Int))).run Try.prog w = .ok (.slice (some ⟨w.heap.size, 0, none⟩) 0 m) w' ∧ OwnV hi 5 w' (.slice (some ⟨w.heap.size, 0, none⟩) 0 m) [] ∧ Below w.heap.size w w' := by
  obtain ⟨i, hi', h0, h1, h2⟩ := info_parts elemByte.info
  have hr := run_make (P := Try.prog) w 28 5 i (.int .u8 0) elemByte.slice hi' h0 .i64 .i64 0 m (by omega) (by omega) (by rw [h2]; omega) (by omega)
  simp only [Int.toNat_natCast, h1, Nat.mul_one, Int.toNat_zero] at hr
  refine ⟨_, hr, ?_, on_alloc _ _⟩
  refine rowS_of (cs := List.replicate m (.int .u8 0)) (size := 1) ⟨?_⟩ (by simp) (Nat.zero_le _) (by unfold maxLen; omega) hhi (by simp) (by simp)
  rw [World.alloc_heap_new, ← made_list (.int .u8 0) m]
  rfl

/-- What takeBytes leaves. -/
def TbPost (F G : Nat → Prop) (w : World) (qb n : Nat) (B : List UInt8) (R : List PX) (k : Int) (e : Ending) (w' : World) : Prop :=
  ∃ v X, e = .returned v ∧ BytO (fun j => w.heap.size ≤ j) w' v (B.take k.toNat) ∧ QM F G w' qb n X ∧ X.map PX.pt = (if k < (B.length : Int) then (B.drop k.toNat, []) :: R.map PX.pt else R.map PX.pt) ∧ Keep (fun k => ¬ F k) w w'

set_option maxRecDepth 100000 in
set_option maxHeartbeats 2000000 in
theorem tb_less {F G : Nat → Prop} {w : World} {qb n : Nat} {x : PX} {R : List PX} (h : QAt F G w qb n ((x :: R).map PX.pt)) (hM : QM F G w qb n (x :: R)) (_hx : x.M = []) (hlv : x.lv = .slice none 0 0) (k : Nat) (hk : 1 ≤ k) (hkB : k < x.B.length) :
    Calls Try.prog 85 #[.pointer (some ⟨qb, 0, none⟩), .int .i64 (k : Int)] w (TbPost F G w qb n x.B R (k : Int)) := by
  have cL := len_any h
  have hlt := h.lt
  have hok := h.ok
  have hT : x.B.length ≤ total ((x :: R).map PX.pt) ∧ total ((x :: R).map PX.pt) ≤ 4096 := by
    refine ⟨?_, Nat.le_trans hok.all hok.most⟩
    simp [total, PX.pt]
  have hR16 : R.length + 1 ≤ 16 := by have := hok.few; simpa using this
  obtain ⟨p, cap, hbox, hcap, hv⟩ := hM.view
  obtain ⟨g, rfl, hFg, hg, hc0, hc1, hf0, hf1⟩ := hv 0 x rfl
  obtain ⟨b, off, bc, cs, hbv, hbc, hFb, hBb, hcs, htk⟩ := (hM.byt x (List.mem_cons_self)).is
  rw [Nat.zero_mul, Nat.zero_add, hlv] at hc1
  rw [Nat.zero_mul, hbv] at hc0
  rw [Nat.zero_mul] at hf0
  have hl1 : (x :: R).length = R.length + 1 := rfl
  rw [hl1] at hbox hcap
  have x1 := hbox.cell 1 rfl
  have hq := hbox.lt
  obtain ⟨pv, hb2, hrow, hF2⟩ := hM.box
  obtain rfl : pv = .slice (some ⟨g, 0, none⟩) (R.length + 1) cap := by
    have := hb2.row
    rw [hbox.row] at this
    simp at this
    exact this.symm
  have tg : typ w g 87 := by
    obtain ⟨_, _, cur, h7⟩ := row_lt hrow (g := g) rfl
    exact ⟨_, _, h7⟩
  have hgq : g ≠ qb := typ_ne tg (typ_blk hbox) (by decide)
  -- what comes of it
  have HP : Hid (∀ w1 v w3, Below w.heap.size w w1 → Below w1.heap.size w1 w3 → OwnV w.heap.size 5 w3 v (bytesV (x.B.take k)) → TbPost F G w qb n x.B R (k : Int) (.returned v) ((w3.setCell ⟨g, 0, none⟩ (.slice (some ⟨b, off + k, none⟩) (x.B.length - k) (bc - k))).setCell ⟨qb, 1, none⟩ (.slice (some ⟨g, 0, none⟩) (R.length + 1) cap))) := fun w1 v w3 hb1 hb3 ho => by
    have hb := on_trans hb1 hb3
    have hM3 := hM.keep (keep_on hb)
    have hbx3 := hbox.on hb
    have k1 := but_set w3 g 0 (.slice (some ⟨b, off + k, none⟩) (x.B.length - k) (bc - k))
    have k2 := but_set (w3.setCell ⟨g, 0, none⟩ (.slice (some ⟨b, off + k, none⟩) (x.B.length - k) (bc - k))) qb 1 (.slice (some ⟨g, 0, none⟩) (R.length + 1) cap)
    have hkk : Keep (fun j => j ≠ g ∧ j ≠ qb) w3 ((w3.setCell ⟨g, 0, none⟩ (.slice (some ⟨b, off + k, none⟩) (x.B.length - k) (bc - k))).setCell ⟨qb, 1, none⟩ (.slice (some ⟨g, 0, none⟩) (R.length + 1) cap)) := (keep_but k1 fun h => h.1 rfl).trans (keep_but k2 fun h => h.2 rfl)
    have hnew : BytM F w3 (.slice (some ⟨b, off + k, none⟩) (x.B.length - k) (bc - k)) (x.B.drop k) := by
      refine ⟨b, off + k, bc - k, cs, by rw [List.length_drop], by rw [List.length_drop]; omega, hFb, hBb.on hb, by omega, ?_⟩
      have e7 : List.map byteV x.B = (cs.drop off).take x.B.length := htk.symm
      rw [List.length_drop, ← List.drop_drop, bytesV, List.map_drop, e7, List.drop_take]
    refine ⟨v, ⟨x.B.drop k, .slice (some ⟨b, off + k, none⟩) (x.B.length - k) (bc - k), [], .slice none 0 0⟩ :: R, rfl, ?_, ?_, ?_, ?_⟩
    · have h7 := BytO.of_own ho
      refine (h7.keep (w' := _) ((hkk.mono fun j _ hj => ⟨fun e => ?_, fun e => ?_⟩))).mono fun _ _ h => h
      · subst e; have := hlt _ hFg; omega
      · subst e; omega
    · refine QM.repl (pv := .slice (some ⟨g, 0, none⟩) (R.length + 1) cap) hbx3 (typ_keep tg (hb.block g hg)) hkk ?_ ?_ (fun j e => by cases e; exact hFg) hM.own (fun y hy => ?_) (fun y hy => ?_) ?_
      · have := (hbx3.but k1 (Ne.symm hgq)).set 1 (.slice (some ⟨g, 0, none⟩) (R.length + 1) cap)
        exact this
      · have h7 := ((rowS_on hrow hb).stored 0 (.slice (some ⟨b, off + k, none⟩) (x.B.length - k) (bc - k))).1
        have h8 := rowS_keep h7 (O := fun j => j ≠ qb) (keep_but k2 fun h => h rfl) fun j e => by cases e; exact hgq
        have e8 : (flatX (x :: R)).set 0 (.slice (some ⟨b, off + k, none⟩) (x.B.length - k) (bc - k)) = flatX (⟨x.B.drop k, .slice (some ⟨b, off + k, none⟩) (x.B.length - k) (bc - k), [], .slice none 0 0⟩ :: R) := by simp [flatX, PX.cells, hlv]
        rw [e8] at h8
        exact h8
      · rcases List.mem_cons.1 hy with rfl | hy
        · exact hnew
        · exact hM3.byt y (List.mem_cons_of_mem _ hy)
      · rcases List.mem_cons.1 hy with rfl | hy
        · exact PasM.nil G w3
        · exact hM3.pas y (List.mem_cons_of_mem _ hy)
      · have ha := hM.apart
        rw [List.pairwise_cons] at ha ⊢
        refine ⟨fun y hy => ?_, ha.2⟩
        have := ha.1 y hy
        rw [hbv] at this
        exact this
    · rw [if_pos (by omega)]
      simp [PX.pt]
    · exact (keep_on hb).trans (hkk.mono fun j _ h7 => ⟨fun e => h7 (e ▸ hFg), fun e => h7 (e ▸ hM.own)⟩)
  have HA : Hid (At w (some ⟨b, off, none⟩) (bytesV (x.B.take k))) := by
    have h7 : BytO F w x.bv x.B := (hM.byt x (List.mem_cons_self)).byt
    obtain ⟨p7, c7, e7, _, a7⟩ := h7
    rw [hbv] at e7
    cases e7
    have := a7.at.take k
    show At w (some ⟨b, off, none⟩) (bytesV (x.B.take k))
    simpa [bytesV] using this
  have HKl : Hid ((bytesV (x.B.take k)).length = k) := by show (bytesV (x.B.take k)).length = k; simp; omega
  have HB : Hid (Blk w qb 111 [.int .i64 (n : Int), .slice (some ⟨g, 0, none⟩) (R.length + 1) cap]) := hbox
  have cD := fun W => delete_none (some ⟨g, 0, none⟩) (R.length + 1) cap W hcap (by omega)
  generalize TbPost F G w qb n x.B R (k : Int) = Post at *
  generalize total ((x :: R).map PX.pt) = T at *
  clear h hM hv hrow hb2 hF2 hBb htk hcs hFb hbv hlv hok hlt hbox
  have hB64 : x.B.length ≤ 4096 := by omega
  generalize x.B.length = bl at *
  generalize R.length = rl at *
  have hmin : (if (T : Int) < (k : Int) then (T : Int) else (k : Int)) = (k : Int) := by split <;> omega
  have hmin2 : min (k : Int) (T : Int) = (k : Int) := by omega
  have hkz : ¬ (k : Int) = 0 := by omega
  have hkbz : (k : Int) < (bl : Int) := by omega
  have hkc : (k : Int) ≤ (bc : Int) := by omega
  have hkle : (k : Int) ≤ (bl : Int) := by omega
  have hcne : ¬ bc = k := by omega
  have hrz : (0 : Int) < (rl : Int) + 1 := by omega
  go_enter Try.func85, Try.ntmps85
  go_wp2
  go_step3
  go_wp2_with fail
  refine cL.mono ?_
  rintro e w1 ⟨rfl, hb1⟩
  clear cL
  obtain ⟨w2, hmk, ho2, hb2⟩ := make_cap k (by omega) w1 w.heap.size hb1.size
  obtain ⟨v3, w3, hrun, ho3, hg3⟩ := append_row elemByte w1.heap.size (.slice (some ⟨w1.heap.size, 0, none⟩) 0 k) [] (some ⟨b, off, none⟩) bc (bytesV (x.B.take k)) w2 (by simp) (by rw [HKl.out]; omega) (one_bytes _) (by
    have := make_cap k (by omega) w1 w1.heap.size (Nat.le_refl _)
    obtain ⟨w2', h1, h2, _⟩ := this
    rw [hmk] at h1
    cases h1
    exact h2) ((HA.out.on hb1).on hb2) hb2.size
  rw [HKl.out] at hrun
  rw [List.nil_append] at ho3
  have hb3 : Below w1.heap.size w1 w3 := hg3.below hb2 (Nat.le_refl _) hb2.size
  have hbb := on_trans hb1 hb3
  have y1 := ((on_trans hb1 hb2).cell (p := ⟨qb, 1, none⟩) hq).trans x1
  have y0 := ((on_trans hb1 hb2).cell (p := ⟨g, 0, none⟩) hg).trans hc0
  have y2 := ((on_trans hb1 hb2).cell (p := ⟨g, 1, none⟩) hg).trans hc1
  have z0 := (hbb.cell (p := ⟨g, 0, none⟩) hg).trans hc0
  have z0f : w3.frozen? ⟨g, 0, none⟩ = false := by rw [World.frozen?_of_block (a := ⟨g, 0, none⟩) (hbb.block g hg)]; exact hf0
  have k1 := but_set w3 g 0 (.slice (some ⟨b, off + k, none⟩) (bl - k) (bc - k))
  have hBx := (HB.out.on hbb).but k1 (Ne.symm hgq)
  have z1 := hBx.cell 1 rfl
  have z1f := hBx.free 1
  have HE : Hid (Post (.returned v3) ((w3.setCell ⟨g, 0, none⟩ (.slice (some ⟨b, off + k, none⟩) (bl - k) (bc - k))).setCell ⟨qb, 1, none⟩ (.slice (some ⟨g, 0, none⟩) (rl + 1) cap))) := HP.out w1 v3 w3 hb1 hb3 (ownV_less ho3 hb1.size)
  obtain ⟨p3, c3, e3, _, _⟩ := ownV_at ho3
  rw [HKl.out] at e3
  subst e3
  clear HP HA HB hBx k1 ho2 ho3 hg3 hb3 hbb hc0 hc1 x1 hf0 hf1 hb1 hb2
  go_wp2
  go_step3
  go_wp2
  go_loopw [5, 6, 20] (fun gv cv iv wr => gv = .slice (some ⟨w1.heap.size, 0, none⟩) 0 k ∧ cv = .int .i64 0 ∧ iv = .int .i64 0 ∧ wr = w2) (fun _ _ _ _ => 0)
  case atStart => exact ⟨rfl, rfl, rfl, rfl⟩
  case round =>
    obtain ⟨rfl, rfl, rfl, rfl⟩ := hrel
    go_wp2_with (at_builtin; refine wpList_run_append (by rfl) _ _ _ (by rfl) _ _ (by rfl) (by rfl) hrun ?_)
    refine (cD _).mono ?_
    rintro e w5 ⟨rfl, rfl⟩
    go_wp2
    exact HE.out

set_option maxRecDepth 100000 in
set_option maxHeartbeats 2000000 in
theorem tb_all {F G : Nat → Prop} {w : World} {qb n : Nat} {x : PX} {R : List PX} (h : QAt F G w qb n ((x :: R).map PX.pt)) (hM : QM F G w qb n (x :: R)) (hlv : x.lv = .slice none 0 0) (k : Int) (hk : 1 ≤ k) (hk2 : k ≤ 9223372036854775807) (hkB : (x.B.length : Int) ≤ k) :
    Calls Try.prog 85 #[.pointer (some ⟨qb, 0, none⟩), .int .i64 k] w (TbPost F G w qb n x.B R k) := by
  have cL := len_any h
  have hlt := h.lt
  have hok := h.ok
  have hT : x.B.length ≤ total ((x :: R).map PX.pt) ∧ total ((x :: R).map PX.pt) ≤ 4096 := by
    refine ⟨?_, Nat.le_trans hok.all hok.most⟩
    simp [total, PX.pt]
  have hR16 : R.length + 1 ≤ 16 := by have := hok.few; simpa using this
  obtain ⟨p, cap, hbox, hcap, hv⟩ := hM.view
  obtain ⟨g, rfl, hFg, hg, hc0, hc1, _, _⟩ := hv 0 x rfl
  obtain ⟨b, off, bc, cs, hbv, hbc, hFb, hBb, hcs, htk⟩ := (hM.byt x (List.mem_cons_self)).is
  rw [Nat.zero_mul, Nat.zero_add, hlv] at hc1
  rw [Nat.zero_mul, hbv] at hc0
  have hl1 : (x :: R).length = R.length + 1 := rfl
  rw [hl1] at hbox hcap
  have x1 := hbox.cell 1 rfl
  have hq := hbox.lt
  obtain ⟨pv, hb2, hrow, hF2⟩ := hM.box
  obtain rfl : pv = .slice (some ⟨g, 0, none⟩) (R.length + 1) cap := by
    have := hb2.row
    rw [hbox.row] at this
    simp at this
    exact this.symm
  have tg : typ w g 87 := by
    obtain ⟨_, _, cur, h7⟩ := row_lt hrow (g := g) rfl
    exact ⟨_, _, h7⟩
  have hgq : g ≠ qb := typ_ne tg (typ_blk hbox) (by decide)
  have hone : ∀ u ∈ flatX (x :: R), u.oneCell' = true := fun u hu => by
    simp only [flatX, List.mem_flatMap] at hu
    obtain ⟨y, hy, hu⟩ := hu
    obtain ⟨_, _, _, _, e1, _⟩ := (hM.byt y hy).is
    obtain ⟨_, _, e2, _⟩ := (hM.pas y hy).row
    simp only [PX.cells, List.mem_cons, List.not_mem_nil, or_false] at hu
    rcases hu with rfl | rfl
    · rw [e1]; rfl
    · rw [e2]; rfl
  -- the part behind it, where there is one
  have HR1 : Hid (0 < R.length → ∃ p1 m1 c1, 0 < m1 ∧ w.cell? ⟨g, 3, none⟩ = some (.slice p1 m1 c1)) := fun hR => by
    obtain ⟨y, R', rfl⟩ : ∃ y R', R = y :: R' := by
      cases R with
      | nil => simp at hR
      | cons y R' => exact ⟨y, R', rfl⟩
    obtain ⟨g', e, _, _, _, hcy, _, _⟩ := hv 1 y rfl
    cases e
    obtain ⟨p1, c1, e1, _⟩ := (hM.pas y (by simp)).row
    rw [e1] at hcy
    refine ⟨p1, y.M.length, c1, ?_, hcy⟩
    have h7 := hok.tail y.pt (by simp)
    have h8 : y.M ≠ [] := fun e => h7 (by simp [PX.pt, e])
    exact List.length_pos_iff.2 h8
  have HD : Hid (∀ W, Below w.heap.size w W → Calls Try.prog 91 #[.slice (some ⟨g, 0, none⟩) (R.length + 1) cap, .int .i64 0, .int .i64 1] W fun e w' => e = .returned (.slice (some ⟨g, 0, none⟩) R.length cap) ∧ But g W w' ∧ w'.ownsRow 0 87 2 (.slice (some ⟨g, 0, none⟩) R.length cap) R.length (flatX R)) := fun W hb => delete_first (by omega) (rowS_on hrow hb) hone
  have HP : Hid (∀ v w3 w4, Below w.heap.size w w3 → OwnV w.heap.size 5 w3 v (bytesV x.B) → But g w3 w4 → w4.ownsRow 0 87 2 (.slice (some ⟨g, 0, none⟩) R.length cap) R.length (flatX R) → TbPost F G w qb n x.B R k (.returned v) (w4.setCell ⟨qb, 1, none⟩ (.slice (some ⟨g, 0, none⟩) R.length cap))) := fun v w3 w4 hb ho k1 hr4 => by
    have hM3 := hM.keep (keep_on hb)
    have hbx3 := hbox.on hb
    have k2 := but_set w4 qb 1 (.slice (some ⟨g, 0, none⟩) R.length cap)
    have hkk : Keep (fun j => j ≠ g ∧ j ≠ qb) w3 (w4.setCell ⟨qb, 1, none⟩ (.slice (some ⟨g, 0, none⟩) R.length cap)) := (keep_but k1 fun h => h.1 rfl).trans (keep_but k2 fun h => h.2 rfl)
    refine ⟨v, R, rfl, ?_, ?_, ?_, ?_⟩
    · have h7 := BytO.of_own ho
      rw [List.take_of_length_le (by omega)]
      refine h7.keep (hkk.mono fun j _ hj => ⟨fun e => ?_, fun e => ?_⟩)
      · subst e; have := hlt _ hFg; omega
      · subst e; omega
    · refine QM.repl (pv := .slice (some ⟨g, 0, none⟩) R.length cap) hbx3 (typ_keep tg (hb.block g hg)) hkk ?_ ?_ (fun j e => by cases e; exact hFg) hM.own (fun y hy => hM3.byt y (List.mem_cons_of_mem _ hy)) (fun y hy => hM3.pas y (List.mem_cons_of_mem _ hy)) (List.pairwise_cons.1 hM.apart).2
      · exact (hbx3.but k1 (Ne.symm hgq)).set 1 (.slice (some ⟨g, 0, none⟩) R.length cap)
      · exact rowS_keep hr4 (O := fun j => j ≠ qb) (keep_but k2 fun h => h rfl) fun j e => by cases e; exact hgq
    · rw [if_neg (by omega)]
    · exact (keep_on hb).trans (hkk.mono fun j _ h7 => ⟨fun e => h7 (e ▸ hFg), fun e => h7 (e ▸ hM.own)⟩)
  have HA : Hid (At w (some ⟨b, off, none⟩) (bytesV x.B)) := by
    have h7 : BytO F w x.bv x.B := (hM.byt x (List.mem_cons_self)).byt
    obtain ⟨p7, c7, e7, _, a7⟩ := h7
    rw [hbv] at e7
    cases e7
    exact a7.at
  have HB : Hid (Blk w qb 111 [.int .i64 (n : Int), .slice (some ⟨g, 0, none⟩) (R.length + 1) cap]) := hbox
  have hB1 : x.B.length ≠ 0 := fun e => hok.some x.pt (by simp) (by simpa [PX.pt] using e)
  generalize TbPost F G w qb n x.B R k = Post at *
  generalize total ((x :: R).map PX.pt) = T at *
  clear h hM hv hrow hb2 hF2 hBb htk hcs hFb hbv hlv hok hlt hbox hone
  generalize hbl : x.B.length = bl at *
  have HBl : Hid ((bytesV x.B).length = bl) := by show (bytesV x.B).length = bl; simp [hbl]
  clear hbl
  obtain ⟨RL, hRL⟩ : ∃ RL, flatX R = RL := ⟨_, rfl⟩
  rw [hRL] at HD HP
  clear hRL
  generalize R.length = rl at *
  obtain ⟨m, hm⟩ : ∃ m : Nat, min k (T : Int) = (m : Int) := ⟨(min k (T : Int)).toNat, by omega⟩
  have hm4 : m ≤ 4096 := by omega
  have hmin : (if (T : Int) < k then (T : Int) else k) = (m : Int) := by split <;> omega
  have hkz : ¬ k = 0 := by omega
  have hkbz : ¬ k < (bl : Int) := by omega
  have hrz : (0 : Int) < (rl : Int) + 1 := by omega
  go_enter Try.func85, Try.ntmps85
  go_wp2
  go_step3
  go_wp2_with fail
  refine cL.mono ?_
  rintro e w1 ⟨rfl, hb1⟩
  clear cL
  obtain ⟨w2, hmk, ho2, hb2⟩ := make_cap m (by omega) w1 w1.heap.size (Nat.le_refl _)
  obtain ⟨v3, w3, hrun, ho3, hg3⟩ := append_row elemByte w1.heap.size (.slice (some ⟨w1.heap.size, 0, none⟩) 0 m) [] (some ⟨b, off, none⟩) bc (bytesV x.B) w2 (by simp) (by rw [HBl.out]; omega) (one_bytes _) ho2 ((HA.out.on hb1).on hb2) hb2.size
  rw [HBl.out] at hrun
  rw [List.nil_append] at ho3
  have hb3 : Below w1.heap.size w1 w3 := hg3.below hb2 (Nat.le_refl _) hb2.size
  have hbb := on_trans hb1 hb3
  have y1 := ((on_trans hb1 hb2).cell (p := ⟨qb, 1, none⟩) hq).trans x1
  have y0 := ((on_trans hb1 hb2).cell (p := ⟨g, 0, none⟩) hg).trans hc0
  have y2 := ((on_trans hb1 hb2).cell (p := ⟨g, 1, none⟩) hg).trans hc1
  have z1 := (hbb.cell (p := ⟨qb, 1, none⟩) hq).trans x1
  have HZ : Hid (0 < rl → ∃ p1 m1 c1, 0 < m1 ∧ w3.cell? ⟨g, 3, none⟩ = some (.slice p1 m1 c1)) := fun h7 => by
    obtain ⟨p1, m1, c1, h8, h9⟩ := HR1.out h7
    exact ⟨p1, m1, c1, h8, (hbb.cell (p := ⟨g, 3, none⟩) hg).trans h9⟩
  have cD := HD.out w3 hbb
  obtain ⟨p3, c3, e3, _, _⟩ := ownV_at ho3
  rw [HBl.out] at e3
  subst e3
  have HE : Hid (∀ w4, But g w3 w4 → w4.ownsRow 0 87 2 (.slice (some ⟨g, 0, none⟩) rl cap) rl RL → (∃ v9, w4.cell? ⟨qb, 1, none⟩ = some (.slice (some ⟨g, 0, none⟩) (rl + 1) cap) ∧ v9 = 0) ∧ w4.frozen? ⟨qb, 1, none⟩ = false ∧ Post (.returned (.slice p3 bl c3)) (w4.setCell ⟨qb, 1, none⟩ (.slice (some ⟨g, 0, none⟩) rl cap))) := fun w4 h1 h2 => by
    have hBx := (HB.out.on hbb).but h1 (Ne.symm hgq)
    exact ⟨⟨0, hBx.cell 1 rfl, rfl⟩, hBx.free 1, HP.out _ w3 w4 hbb (ownV_less ho3 hb1.size) h1 h2⟩
  clear HP HA HB HD HR1 ho2 ho3 hg3 hb3 hbb hc0 hc1 x1 hb1 hb2
  go_wp2
  go_step3
  go_wp2
  go_loopw [5, 6, 20] (fun gv cv iv wr => (gv = .slice (some ⟨w1.heap.size, 0, none⟩) 0 m ∧ cv = .int .i64 0 ∧ iv = .int .i64 0 ∧ wr = w2) ∨ (gv = .slice p3 bl c3 ∧ cv = .int .i64 1 ∧ iv = .int .i64 1 ∧ wr = w3)) (fun _ _ iv _ => 1 - (intOf iv).toNat)
  case atStart => exact .inl ⟨rfl, rfl, rfl, rfl⟩
  case round =>
    rcases hrel with ⟨rfl, rfl, rfl, rfl⟩ | ⟨rfl, rfl, rfl, rfl⟩
    · go_wp2_with (at_builtin; refine wpList_run_append (by rfl) _ _ _ (by rfl) _ _ (by rfl) (by rfl) hrun ?_)
      go_roundw
      case rel => exact .inr ⟨rfl, rfl, rfl, trivial⟩
      case measure => simp [intOf]
    · by_cases hr0 : 0 < rl
      · have hr1 : (1 : Int) < (rl : Int) + 1 := by omega
        by_cases hke : k = (bl : Int)
        · have hke2 : k - (bl : Int) = 0 := by omega
          go_wp2_with fail
          refine cD.mono ?_
          rintro e w4 ⟨rfl, h1, h2⟩
          obtain ⟨⟨_, c1, _⟩, f1, hE⟩ := HE.out w4 h1 h2
          go_wp2
          exact hE
        · have hke2 : ¬ k - (bl : Int) = 0 := by omega
          obtain ⟨p1, m1, c1, hm1, hcm⟩ := HZ.out hr0
          have hm1z : (0 : Int) < (m1 : Int) := by omega
          go_wp2_with fail
          refine cD.mono ?_
          rintro e w4 ⟨rfl, h1, h2⟩
          obtain ⟨⟨_, c1, _⟩, f1, hE⟩ := HE.out w4 h1 h2
          go_wp2
          exact hE
      · have hr1 : ¬ (1 : Int) < (rl : Int) + 1 := by omega
        go_wp2_with fail
        refine cD.mono ?_
        rintro e w4 ⟨rfl, h1, h2⟩
        obtain ⟨⟨_, c1, _⟩, f1, hE⟩ := HE.out w4 h1 h2
        go_wp2
        exact hE

end Go.Proofs.Ytfhkdndgiofidaa.K
