/- Package queue: Dump. -/
import Derived.Test.YtfhkdndgiofidaaKClear
namespace Go.Proofs.Ytfhkdndgiofidaa.K
open Go Go.RowKit

/-- What the region knows. -/
def DS (av : Value) (w : World) (f : Bool) (W : World) : Prop := (f = true → Below w.heap.size w W) ∧ Keep (fun k => ¬ av.ownBlock = some k) w W
theorem DS.on {av : Value} {w W W' : World} {f : Bool} (h : DS av w f W) (hb : Below W.heap.size W W') : DS av w f W' := ⟨fun e => on_trans (h.1 e) hb, h.2.trans (keep_on hb)⟩
theorem DS.did {av : Value} {w W W' : World} (h : DS av w true W) (hk : Keep (fun k => ¬ av.ownBlock = some k) W W') : DS av w false W' := ⟨(fun e => by cases e), h.2.trans hk⟩
/-- Parts laid together so far. -/
structure DumpI (w : World) (L : List Pt) (v : Value) (W : World) : Prop where
  is : ∃ Y : List PX, Y.map PX.pt = L ∧ W.ownsRow w.heap.size 87 2 v Y.length (flatX Y) ∧ (∀ y ∈ Y, BytO (fun k => w.heap.size ≤ k) W y.bv y.B) ∧ ∀ y ∈ Y, PasM (fun k => w.heap.size ≤ k) W y.lv y.M
  below : Below w.heap.size w W
theorem DumpI.on {w W W' : World} {L : List Pt} {v : Value} (h : DumpI w L v W) (hb : Below W.heap.size W W') : DumpI w L v W' := by
  obtain ⟨Y, h1, h2, h3, h4⟩ := h.is
  exact ⟨⟨Y, h1, rowS_on h2 hb, fun y hy => (h3 y hy).keep (keep_on hb), fun y hy => (h4 y hy).keep (keep_on hb)⟩, on_trans h.below hb⟩
theorem DumpI.par {w W : World} {L : List Pt} {v : Value} (h : DumpI w L v W) : ParO (fun k => w.heap.size ≤ k) W v L := by
  obtain ⟨Y, h1, h2, h3, h4⟩ := h.is
  obtain ⟨p, cap, e, hat, hc⟩ := AtO.of h2
  exact ⟨Y, h1, ⟨p, cap, e, hc, hat⟩, h3, h4⟩
def kd3 (w : World) (B : List UInt8) : Kd 0 := Kd.st (fun v W => BytO (fun k => w.heap.size ≤ k) W v B) fun _ _ _ h hb => h.keep (keep_on hb)
def kd7 (w : World) (x : PX) : Kd 0 := Kd.st (fun v W => ∃ (v1 v2 : Value) (N : List PV), v = .agg #[v1, v2] ∧ BytO (fun k => w.heap.size ≤ k) W v1 x.B ∧ N.map Prod.fst = x.M.map Prod.fst ∧ PasM (fun k => w.heap.size ≤ k) W v2 N) fun _ _ _ ⟨v1, v2, N, h0, h1, h2, h3⟩ hb => ⟨v1, v2, N, h0, h1.keep (keep_on hb), h2, h3.keep (keep_on hb)⟩
def kd8 (w : World) (x : PX) : Kd 0 := Kd.st (fun v W => ∃ (b : Nat) (v1 v2 : Value) (N : List PV), v = .slice (some ⟨b, 0, none⟩) 1 1 ∧ Blk W b 87 [v1, v2] ∧ w.heap.size ≤ b ∧ BytO (fun k => w.heap.size ≤ k) W v1 x.B ∧ N.map Prod.fst = x.M.map Prod.fst ∧ PasM (fun k => w.heap.size ≤ k) W v2 N) fun _ _ _ ⟨b, v1, v2, N, h0, hB, hb, h1, h2, h3⟩ h => ⟨b, v1, v2, N, h0, hB.on h, hb, h1.keep (keep_on h), h2, h3.keep (keep_on h)⟩
def kd9 (w : World) (L : List Pt) : Kd 0 := Kd.st (fun v W => DumpI w L v W) fun _ _ _ h hb => h.on hb
section
variable {F : Nat → Prop} {w : World} {B : List UInt8} {x : PX}
theorem kd3_stays (h : ∀ k, F k → k < w.heap.size) : Stays F (kd3 w B) := fun _ _ _ h1 hk => BytO.keep h1 (hk.mono fun k _ h7 h8 => by have := h k h8; omega)
theorem kd7_stays (h : ∀ k, F k → k < w.heap.size) : Stays F (kd7 w x) := fun _ _ _ ⟨v1, v2, N, h0, h1, h2, h3⟩ hk => ⟨v1, v2, N, h0, h1.keep (hk.mono fun k _ h7 h8 => by have := h k h8; omega), h2, h3.keep (hk.mono fun k _ h7 h8 => by have := h k h8; omega)⟩
theorem kd8_stays (h : ∀ k, F k → k < w.heap.size) : Stays F (kd8 w x) := fun _ _ _ ⟨b, v1, v2, N, h0, hB, hb, h1, h2, h3⟩ hk => ⟨b, v1, v2, N, h0, hk.blk hB fun h8 => by have := h b h8; omega, hb, h1.keep (hk.mono fun k _ h7 h8 => by have := h k h8; omega), h2, h3.keep (hk.mono fun k _ h7 h8 => by have := h k h8; omega)⟩
end
theorem dump_nil (w : World) : Calls Try.prog 54 #[.pointer none] w fun e w' => e = .returned (.slice none 0 0) ∧ w' = w := by
  go_enter Try.func54, Try.ntmps54
  go_wp2
  go_ret
  exact ⟨rfl, rfl⟩
/-- A part more. -/
theorem DumpI.more {w W : World} {L : List Pt} {v v1 v2 : Value} {x : PX} {N : List PV} {b m : Nat} (h : DumpI w L v W) (hm : w.heap.size ≤ m) (hL : L.length ≤ 1000) (hB : Blk W b 87 [v1, v2]) (h1 : BytO (fun k => m ≤ k) W v1 x.B) (h2 : N.map Prod.fst = x.M.map Prod.fst) (h3 : PasM (fun k => m ≤ k) W v2 N) :
    ∃ v' W', (∀ ty, (Builtin.append_ #[43, 43] ty #[v, .slice (some ⟨b, 0, none⟩) 1 1]).run Try.prog W = .ok v' W') ∧ DumpI w (L ++ [x.pt]) v' W' ∧ Keep (fun k => ¬ v.ownBlock = some k) W W' := by
  obtain ⟨Y, e1, ho, hY1, hY2⟩ := h.is
  have hYl : Y.length = L.length := by rw [← e1, List.length_map]
  have hone : ∀ u ∈ [v1, v2], u.oneCell' = true := fun u hu => by
    obtain ⟨p9, c9, e9, _⟩ := h1
    obtain ⟨⟨p8, c8, e8, _⟩, _⟩ := h3
    simp at hu
    rcases hu with rfl | rfl
    · rw [e9]; rfl
    · rw [e8]; rfl
  have hat : At W (some ⟨b, 0, none⟩) [v1, v2] := .inr ⟨b, 0, rfl, Nat.zero_le _, hB.lt, fun j u hj => by rw [Nat.zero_add]; exact hB.cell j hj⟩
  obtain ⟨v', W', hrun, ho', _, hg⟩ := append_rowA elemPt w.heap.size v Y.length (flatX Y) (some ⟨b, 0, none⟩) 1 1 [v1, v2] W (by omega) (by omega) rfl hone ho hat h.below.size
  have hk : Keep (fun k => ¬ v.ownBlock = some k) W W' := ⟨hg.os, hg.tape, hg.output, hg.size, fun k h1 h2 => hg.block k h1 h2⟩
  have hty : ∀ {k t}, typ W k t → t ≠ 87 → ¬ v.ownBlock = some k := fun {k t} h7 hne e => by
    obtain ⟨_, _, cur, h8⟩ := row_lt ho e
    exact typ_ne h7 ⟨_, _, h8⟩ hne rfl
  have hby : ∀ {O v B}, BytO O W v B → BytO O W' v B := fun {O v B} ⟨p, c, a1, a2, a3⟩ => ⟨p, c, a1, a2, a3.keepT (hk.mono fun k _ h7 => hty h7.2 (by decide))⟩
  have hpa : ∀ {O v M}, PasM O W v M → PasM O W' v M := fun {O v M} h7 => h7.keepT (hk.mono fun k _ h8 => by
    rcases h8.2 with h9 | h9
    · exact hty h9 (by decide)
    · exact hty h9 (by decide))
  refine ⟨v', W', hrun, ⟨⟨Y ++ [⟨x.B, v1, N, v2⟩], by simp [e1, PX.pt, h2], ?_, fun y hy => ?_, fun y hy => ?_⟩, ?_⟩, hk⟩
  · rw [List.length_append, flatX_app]
    exact ho'
  · rcases List.mem_append.1 hy with hy | hy
    · exact hby (hY1 y hy)
    · simp at hy; subst hy
      exact (hby h1).mono fun k _ h7 => Nat.le_trans hm h7
  · rcases List.mem_append.1 hy with hy | hy
    · exact hpa (hY2 y hy)
    · simp at hy; subst hy
      exact (hpa h3).mono fun k _ h7 => Nat.le_trans hm h7
  · exact hk.below h.below (fun k hk e => by have := (row_lt ho e).1; omega) h.below.size

/-- What Dump leaves. -/
def DumpPost (w : World) (ps : List Pt) (e : Ending) (w' : World) : Prop := ∃ v, e = .returned v ∧ ParO (fun k => w.heap.size ≤ k) w' v ps ∧ Below w.heap.size w w'
theorem byt_copy {O : Nat → Prop} {W : World} {p : Option Addr} {c : Nat} {B : List UInt8} (h : BytO O W (.slice p B.length c) B) (hB : B.length ≤ 100000) : ∃ v' W', (Builtin.append_ #[28, 28] 28 #[.slice none 0 0, .slice p B.length c]).run Try.prog W = .ok v' W' ∧ BytO (fun k => W.heap.size ≤ k) W' v' B ∧ Below W.heap.size W W' := by
  obtain ⟨p', c', e, _, hat⟩ := h
  cases e
  obtain ⟨v', W', hrun, ho, hg⟩ := append_row elemByte W.heap.size (.slice none 0 0) [] p c (bytesV B) W (by simp) (by simp; omega) (one_bytes _) (ownV_nil _ _ _) hat.at (Nat.le_refl _)
  rw [List.nil_append] at ho
  rw [List.length_map] at hrun
  exact ⟨v', W', hrun, BytO.of_own ho, hg.below (Below.refl _ _) (Nat.le_refl _) (Nat.le_refl _)⟩
set_option maxRecDepth 100000 in
set_option maxHeartbeats 1000000 in
theorem dump_any {F G : Nat → Prop} {w : World} {qb n : Nat} {ps : List Pt} (h : QAt F G w qb n ps) : Calls Try.prog 54 #[.pointer (some ⟨qb, 0, none⟩)] w (DumpPost w ps) := by
  have hok := h.ok
  obtain ⟨X, rfl, hM, _, _, _⟩ := h
  obtain ⟨p, cap, hbox, hc, hv⟩ := hM.view
  have x1 := hbox.cell 1 rfl
  have hfew : X.length ≤ 16 := by have := hok.few; simpa using this
  obtain ⟨T, hT⟩ : ∃ T : Nat → List Pt, ∀ i, T i = (X.take i).map PX.pt := ⟨_, fun _ => rfl⟩
  have HT : Hid (∀ i x, X[i]? = some x → T (i + 1) = T i ++ [x.pt] ∧ (T i).length ≤ 16 ∧ x.B.length ≤ 4096 ∧ x.M.length ≤ 4 ∧ ∀ y ∈ x.M, y.1.ints.length ≤ 1000) := fun i x hx => by
    have hxm := List.mem_of_getElem? hx
    refine ⟨by rw [hT, hT, List.take_add_one, hx]; simp, by rw [hT, List.length_map, List.length_take]; omega, ?_, ?_, fun y hy => ?_⟩
    · have h7 := total_take X i x hx
      have h8 := total_le X (i + 1)
      have h9 := hok.all
      have h10 := hok.most
      omega
    · have := (hok.pass x.pt (List.mem_map_of_mem hxm)).1; simpa [PX.pt] using this
    · have := (hok.pass x.pt (List.mem_map_of_mem hxm)).2 y.1 (by simp only [PX.pt]; exact List.mem_map_of_mem hy)
      omega
  have HP : Hid (∀ v W, DumpI w (T X.length) v W → DumpPost w (X.map PX.pt) (.returned v) W) := fun v W hI => by
    have h7 := hI.par
    rw [hT, List.take_length] at h7
    exact ⟨v, rfl, h7, hI.below⟩
  have HM : Hid (QM F G w qb n X) := hM
  have HV : Hid _ := hv
  have HI0 : Hid (DumpI w (T 0) (.slice none 0 0) w) := ⟨⟨[], by rw [hT]; rfl, World.ownsRow_nil _ _ _ _, (fun x hx => by simp at hx), fun x hx => by simp at hx⟩, Below.refl _ _⟩
  generalize DumpPost w (X.map PX.pt) = Post at *
  clear hv hM hok hT hbox
  go_enter Try.func54, Try.ntmps54
  go_wp2
  go_loopw [3, 13] (fun u3 iv wr => ∃ i : Nat, i ≤ X.length ∧ iv = .int .i64 (i : Int) ∧ Hid (DumpI w (T i) u3 wr)) (fun _ iv _ => X.length - (intOf iv).toNat)
  case atStart => exact ⟨0, Nat.zero_le _, rfl, HI0⟩
  case round =>
    clear HI0
    obtain ⟨i, hi, rfl, HI⟩ := hrel
    by_cases hlt : i < X.length
    · have hltz : (i : Int) < (X.length : Int) := by omega
      obtain ⟨x, hx⟩ : ∃ x, X[i]? = some x := ⟨_, List.getElem?_eq_getElem hlt⟩
      obtain ⟨g, rfl, hFg, hg, hc0, hc1, _, _⟩ := HV.out i x hx
      have hxm := List.mem_of_getElem? hx
      have hby := (HM.out.byt x hxm).byt
      have hpm := HM.out.pas x hxm
      obtain ⟨bp, bc, hbv, _⟩ := hby
      have hby := (HM.out.byt x hxm).byt
      obtain ⟨lp, lc, hlv, _⟩ := hpm.row
      rw [hlv] at hpm
      rw [hbv] at hby
      have hB := HI.out.below
      have hc0' := (hB.cell (p := ⟨g, i * 2, none⟩) hg).trans hc0
      have hc1' := (hB.cell (p := ⟨g, i * 2 + 1, none⟩) hg).trans hc1
      rw [hbv] at hc0'
      rw [hlv] at hc1'
      obtain ⟨hT1, hT2, hT3, hT4, hT5⟩ := HT.out i x hx
      have hal := on_alloc wr (.cells #[.slice bp x.B.length bc, .slice lp x.M.length lc] 87)
      have hBk := Blk.new wr 87 [.slice bp x.B.length bc, .slice lp x.M.length lc]
      have hIa := HI.out.on hal
      have hpb : wr.heap.size < (wr.alloc (.cells #[.slice bp x.B.length bc, .slice lp x.M.length lc] 87)).heap.size := by simp
      have hown : ∀ k, u3.ownBlock = some k → w.heap.size ≤ k ∧ k < wr.heap.size := fun k e => by
        obtain ⟨Y, _, ho, _⟩ := HI.out.is
        have := row_lt ho e
        exact ⟨this.1, this.2.1⟩
      go_wp2
      generalize hw1 : wr.alloc (.cells #[.slice bp x.B.length bc, .slice lp x.M.length lc] 87) = w1 at *
      have hw : Below w.heap.size w w1 := on_trans hB hal
      generalize hpbe : wr.heap.size = pb at *
      have HLt : Hid (∀ k, u3.ownBlock = some k → k < w1.heap.size) := fun k e => by have := (hown k e).2; omega
      have HS0 : Hid (DS u3 w1 true w1.drew) := ⟨fun _ => on_drew (Below.refl _ _), keep_on (on_drew (Below.refl _ _))⟩
      have hno : ∀ {W}, Keep (fun k => ¬ u3.ownBlock = some k) w1 W → ∀ k, k < w.heap.size → W.heap[k]? = w.heap[k]? := fun {W} hk k hlt => (hk.block k (Nat.lt_of_lt_of_le hlt hw.size) fun e => by have := (hown k e).1; omega).trans (hw.block k hlt)
      have hkw : ∀ {W}, Keep (fun k => ¬ u3.ownBlock = some k) w1 W → Keep (fun k => k < w.heap.size) w W := fun {W} hk => ⟨hk.os.trans hw.os, hk.tape.trans hw.tape, hk.output.trans hw.output, Nat.le_trans hw.size hk.size, fun k h1 _ => hno hk k h1⟩
      have HY : Hid (∀ W, Keep (fun k => ¬ u3.ownBlock = some k) w1 W → W.cell? ⟨pb, 0, none⟩ = some (.slice bp x.B.length bc) ∧ W.cell? ⟨pb, 1, none⟩ = some (.slice lp x.M.length lc)) := fun W hk => by
        have h7 := hk.blk hBk fun e => by have := (hown _ e).2; omega
        exact ⟨h7.cell 0 rfl, h7.cell 1 rfl⟩
      have HB : Hid (∀ W, Keep (fun k => ¬ u3.ownBlock = some k) w1 W → ∃ v' W', (Builtin.append_ #[28, 28] 28 #[.slice none 0 0, .slice bp x.B.length bc]).run Try.prog W = .ok v' W' ∧ BytO (fun k => w1.heap.size ≤ k) W' v' x.B ∧ Below W.heap.size W W') := fun W hk => by
        have h7 : BytO (fun k => k < w.heap.size) W (.slice bp x.B.length bc) x.B := (hby.mono fun k h1 _ => h1).keep (hkw hk)
        obtain ⟨v', W', h8, h9, h10⟩ := byt_copy h7 (by omega)
        exact ⟨v', W', h8, h9.mono fun k _ h => Nat.le_trans hk.size h, h10⟩
      have HFr : Hid (∀ W, Keep (fun k => ¬ u3.ownBlock = some k) w1 W → Calls Try.prog 82 #[.slice lp x.M.length lc] W (FreshPost W x.M)) := fun W hk => by
        have h7 : PasM (fun k => k < w.heap.size) W (.slice lp x.M.length lc) x.M := (hpm.mono fun k h1 _ => h1).keep (hkw hk)
        exact fresh_any h7 (by omega) hT5
      have HApp : Hid (∀ W, Below w1.heap.size w1 W → ∀ v, (kd8 w1 x).ok v W → ∃ v' W', (∀ ty, (Builtin.append_ #[43, 43] ty #[u3, v]).run Try.prog W = .ok v' W') ∧ DumpI w (T (i + 1)) v' W' ∧ Keep (fun k => ¬ u3.ownBlock = some k) W W') := fun W hb v ⟨b8, v1, v2, N, e8, hB8, hb8, h1, h2, h3⟩ => by
        subst e8
        have := (hIa.on hb).more hw.size (by omega) hB8 h1 h2 h3
        rwa [← hT1] at this
      clear hIa hBk hal hpb hno hkw hby hpm hown HI hB hc0 hc1 hc0' hc1' hw
      refine wp_region_three (S := DS u3 w1) (u := 9) (Keep := KeepF (fun k => u3.ownBlock = some k) [9])
        (g := fun jj vv WW => (([.is (u3), .is (.pointer (some ⟨pb, 0, none⟩)), .is (.slice bp x.B.length bc), kd3 w1 x.B, .is (.pointer (some ⟨pb, 1, none⟩)), .is (.slice lp x.M.length lc), k6 (fun _ => True) w1 x.M, kd7 w1 x, kd8 w1 x, kd9 w (T (i + 1)), kd9 w (T (i + 1))] : List (Kd 0)).getD jj Kd.any).ok vv WW)
        (tab := [[(3, none)], [(5, none)], [(18, some 1)], [(19, some 2)], [(5, none)], [(21, some 4)], [(22, some 5)], [(20, some 3), (23, some 6)], [(24, some 7)], [(17, some 0), (25, some 8)], [(26, some 9)]]) (tl := []) (n := 29)
        (by kernel_rfl) rfl (by kernel_rfl) (keep_f ?kR1) (HS0.out) ?stR1 ?enR1
      case kR1 =>
        intro u hu j hj
        simp only [List.mem_cons, List.not_mem_nil, or_false] at hu
        rcases hu with rfl
        · match j, hj with
          | 0, _ | 1, _ | 2, _ | 4, _ | 5, _ => exact .inr (.inr (stays_is _))
          | 3, _ => exact .inr (.inr (kd3_stays HLt.out))
          | 6, _ => exact .inr (.inr (k6_stays HLt.out))
          | 7, _ => exact .inr (.inr (kd7_stays HLt.out))
          | 8, _ => exact .inr (.inr (kd8_stays HLt.out))
          | 10, _ => exact .inl (by kernel_rfl)
          | 9, hj => exact absurd rfl hj
          | j + 11, _ => exact .inr (.inr stays_any)
      case stR1 =>
        refine ⟨fun ρ W f hf hf2 hr hS hs => ?_, fun ρ W f hf hf2 hr hS hs => ?_, fun ρ W f hf hf2 hr hS hs => ?_, fun ρ W f hf hf2 hr hS hs => ?_, fun ρ W f hf hf2 hr hS hs => ?_, fun ρ W f hf hf2 hr hS hs => ?_, fun ρ W f hf hf2 hr hS hs => ?_, fun ρ W f hf hf2 hr hS hs => ?_, fun ρ W f hf hf2 hr hS hs => ?_, fun ρ W f hf hf2 hr hS hs => ?_, fun ρ W f hf hf2 hr hS hs => ?_, trivial⟩
        · have h3 : ρ (.tmp 3) = u3 := hs.1
          exact step_plain rfl (leaves_move (.tmp 3) rfl ⟨h3, by simpa using hS, .inr (Below.refl _ _)⟩)
        · have h5 : ρ (.tmp 5) = .pointer (some ⟨pb, 0, none⟩) := hs.1
          refine step_plain rfl (leaves_value (v := .pointer (some ⟨pb, 0, none⟩)) (w' := W) ?_ ⟨rfl, by simpa using hS, .inr (Below.refl _ _)⟩)
          have y0 := HY.out W hS.2 |>.1
          have y1 := HY.out W hS.2 |>.2
          simp [go_sem, h5]
        · have h18 : ρ (.tmp 18) = .pointer (some ⟨pb, 0, none⟩) := hs.1
          refine step_plain rfl (leaves_value (v := .slice bp x.B.length bc) (w' := W) ?_ ⟨rfl, by simpa using hS, .inr (Below.refl _ _)⟩)
          have y0 := HY.out W hS.2 |>.1
          have y1 := HY.out W hS.2 |>.2
          simp [go_sem, h18, y0]
        · have h19 : ρ (.tmp 19) = .slice bp x.B.length bc := hs.1
          obtain ⟨v', W', hrun, hby, hb'⟩ := HB.out W hS.2
          exact step_plain rfl (leaves_append _ (.tmp 19) 28 rfl (by rw [hr.const, h19]; exact hrun) ⟨hby, by simpa using hS.on hb', .inr hb'⟩)
        · have h5 : ρ (.tmp 5) = .pointer (some ⟨pb, 0, none⟩) := hs.1
          refine step_plain rfl (leaves_value (v := .pointer (some ⟨pb, 1, none⟩)) (w' := W) ?_ ⟨rfl, by simpa using hS, .inr (Below.refl _ _)⟩)
          have y0 := HY.out W hS.2 |>.1
          have y1 := HY.out W hS.2 |>.2
          simp [go_sem, h5]
        · have h21 : ρ (.tmp 21) = .pointer (some ⟨pb, 1, none⟩) := hs.1
          refine step_plain rfl (leaves_value (v := .slice lp x.M.length lc) (w' := W) ?_ ⟨rfl, by simpa using hS, .inr (Below.refl _ _)⟩)
          have y0 := HY.out W hS.2 |>.1
          have y1 := HY.out W hS.2 |>.2
          simp [go_sem, h21, y1]
        · have h22 : ρ (.tmp 22) = .slice lp x.M.length lc := hs.1
          refine step_plain rfl (leaves_call1 en_fresh hr (.tmp 22) _ rfl h22 ((HFr.out W hS.2).mono ?_))
          rintro e W' ⟨v', N, rfl, h1, h2, h3⟩
          exact ⟨_, rfl, ⟨N, h1, h2.mono fun k _ h => Nat.le_trans hS.2.size h⟩, by simpa using hS.on h3, .inr h3⟩
        · have h20 := hs.1
          have h23 := hs.2.1
          obtain ⟨N, h1, h2⟩ := h23
          have h20' : BytO (fun k => w1.heap.size ≤ k) W (ρ (.tmp 20)) x.B := h20
          refine step_plain rfl (leaves_value (v := .agg #[ρ (.tmp 20), ρ (.tmp 23)]) (w' := W) ?_ ⟨⟨_, _, N, rfl, h20', h1, h2⟩, by simpa using hS, .inr (Below.refl _ _)⟩)
          obtain ⟨⟨p9, c9, e9, _⟩, _⟩ := h2
          obtain ⟨p8, c8, e8, _⟩ := h20'
          simp [go_sem, e9, e8]
        · have h24 := hs.1
          obtain ⟨v20, v23, N, e24, h0, h1, h2⟩ := h24
          change ρ (.tmp 24) = _ at e24
          refine step_plain rfl (leaves_value (v := .slice (some ⟨W.heap.size, 0, none⟩) 1 1) (w' := W.alloc (.cells #[v20, v23] 87)) ?_ ⟨⟨W.heap.size, v20, v23, N, rfl, Blk.new W _ _, hS.2.size, h0.keep (keep_on (on_alloc _ _)), h1, h2.keep (keep_on (on_alloc _ _))⟩, by simpa using hS.on (on_alloc _ _), .inr (on_alloc _ _)⟩)
          obtain ⟨⟨p9, c9, e9, _⟩, _⟩ := h2
          obtain ⟨p8, c8, e8, _⟩ := h0
          simp [go_sem, e24, e9, e8]
        · have h17 : ρ (.tmp 17) = u3 := hs.1
          have h25 := hs.2.1
          obtain rfl : f = true := hf (by kernel_rfl)
          obtain ⟨v', W', hrun, hmid, hkp⟩ := HApp.out W (hS.1 rfl) _ h25
          exact step_plain rfl (leaves_append (.tmp 17) (.tmp 25) 43 rfl (by rw [h17]; exact hrun _) ⟨hmid, by simpa using hS.did hkp, .inl ⟨by simp, hkp⟩⟩)
        · have h26 := hs.1
          exact step_plain rfl (leaves_assign (.tmp 26) rfl ⟨h26, by simpa using hS, .inr (Below.refl _ _)⟩)
      case enR1 =>
        intro f W hf hS v0 h0 v1 h1 v2 h2 v3 h3 v4 h4 v5 h5 v6 h6 v7 h7 v8 h8 v9 h9 v10 h10
        obtain rfl : f = false := hf (by decide)
        clear hf
        have e0 : v0 = u3 := h0 rfl
        subst v0
        have e1 : v1 = .pointer (some ⟨pb, 0, none⟩) := h1 rfl
        subst v1
        have e2 : v2 = .slice bp x.B.length bc := h2 rfl
        subst v2
        have e4 : v4 = .pointer (some ⟨pb, 1, none⟩) := h4 rfl
        subst v4
        have e5 : v5 = .slice lp x.M.length lc := h5 rfl
        subst v5
        clear h0 h1 h2 h4 h5
        simp only [ends, Act.put, List.setIfInBounds_toArray, List.set_cons_succ, List.set_cons_zero]
        have hE : DumpI w (T (i + 1)) v10 W := h10 rfl
        have HE : Hid _ := hE
        clear hE h3 h6 h7 h8 h9 h10 hS HApp HFr HB HY HS0 HLt
        go_wp2
        go_roundw
        case rel => exact ⟨i + 1, by omega, by go_num, HE⟩
        case measure => simp [intOf]; omega
    · obtain rfl : i = X.length := by omega
      have hltz : ¬ (X.length : Int) < (X.length : Int) := by omega
      have HE := HP.out _ _ HI.out
      clear HP HI
      go_wp2
      exact HE

end Go.Proofs.Ytfhkdndgiofidaa.K
