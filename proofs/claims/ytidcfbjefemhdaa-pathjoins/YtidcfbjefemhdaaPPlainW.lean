/- What path.Plain answers. -/
import Derived.Test.YtidcfbjefemhdaaPDelete
import Derived.Test.YtidcfbjefemhdaaPEnter
import Derived.Test.YtidcfbjefemhdaaReg3
namespace Go.Proofs.Ytidcfbjefemhdaa
open Go Go.RowKit

def lastDot (l : List ByteArray) : Bool := isDotB (l.getD (l.length - 1) ByteArray.empty)
def plainD (d : Bool) (l : List ByteArray) : Bool := decide (0 < (plainL l).length) && (d || lastDot l)

theorem ownL_less {hi hi' : Nat} {W : World} {v : Value} {s : List ByteArray} (h : OwnL hi W v s) (hl : hi' ≤ hi) : OwnL hi' W v s := by
  refine ⟨h.1, ?_⟩
  rcases h.2 with h0 | ⟨g, cap, cur, h1, h2, h3⟩
  · exact .inl h0
  · exact .inr ⟨g, cap, cur, h1, Nat.le_trans hl h2, h3⟩

/-- A path's box is no row of texts. -/
theorem AtF.but_box {base b : Nat} {w w' : World} {p : Option Addr} {l : List ByteArray} {x0 x1 : Bool} {q : Option Addr} {n c : Nat} (h : AtF base w p l) (hb : Box w b (.bool x0) (.bool x1) (.slice q n c)) (k : But b w w') : AtF base w' p l := by
  rcases h with h | ⟨g, off, hp, hl, hlt, hc⟩
  · exact .inl h
  · by_cases hn : l = []
    · exact .inl hn
    have hpos : 0 < l.length := List.length_pos_iff.2 hn
    have hne : g ≠ b := by
      rintro rfl
      have h0 := hc 0 hpos
      rw [Nat.add_zero] at h0
      simp only [World.cell?, hb.row] at h0
      match off, h0 with
      | 0, h0 => simp at h0
      | 1, h0 => simp at h0
      | 2, h0 => simp at h0
      | o + 3, h0 => simp at h0
    refine .inr ⟨g, off, hp, hl, by rw [k.size]; exact hlt, fun j hj => ?_⟩
    rw [← hc j hj]
    simp only [World.cell?, k.block g hne]

/-- A path that is made within a region lies at the watched address. -/
def MadeAt (H : Nat) (x : Value) (W : World) : Prop := ∃ b, x = .pointer (some ⟨b, 0, none⟩) ∧ H ≤ b ∧ ∃ (x0 x1 : Bool) (q : Option Addr) (n c : Nat), Box W b (.bool x0) (.bool x1) (.slice q n c)
def MadeIs (H : Nat) (x : Value) (a d : Bool) (l : List ByteArray) (W : World) : Prop := ∃ b p c, x = .pointer (some ⟨b, 0, none⟩) ∧ H ≤ b ∧ Box W b (.bool a) (.bool d) (.slice p l.length c) ∧ AtF H W p l ∧ l.length ≤ c
theorem MadeAt.on {H : Nat} {x : Value} {W W' : World} (h : MadeAt H x W) (hb : Below W.heap.size W W') : MadeAt H x W' := by
  obtain ⟨b, h1, h2, x0, x1, q, n, c, h3⟩ := h
  exact ⟨b, h1, h2, x0, x1, q, n, c, h3.on hb⟩
theorem MadeIs.on {H : Nat} {x : Value} {a d : Bool} {l : List ByteArray} {W W' : World} (h : MadeIs H x a d l W) (hb : Below W.heap.size W W') : MadeIs H x a d l W' := by
  obtain ⟨b, p, c, h1, h2, h3, h4, h5⟩ := h
  exact ⟨b, p, c, h1, h2, h3.on hb, h4.on hb, h5⟩
def madeS (H : Nat) (w0 : World) (f : Bool) (x : Value) (W : World) : Prop := Below H w0 W ∧ (f = false → MadeAt H x W)
theorem madeS.grow {H : Nat} {w0 : World} {f : Bool} {x : Value} {W W' : World} (h : madeS H w0 f x W) (hb : Below W.heap.size W W') (hH : H ≤ W.heap.size) : madeS H w0 f x W' := ⟨h.1.trans (hb.mono hH), fun e => (h.2 e).on hb⟩

/-- What is said of the values of path.Plain's region. -/
def plG (H : Nat) (ks : List Value) (l : List ByteArray) (a : Bool) (L : List ByteArray) (x : Value) (i : Nat) (v : Value) (W : World) : Prop :=
  if i = 4 then OwnL H W v l else if i = 5 then (Kd.sl L).ok H v W else if i = 6 then (Kd.pa a false L).ok H v W else if i = 8 then MadeIs H x a false L W else match ks[i]? with | some u => v = u | none => True

theorem retPa {w W : World} {a d : Bool} {l : List ByteArray} {p : Option Addr} {c : Nat} (hb : Below w.heap.size w W) (hat : AtF w.heap.size W p l) (hc : l.length ≤ c) : RetPa w a d l (.returned (.agg #[.bool a, .bool d, .slice p l.length c])) W := ⟨hb, p, c, rfl, hat, hc⟩

set_option maxRecDepth 100000 in
set_option maxHeartbeats 4000000 in
theorem plain_any (a d : Bool) (p : Option Addr) (cap : Nat) (l : List ByteArray) (w : World) (hl : l.length ≤ 10000) (h : At w p l) :
    Calls Try.prog 20 #[.agg #[.bool a, .bool d, .slice p l.length cap]] w (RetPa w a (plainD d l) (plainL l)) := by
  have hX := (Box.new w (.bool a) (.bool d) (.slice p l.length cap)).alloc (.cells #[.bool false, .bool false, .slice none 0 0] 24)
  have hY := Box.new (w.alloc (.cells #[.bool a, .bool d, .slice p l.length cap] 24)) (.bool false) (.bool false) (.slice none 0 0)
  have hB := on_trans (on_alloc w (.cells #[.bool a, .bool d, .slice p l.length cap] 24)) (on_alloc _ (.cells #[.bool false, .bool false, .slice none 0 0] 24))
  have hsz : ((w.alloc (.cells #[.bool a, .bool d, .slice p l.length cap] 24)).alloc (.cells #[.bool false, .bool false, .slice none 0 0] 24)).heap.size = w.heap.size + 2 := by simp
  rw [World.size_alloc] at hY
  have HSZ : Hid (_ = w.heap.size + 2) := hsz
  clear hsz
  have HD : Hid (plainD d l = (decide (0 < (plainL l).length) && (d || lastDot l))) := rfl
  go_enter Try.func20, Try.ntmps20
  go_wp2
  generalize (w.alloc (.cells #[.bool a, .bool d, .slice p l.length cap] 24)).alloc (.cells #[.bool false, .bool false, .slice none 0 0] 24) = w0 at *
  have hat0 : At w0 p l := h.on hB
  have hS0 : ∀ x, madeS (w.heap.size + 2) w0 true x w0.drew := fun x => ⟨by rw [← HSZ.out]; exact on_drew (Below.refl _ _), fun e => by cases e⟩
  refine wp_region_four (S := madeS (w.heap.size + 2) w0) (u := 7) (tu := 3) (Keep := fun i w1 w2 => i = 5 ∨ i = 8 ∨ Below w1.heap.size w1 w2)
    (g := plG (w.heap.size + 2) [.pointer (some ⟨w.heap.size, 0, none⟩), .bool a, .pointer (some ⟨w.heap.size, 2, none⟩), .slice p l.length cap] l a (plainL l))
    (tab := [[(1, none)], [(4, some 0)], [(1, none)], [(6, some 2)], [(7, some 3)], [(8, some 4)], [(5, some 1), (9, some 5)], [], [(3, some 7), (10, some 6)]]) (tl := [(4, 5), (5, 8), (6, 8)]) (n := 30)
    (by kernel_rfl) rfl (by kernel_rfl) (by kernel_rfl) ?hx ?hK (hS0 _) ?st ?en
  case hx =>
    intro j x x' v W hed hne hg
    unfold plG at hg ⊢
    by_cases h8 : j = 8
    · subst h8; exact absurd hed (by decide +kernel)
    · rw [if_neg h8] at hg ⊢; exact hg
  case hK =>
    intro x i j v w1 w2 hk hne hed _ ht hg
    by_cases h5 : i = 5
    · subst h5
      unfold plG at hg ⊢
      by_cases e4 : j = 4
      · subst e4; exact absurd rfl (ht 5 rfl).1
      by_cases e6 : j = 6
      · subst e6; exact absurd hed (by decide +kernel)
      by_cases e8 : j = 8
      · subst e8; exact absurd hed (by decide +kernel)
      rw [if_neg e4, if_neg hne, if_neg e6, if_neg e8] at hg ⊢
      exact hg
    by_cases h8 : i = 8
    · subst h8
      unfold plG at hg ⊢
      by_cases e4 : j = 4
      · subst e4; exact absurd (ht 5 rfl).2 (by decide +kernel)
      by_cases e5 : j = 5
      · subst e5; exact absurd rfl (ht 8 rfl).1
      by_cases e6 : j = 6
      · subst e6; exact absurd rfl (ht 8 rfl).1
      rw [if_neg e4, if_neg e5, if_neg e6, if_neg hne] at hg ⊢
      exact hg
    have hb : Below w1.heap.size w1 w2 := by
      rcases hk with e | e | e
      · exact absurd e h5
      · exact absurd e h8
      · exact e
    unfold plG at hg ⊢
    by_cases e4 : j = 4
    · rw [if_pos e4] at hg ⊢; exact ownL_on hg hb
    rw [if_neg e4] at hg ⊢
    by_cases e5 : j = 5
    · rw [if_pos e5] at hg ⊢; exact Kd.on hg hb
    rw [if_neg e5] at hg ⊢
    by_cases e6 : j = 6
    · rw [if_pos e6] at hg ⊢; exact Kd.on hg hb
    rw [if_neg e6] at hg ⊢
    by_cases e8 : j = 8
    · rw [if_pos e8] at hg ⊢; exact hg.on hb
    rw [if_neg e8] at hg ⊢
    exact hg
  case st =>
    have hH : ∀ f x W, madeS (w.heap.size + 2) w0 f x W → w.heap.size + 2 ≤ W.heap.size := fun f x W hS => by have := hS.1.size; have := HSZ.out; omega
    refine ⟨fun ρ W f hf hf2 hr hS hs => ?_, fun ρ W f hf hf2 hr hS hs => ?_, fun ρ W f hf hf2 hr hS hs => ?_, fun ρ W f hf hf2 hr hS hs => ?_, fun ρ W f hf hf2 hr hS hs => ?_, fun ρ W f hf hf2 hr hS hs => ?_, fun ρ W f hf hf2 hr hS hs => ?_, fun ρ W f hf hf2 hr hS hs => ?_, fun ρ W f hf hf2 hr hS hs => ?_, trivial⟩
    · exact step4_plain rfl (by decide) (leaves_field (.tmp 1) rfl (by decide) hs.1 ⟨rfl, by cases f <;> exact hS, .inr (.inr (Below.refl _ _))⟩)
    · exact step4_plain rfl (by decide) (leaves_loadB (.tmp 4) rfl hs.1 (hX.below hS.1 (by omega)).fst ⟨rfl, by cases f <;> exact hS, .inr (.inr (Below.refl _ _))⟩)
    · exact step4_plain rfl (by decide) (leaves_field (.tmp 1) rfl (by decide) hs.1 ⟨rfl, by cases f <;> exact hS, .inr (.inr (Below.refl _ _))⟩)
    · exact step4_plain rfl (by decide) (leaves_loadS (.tmp 6) rfl hs.1 (hX.below hS.1 (by omega)).thd ⟨rfl, by cases f <;> exact hS, .inr (.inr (Below.refl _ _))⟩)
    · refine step4_plain rfl (by decide) (leaves_call1 en_clone hr (.tmp 7) _ rfl hs.1 ?_)
      refine (clone_any p cap l W hl (hat0.below hS.1 (by have := HSZ.out; omega))).mono ?_
      rintro e W' ⟨v, rfl, hown, hb⟩
      exact ⟨_, rfl, ownL_less hown (hH _ _ _ hS), by have := hS.grow hb (hH _ _ _ hS); cases f <;> exact this, .inr (.inr hb)⟩
    · have hown : OwnL (w.heap.size + 2) W (ρ (.tmp 8)) l := hs.1
      refine step4_plain rfl (by decide) (leaves_call2 en_delete hr (.tmp 8) (.func 34) _ _ rfl rfl (hr.fn _) ?_)
      refine (delete_own (w.heap.size + 2) _ l W hown hl).mono ?_
      rintro e W' ⟨hrb, p', c', rfl, hat, hcc⟩
      have hS2 : madeS (w.heap.size + 2) w0 f (ρ (.tmp 3)) W' := ⟨hrb.below hS.1 (Nat.le_refl _), fun e => by
        obtain ⟨b, h1, h2, x0, x1, q, n, c, h3⟩ := hS.2 e
        exact ⟨b, h1, h2, x0, x1, q, n, c, hrb.box h3⟩⟩
      exact ⟨_, rfl, ⟨p', c', rfl, hat, hcc⟩, by cases f <;> exact hS2, .inl rfl⟩
    · obtain ⟨h5, ⟨p', c', h9, hat, hcc⟩, _⟩ := hs
      have h5' : ρ (.tmp 5) = .bool a := h5
      refine step4_plain rfl (by decide) (leaves_value (v := .agg #[.bool a, .bool false, .slice p' (plainL l).length c']) (w' := W) ?_ ⟨⟨p', c', rfl, hat, hcc⟩, by cases f <;> exact hS, .inr (.inr (Below.refl _ _))⟩)
      simp [go_sem, h5', h9]
    · have hb := on_alloc W (.cells #[.bool false, .bool false, .slice none 0 0] 24)
      refine step4_made rfl (leaves_value (v := .pointer (some ⟨W.heap.size, 0, none⟩)) (w' := W.alloc (.cells #[.bool false, .bool false, .slice none 0 0] 24)) ?_ ⟨trivial, ⟨hS.1.trans (hb.mono (hH _ _ _ hS)), fun _ => ⟨_, rfl, hH _ _ _ hS, _, _, _, _, _, Box.new W _ _ _⟩⟩, .inr (.inr hb)⟩)
      simp [go_sem]
    · obtain rfl : f = false := hf2 (by kernel_rfl)
      obtain ⟨_, ⟨p', c', h10, hat, hcc⟩, _⟩ := hs
      obtain ⟨b, hx, hHb, x0, x1, q, n, c, hbx⟩ := hS.2 rfl
      have hbut := but_put3 W b (.bool a) (.bool false) (.slice p' (plainL l).length c')
      refine step4_plain rfl (by decide) (leaves_store (.tmp 3) (.tmp 10) rfl hx h10 hbx ⟨⟨b, p', c', hx, hHb, hbx.put _ _ _, hat.but_box hbx hbut, hcc⟩, ⟨below_but hS.1 hbut hHb, fun _ => ⟨b, hx, hHb, _, _, _, _, _, hbx.put _ _ _⟩⟩, .inr (.inl rfl)⟩)
  case en =>
    intro x f W hf hS v0 h0 v1 h1 v2 h2 v3 h3 v4 h4 v5 h5 v6 h6 v7 h7 h8 hxe
    obtain ⟨b, p', c', rfl, hHb, hbx, hat, hcc⟩ := h8 rfl
    have hv7 : v7 = .pointer (some ⟨b, 0, none⟩) := by simpa [Act.put, Act.eval] using hxe
    subst hv7
    have HX : Hid (Box W w.heap.size (.bool a) (.bool d) (.slice p l.length cap)) := hX.below hS.1 (by omega)
    have HY : Hid (Box W (w.heap.size + 1) (.bool false) (.bool false) (.slice none 0 0)) := hY.below hS.1 (by omega)
    have HB : Hid (Below w.heap.size w W) := hB.trans (hS.1.mono (by omega))
    have HA : Hid (At W p l) := hat0.below hS.1 (by have := HSZ.out; omega)
    have HQ : Hid (Box W b (.bool a) (.bool false) (.slice p' (plainL l).length c')) := hbx
    have HT : Hid (AtF (w.heap.size + 2) W p' (plainL l)) := hat
    clear h0 h1 h2 h3 h4 h5 h6 h7 h8 hxe hS hX hY hB hbx hat hat0 h hf
    simp only [Act.put, List.setIfInBounds_toArray, List.set_cons_succ, List.set_cons_zero]
    have hwb : w.heap.size ≤ b := by omega
    have q0 := HQ.out.fst
    have q1 := HQ.out.snd
    have q2 := HQ.out.thd
    have k1 := HQ.out.free 1
    have x0 := HX.out.fst
    have x1 := HX.out.snd
    have x2 := HX.out.thd
    have y0 := HY.out.fst
    have y1 := HY.out.snd
    have y2 := HY.out.thd
    have f0 := HY.out.free 0
    have f1 := HY.out.free 1
    have f2 := HY.out.free 2
    by_cases hn : 0 < (plainL l).length
    · have hnz : (0 : Int) < ((plainL l).length : Int) := by omega
      have hl0 : 0 < l.length := Nat.lt_of_lt_of_le hn (List.length_filter_le _ _)
      obtain ⟨bp, off, hp, _, hcell⟩ := HA.out.resolve_left (fun e => by rw [e] at hl0; simp at hl0)
      subst hp
      have hck := hcell (l.length - 1) (by omega)
      have ecast : ((l.length : Int) - 1) = ((l.length - 1 : Nat) : Int) := by omega
      have cD := isDot_any (l.getD (l.length - 1) ByteArray.empty)
      have HDL : Hid (lastDot l = isDotB (l.getD (l.length - 1) ByteArray.empty)) := rfl
      have HE : Hid (∀ (dd : Bool) (W1 : World), (d || lastDot l) = dd → But b W W1 → RetPa w a (plainD d l) (plainL l) (.returned (.agg #[.bool a, .bool dd, .slice p' (plainL l).length c'])) (put3 W1 (w.heap.size + 1) (.bool a) (.bool dd) (.slice p' (plainL l).length c'))) := fun dd W1 hdd hb1 => by
        have e : plainD d l = dd := by rw [HD.out, decide_eq_true hn, Bool.true_and, hdd]
        rw [e]
        have hb2 := but_put3 W1 (w.heap.size + 1) (.bool a) (.bool dd) (.slice p' (plainL l).length c')
        exact retPa (below_but (below_but HB.out hb1 hwb) hb2 (Nat.le_succ _)) (((HT.out.but_box HQ.out hb1).but hb2 (Nat.lt_succ_self _)).less (Nat.le_add_right _ _)) hcc
      have HBX : Hid (∀ (u u0 u1 u2 : Value), Box (put3 (W.setCell ⟨b, 1, none⟩ u) (w.heap.size + 1) u0 u1 u2) (w.heap.size + 1) u0 u1 u2) := fun u u0 u1 u2 => (HY.out.but (but_set W b 1 u) (by omega)).put _ _ _
      rw [← HDL.out] at cD
      have hlz : (0 : Int) < (l.length : Int) := by omega
      have hlz1 : ((l.length - 1 : Nat) : Int) < (l.length : Int) := by omega
      clear hcell HA HT HD HDL
      generalize l.getD (l.length - 1) ByteArray.empty = xl at *
      unfold put3 at HE HBX
      cases d with
      | true =>
        go_wp2
        exact bodyPost_ret (results_box rfl _ _ rfl (HBX.out _ _ _ _)) rfl (HE.out true _ (Bool.true_or _) (but_set _ _ _ _))
      | false =>
        go_wp2_with (go_at_call 34; refine (cD _).mono ?_; rintro e w2 ⟨rfl, hw⟩; replace hw := hw.symm; subst hw)
        exact bodyPost_ret (results_box rfl _ _ rfl (HBX.out _ _ _ _)) rfl (HE.out (lastDot l) _ (Bool.false_or _) (but_set _ _ _ _))
    · have hnz : ¬ (0 : Int) < ((plainL l).length : Int) := by omega
      have HE : Hid (RetPa w a (plainD d l) (plainL l) (.returned (.agg #[.bool a, .bool false, .slice p' (plainL l).length c'])) (put3 W (w.heap.size + 1) (.bool a) (.bool false) (.slice p' (plainL l).length c'))) := by
        have e : plainD d l = false := by rw [HD.out, decide_eq_false hn, Bool.false_and]
        have hb2 := but_put3 W (w.heap.size + 1) (.bool a) (.bool false) (.slice p' (plainL l).length c')
        show RetPa _ _ _ _ _ _
        rw [e]
        exact retPa (below_but HB.out hb2 (Nat.le_succ _)) ((HT.out.but hb2 (Nat.lt_succ_self _)).less (Nat.le_add_right _ _)) hcc
      have HBX : Hid (Box (put3 W (w.heap.size + 1) (.bool a) (.bool false) (.slice p' (plainL l).length c')) (w.heap.size + 1) (.bool a) (.bool false) (.slice p' (plainL l).length c')) := HY.out.put _ _ _
      clear HA HT HD hn
      generalize RetPa w a (plainD d l) (plainL l) = R at *
      unfold put3 at HE HBX
      go_wp2
      exact bodyPost_ret (results_box rfl _ _ rfl HBX.out) rfl HE.out

end Go.Proofs.Ytidcfbjefemhdaa
