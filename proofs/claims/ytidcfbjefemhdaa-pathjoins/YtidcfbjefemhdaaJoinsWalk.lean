/- The law PathJoins answers true at every pair of paths. -/
import Derived.Test.YtidcfbjefemhdaaPlainWalk
import Derived.Test.YtidcfbjefemhdaaPRefJoin
namespace Go.Proofs.Ytidcfbjefemhdaa
open Go Go.RowKit

/-- Texts in a block that is none of two. -/
def AtX (n : Nat) (W : World) (p : Option Addr) (l : List ByteArray) : Prop :=
  l = [] ∨ ∃ b off, p = some ⟨b, off, none⟩ ∧ (b < n ∨ n + 2 ≤ b) ∧ b < W.heap.size ∧ ∀ j, j < l.length → W.cell? ⟨b, off + j, none⟩ = some (.string (l.getD j ByteArray.empty))
section
variable {n : Nat} {W W' : World} {p : Option Addr} {l : List ByteArray}
theorem AtX.at (h : AtX n W p l) : At W p l := by
  rcases h with h | ⟨b, off, hp, _, hlt, hc⟩
  · exact .inl h
  · exact .inr ⟨b, off, hp, hlt, hc⟩
theorem AtX.on (h : AtX n W p l) (hb : Below W.heap.size W W') : AtX n W' p l := by
  rcases h with h | ⟨b, off, hp, hl, hlt, hc⟩
  · exact .inl h
  · exact .inr ⟨b, off, hp, hl, Nat.lt_of_lt_of_le hlt hb.size, fun j hj => (hb.cell (p := ⟨b, off + j, none⟩) hlt).trans (hc j hj)⟩
theorem AtX.but {c : Nat} (h : AtX n W p l) (k : But c W W') (h1 : n ≤ c) (h2 : c < n + 2) : AtX n W' p l := by
  rcases h with h | ⟨b, off, hp, hl, hlt, hc⟩
  · exact .inl h
  · refine .inr ⟨b, off, hp, hl, by rw [k.size]; exact hlt, fun j hj => ?_⟩
    rw [← hc j hj]
    simp only [World.cell?, k.block b (by omega)]
theorem AtX.fresh (h : AtF (n + 2) W p l) : AtX n W p l := by
  rcases h with h | ⟨b, off, hp, hl, hlt, hc⟩
  · exact .inl h
  · exact .inr ⟨b, off, hp, .inr hl, hlt, hc⟩
theorem AtX.old {w : World} (h : At w p l) (hb : Below w.heap.size w W) : AtX w.heap.size W p l := by
  rcases h with h | ⟨b, off, hp, hlt, hc⟩
  · exact .inl h
  · exact .inr ⟨b, off, hp, .inl hlt, Nat.lt_of_lt_of_le hlt hb.size, fun j hj => (hb.cell (p := ⟨b, off + j, none⟩) hlt).trans (hc j hj)⟩
end

/-- A path that, cut, is (a, d, L). -/
def CutAs (n : Nat) (a d : Bool) (L : List ByteArray) (v0 v1 v2 : Value) (W : World) : Prop :=
  ∃ p c l, v0 = .bool a ∧ v1 = .bool d ∧ v2 = .slice p l.length c ∧ AtX n W p l ∧ l.length ≤ c ∧ l.length ≤ 9223372036854775807 ∧ shortL l = L
theorem CutAs.on {n : Nat} {a d : Bool} {L : List ByteArray} {v0 v1 v2 : Value} {W W' : World} (h : CutAs n a d L v0 v1 v2 W) (hb : Below W.heap.size W W') : CutAs n a d L v0 v1 v2 W' := by
  obtain ⟨p, c, l, h1, h2, h3, h4, h5⟩ := h
  exact ⟨p, c, l, h1, h2, h3, h4.on hb, h5⟩
theorem CutAs.but {n b : Nat} {a d : Bool} {L : List ByteArray} {v0 v1 v2 : Value} {W W' : World} (h : CutAs n a d L v0 v1 v2 W) (k : But b W W') (h1 : n ≤ b) (h2 : b < n + 2) : CutAs n a d L v0 v1 v2 W' := by
  obtain ⟨p, c, l, e1, e2, e3, h4, h5⟩ := h
  exact ⟨p, c, l, e1, e2, e3, h4.but k h1 h2, h5⟩
theorem short_twice (l : List ByteArray) : shortL (shortL l) = shortL l := by
  have h1 := shortL_len l
  have h2 := shortL_size l
  generalize shortL l = m at *
  unfold shortL cutL
  rw [List.take_of_length_le (by omega)]
  conv => rhs; rw [← List.map_id m]
  refine List.map_congr_left fun x hx => ?_
  have := h2 x hx
  unfold cutX
  rw [if_neg (by omega)]; rfl

structure CutS (w : World) (a d a2 d2 : Bool) (L M : List ByteArray) (W : World) : Prop where
  on : Below w.heap.size w W
  size : w.heap.size + 2 ≤ W.heap.size
  fst : ∃ v0 v1 v2, Box W w.heap.size v0 v1 v2 ∧ CutAs w.heap.size a d L v0 v1 v2 W
  snd : ∃ v0 v1 v2, Box W (w.heap.size + 1) v0 v1 v2 ∧ CutAs w.heap.size a2 d2 M v0 v1 v2 W
theorem CutS.grow {w : World} {a d a2 d2 : Bool} {L M : List ByteArray} {W W' : World} (h : CutS w a d a2 d2 L M W) (hb : Below W.heap.size W W') : CutS w a d a2 d2 L M W' := by
  obtain ⟨v0, v1, v2, h1, h2⟩ := h.fst
  obtain ⟨u0, u1, u2, h3, h4⟩ := h.snd
  exact ⟨on_trans h.on hb, Nat.le_trans h.size hb.size, ⟨v0, v1, v2, h1.on hb, h2.on hb⟩, ⟨u0, u1, u2, h3.on hb, h4.on hb⟩⟩

def cutG (w : World) (a d a2 d2 : Bool) (L M : List ByteArray) (i : Nat) (v : Value) (W : World) : Prop :=
  if i = 0 then ∃ v0 v1 v2, v = .agg #[v0, v1, v2] ∧ CutAs w.heap.size a d L v0 v1 v2 W
  else if i = 2 then ∃ v0 v1 v2, v = .agg #[v0, v1, v2] ∧ CutAs w.heap.size a2 d2 M v0 v1 v2 W
  else ([.any, .pa a d L, .any, .pa a2 d2 M, .box w.heap.size a d L, .box (w.heap.size + 1) a2 d2 M].getD i Kd.any).ok (w.heap.size + 2) v W

theorem cut_keep {w : World} {a d a2 d2 : Bool} {L M : List ByteArray} {ops : Array Oper} {tl : Till} (i j : Nat) (v : Value) (w1 w2 : World) (hk : KeepK [(4, w.heap.size), (5, w.heap.size + 1)] i w1 w2) (hne : j ≠ i) (hed : edge ops j i = false)
    (ht : ∀ u, tl.lookup j = some u → u ≠ i ∧ edge ops i u = false) (hg : cutG w a d a2 d2 L M j v w1) : cutG w a d a2 d2 L M j v w2 := by
  have hcut : ∀ (a d : Bool) (L : List ByteArray), (∃ v0 v1 v2, v = .agg #[v0, v1, v2] ∧ CutAs w.heap.size a d L v0 v1 v2 w1) → ∃ v0 v1 v2, v = .agg #[v0, v1, v2] ∧ CutAs w.heap.size a d L v0 v1 v2 w2 := by
    rintro a d L ⟨v0, v1, v2, e, h⟩
    refine ⟨v0, v1, v2, e, ?_⟩
    unfold KeepK at hk
    cases hl : ([(4, w.heap.size), (5, w.heap.size + 1)] : List (Nat × Nat)).lookup i with
    | none => rw [hl] at hk; exact h.on hk
    | some b =>
      rw [hl] at hk
      have hb : b = w.heap.size ∨ b = w.heap.size + 1 := by
        simp only [List.lookup] at hl
        split at hl
        · exact .inl (by simpa using hl.symm)
        · split at hl
          · exact .inr (by simpa using hl.symm)
          · cases hl
      exact h.but hk (by omega) (by omega)
  unfold cutG at hg ⊢
  by_cases h0 : j = 0
  · rw [if_pos h0] at hg ⊢; exact hcut _ _ _ hg
  rw [if_neg h0] at hg ⊢
  by_cases h2 : j = 2
  · rw [if_pos h2] at hg ⊢; exact hcut _ _ _ hg
  rw [if_neg h2] at hg ⊢
  refine keep_kd (ops := ops) (tl := tl) (fun i' b hb => ?_) i j v w1 w2 hk hne hed ht hg
  have hb2 : (i' = 4 ∧ b = w.heap.size) ∨ (i' = 5 ∧ b = w.heap.size + 1) := by
    simp only [List.lookup] at hb
    split at hb
    · rename_i h4
      exact .inl ⟨by simpa using h4, by simpa using hb.symm⟩
    · split at hb
      · rename_i h5
        exact .inr ⟨by simpa using h5, by simpa using hb.symm⟩
      · cases hb
  rcases hb2 with ⟨rfl, rfl⟩ | ⟨rfl, rfl⟩
  · refine ⟨by omega, fun j' hj' => ?_⟩
    match j', hj' with
    | 0, _ | 1, _ | 2, _ | 3, _ => exact blk_none rfl
    | 4, hj => exact absurd rfl hj
    | 5, _ => exact blk_other rfl (by omega)
    | j + 6, _ => exact blk_none rfl
  · refine ⟨by omega, fun j' hj' => ?_⟩
    match j', hj' with
    | 0, _ | 1, _ | 2, _ | 3, _ => exact blk_none rfl
    | 4, _ => exact blk_other rfl (by omega)
    | 5, hj => exact absurd rfl hj
    | j + 6, _ => exact blk_none rfl

theorem joinP_len (a : Bool) (l : List ByteArray) (a2 : Bool) (m : List ByteArray) (h1 : l.length ≤ 100) (h2 : m.length ≤ 100) : (joinP a l a2 m).length ≤ 200 := by
  unfold joinP
  split
  · omega
  · simp; omega

set_option maxRecDepth 100000 in
set_option maxHeartbeats 4000000 in
theorem joins_walk (a d : Bool) (p : Option Addr) (c : Nat) (l : List ByteArray) (a2 d2 : Bool) (q : Option Addr) (c2 : Nat) (m : List ByteArray) (w : World)
    (hcap : l.length ≤ c) (hl : l.length ≤ 9223372036854775807) (h : At w p l) (hcap2 : m.length ≤ c2) (hl2 : m.length ≤ 9223372036854775807) (h2 : At w q m) :
    Calls Try.prog 7 #[.agg #[.bool a, .bool d, .slice p l.length c], .agg #[.bool a2, .bool d2, .slice q m.length c2]] w fun e w' => e = .returned (.bool true) ∧ Below w.heap.size w w' := by
  have hX := (Box.new w (.bool a) (.bool d) (.slice p l.length c)).alloc (.cells #[.bool a2, .bool d2, .slice q m.length c2] 24)
  have hY := Box.new (w.alloc (.cells #[.bool a, .bool d, .slice p l.length c] 24)) (.bool a2) (.bool d2) (.slice q m.length c2)
  have hB := on_trans (on_alloc w (.cells #[.bool a, .bool d, .slice p l.length c] 24)) (on_alloc _ (.cells #[.bool a2, .bool d2, .slice q m.length c2] 24))
  have hsz : w.heap.size + 2 ≤ ((w.alloc (.cells #[.bool a, .bool d, .slice p l.length c] 24)).alloc (.cells #[.bool a2, .bool d2, .slice q m.length c2] 24)).heap.size := by simp
  rw [World.size_alloc] at hY
  have hS0 : CutS w a d a2 d2 (shortL l) (shortL m) ((w.alloc (.cells #[.bool a, .bool d, .slice p l.length c] 24)).alloc (.cells #[.bool a2, .bool d2, .slice q m.length c2] 24)) :=
    ⟨hB, hsz, ⟨_, _, _, hX, p, c, l, rfl, rfl, rfl, .old h hB, hcap, hl, rfl⟩, ⟨_, _, _, hY, q, c2, m, rfl, rfl, rfl, .old h2 hB, hcap2, hl2, rfl⟩⟩
  have hL100 := shortL_len l
  have hM100 := shortL_len m
  have eL := short_twice l
  have eM := short_twice m
  clear hX hY hB hsz h h2 hcap hcap2 hl hl2
  go_enter Try.func7, Try.ntmps7
  go_wp2
  generalize (w.alloc (.cells #[.bool a, .bool d, .slice p l.length c] 24)).alloc (.cells #[.bool a2, .bool d2, .slice q m.length c2] 24) = w0 at *
  generalize shortL l = L at *
  generalize shortL m = M at *
  refine wp_region_left (S := CutS w a d a2 d2 L M) (Keep := KeepK [(4, w.heap.size), (5, w.heap.size + 1)]) (g := cutG w a d a2 d2 L M)
    (tab := [[(2, none)], [(5, some 0)], [(3, none)], [(7, some 2)], [(2, none), (6, some 1)], [(3, none), (8, some 3)]]) (tl := []) (n := 21)
    (by kernel_rfl) rfl (by kernel_rfl) cut_keep (hS0.grow (on_drew (Below.refl _ _))) ?st ?en
  case st =>
    have put : ∀ (W : World) (b : Nat) (u0 u1 u2 : Value) (x y : Bool) (N : List ByteArray) (p' : Option Addr) (c' : Nat), CutS w a d a2 d2 L M W → (b = w.heap.size ∧ x = a ∧ y = d ∧ N = L ∨ b = w.heap.size + 1 ∧ x = a2 ∧ y = d2 ∧ N = M) → shortL N = N → N.length ≤ 100 → Box W b u0 u1 u2 → AtF (w.heap.size + 2) W p' N → N.length ≤ c' →
        CutS w a d a2 d2 L M (put3 W b (.bool x) (.bool y) (.slice p' N.length c')) := by
      intro W b u0 u1 u2 x y N p' c' hS hb hN hlen hbx hat hcc
      have hbut := but_put3 W b (.bool x) (.bool y) (.slice p' N.length c')
      have hb1 : w.heap.size ≤ b := by omega
      have hb2 : b < w.heap.size + 2 := by omega
      have hnew : CutAs w.heap.size x y N (.bool x) (.bool y) (.slice p' N.length c') (put3 W b (.bool x) (.bool y) (.slice p' N.length c')) := ⟨p', c', N, rfl, rfl, rfl, .fresh (hat.but hbut hb2), hcc, by omega, hN⟩
      obtain ⟨v0, v1, v2, h1, h2⟩ := hS.fst
      obtain ⟨y0, y1, y2, h3, h4⟩ := hS.snd
      refine ⟨below_but hS.on hbut hb1, by rw [hbut.size]; exact hS.size, ?_, ?_⟩
      · rcases hb with ⟨rfl, rfl, rfl, rfl⟩ | ⟨rfl, rfl, rfl, rfl⟩
        · exact ⟨_, _, _, hbx.put _ _ _, hnew⟩
        · exact ⟨v0, v1, v2, h1.but hbut (by omega), h2.but hbut hb1 hb2⟩
      · rcases hb with ⟨rfl, rfl, rfl, rfl⟩ | ⟨rfl, rfl, rfl, rfl⟩
        · exact ⟨y0, y1, y2, h3.but hbut (by omega), h4.but hbut hb1 hb2⟩
        · exact ⟨_, _, _, hbx.put _ _ _, hnew⟩
    refine ⟨fun ρ W hr hS hs => ?_, fun ρ W hr hS hs => ?_, fun ρ W hr hS hs => ?_, fun ρ W hr hS hs => ?_, fun ρ W hr hS hs => ?_, fun ρ W hr hS hs => ?_, trivial⟩
    · obtain ⟨v0, v1, v2, hx, hv⟩ := hS.fst
      exact step_plain rfl (leaves_load (.tmp 2) rfl hs.1 hx ⟨⟨v0, v1, v2, rfl, hv⟩, hS, Below.refl _ _⟩)
    · obtain ⟨⟨v0, v1, v2, h5, p', c', l', rfl, rfl, rfl, hat, hcc, hll, hsh⟩, _⟩ := hs
      refine step_plain rfl (leaves_call1 en_short hr (.tmp 5) _ rfl h5 ?_)
      refine (short_any a d p' c' l' W hcc hll hat.at).mono ?_
      rintro e W' ⟨hb, p'', c'', rfl, hat', hcc'⟩
      rw [hsh] at hat' hcc' ⊢
      exact ⟨_, rfl, ⟨p'', c'', rfl, hat'.less hS.size, hcc'⟩, hS.grow hb, hb⟩
    · obtain ⟨v0, v1, v2, hx, hv⟩ := hS.snd
      exact step_plain rfl (leaves_load (.tmp 3) rfl hs.1 hx ⟨⟨v0, v1, v2, rfl, hv⟩, hS, Below.refl _ _⟩)
    · obtain ⟨⟨v0, v1, v2, h5, p', c', l', rfl, rfl, rfl, hat, hcc, hll, hsh⟩, _⟩ := hs
      refine step_plain rfl (leaves_call1 en_short hr (.tmp 7) _ rfl h5 ?_)
      refine (short_any a2 d2 p' c' l' W hcc hll hat.at).mono ?_
      rintro e W' ⟨hb, p'', c'', rfl, hat', hcc'⟩
      rw [hsh] at hat' hcc' ⊢
      exact ⟨_, rfl, ⟨p'', c'', rfl, hat'.less hS.size, hcc'⟩, hS.grow hb, hb⟩
    · obtain ⟨h3, ⟨p', c', h12, hat, hcc⟩, _⟩ := hs
      obtain ⟨v0, v1, v2, hx, _⟩ := hS.fst
      have hbut := but_put3 W w.heap.size (.bool a) (.bool d) (.slice p' L.length c')
      exact step_plain rfl (leaves_store (.tmp 2) (.tmp 6) rfl h3 h12 hx ⟨⟨p', c', hx.put _ _ _, hat.but hbut (by omega), hcc⟩, put W _ _ _ _ _ _ _ p' c' hS (.inl ⟨rfl, rfl, rfl, rfl⟩) eL hL100 hx hat hcc, hbut⟩)
    · obtain ⟨h3, ⟨p', c', h12, hat, hcc⟩, _⟩ := hs
      obtain ⟨v0, v1, v2, hx, _⟩ := hS.snd
      have hbut := but_put3 W (w.heap.size + 1) (.bool a2) (.bool d2) (.slice p' M.length c')
      exact step_plain rfl (leaves_store (.tmp 3) (.tmp 8) rfl h3 h12 hx ⟨⟨p', c', hx.put _ _ _, hat.but hbut (by omega), hcc⟩, put W _ _ _ _ _ _ _ p' c' hS (.inr ⟨rfl, rfl, rfl, rfl⟩) eM hM100 hx hat hcc, hbut⟩)
  case en =>
    intro W hS v0 h0 v1 h1 v2 h2 v3 h3 h4 h5
    obtain ⟨p1, c1, hbx1, hat1, hcc1⟩ := h4 rfl
    obtain ⟨q1, k1, hbx2, hat2, hcc2⟩ := h5 rfl
    have hLw : Law2 w w.heap.size (w.heap.size + 1) a d p1 c1 L a2 d2 q1 k1 M W := ⟨hS.on, hbx1, hat1.at, hbx2, hat2.at⟩
    clear h0 h1 h2 h3 h4 h5 hS hbx1 hbx2 hat1 hat2 hS0 eL eM
    simp only [ends, Act.put, List.setIfInBounds_toArray, List.set_cons_succ, List.set_cons_zero]
    have HJ : Hid (∀ p q c c' W, At W p L → At W q M → Calls Try.prog 22 #[.agg #[.bool a, .bool d, .slice p L.length c], .agg #[.bool a2, .bool d2, .slice q M.length c']] W (RetPa W (joinA a L a2) (joinD a d L a2 d2 M) (joinP a L a2 M))) := fun p q c c' W hp hq => join_any a d p c L a2 d2 q c' M W (by omega) (by omega) hp hq
    have HR : Hid (∀ W, At W p1 L → At W q1 M → Calls Try.prog 23 #[.agg #[.bool a, .bool d, .slice p1 L.length c1], .agg #[.bool a2, .bool d2, .slice q1 M.length k1]] W (RetJo W (joinA a L a2) (joinD a d L a2 d2 M) (joinP a L a2 M))) := fun W hp hq => refJoin_any a d p1 c1 L a2 d2 q1 k1 M W (by omega) (by omega) hcc2 hp hq
    have hJl := joinP_len a L a2 M hL100 hM100
    generalize joinA a L a2 = A at *
    generalize joinD a d L a2 d2 M = D at *
    generalize joinP a L a2 M = N at *
    go_wp2
    refine wp_region_left (S := Law2 w w.heap.size (w.heap.size + 1) a d p1 c1 L a2 d2 q1 k1 M) (Keep := KeepK [])
      (g := fun i v W => ([.is (.agg #[.bool a, .bool d, .slice p1 L.length c1]), .pa a d L, .is (.agg #[.bool a2, .bool d2, .slice q1 M.length k1]), .pa a2 d2 M, .pa A D N, .is (.agg #[.bool a, .bool d, .slice p1 L.length c1]), .is (.agg #[.bool a2, .bool d2, .slice q1 M.length k1]), .pa A D N,
        .is (.bool true), .is (.bool true), .is (.bool true), .is (.bool true), .is (.bool true)].getD i Kd.any).ok 0 v W)
      (tab := [[(2, none)], [(9, some 0)], [(3, none)], [(11, some 2)], [(10, some 1), (12, some 3)], [(2, none)], [(3, none)], [(14, some 5), (15, some 6)], [(13, some 4), (16, some 7)], [(17, some 8)], [(18, some 9)], [(18, some 9), (19, some 10)], [(20, some 11)]]) (tl := []) (n := 21)
      (by kernel_rfl) rfl (by kernel_rfl) keep_none (hLw.grow (on_drew (Below.refl _ _))) ?st ?en
    case st =>
      refine ⟨fun ρ W hr hS hs => ?_, fun ρ W hr hS hs => ?_, fun ρ W hr hS hs => ?_, fun ρ W hr hS hs => ?_, fun ρ W hr hS hs => ?_, fun ρ W hr hS hs => ?_, fun ρ W hr hS hs => ?_, fun ρ W hr hS hs => ?_, fun ρ W hr hS hs => ?_, fun ρ W hr hS hs => ?_, fun ρ W hr hS hs => ?_, fun ρ W hr hS hs => ?_, fun ρ W hr hS hs => ?_, trivial⟩
      · exact step_plain rfl (leaves_load (.tmp 2) rfl hs.1 hS.box ⟨rfl, hS, Below.refl _ _⟩)
      · exact step_plain rfl (own_leaves hr (.tmp 9) rfl hs.1 (by omega) hS.at_ (Nat.zero_le _) hS (fun _ h hb => h.grow hb) (fun v W' h1 h2 h3 => ⟨h1, h2, h3⟩))
      · exact step_plain rfl (leaves_load (.tmp 3) rfl hs.1 hS.box2 ⟨rfl, hS, Below.refl _ _⟩)
      · exact step_plain rfl (own_leaves hr (.tmp 11) rfl hs.1 (by omega) hS.at2 (Nat.zero_le _) hS (fun _ h hb => h.grow hb) (fun v W' h1 h2 h3 => ⟨h1, h2, h3⟩))
      · obtain ⟨⟨p', c', h10, hat, _⟩, ⟨q', d', h12, hat2, _⟩, _⟩ := hs
        refine step_plain rfl (leaves_call2 en_join hr (.tmp 10) (.tmp 12) _ _ rfl h10 h12 ?_)
        refine (HJ.out p' q' c' d' W hat.at hat2.at).mono ?_
        rintro e W' ⟨hb, p'', c'', rfl, hat', hcc'⟩
        exact ⟨_, rfl, ⟨p'', c'', rfl, hat'.less (Nat.zero_le _), hcc'⟩, hS.grow hb, hb⟩
      · exact step_plain rfl (leaves_load (.tmp 2) rfl hs.1 hS.box ⟨rfl, hS, Below.refl _ _⟩)
      · exact step_plain rfl (leaves_load (.tmp 3) rfl hs.1 hS.box2 ⟨rfl, hS, Below.refl _ _⟩)
      · obtain ⟨h14, h15, _⟩ := hs
        refine step_plain rfl (leaves_call2 en_rjoin hr (.tmp 14) (.tmp 15) _ _ rfl h14 h15 ?_)
        refine (HR.out W hS.at_ hS.at2).mono ?_
        rintro e W' ⟨hb, p'', c'', rfl, hat', hcc'⟩
        exact ⟨_, rfl, ⟨p'', c'', rfl, .of hat', hcc'⟩, hS.grow hb, hb⟩
      · obtain ⟨⟨p', c', h13, hat, _⟩, ⟨q', d', h16, hat2, _⟩, _⟩ := hs
        refine step_plain rfl (leaves_call2 en_same hr (.tmp 13) (.tmp 16) _ _ rfl h13 h16 ?_)
        refine (same_any A D p' q' c' d' N W (by omega) hat.at hat2.at).mono ?_
        rintro e W' ⟨rfl, hb⟩
        exact ⟨_, rfl, rfl, hS.grow hb, hb⟩
      · exact step_plain rfl (leaves_move (.tmp 17) rfl ⟨hs.1, hS, Below.refl _ _⟩)
      · refine step_want rfl rfl hs.1 (leaves_call0 en_lives hr rfl ?_)
        refine (lives_any W).mono ?_
        rintro e W' ⟨rfl, hb⟩
        exact ⟨_, rfl, rfl, hS.grow hb, hb⟩
      · exact step_plain rfl (leaves_pick (.tmp 18) (.tmp 19) _ rfl true hs.1 ⟨hs.2.1, hS, Below.refl _ _⟩)
      · exact step_plain rfl (leaves_assign (.tmp 20) rfl ⟨hs.1, hS, Below.refl _ _⟩)
    case en =>
      intro W hS v0 h0 v1 h1 v2 h2 v3 h3 v4 h4 v5 h5 v6 h6 v7 h7 v8 h8 v9 h9 v10 h10 v11 h11 v12 h12
      obtain rfl : v12 = .bool true := h12 rfl
      clear h0 h1 h2 h3 h4 h5 h6 h7 h8 h9 h10 h11 h12
      simp only [ends, Act.put, List.setIfInBounds_toArray, List.set_cons_succ, List.set_cons_zero]
      go_wp2
      go_ret
      exact ⟨rfl, hS.on⟩

end Go.Proofs.Ytidcfbjefemhdaa
