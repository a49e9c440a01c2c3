/- What the reference's Plain answers. -/
import Derived.Test.YtidcfbjefemhdaaPPlainW
import Derived.Test.YtidcfbjefemhdaaPCut
namespace Go.Proofs.Ytidcfbjefemhdaa
open Go Go.RowKit

theorem plain_snoc {l : List ByteArray} {k : Nat} (h : k < l.length) (hx : isDotB (l.getD k ByteArray.empty) = false) : plainL (l.take (k + 1)) = plainL (l.take k) ++ [l.getD k ByteArray.empty] := by
  unfold plainL
  rw [List.take_add_one, List.filter_append]
  simp only [List.getD, List.getElem?_eq_getElem h, Option.toList_some, Option.getD_some] at hx ⊢
  simp [hx]
theorem plain_skip {l : List ByteArray} {k : Nat} (h : k < l.length) (hx : isDotB (l.getD k ByteArray.empty) = true) : plainL (l.take (k + 1)) = plainL (l.take k) := by
  unfold plainL
  rw [List.take_add_one, List.filter_append]
  simp only [List.getD, List.getElem?_eq_getElem h, Option.toList_some, Option.getD_some] at hx ⊢
  simp [hx]
theorem plain_len (l : List ByteArray) (k : Nat) : (plainL (l.take k)).length ≤ l.length := by
  have := List.length_filter_le (fun x => !isDotB x) (l.take k)
  have h2 : (l.take k).length ≤ l.length := by simp; omega
  exact Nat.le_trans this h2

/-- Whether a / stands behind, behind k parts. -/
def dirAt (d : Bool) (l : List ByteArray) (k : Nat) : Bool := d || (decide (0 < l.length ∧ k = l.length) && lastDot l)
theorem dir_zero (d : Bool) (l : List ByteArray) : dirAt d l 0 = d := by
  unfold dirAt
  rw [decide_eq_false (by omega)]; simp
theorem dir_early {d : Bool} {l : List ByteArray} {k : Nat} (h : k + 1 < l.length) : dirAt d l (k + 1) = dirAt d l k := by
  unfold dirAt
  rw [decide_eq_false (by omega), decide_eq_false (by omega)]
theorem dir_early2 {d : Bool} {l : List ByteArray} {k : Nat} (h : k < l.length) (hx : isDotB (l.getD k ByteArray.empty) = false) : dirAt d l (k + 1) = dirAt d l k := by
  by_cases e : k + 1 = l.length
  · unfold dirAt lastDot
    rw [show l.length - 1 = k by omega, hx]; simp
  · exact dir_early (by omega)
theorem dir_last {d : Bool} {l : List ByteArray} {k : Nat} (h : k + 1 = l.length) (hx : isDotB (l.getD k ByteArray.empty) = true) : dirAt d l (k + 1) = true := by
  unfold dirAt lastDot
  rw [show l.length - 1 = k by omega, hx, decide_eq_true (by omega)]; simp
theorem dir_end (d : Bool) (l : List ByteArray) : (dirAt d l l.length && decide (0 < (plainL l).length)) = plainD d l := by
  unfold plainD
  by_cases h : 0 < (plainL l).length
  · have : 0 < l.length := Nat.lt_of_lt_of_le h (List.length_filter_le _ _)
    unfold dirAt
    rw [decide_eq_true h, decide_eq_true (show 0 < l.length ∧ l.length = l.length from ⟨this, rfl⟩)]
    simp
  · rw [decide_eq_false h]; simp

theorem rowS_at {hi b : Nat} {E : World → Prop} {w0 w W : World} {f : Bool} {p : Option Addr} {l : List ByteArray} (h : rowS hi b E w f W) (h0 : Below w0.heap.size w0 w) (hat : At w0 p l) (h1 : w0.heap.size ≤ b) (h2 : w0.heap.size ≤ hi) : At W p l := by
  cases f
  · exact hat.on (h0.trans ((show Apart hi b w W ∧ E W from h).1.base h1 h2))
  · exact hat.on (h0.trans ((show Below w.heap.size w W from h).mono h0.size))

def rplG (H : Nat) (ks : List Value) (last : Value) (a : Bool) (x : Value) (i : Nat) (v : Value) (W : World) : Prop :=
  if i = 6 then ∃ b, x = .pointer (some ⟨b, 0, none⟩) ∧ H ≤ b ∧ Box W b (.bool a) (.bool false) (.slice none 0 0) else if i = 7 then v = last else match ks[i]? with | some u => v = u | none => True

/-- The loop's state in memory. -/
structure PlMem (w : World) (a d : Bool) (p : Option Addr) (cap : Nat) (l : List ByteArray) (bq : Nat) (v : Value) (ps : List ByteArray) (W : World) : Prop where
  arg : Box W w.heap.size (.bool a) (.bool d) (.slice p l.length cap)
  res : Box W (w.heap.size + 1) (.bool false) (.bool false) (.slice none 0 0)
  box : Box W bq (.bool a) (.bool false) v
  own : OwnL (bq + 1) W v ps
  on : Below w.heap.size w W
  far : w.heap.size + 2 ≤ bq

set_option maxRecDepth 100000 in
set_option maxHeartbeats 8000000 in
theorem refPlain_any (a d : Bool) (p : Option Addr) (cap : Nat) (l : List ByteArray) (w : World) (hl : l.length ≤ 9000) (h : At w p l) :
    Calls Try.prog 21 #[.agg #[.bool a, .bool d, .slice p l.length cap]] w (RetPa w a (plainD d l) (plainL l)) := by
  have hX := (Box.new w (.bool a) (.bool d) (.slice p l.length cap)).alloc (.cells #[.bool false, .bool false, .slice none 0 0] 24)
  have hY := Box.new (w.alloc (.cells #[.bool a, .bool d, .slice p l.length cap] 24)) (.bool false) (.bool false) (.slice none 0 0)
  have hB := on_trans (on_alloc w (.cells #[.bool a, .bool d, .slice p l.length cap] 24)) (on_alloc _ (.cells #[.bool false, .bool false, .slice none 0 0] 24))
  have hsz : ((w.alloc (.cells #[.bool a, .bool d, .slice p l.length cap] 24)).alloc (.cells #[.bool false, .bool false, .slice none 0 0] 24)).heap.size = w.heap.size + 2 := by simp
  rw [World.size_alloc] at hY
  have HSZ : Hid (_ = w.heap.size + 2) := hsz
  clear hsz
  go_enter Try.func21, Try.ntmps21
  go_wp2
  generalize (w.alloc (.cells #[.bool a, .bool d, .slice p l.length cap] 24)).alloc (.cells #[.bool false, .bool false, .slice none 0 0] 24) = w0 at *
  have hS0 : ∀ x, madeS (w.heap.size + 2) w0 true x w0.drew := fun x => ⟨by rw [← HSZ.out]; exact on_drew (Below.refl _ _), fun e => by cases e⟩
  refine wp_region_four (S := madeS (w.heap.size + 2) w0) (u := 5) (tu := 3) (Keep := fun i w1 w2 => i = 6 ∨ Below w1.heap.size w1 w2)
    (g := rplG (w.heap.size + 2) [.pointer (some ⟨w.heap.size, 0, none⟩), .bool a, .agg #[.bool a, .bool false, .slice none 0 0], .pointer (some ⟨w.heap.size, 1, none⟩), .bool d] (.bool d) a)
    (tab := [[(1, none)], [(6, some 0)], [(7, some 1)], [(1, none)], [(9, some 3)], [], [(3, some 5), (8, some 2)], [(10, some 4)]]) (tl := []) (n := 49)
    (by kernel_rfl) rfl (by kernel_rfl) (by kernel_rfl) ?hx ?hK (hS0 _) ?st ?en
  case hx =>
    intro j x x' v W hed hne hg
    unfold rplG at hg ⊢
    by_cases h6 : j = 6
    · subst h6; exact absurd hed (by decide +kernel)
    · rw [if_neg h6] at hg ⊢; exact hg
  case hK =>
    intro x i j v w1 w2 hk hne hed _ ht hg
    unfold rplG at hg ⊢
    by_cases h6 : i = 6
    · subst h6
      rw [if_neg hne] at hg ⊢
      exact hg
    have hb : Below w1.heap.size w1 w2 := by
      rcases hk with e | e
      · exact absurd e h6
      · exact e
    by_cases e6 : j = 6
    · rw [if_pos e6] at hg ⊢
      obtain ⟨b, h1, h2, h3⟩ := hg
      exact ⟨b, h1, h2, h3.on hb⟩
    rw [if_neg e6] at hg ⊢
    exact hg
  case st =>
    have hH : ∀ f x W, madeS (w.heap.size + 2) w0 f x W → w.heap.size + 2 ≤ W.heap.size := fun f x W hS => by have := hS.1.size; have := HSZ.out; omega
    refine ⟨fun ρ W f hf hf2 hr hS hs => ?_, fun ρ W f hf hf2 hr hS hs => ?_, fun ρ W f hf hf2 hr hS hs => ?_, fun ρ W f hf hf2 hr hS hs => ?_, fun ρ W f hf hf2 hr hS hs => ?_, fun ρ W f hf hf2 hr hS hs => ?_, fun ρ W f hf hf2 hr hS hs => ?_, fun ρ W f hf hf2 hr hS hs => ?_, trivial⟩
    · exact step4_plain rfl (by decide) (leaves_field (.tmp 1) rfl (by decide) hs.1 ⟨rfl, by cases f <;> exact hS, .inr (Below.refl _ _)⟩)
    · exact step4_plain rfl (by decide) (leaves_loadB (.tmp 6) rfl hs.1 (hX.below hS.1 (by omega)).fst ⟨rfl, by cases f <;> exact hS, .inr (Below.refl _ _)⟩)
    · have h7 : ρ (.tmp 7) = .bool a := hs.1
      refine step4_plain rfl (by decide) (leaves_value (v := .agg #[.bool a, .bool false, .slice none 0 0]) (w' := W) ?_ ⟨rfl, by cases f <;> exact hS, .inr (Below.refl _ _)⟩)
      simp [go_sem, h7]
    · exact step4_plain rfl (by decide) (leaves_field (.tmp 1) rfl (by decide) hs.1 ⟨rfl, by cases f <;> exact hS, .inr (Below.refl _ _)⟩)
    · exact step4_plain rfl (by decide) (leaves_loadB (.tmp 9) rfl hs.1 (hX.below hS.1 (by omega)).snd ⟨rfl, by cases f <;> exact hS, .inr (Below.refl _ _)⟩)
    · have hb := on_alloc W (.cells #[.bool false, .bool false, .slice none 0 0] 24)
      refine step4_made rfl (leaves_value (v := .pointer (some ⟨W.heap.size, 0, none⟩)) (w' := W.alloc (.cells #[.bool false, .bool false, .slice none 0 0] 24)) ?_ ⟨trivial, ⟨hS.1.trans (hb.mono (hH _ _ _ hS)), fun _ => ⟨_, rfl, hH _ _ _ hS, _, _, _, _, _, Box.new W _ _ _⟩⟩, .inr hb⟩)
      simp [go_sem]
    · obtain rfl : f = false := hf2 (by kernel_rfl)
      obtain ⟨_, h8, _⟩ := hs
      obtain ⟨b, hx, hHb, x0, x1, q, n, c, hbx⟩ := hS.2 rfl
      have hbut := but_put3 W b (.bool a) (.bool false) (.slice none 0 0)
      exact step4_plain rfl (by decide) (leaves_store (.tmp 3) (.tmp 8) rfl hx h8 hbx ⟨⟨b, hx, hHb, hbx.put _ _ _⟩, ⟨below_but hS.1 hbut hHb, fun _ => ⟨b, hx, hHb, _, _, _, _, _, hbx.put _ _ _⟩⟩, .inl rfl⟩)
    · exact step4_plain rfl (by decide) (leaves_assign (.tmp 10) rfl ⟨hs.1, by cases f <;> exact hS, .inr (Below.refl _ _)⟩)
  case en =>
    intro x f W hf hS v0 h0 v1 h1 v2 h2 v3 h3 v4 h4 v5 h5 h6 v7 h7 hxe
    obtain ⟨bq, rfl, hHb, hbx⟩ := h6 rfl
    have hv5 : v5 = .pointer (some ⟨bq, 0, none⟩) := by simpa [Act.put, Act.eval] using hxe
    subst hv5
    obtain rfl : v7 = .bool d := h7 rfl
    have HM0 : Hid (PlMem w a d p cap l bq (.slice none 0 0) [] W) := ⟨hX.below hS.1 (by omega), hY.below hS.1 (by omega), hbx, ownL_nil _ _, hB.trans (hS.1.mono (by omega)), hHb⟩
    have HA : Hid (At w p l) := h
    clear h0 h1 h2 h3 h4 h5 h6 h7 hxe hS hX hY hB hbx h hS0 HSZ hHb hf
    simp only [Act.put, List.setIfInBounds_toArray, List.set_cons_succ, List.set_cons_zero]
    go_wp2
    go_loopw [4, 5] (fun sd si wr => ∃ (k : Nat) (v : Value), si = .int .i64 k ∧ k ≤ l.length ∧ sd = .bool (dirAt d l k) ∧ Hid (PlMem w a d p cap l bq v (plainL (l.take k)) wr)) (fun _ i _ => l.length - (intOf i).toNat)
    case atStart => exact ⟨0, _, rfl, Nat.zero_le _, by rw [dir_zero], HM0⟩
    case round =>
      obtain ⟨k, v, rfl, hk, rfl, HM⟩ := hrel
      clear HM0
      have x2 := HM.out.arg.thd
      by_cases hlt : k < l.length
      · have hltz : (k : Int) < (l.length : Int) := by omega
        have hat := HA.out.on HM.out.on
        obtain ⟨bp, off, hp, hbp, hcell⟩ := HA.out.resolve_left (fun e => by rw [e] at hlt; simp at hlt)
        subst hp
        have hck : wr.cell? ⟨bp, off + k, none⟩ = some (.string (l.getD k ByteArray.empty)) := (HM.out.on.cell (p := ⟨bp, off + k, none⟩) hbp).trans (hcell k hlt)
        clear hat
        have HCK : Hid (w.cell? ⟨bp, off + k, none⟩ = some (.string (l.getD k ByteArray.empty))) := hcell k hlt
        clear hcell
        cases hdot : isDotB (l.getD k ByteArray.empty) with
        | false =>
          have HPS : Hid (plainL (l.take (k + 1)) = plainL (l.take k) ++ [l.getD k ByteArray.empty]) := plain_snoc hlt hdot
          have HDI : Hid (dirAt d l (k + 1) = dirAt d l k) := dir_early2 hlt hdot
          have hq : ((l.getD k ByteArray.empty).toList == [46]) = false := hdot
          have hq2 : ((l.getD k ByteArray.empty).toList != [46]) = true := by show (!((l.getD k ByteArray.empty).toList == [46])) = true; rw [hq]; rfl
          have hpl := plain_len l k
          clear hdot
          generalize hgx : l.getD k ByteArray.empty = x at *
          clear hgx
          obtain ⟨ps, hps⟩ : ∃ ps, plainL (l.take k) = ps := ⟨_, rfl⟩
          rw [hps] at HM hpl HPS
          have HPK : Hid (plainL (l.take k) = ps) := hps
          clear hps
          go_wp2
          have hl1 := HM.out.box.lt
          have hfar := HM.out.far
          refine wp_region_three (S := rowS (bq + 1) bq (fun W => ∃ u, Box W bq (.bool a) (.bool false) u) wr) (u := 8) (Keep := rowKeep (bq + 1) bq 8 10)
            (g := rowG (bq + 1) [.pointer (some ⟨bq, 2, none⟩), v, .pointer (some ⟨w.heap.size, 2, none⟩), .slice (some ⟨bp, off, none⟩) l.length cap, .int .i64 k, .pointer (some ⟨bp, off + k, none⟩), .string x, undef, undef, .pointer (some ⟨bq, 2, none⟩)] 7 8 10 x (ps ++ [x]) (fun W => ∃ u, Box W bq (.bool a) (.bool false) u ∧ OwnL (bq + 1) W u (ps ++ [x])))
            (tab := [[(3, none)], [(24, some 0)], [(1, none)], [(26, some 2)], [(5, none)], [(27, some 3), (28, some 4)], [(29, some 5)], [(30, some 6)], [(25, some 1), (31, some 7)], [(3, none)], [(33, some 9), (32, some 8)]]) (tl := [(7, 8)]) (n := 49)
            (by kernel_rfl) rfl (by kernel_rfl) (rowG_keep (by omega) (by decide +kernel) (fun w1 w2 h hb => by obtain ⟨u, h1, h2⟩ := h; exact ⟨u, h1.on hb, ownL_on h2 hb⟩)) (on_drew (Below.refl _ _)) ?st ?en
          case st =>
            refine ⟨fun ρ W fl hf1 hf2 hr hS hs => ?_, fun ρ W fl hf1 hf2 hr hS hs => ?_, fun ρ W fl hf1 hf2 hr hS hs => ?_, fun ρ W fl hf1 hf2 hr hS hs => ?_, fun ρ W fl hf1 hf2 hr hS hs => ?_, fun ρ W fl hf1 hf2 hr hS hs => ?_, fun ρ W fl hf1 hf2 hr hS hs => ?_, fun ρ W fl hf1 hf2 hr hS hs => ?_, fun ρ W fl hf1 hf2 hr hS hs => ?_, fun ρ W fl hf1 hf2 hr hS hs => ?_, fun ρ W fl hf1 hf2 hr hS hs => ?_, trivial⟩
            · exact step_plain rfl (leaves_field (.tmp 3) rfl (by decide) hs.1 ⟨rfl, by cases fl <;> exact hS, Below.refl _ _⟩)
            · obtain rfl : fl = true := hf1 (by kernel_rfl)
              have hS' : Below wr.heap.size wr W := hS
              exact step_plain rfl (leaves_loadS (.tmp 24) rfl hs.1 (HM.out.box.on hS').thd ⟨rfl, hS, Below.refl _ _⟩)
            · exact step_plain rfl (leaves_field (.tmp 1) rfl (by decide) hs.1 ⟨rfl, by cases fl <;> exact hS, Below.refl _ _⟩)
            · exact step_plain rfl (leaves_loadS (.tmp 26) rfl hs.1 (rowS_box hS HM.out.arg (by omega) (by omega)).thd ⟨rfl, by cases fl <;> exact hS, Below.refl _ _⟩)
            · exact step_plain rfl (leaves_move (.tmp 5) rfl ⟨hs.1, by cases fl <;> exact hS, Below.refl _ _⟩)
            · obtain ⟨h27, h28, _⟩ := hs
              have h27' : ρ (.tmp 27) = .slice (some ⟨bp, off, none⟩) l.length cap := h27
              have h28' : ρ (.tmp 28) = .int .i64 k := h28
              refine step_plain rfl (leaves_value (v := .pointer (some ⟨bp, off + k, none⟩)) (w' := W) ?_ ⟨rfl, by cases fl <;> exact hS, Below.refl _ _⟩)
              simp [go_sem, h27', h28', hltz]
            · have h29 : ρ (.tmp 29) = .pointer (some ⟨bp, off + k, none⟩) := hs.1
              have hb : Below w.heap.size w W := by
                cases fl
                · exact HM.out.on.trans ((show Apart (bq + 1) bq wr W ∧ _ from hS).1.base (by omega) (by omega))
                · exact HM.out.on.trans ((show Below wr.heap.size wr W from hS).mono HM.out.on.size)
              have hcW : W.cell? ⟨bp, off + k, none⟩ = some (.string x) := (hb.cell (p := ⟨bp, off + k, none⟩) hbp).trans HCK.out
              refine step_plain rfl (leaves_value (v := .string x) (w' := W) ?_ ⟨rfl, by cases fl <;> exact hS, Below.refl _ _⟩)
              simp [go_sem, h29, hcW]
            · obtain rfl : fl = true := hf1 (by kernel_rfl)
              have hS' : Below wr.heap.size wr W := hS
              have h12 : ρ (.tmp 30) = .string x := hs.1
              have hb := on_alloc W (.cells #[.string x] 9)
              refine step_plain rfl (leaves_value (v := .slice (some ⟨W.heap.size, 0, none⟩) 1 1) (w' := W.alloc (.cells #[.string x] 9)) ?_ ⟨⟨_, rfl, at_row1 W _⟩, on_trans hS' hb, hb⟩)
              simp [go_sem, h12]
            · obtain rfl : fl = true := hf1 (by kernel_rfl)
              have hS' : Below wr.heap.size wr W := hS
              obtain ⟨h8, ⟨aa, h13, hat⟩, _⟩ := hs
              have h8' : ρ (.tmp 25) = v := h8
              obtain ⟨v', W', hrun, hown, hB⟩ := append_own (bq + 1) v ps aa 1 [x] W (by omega) (by simp) (ownL_on HM.out.own hS') hat (Nat.le_trans hl1 hS'.size)
              refine step_plain rfl (leaves_append (v := v') (w' := W') (.tmp 25) (.tmp 31) 22 rfl ?_ ⟨hown, ⟨Apart.of ((hS'.mono hl1).trans hB), _, HM.out.box.below ((hS'.mono hl1).trans hB) (by omega)⟩, hB⟩)
              rw [h8', h13]; exact hrun
            · exact step_plain rfl (leaves_field (.tmp 3) rfl (by decide) hs.1 ⟨rfl, by cases fl <;> exact hS, Below.refl _ _⟩)
            · obtain rfl : fl = false := hf2 (by kernel_rfl)
              obtain ⟨hS', u, hu⟩ : Apart (bq + 1) bq wr W ∧ ∃ u, Box W bq (.bool a) (.bool false) u := hS
              obtain ⟨h2, hown, _⟩ := hs
              have h2' : ρ (.tmp 33) = .pointer (some ⟨bq, 2, none⟩) := h2
              have hc2 := hu.thd
              have hfr := hu.free 2
              have hown' : OwnL (bq + 1) W (ρ (.tmp 32)) (ps ++ [x]) := hown
              have hbut := but_set W bq 2 (ρ (.tmp 32))
              have hown2 := ownL_but hown' hbut (by omega)
              obtain ⟨pp, cc, hv, _⟩ := ownL_at hown'
              refine step_plain rfl (leaves_skip (w' := W.setCell ⟨bq, 2, none⟩ (ρ (.tmp 32))) ?_ ⟨⟨_, hu.put2 _, hown2⟩, ⟨hS'.but hbut, _, hu.put2 _⟩, hbut⟩)
              rw [hv]
              simp [go_sem, h2', hc2, hfr, hv]
          case en =>
            intro fl W hfl hS v0 h0 v1 h1 v2 h2 v3 h3 v4 h4 v5 h5 v6 h6 v7 h7 v8 h8 v9 h9 h10
            obtain rfl : fl = false := hfl (by decide)
            clear hfl
            have hS' : Apart (bq + 1) bq wr W := (show Apart (bq + 1) bq wr W ∧ _ from hS).1
            obtain ⟨u, hbx, hown⟩ := h10 rfl
            have HM2 : Hid (PlMem w a d (some ⟨bp, off, none⟩) cap l bq u (plainL (l.take (k + 1))) W) :=
              ⟨hS'.box HM.out.arg (by omega) (by omega), hS'.box HM.out.res (by omega) (by omega), hbx, by rw [HPS.out]; exact hown, HM.out.on.trans (hS'.base (by omega) (by omega)), hfar⟩
            clear h0 h1 h2 h3 h4 h5 h6 h7 h8 h9 h10 hS hS' hbx hown
            simp only [ends, Act.put, List.setIfInBounds_toArray, List.set_cons_succ, List.set_cons_zero]
            go_wp2
            go_roundw
            case rel => exact ⟨k + 1, u, by go_num, by omega, by rw [HDI.out], HM2⟩
            case measure => simp [intOf]; omega
        | true =>
          have HM2 : Hid (PlMem w a d (some ⟨bp, off, none⟩) cap l bq v (plainL (l.take (k + 1))) wr) := by
            show PlMem _ _ _ _ _ _ _ _ _ _
            rw [plain_skip hlt hdot]; exact HM.out
          have hq : ((l.getD k ByteArray.empty).toList == [46]) = true := hdot
          have hq2 : ((l.getD k ByteArray.empty).toList != [46]) = false := by show (!((l.getD k ByteArray.empty).toList == [46])) = false; rw [hq]; rfl
          by_cases hlast : k + 1 = l.length
          · have HDI : Hid (dirAt d l (k + 1) = true) := dir_last hlast hdot
            have hqe : ((k : Int) == (l.length : Int) - 1) = true := by rw [beq_iff_eq]; omega
            clear hdot
            generalize l.getD k ByteArray.empty = x at *
            go_wp2
            go_roundw
            case rel => exact ⟨k + 1, v, by go_num, by omega, by rw [HDI.out], HM2⟩
            case measure => simp [intOf]; omega
          · have HDI : Hid (dirAt d l (k + 1) = dirAt d l k) := dir_early (by omega)
            have hqe : ((k : Int) == (l.length : Int) - 1) = false := by rw [beq_eq_false_iff_ne]; omega
            clear hdot
            generalize l.getD k ByteArray.empty = x at *
            go_wp2
            go_roundw
            case rel => exact ⟨k + 1, v, by go_num, by omega, by rw [HDI.out], HM2⟩
            case measure => simp [intOf]; omega
      · obtain rfl : k = l.length := by omega
        have hltz : ¬ (l.length : Int) < (l.length : Int) := by omega
        have HDE : Hid ((dirAt d l l.length && decide (0 < (plainL l).length)) = plainD d l) := dir_end d l
        rw [List.take_length] at HM
        obtain ⟨p', c', hv, hat, hcc⟩ := ownL_at HM.out.own
        subst hv
        have hfar := HM.out.far
        have q0 := HM.out.box.fst
        have q1 := HM.out.box.snd
        have q2 := HM.out.box.thd
        have k1 := HM.out.box.free 1
        have y0 := HM.out.res.fst
        have y1 := HM.out.res.snd
        have y2 := HM.out.res.thd
        have f0 := HM.out.res.free 0
        have f1 := HM.out.res.free 1
        have f2 := HM.out.res.free 2
        have HE : Hid (∀ (dd : Bool), plainD d l = dd → RetPa w a (plainD d l) (plainL l) (.returned (.agg #[.bool a, .bool dd, .slice p' (plainL l).length c'])) (put3 (wr.setCell ⟨bq, 1, none⟩ (.bool dd)) (w.heap.size + 1) (.bool a) (.bool dd) (.slice p' (plainL l).length c'))) := fun dd hdd => by
          have hb1 := but_set wr bq 1 (.bool dd)
          have hb2 := but_put3 (wr.setCell ⟨bq, 1, none⟩ (.bool dd)) (w.heap.size + 1) (.bool a) (.bool dd) (.slice p' (plainL l).length c')
          rw [hdd]
          exact retPa (below_but (below_but HM.out.on hb1 (by omega)) hb2 (Nat.le_succ _)) (((hat.but hb1 (Nat.lt_succ_self _)).but hb2 (by omega)).less (by omega)) hcc
        have HBX : Hid (∀ (u u0 u1 u2 : Value), Box (put3 (wr.setCell ⟨bq, 1, none⟩ u) (w.heap.size + 1) u0 u1 u2) (w.heap.size + 1) u0 u1 u2) := fun u u0 u1 u2 => (HM.out.res.but (but_set wr bq 1 u) (by omega)).put _ _ _
        unfold put3 at HE HBX
        clear hat HA
        cases hdd : dirAt d l l.length with
        | false =>
          have HP : Hid (plainD d l = false) := by show plainD d l = false; rw [← HDE.out, hdd, Bool.false_and]
          clear HDE hdd
          go_wp2
          exact bodyPost_ret (results_box rfl _ _ rfl (HBX.out _ _ _ _)) rfl (HE.out _ HP.out)
        | true =>
          by_cases hn : 0 < (plainL l).length
          · have hnz : (0 : Int) < ((plainL l).length : Int) := by omega
            have HP : Hid (plainD d l = true) := by show plainD d l = true; rw [← HDE.out, hdd, decide_eq_true hn]; rfl
            clear HDE hdd
            go_wp2
            exact bodyPost_ret (results_box rfl _ _ rfl (HBX.out _ _ _ _)) rfl (HE.out _ HP.out)
          · have hnz : ¬ (0 : Int) < ((plainL l).length : Int) := by omega
            have HP : Hid (plainD d l = false) := by show plainD d l = false; rw [← HDE.out, decide_eq_false hn, Bool.and_false]
            clear HDE hdd
            go_wp2
            exact bodyPost_ret (results_box rfl _ _ rfl (HBX.out _ _ _ _)) rfl (HE.out _ HP.out)

end Go.Proofs.Ytidcfbjefemhdaa
