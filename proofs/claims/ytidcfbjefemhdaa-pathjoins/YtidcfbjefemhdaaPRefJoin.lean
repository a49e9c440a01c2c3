/- What the reference's Join answers. -/
import Derived.Test.YtidcfbjefemhdaaPJoin
namespace Go.Proofs.Ytidcfbjefemhdaa
open Go Go.RowKit

/-- Nothing that lay is turned but one row of texts that is not older than 'H'; more may be laid. -/
structure RowGrow (H : Nat) (w w' : World) : Prop where
  os : w'.os = w.os
  tape : w'.tape = w.tape
  output : w'.output = w.output
  size : w.heap.size ≤ w'.heap.size
  block : ∃ r : Option Nat, (∀ g, r = some g → H ≤ g ∧ ∃ cs fr, w.heap[g]? = some (.cells cs 9 fr)) ∧ ∀ k, k < w.heap.size → r ≠ some k → w'.heap[k]? = w.heap[k]?
theorem RowGrow.below {H B : Nat} {w0 w w' : World} (h : RowGrow H w w') (h0 : Below B w0 w) (hB : B ≤ H) (hs : B ≤ w.heap.size) : Below B w0 w' := by
  obtain ⟨r, h1, h2⟩ := h.block
  refine ⟨h.os.trans h0.os, h.tape.trans h0.tape, h.output.trans h0.output, Nat.le_trans h0.size h.size, fun k hk => (h2 k (by omega) fun e => ?_).trans (h0.block k hk)⟩
  have := (h1 k e).1
  omega
theorem RowGrow.box {H b : Nat} {w w' : World} {v0 v1 v2 : Value} (h : RowGrow H w w') (hb : Box w b v0 v1 v2) : Box w' b v0 v1 v2 := by
  obtain ⟨r, h1, h2⟩ := h.block
  refine ⟨(h2 b hb.lt fun e => ?_).trans hb.row⟩
  obtain ⟨_, cs, fr, h3⟩ := h1 b e
  rw [hb.row] at h3
  simp at h3

theorem append_row (hi : Nat) (v : Value) (s : List ByteArray) (p : Option Addr) (cap : Nat) (l : List ByteArray) (W : World) (hs : s.length ≤ 10000) (hl : l.length ≤ 10000) (hown : OwnL hi W v s) (h : At W p l) (hhi : hi ≤ W.heap.size) :
    ∃ v' W', (Builtin.append_ #[22, 22] 22 #[v, .slice p l.length cap]).run Try.prog W = .ok v' W' ∧ OwnL hi W' v' (s ++ l) ∧ RowGrow hi W W' := by
  cases p with
  | none =>
    obtain rfl : l = [] := by
      rcases h with e | ⟨b, off, e, _⟩
      · exact e
      · cases e
    obtain ⟨i0, hi0, _, _, _⟩ := info_parts infoStr
    refine ⟨v, W, ?_, by rw [List.append_nil]; exact hown, rfl, rfl, rfl, Nat.le_refl _, none, (fun g e => by cases e), fun _ _ _ => rfl⟩
    rcases hown.2 with ⟨rfl, _⟩ | ⟨g, c, cur, rfl, _, _, hnc, _⟩
    · simp [Builtin.append_, run_underlying Try.underlying22, sizeOf, typeInfo, hi0, Builtin.lenOf, Builtin.firstCells]
    · simp [Builtin.append_, run_underlying Try.underlying22, sizeOf, typeInfo, hi0, Builtin.lenOf, Builtin.firstCells, hnc, storeCells]
  | some a =>
    obtain ⟨i0, hi0, hz0, hz1, hz2⟩ := info_parts infoStr
    obtain ⟨v', W', hrun, h1, hg, _⟩ := run_append_own (P := Try.prog) W hi 22 22 9 i0 (.string ⟨#[]⟩) 1 16 Try.underlying22 hi0 hz0 hz1 hz2 rfl (by decide) v s.length _ hown
      a l.length cap (l.map Value.string) (by simp) (at_news h) (fun u hu => by
        obtain ⟨x, _, rfl⟩ := List.mem_map.1 hu
        rfl) (by unfold maxLen; omega) (by omega) hhi
    refine ⟨v', W', hrun, ?_, hg.os, hg.tape, hg.output, hg.size, v.ownBlock, fun g e => ?_, fun k hk hne => hg.block k hk fun e => hne e.symm⟩
    · show W'.ownsRow hi 9 1 v' (s ++ l).length ((s ++ l).map Value.string)
      rw [List.length_append, List.map_append]; exact h1
    · rcases hown.2 with ⟨rfl, _⟩ | ⟨g', c, cur, rfl, hb, hg', _⟩
      · simp [Value.ownBlock] at e
      · simp [Value.ownBlock] at e
        subst e
        exact ⟨hb, cur, _, hg'⟩

/-- A path is returned, wherever its parts lie. -/
def RetJo (w : World) (a d : Bool) (l : List ByteArray) (e : Ending) (w' : World) : Prop := Below w.heap.size w w' ∧ ∃ p c, e = .returned (.agg #[.bool a, .bool d, .slice p l.length c]) ∧ At w' p l ∧ l.length ≤ c
theorem retJo {w W : World} {a d : Bool} {l : List ByteArray} {p : Option Addr} {c : Nat} (hb : Below w.heap.size w W) (hat : At W p l) (hc : l.length ≤ c) : RetJo w a d l (.returned (.agg #[.bool a, .bool d, .slice p l.length c])) W := ⟨hb, p, c, rfl, hat, hc⟩

def rjG (H : Nat) (ks : List Value) (a d : Bool) (l m : List ByteArray) (x : Value) (i : Nat) (v : Value) (W : World) : Prop :=
  if i = 4 then OwnL H W v [] else if i = 7 then OwnL H W v l else if i = 10 then OwnL H W v (l ++ m) else if i = 11 then (Kd.pa a d (l ++ m)).ok H v W else if i = 13 then MadeIs H x a d (l ++ m) W else match ks[i]? with | some u => v = u | none => True

set_option maxRecDepth 100000 in
set_option maxHeartbeats 4000000 in
theorem refJoin_any (a d : Bool) (p : Option Addr) (c : Nat) (l : List ByteArray) (a2 d2 : Bool) (q : Option Addr) (c2 : Nat) (m : List ByteArray) (w : World) (hl : l.length ≤ 1000) (hm : m.length ≤ 1000) (hc2 : m.length ≤ c2) (h : At w p l) (h2 : At w q m) :
    Calls Try.prog 23 #[.agg #[.bool a, .bool d, .slice p l.length c], .agg #[.bool a2, .bool d2, .slice q m.length c2]] w (RetJo w (joinA a l a2) (joinD a d l a2 d2 m) (joinP a l a2 m)) := by
  have hM := jmem_new w a d p c l a2 d2 q c2 m
  have HA : Hid (At w p l) := h
  have HA2 : Hid (At w q m) := h2
  clear h h2
  cases hal : alone a l a2 with
  | true =>
    have e1 : joinA a l a2 = a2 := by unfold joinA; rw [hal]; rfl
    have e2 : joinD a d l a2 d2 m = d2 := by unfold joinD; rw [hal]; rfl
    have e3 : joinP a l a2 m = m := by unfold joinP; rw [hal]; rfl
    rw [e1, e2, e3]
    clear e1 e2 e3
    have hcase : a2 = true ∨ (a2 = false ∧ a = false ∧ l.length = 0) := by
      unfold alone at hal
      cases a2
      · cases a
        · exact .inr ⟨rfl, rfl, by simpa using hal⟩
        · simp at hal
      · exact .inl rfl
    clear hal
    rcases hcase with rfl | ⟨rfl, rfl, hl0⟩
    · skip
      have b4 := Box.new ((w.alloc (.cells #[.bool a, .bool d, .slice p l.length c] 24)).alloc (.cells #[.bool true, .bool d2, .slice q m.length c2] 24)) (.bool true) (.bool d2) (.slice q m.length c2)
      have hB4 := on_trans (on_trans (on_alloc w (.cells #[.bool a, .bool d, .slice p l.length c] 24)) (on_alloc _ (.cells #[.bool true, .bool d2, .slice q m.length c2] 24))) (on_alloc _ (.cells #[.bool true, .bool d2, .slice q m.length c2] 24))
      rw [World.size_alloc, World.size_alloc] at b4
      have HE := retJo (a := true) (d := d2) hB4 (HA2.out.on hB4) hc2
      have HE' : Hid (RetJo w true d2 m _ _) := HE
      have B4 : Hid (Box _ (w.heap.size + 1 + 1) _ _ _) := b4
      clear HE hB4 b4 hM
      go_enter Try.func23, Try.ntmps23
      go_wp2
      exact bodyPost_ret (results_box rfl _ _ rfl B4.out) rfl HE'.out
    · have hlz : ((l.length : Int) == 0) = true := by rw [beq_iff_eq]; omega
      clear hl0
      have b4 := Box.new ((w.alloc (.cells #[.bool false, .bool d, .slice p l.length c] 24)).alloc (.cells #[.bool false, .bool d2, .slice q m.length c2] 24)) (.bool false) (.bool d2) (.slice q m.length c2)
      have hB4 := on_trans (on_trans (on_alloc w (.cells #[.bool false, .bool d, .slice p l.length c] 24)) (on_alloc _ (.cells #[.bool false, .bool d2, .slice q m.length c2] 24))) (on_alloc _ (.cells #[.bool false, .bool d2, .slice q m.length c2] 24))
      rw [World.size_alloc, World.size_alloc] at b4
      have HE := retJo (a := false) (d := d2) hB4 (HA2.out.on hB4) hc2
      have HE' : Hid (RetJo w false d2 m _ _) := HE
      have B4 : Hid (Box _ (w.heap.size + 1 + 1) _ _ _) := b4
      clear HE hB4 b4 hM
      go_enter Try.func23, Try.ntmps23
      go_wp2
      exact bodyPost_ret (results_box rfl _ _ rfl B4.out) rfl HE'.out
  | false =>
    have e1 : joinA a l a2 = a := by unfold joinA; rw [hal]; rfl
    have e2 : joinD a d l a2 d2 m = if m.length = 0 then d else d2 := by unfold joinD; rw [hal]; rfl
    have E2 : Hid (joinD a d l a2 d2 m = if m.length = 0 then d else d2) := e2
    have e3 : joinP a l a2 m = l ++ m := by unfold joinP; rw [hal]; rfl
    rw [e1, e3]
    clear e1 e2 e3
    generalize joinD a d l a2 d2 m = dj at *
    have hcase : a2 = false ∧ (a = true ∨ (a = false ∧ l.length ≠ 0)) := by
      unfold alone at hal
      cases a2
      · cases a
        · exact ⟨rfl, .inr ⟨rfl, by simpa using hal⟩⟩
        · exact ⟨rfl, .inl rfl⟩
      · simp at hal
    clear hal
    obtain ⟨rfl, hcase⟩ := hcase
    rcases hcase with rfl | ⟨rfl, hl0⟩
    · by_cases hl0 : l.length = 0
      · have hlz : ((l.length : Int) == 0) = true := by rw [beq_iff_eq]; omega
        clear hl0
        go_enter Try.func23, Try.ntmps23
        go_wp2
        generalize ((w.alloc (.cells #[.bool true, .bool d, .slice p l.length c] 24)).alloc (.cells #[.bool false, .bool d2, .slice q m.length c2] 24)).alloc (.cells #[.bool false, .bool false, .slice none 0 0] 24) = w0 at *
        have hS0 : ∀ x, madeS (w.heap.size + 3) w0 true x w0.drew := fun x => ⟨by rw [← hM.size]; exact on_drew (Below.refl _ _), fun e => by cases e⟩
        refine wp_region_four (S := madeS (w.heap.size + 3) w0) (u := 12) (tu := 5) (Keep := fun i w1 w2 => i = 7 ∨ i = 10 ∨ i = 13 ∨ Below w1.heap.size w1 w2)
          (g := rjG (w.heap.size + 3) [.pointer (some ⟨w.heap.size, 0, none⟩), .bool true, .pointer (some ⟨w.heap.size + 1, 1, none⟩), .bool d2, undef, .pointer (some ⟨w.heap.size, 2, none⟩), .slice p l.length c, undef, .pointer (some ⟨w.heap.size + 1, 2, none⟩), .slice q m.length c2] true d2 l m)
          (tab := [[(2, none)], [(20, some 0)], [(3, none)], [(22, some 2)], [], [(2, none)], [(25, some 5)], [(24, some 4), (26, some 6)], [(3, none)], [(28, some 8)], [(27, some 7), (29, some 9)], [(21, some 1), (23, some 3), (30, some 10)], [], [(5, some 12), (31, some 11)]]) (tl := [(4, 7), (7, 10), (10, 13), (11, 13)]) (n := 40)
          (by kernel_rfl) rfl (by kernel_rfl) (by kernel_rfl) ?hx ?hK (hS0 _) ?st ?en
        case hx =>
          intro j x x' v W hed hne hg
          unfold rjG at hg ⊢
          by_cases h13 : j = 13
          · subst h13; exact absurd hed (by decide +kernel)
          · rw [if_neg h13] at hg ⊢; exact hg
        case hK =>
          intro x i j v w1 w2 hk hne hed hed2 ht hg
          by_cases h7 : i = 7
          · subst h7
            unfold rjG at hg ⊢
            by_cases e4 : j = 4
            · subst e4; exact absurd rfl (ht 7 rfl).1
            by_cases e10 : j = 10
            · subst e10; exact absurd hed (by decide +kernel)
            by_cases e11 : j = 11
            · subst e11; exact absurd (hed2 10 (by decide +kernel)) (by decide +kernel)
            by_cases e13 : j = 13
            · subst e13; exact absurd hed (by decide +kernel)
            rw [if_neg e4, if_neg hne, if_neg e10, if_neg e11, if_neg e13] at hg ⊢
            exact hg
          by_cases h10 : i = 10
          · subst h10
            unfold rjG at hg ⊢
            by_cases e4 : j = 4
            · subst e4; exact absurd (ht 7 rfl).2 (by decide +kernel)
            by_cases e7 : j = 7
            · subst e7; exact absurd rfl (ht 10 rfl).1
            by_cases e11 : j = 11
            · subst e11; exact absurd hed (by decide +kernel)
            by_cases e13 : j = 13
            · subst e13; exact absurd hed (by decide +kernel)
            rw [if_neg e4, if_neg e7, if_neg hne, if_neg e11, if_neg e13] at hg ⊢
            exact hg
          by_cases h13 : i = 13
          · subst h13
            unfold rjG at hg ⊢
            by_cases e4 : j = 4
            · subst e4; exact absurd (ht 7 rfl).2 (by decide +kernel)
            by_cases e7 : j = 7
            · subst e7; exact absurd (ht 10 rfl).2 (by decide +kernel)
            by_cases e10 : j = 10
            · subst e10; exact absurd rfl (ht 13 rfl).1
            by_cases e11 : j = 11
            · subst e11; exact absurd rfl (ht 13 rfl).1
            rw [if_neg e4, if_neg e7, if_neg e10, if_neg e11, if_neg hne] at hg ⊢
            exact hg
          have hb : Below w1.heap.size w1 w2 := by
            rcases hk with e | e | e | e
            · exact absurd e h7
            · exact absurd e h10
            · exact absurd e h13
            · exact e
          unfold rjG at hg ⊢
          by_cases e4 : j = 4
          · rw [if_pos e4] at hg ⊢; exact ownL_on hg hb
          rw [if_neg e4] at hg ⊢
          by_cases e7 : j = 7
          · rw [if_pos e7] at hg ⊢; exact ownL_on hg hb
          rw [if_neg e7] at hg ⊢
          by_cases e10 : j = 10
          · rw [if_pos e10] at hg ⊢; exact ownL_on hg hb
          rw [if_neg e10] at hg ⊢
          by_cases e11 : j = 11
          · rw [if_pos e11] at hg ⊢; exact Kd.on hg hb
          rw [if_neg e11] at hg ⊢
          by_cases e13 : j = 13
          · rw [if_pos e13] at hg ⊢; exact hg.on hb
          rw [if_neg e13] at hg ⊢
          exact hg
        case st =>
          have hH : ∀ f x W, madeS (w.heap.size + 3) w0 f x W → w.heap.size + 3 ≤ W.heap.size := fun f x W hS => by have := hS.1.size; have := hM.size; omega
          have hW : ∀ f x W, madeS (w.heap.size + 3) w0 f x W → Below w.heap.size w W := fun f x W hS => hM.on.trans (hS.1.mono (by omega))
          have row : ∀ f x W W', madeS (w.heap.size + 3) w0 f x W → RowGrow (w.heap.size + 3) W W' → madeS (w.heap.size + 3) w0 f x W' := fun f x W W' hS hr => ⟨hr.below hS.1 (Nat.le_refl _) (hH _ _ _ hS), fun e => by
            obtain ⟨b, h1, h2, x0, x1, q', n, c', h3⟩ := hS.2 e
            exact ⟨b, h1, h2, x0, x1, q', n, c', hr.box h3⟩⟩
          refine ⟨fun ρ W f hf hf2 hr hS hs => ?_, fun ρ W f hf hf2 hr hS hs => ?_, fun ρ W f hf hf2 hr hS hs => ?_, fun ρ W f hf hf2 hr hS hs => ?_, fun ρ W f hf hf2 hr hS hs => ?_, fun ρ W f hf hf2 hr hS hs => ?_, fun ρ W f hf hf2 hr hS hs => ?_, fun ρ W f hf hf2 hr hS hs => ?_, fun ρ W f hf hf2 hr hS hs => ?_, fun ρ W f hf hf2 hr hS hs => ?_, fun ρ W f hf hf2 hr hS hs => ?_, fun ρ W f hf hf2 hr hS hs => ?_, fun ρ W f hf hf2 hr hS hs => ?_, fun ρ W f hf hf2 hr hS hs => ?_, trivial⟩
          · exact step4_plain rfl (by decide) (leaves_field (.tmp 2) rfl (by decide) hs.1 ⟨rfl, by cases f <;> exact hS, .inr (.inr (.inr (Below.refl _ _)))⟩)
          · exact step4_plain rfl (by decide) (leaves_loadB (.tmp 20) rfl hs.1 (hM.fst.below hS.1 (by omega)).fst ⟨rfl, by cases f <;> exact hS, .inr (.inr (.inr (Below.refl _ _)))⟩)
          · exact step4_plain rfl (by decide) (leaves_field (.tmp 3) rfl (by decide) hs.1 ⟨rfl, by cases f <;> exact hS, .inr (.inr (.inr (Below.refl _ _)))⟩)
          · exact step4_plain rfl (by decide) (leaves_loadB (.tmp 22) rfl hs.1 (hM.snd.below hS.1 (by omega)).snd ⟨rfl, by cases f <;> exact hS, .inr (.inr (.inr (Below.refl _ _)))⟩)
          · have hb := on_alloc W (.cells #[] 9)
            refine step4_plain rfl (by decide) (leaves_value (v := .slice (some ⟨W.heap.size, 0, none⟩) 0 0) (w' := W.alloc (.cells #[] 9)) ?_ ⟨own_empty W _ (hH _ _ _ hS), by have := hS.grow hb (hH _ _ _ hS); cases f <;> exact this, .inr (.inr (.inr hb))⟩)
            simp [go_sem]
          · exact step4_plain rfl (by decide) (leaves_field (.tmp 2) rfl (by decide) hs.1 ⟨rfl, by cases f <;> exact hS, .inr (.inr (.inr (Below.refl _ _)))⟩)
          · exact step4_plain rfl (by decide) (leaves_loadS (.tmp 25) rfl hs.1 (hM.fst.below hS.1 (by omega)).thd ⟨rfl, by cases f <;> exact hS, .inr (.inr (.inr (Below.refl _ _)))⟩)
          · obtain ⟨h24, h26, _⟩ := hs
            have h24' : OwnL (w.heap.size + 3) W (ρ (.tmp 24)) [] := h24
            have h26' : ρ (.tmp 26) = .slice p l.length c := h26
            obtain ⟨v', W', hrun, hown, hgr⟩ := append_row (w.heap.size + 3) (ρ (.tmp 24)) [] p c l W (by simp) (by omega) h24' (HA.out.on (hW _ _ _ hS)) (hH _ _ _ hS)
            rw [List.nil_append] at hown
            refine step4_plain rfl (by decide) (leaves_append (v := v') (w' := W') (.tmp 24) (.tmp 26) 22 rfl ?_ ⟨hown, by have := row _ _ _ _ hS hgr; cases f <;> exact this, .inl rfl⟩)
            rw [h26']; exact hrun
          · exact step4_plain rfl (by decide) (leaves_field (.tmp 3) rfl (by decide) hs.1 ⟨rfl, by cases f <;> exact hS, .inr (.inr (.inr (Below.refl _ _)))⟩)
          · exact step4_plain rfl (by decide) (leaves_loadS (.tmp 28) rfl hs.1 (hM.snd.below hS.1 (by omega)).thd ⟨rfl, by cases f <;> exact hS, .inr (.inr (.inr (Below.refl _ _)))⟩)
          · obtain ⟨h27, h29, _⟩ := hs
            have h27' : OwnL (w.heap.size + 3) W (ρ (.tmp 27)) l := h27
            have h29' : ρ (.tmp 29) = .slice q m.length c2 := h29
            obtain ⟨v', W', hrun, hown, hgr⟩ := append_row (w.heap.size + 3) (ρ (.tmp 27)) l q c2 m W (by omega) (by omega) h27' (HA2.out.on (hW _ _ _ hS)) (hH _ _ _ hS)
            refine step4_plain rfl (by decide) (leaves_append (v := v') (w' := W') (.tmp 27) (.tmp 29) 22 rfl ?_ ⟨hown, by have := row _ _ _ _ hS hgr; cases f <;> exact this, .inr (.inl rfl)⟩)
            rw [h29']; exact hrun
          · obtain ⟨h21, h23, h30, _⟩ := hs
            have h21' : ρ (.tmp 21) = .bool true := h21
            have h23' : ρ (.tmp 23) = .bool d2 := h23
            have h30' : OwnL (w.heap.size + 3) W (ρ (.tmp 30)) (l ++ m) := h30
            obtain ⟨p', c', hv, hat, hcc⟩ := ownL_at h30'
            refine step4_plain rfl (by decide) (leaves_value (v := .agg #[.bool true, .bool d2, .slice p' (l ++ m).length c']) (w' := W) ?_ ⟨⟨p', c', rfl, hat, hcc⟩, by cases f <;> exact hS, .inr (.inr (.inr (Below.refl _ _)))⟩)
            generalize (l ++ m).length = n at *
            simp [go_sem, h21', h23', hv]
          · have hb := on_alloc W (.cells #[.bool false, .bool false, .slice none 0 0] 24)
            refine step4_made rfl (leaves_value (v := .pointer (some ⟨W.heap.size, 0, none⟩)) (w' := W.alloc (.cells #[.bool false, .bool false, .slice none 0 0] 24)) ?_ ⟨trivial, ⟨hS.1.trans (hb.mono (hH _ _ _ hS)), fun _ => ⟨_, rfl, hH _ _ _ hS, _, _, _, _, _, Box.new W _ _ _⟩⟩, .inr (.inr (.inr hb))⟩)
            simp [go_sem]
          · obtain rfl : f = false := hf2 (by kernel_rfl)
            obtain ⟨_, ⟨p', c', h10, hat, hcc⟩, _⟩ := hs
            obtain ⟨b, hx, hHb, x0, x1, q', n, c0, hbx⟩ := hS.2 rfl
            have hbut := but_put3 W b (.bool true) (.bool d2) (.slice p' (l ++ m).length c')
            exact step4_plain rfl (by decide) (leaves_store (.tmp 5) (.tmp 31) rfl hx h10 hbx ⟨⟨b, p', c', hx, hHb, hbx.put _ _ _, hat.but_box hbx hbut, hcc⟩, ⟨below_but hS.1 hbut hHb, fun _ => ⟨b, hx, hHb, _, _, _, _, _, hbx.put _ _ _⟩⟩, .inr (.inr (.inl rfl))⟩)
        case en =>
          intro x f W hf hS v0 h0 v1 h1 v2 h2 v3 h3 v4 h4 v5 h5 v6 h6 v7 h7 v8 h8 v9 h9 v10 h10 v11 h11 v12 h12 h13 hxe
          clear hf
          obtain ⟨b, p', c', rfl, hHb, hbx, hat, hcc⟩ := h13 rfl
          have hv12 : v12 = .pointer (some ⟨b, 0, none⟩) := by simpa [Act.put, Act.eval] using hxe
          subst hv12
          have HF : Hid (Box W w.heap.size (.bool true) (.bool d) (.slice p l.length c)) := hM.fst.below hS.1 (by omega)
          have HG : Hid (Box W (w.heap.size + 1) (.bool false) (.bool d2) (.slice q m.length c2)) := hM.snd.below hS.1 (by omega)
          have HY : Hid (Box W (w.heap.size + 2) (.bool false) (.bool false) (.slice none 0 0)) := hM.res.below hS.1 (by omega)
          have HB : Hid (Below w.heap.size w W) := hM.on.trans (hS.1.mono (by omega))
          have HQ : Hid (Box W b (.bool true) (.bool d2) (.slice p' (l ++ m).length c')) := hbx
          have HT : Hid (AtF (w.heap.size + 3) W p' (l ++ m)) := hat
          clear h0 h1 h2 h3 h4 h5 h6 h7 h8 h9 h10 h11 h12 h13 hxe hS hbx hat hS0 hM HA HA2
          simp only [Act.put, List.setIfInBounds_toArray, List.set_cons_succ, List.set_cons_zero]
          have hwb : w.heap.size ≤ b := by omega
          have q0 := HQ.out.fst
          have q1 := HQ.out.snd
          have q2 := HQ.out.thd
          have k1 := HQ.out.free 1
          have g2 := HG.out.thd
          have x1 := HF.out.snd
          have y0 := HY.out.fst
          have y1 := HY.out.snd
          have y2 := HY.out.thd
          have f0 := HY.out.free 0
          have f1 := HY.out.free 1
          have f2 := HY.out.free 2
          by_cases hm0 : m.length = 0
          · have ed := E2.out.symm
            rw [if_pos hm0] at ed
            subst ed
            have hmz : ((m.length : Int) == 0) = true := by rw [beq_iff_eq]; omega
            have HE : Hid (RetJo w true d (l ++ m) (.returned (.agg #[.bool true, .bool d, .slice p' (l ++ m).length c'])) (put3 (W.setCell ⟨b, 1, none⟩ (.bool d)) (w.heap.size + 2) (.bool true) (.bool d) (.slice p' (l ++ m).length c'))) := by
              have hb1 := but_set W b 1 (.bool d)
              have hb2 := but_put3 (W.setCell ⟨b, 1, none⟩ (.bool d)) (w.heap.size + 2) (.bool true) (.bool d) (.slice p' (l ++ m).length c')
              exact retJo (below_but (below_but HB.out hb1 hwb) hb2 (Nat.le_add_right _ _)) ((HT.out.but_box HQ.out hb1).but hb2 (Nat.lt_succ_self _)).at hcc
            have HBX : Hid (Box (put3 (W.setCell ⟨b, 1, none⟩ (.bool d)) (w.heap.size + 2) (.bool true) (.bool d) (.slice p' (l ++ m).length c')) (w.heap.size + 2) (.bool true) (.bool d) (.slice p' (l ++ m).length c')) := (HY.out.but (but_set W b 1 (.bool d)) (by omega)).put _ _ _
            clear HT hm0
            generalize l ++ m = L at *
            unfold put3 at HE HBX
            go_wp2
            exact bodyPost_ret (results_box rfl _ _ rfl HBX.out) rfl HE.out
          · have ed := E2.out.symm
            rw [if_neg hm0] at ed
            subst ed
            have hmz : ((m.length : Int) == 0) = false := by rw [beq_eq_false_iff_ne]; omega
            have HE : Hid (RetJo w true d2 (l ++ m) (.returned (.agg #[.bool true, .bool d2, .slice p' (l ++ m).length c'])) (put3 W (w.heap.size + 2) (.bool true) (.bool d2) (.slice p' (l ++ m).length c'))) := by
              have hb2 := but_put3 W (w.heap.size + 2) (.bool true) (.bool d2) (.slice p' (l ++ m).length c')
              exact retJo (below_but HB.out hb2 (Nat.le_add_right _ _)) (HT.out.but hb2 (Nat.lt_succ_self _)).at hcc
            have HBX : Hid (Box (put3 W (w.heap.size + 2) (.bool true) (.bool d2) (.slice p' (l ++ m).length c')) (w.heap.size + 2) (.bool true) (.bool d2) (.slice p' (l ++ m).length c')) := HY.out.put _ _ _
            clear HT hm0
            generalize l ++ m = L at *
            unfold put3 at HE HBX
            go_wp2
            exact bodyPost_ret (results_box rfl _ _ rfl HBX.out) rfl HE.out
      · have hlz : ((l.length : Int) == 0) = false := by rw [beq_eq_false_iff_ne]; omega
        clear hl0
        go_enter Try.func23, Try.ntmps23
        go_wp2
        generalize ((w.alloc (.cells #[.bool true, .bool d, .slice p l.length c] 24)).alloc (.cells #[.bool false, .bool d2, .slice q m.length c2] 24)).alloc (.cells #[.bool false, .bool false, .slice none 0 0] 24) = w0 at *
        have hS0 : ∀ x, madeS (w.heap.size + 3) w0 true x w0.drew := fun x => ⟨by rw [← hM.size]; exact on_drew (Below.refl _ _), fun e => by cases e⟩
        refine wp_region_four (S := madeS (w.heap.size + 3) w0) (u := 12) (tu := 5) (Keep := fun i w1 w2 => i = 7 ∨ i = 10 ∨ i = 13 ∨ Below w1.heap.size w1 w2)
          (g := rjG (w.heap.size + 3) [.pointer (some ⟨w.heap.size, 0, none⟩), .bool true, .pointer (some ⟨w.heap.size + 1, 1, none⟩), .bool d2, undef, .pointer (some ⟨w.heap.size, 2, none⟩), .slice p l.length c, undef, .pointer (some ⟨w.heap.size + 1, 2, none⟩), .slice q m.length c2] true d2 l m)
          (tab := [[(2, none)], [(20, some 0)], [(3, none)], [(22, some 2)], [], [(2, none)], [(25, some 5)], [(24, some 4), (26, some 6)], [(3, none)], [(28, some 8)], [(27, some 7), (29, some 9)], [(21, some 1), (23, some 3), (30, some 10)], [], [(5, some 12), (31, some 11)]]) (tl := [(4, 7), (7, 10), (10, 13), (11, 13)]) (n := 40)
          (by kernel_rfl) rfl (by kernel_rfl) (by kernel_rfl) ?hx ?hK (hS0 _) ?st ?en
        case hx =>
          intro j x x' v W hed hne hg
          unfold rjG at hg ⊢
          by_cases h13 : j = 13
          · subst h13; exact absurd hed (by decide +kernel)
          · rw [if_neg h13] at hg ⊢; exact hg
        case hK =>
          intro x i j v w1 w2 hk hne hed hed2 ht hg
          by_cases h7 : i = 7
          · subst h7
            unfold rjG at hg ⊢
            by_cases e4 : j = 4
            · subst e4; exact absurd rfl (ht 7 rfl).1
            by_cases e10 : j = 10
            · subst e10; exact absurd hed (by decide +kernel)
            by_cases e11 : j = 11
            · subst e11; exact absurd (hed2 10 (by decide +kernel)) (by decide +kernel)
            by_cases e13 : j = 13
            · subst e13; exact absurd hed (by decide +kernel)
            rw [if_neg e4, if_neg hne, if_neg e10, if_neg e11, if_neg e13] at hg ⊢
            exact hg
          by_cases h10 : i = 10
          · subst h10
            unfold rjG at hg ⊢
            by_cases e4 : j = 4
            · subst e4; exact absurd (ht 7 rfl).2 (by decide +kernel)
            by_cases e7 : j = 7
            · subst e7; exact absurd rfl (ht 10 rfl).1
            by_cases e11 : j = 11
            · subst e11; exact absurd hed (by decide +kernel)
            by_cases e13 : j = 13
            · subst e13; exact absurd hed (by decide +kernel)
            rw [if_neg e4, if_neg e7, if_neg hne, if_neg e11, if_neg e13] at hg ⊢
            exact hg
          by_cases h13 : i = 13
          · subst h13
            unfold rjG at hg ⊢
            by_cases e4 : j = 4
            · subst e4; exact absurd (ht 7 rfl).2 (by decide +kernel)
            by_cases e7 : j = 7
            · subst e7; exact absurd (ht 10 rfl).2 (by decide +kernel)
            by_cases e10 : j = 10
            · subst e10; exact absurd rfl (ht 13 rfl).1
            by_cases e11 : j = 11
            · subst e11; exact absurd rfl (ht 13 rfl).1
            rw [if_neg e4, if_neg e7, if_neg e10, if_neg e11, if_neg hne] at hg ⊢
            exact hg
          have hb : Below w1.heap.size w1 w2 := by
            rcases hk with e | e | e | e
            · exact absurd e h7
            · exact absurd e h10
            · exact absurd e h13
            · exact e
          unfold rjG at hg ⊢
          by_cases e4 : j = 4
          · rw [if_pos e4] at hg ⊢; exact ownL_on hg hb
          rw [if_neg e4] at hg ⊢
          by_cases e7 : j = 7
          · rw [if_pos e7] at hg ⊢; exact ownL_on hg hb
          rw [if_neg e7] at hg ⊢
          by_cases e10 : j = 10
          · rw [if_pos e10] at hg ⊢; exact ownL_on hg hb
          rw [if_neg e10] at hg ⊢
          by_cases e11 : j = 11
          · rw [if_pos e11] at hg ⊢; exact Kd.on hg hb
          rw [if_neg e11] at hg ⊢
          by_cases e13 : j = 13
          · rw [if_pos e13] at hg ⊢; exact hg.on hb
          rw [if_neg e13] at hg ⊢
          exact hg
        case st =>
          have hH : ∀ f x W, madeS (w.heap.size + 3) w0 f x W → w.heap.size + 3 ≤ W.heap.size := fun f x W hS => by have := hS.1.size; have := hM.size; omega
          have hW : ∀ f x W, madeS (w.heap.size + 3) w0 f x W → Below w.heap.size w W := fun f x W hS => hM.on.trans (hS.1.mono (by omega))
          have row : ∀ f x W W', madeS (w.heap.size + 3) w0 f x W → RowGrow (w.heap.size + 3) W W' → madeS (w.heap.size + 3) w0 f x W' := fun f x W W' hS hr => ⟨hr.below hS.1 (Nat.le_refl _) (hH _ _ _ hS), fun e => by
            obtain ⟨b, h1, h2, x0, x1, q', n, c', h3⟩ := hS.2 e
            exact ⟨b, h1, h2, x0, x1, q', n, c', hr.box h3⟩⟩
          refine ⟨fun ρ W f hf hf2 hr hS hs => ?_, fun ρ W f hf hf2 hr hS hs => ?_, fun ρ W f hf hf2 hr hS hs => ?_, fun ρ W f hf hf2 hr hS hs => ?_, fun ρ W f hf hf2 hr hS hs => ?_, fun ρ W f hf hf2 hr hS hs => ?_, fun ρ W f hf hf2 hr hS hs => ?_, fun ρ W f hf hf2 hr hS hs => ?_, fun ρ W f hf hf2 hr hS hs => ?_, fun ρ W f hf hf2 hr hS hs => ?_, fun ρ W f hf hf2 hr hS hs => ?_, fun ρ W f hf hf2 hr hS hs => ?_, fun ρ W f hf hf2 hr hS hs => ?_, fun ρ W f hf hf2 hr hS hs => ?_, trivial⟩
          · exact step4_plain rfl (by decide) (leaves_field (.tmp 2) rfl (by decide) hs.1 ⟨rfl, by cases f <;> exact hS, .inr (.inr (.inr (Below.refl _ _)))⟩)
          · exact step4_plain rfl (by decide) (leaves_loadB (.tmp 20) rfl hs.1 (hM.fst.below hS.1 (by omega)).fst ⟨rfl, by cases f <;> exact hS, .inr (.inr (.inr (Below.refl _ _)))⟩)
          · exact step4_plain rfl (by decide) (leaves_field (.tmp 3) rfl (by decide) hs.1 ⟨rfl, by cases f <;> exact hS, .inr (.inr (.inr (Below.refl _ _)))⟩)
          · exact step4_plain rfl (by decide) (leaves_loadB (.tmp 22) rfl hs.1 (hM.snd.below hS.1 (by omega)).snd ⟨rfl, by cases f <;> exact hS, .inr (.inr (.inr (Below.refl _ _)))⟩)
          · have hb := on_alloc W (.cells #[] 9)
            refine step4_plain rfl (by decide) (leaves_value (v := .slice (some ⟨W.heap.size, 0, none⟩) 0 0) (w' := W.alloc (.cells #[] 9)) ?_ ⟨own_empty W _ (hH _ _ _ hS), by have := hS.grow hb (hH _ _ _ hS); cases f <;> exact this, .inr (.inr (.inr hb))⟩)
            simp [go_sem]
          · exact step4_plain rfl (by decide) (leaves_field (.tmp 2) rfl (by decide) hs.1 ⟨rfl, by cases f <;> exact hS, .inr (.inr (.inr (Below.refl _ _)))⟩)
          · exact step4_plain rfl (by decide) (leaves_loadS (.tmp 25) rfl hs.1 (hM.fst.below hS.1 (by omega)).thd ⟨rfl, by cases f <;> exact hS, .inr (.inr (.inr (Below.refl _ _)))⟩)
          · obtain ⟨h24, h26, _⟩ := hs
            have h24' : OwnL (w.heap.size + 3) W (ρ (.tmp 24)) [] := h24
            have h26' : ρ (.tmp 26) = .slice p l.length c := h26
            obtain ⟨v', W', hrun, hown, hgr⟩ := append_row (w.heap.size + 3) (ρ (.tmp 24)) [] p c l W (by simp) (by omega) h24' (HA.out.on (hW _ _ _ hS)) (hH _ _ _ hS)
            rw [List.nil_append] at hown
            refine step4_plain rfl (by decide) (leaves_append (v := v') (w' := W') (.tmp 24) (.tmp 26) 22 rfl ?_ ⟨hown, by have := row _ _ _ _ hS hgr; cases f <;> exact this, .inl rfl⟩)
            rw [h26']; exact hrun
          · exact step4_plain rfl (by decide) (leaves_field (.tmp 3) rfl (by decide) hs.1 ⟨rfl, by cases f <;> exact hS, .inr (.inr (.inr (Below.refl _ _)))⟩)
          · exact step4_plain rfl (by decide) (leaves_loadS (.tmp 28) rfl hs.1 (hM.snd.below hS.1 (by omega)).thd ⟨rfl, by cases f <;> exact hS, .inr (.inr (.inr (Below.refl _ _)))⟩)
          · obtain ⟨h27, h29, _⟩ := hs
            have h27' : OwnL (w.heap.size + 3) W (ρ (.tmp 27)) l := h27
            have h29' : ρ (.tmp 29) = .slice q m.length c2 := h29
            obtain ⟨v', W', hrun, hown, hgr⟩ := append_row (w.heap.size + 3) (ρ (.tmp 27)) l q c2 m W (by omega) (by omega) h27' (HA2.out.on (hW _ _ _ hS)) (hH _ _ _ hS)
            refine step4_plain rfl (by decide) (leaves_append (v := v') (w' := W') (.tmp 27) (.tmp 29) 22 rfl ?_ ⟨hown, by have := row _ _ _ _ hS hgr; cases f <;> exact this, .inr (.inl rfl)⟩)
            rw [h29']; exact hrun
          · obtain ⟨h21, h23, h30, _⟩ := hs
            have h21' : ρ (.tmp 21) = .bool true := h21
            have h23' : ρ (.tmp 23) = .bool d2 := h23
            have h30' : OwnL (w.heap.size + 3) W (ρ (.tmp 30)) (l ++ m) := h30
            obtain ⟨p', c', hv, hat, hcc⟩ := ownL_at h30'
            refine step4_plain rfl (by decide) (leaves_value (v := .agg #[.bool true, .bool d2, .slice p' (l ++ m).length c']) (w' := W) ?_ ⟨⟨p', c', rfl, hat, hcc⟩, by cases f <;> exact hS, .inr (.inr (.inr (Below.refl _ _)))⟩)
            generalize (l ++ m).length = n at *
            simp [go_sem, h21', h23', hv]
          · have hb := on_alloc W (.cells #[.bool false, .bool false, .slice none 0 0] 24)
            refine step4_made rfl (leaves_value (v := .pointer (some ⟨W.heap.size, 0, none⟩)) (w' := W.alloc (.cells #[.bool false, .bool false, .slice none 0 0] 24)) ?_ ⟨trivial, ⟨hS.1.trans (hb.mono (hH _ _ _ hS)), fun _ => ⟨_, rfl, hH _ _ _ hS, _, _, _, _, _, Box.new W _ _ _⟩⟩, .inr (.inr (.inr hb))⟩)
            simp [go_sem]
          · obtain rfl : f = false := hf2 (by kernel_rfl)
            obtain ⟨_, ⟨p', c', h10, hat, hcc⟩, _⟩ := hs
            obtain ⟨b, hx, hHb, x0, x1, q', n, c0, hbx⟩ := hS.2 rfl
            have hbut := but_put3 W b (.bool true) (.bool d2) (.slice p' (l ++ m).length c')
            exact step4_plain rfl (by decide) (leaves_store (.tmp 5) (.tmp 31) rfl hx h10 hbx ⟨⟨b, p', c', hx, hHb, hbx.put _ _ _, hat.but_box hbx hbut, hcc⟩, ⟨below_but hS.1 hbut hHb, fun _ => ⟨b, hx, hHb, _, _, _, _, _, hbx.put _ _ _⟩⟩, .inr (.inr (.inl rfl))⟩)
        case en =>
          intro x f W hf hS v0 h0 v1 h1 v2 h2 v3 h3 v4 h4 v5 h5 v6 h6 v7 h7 v8 h8 v9 h9 v10 h10 v11 h11 v12 h12 h13 hxe
          clear hf
          obtain ⟨b, p', c', rfl, hHb, hbx, hat, hcc⟩ := h13 rfl
          have hv12 : v12 = .pointer (some ⟨b, 0, none⟩) := by simpa [Act.put, Act.eval] using hxe
          subst hv12
          have HF : Hid (Box W w.heap.size (.bool true) (.bool d) (.slice p l.length c)) := hM.fst.below hS.1 (by omega)
          have HG : Hid (Box W (w.heap.size + 1) (.bool false) (.bool d2) (.slice q m.length c2)) := hM.snd.below hS.1 (by omega)
          have HY : Hid (Box W (w.heap.size + 2) (.bool false) (.bool false) (.slice none 0 0)) := hM.res.below hS.1 (by omega)
          have HB : Hid (Below w.heap.size w W) := hM.on.trans (hS.1.mono (by omega))
          have HQ : Hid (Box W b (.bool true) (.bool d2) (.slice p' (l ++ m).length c')) := hbx
          have HT : Hid (AtF (w.heap.size + 3) W p' (l ++ m)) := hat
          clear h0 h1 h2 h3 h4 h5 h6 h7 h8 h9 h10 h11 h12 h13 hxe hS hbx hat hS0 hM HA HA2
          simp only [Act.put, List.setIfInBounds_toArray, List.set_cons_succ, List.set_cons_zero]
          have hwb : w.heap.size ≤ b := by omega
          have q0 := HQ.out.fst
          have q1 := HQ.out.snd
          have q2 := HQ.out.thd
          have k1 := HQ.out.free 1
          have g2 := HG.out.thd
          have x1 := HF.out.snd
          have y0 := HY.out.fst
          have y1 := HY.out.snd
          have y2 := HY.out.thd
          have f0 := HY.out.free 0
          have f1 := HY.out.free 1
          have f2 := HY.out.free 2
          by_cases hm0 : m.length = 0
          · have ed := E2.out.symm
            rw [if_pos hm0] at ed
            subst ed
            have hmz : ((m.length : Int) == 0) = true := by rw [beq_iff_eq]; omega
            have HE : Hid (RetJo w true d (l ++ m) (.returned (.agg #[.bool true, .bool d, .slice p' (l ++ m).length c'])) (put3 (W.setCell ⟨b, 1, none⟩ (.bool d)) (w.heap.size + 2) (.bool true) (.bool d) (.slice p' (l ++ m).length c'))) := by
              have hb1 := but_set W b 1 (.bool d)
              have hb2 := but_put3 (W.setCell ⟨b, 1, none⟩ (.bool d)) (w.heap.size + 2) (.bool true) (.bool d) (.slice p' (l ++ m).length c')
              exact retJo (below_but (below_but HB.out hb1 hwb) hb2 (Nat.le_add_right _ _)) ((HT.out.but_box HQ.out hb1).but hb2 (Nat.lt_succ_self _)).at hcc
            have HBX : Hid (Box (put3 (W.setCell ⟨b, 1, none⟩ (.bool d)) (w.heap.size + 2) (.bool true) (.bool d) (.slice p' (l ++ m).length c')) (w.heap.size + 2) (.bool true) (.bool d) (.slice p' (l ++ m).length c')) := (HY.out.but (but_set W b 1 (.bool d)) (by omega)).put _ _ _
            clear HT hm0
            generalize l ++ m = L at *
            unfold put3 at HE HBX
            go_wp2
            exact bodyPost_ret (results_box rfl _ _ rfl HBX.out) rfl HE.out
          · have ed := E2.out.symm
            rw [if_neg hm0] at ed
            subst ed
            have hmz : ((m.length : Int) == 0) = false := by rw [beq_eq_false_iff_ne]; omega
            have HE : Hid (RetJo w true d2 (l ++ m) (.returned (.agg #[.bool true, .bool d2, .slice p' (l ++ m).length c'])) (put3 W (w.heap.size + 2) (.bool true) (.bool d2) (.slice p' (l ++ m).length c'))) := by
              have hb2 := but_put3 W (w.heap.size + 2) (.bool true) (.bool d2) (.slice p' (l ++ m).length c')
              exact retJo (below_but HB.out hb2 (Nat.le_add_right _ _)) (HT.out.but hb2 (Nat.lt_succ_self _)).at hcc
            have HBX : Hid (Box (put3 W (w.heap.size + 2) (.bool true) (.bool d2) (.slice p' (l ++ m).length c')) (w.heap.size + 2) (.bool true) (.bool d2) (.slice p' (l ++ m).length c')) := HY.out.put _ _ _
            clear HT hm0
            generalize l ++ m = L at *
            unfold put3 at HE HBX
            go_wp2
            exact bodyPost_ret (results_box rfl _ _ rfl HBX.out) rfl HE.out
    · have hlz : ((l.length : Int) == 0) = false := by rw [beq_eq_false_iff_ne]; omega
      clear hl0
      go_enter Try.func23, Try.ntmps23
      go_wp2
      generalize ((w.alloc (.cells #[.bool false, .bool d, .slice p l.length c] 24)).alloc (.cells #[.bool false, .bool d2, .slice q m.length c2] 24)).alloc (.cells #[.bool false, .bool false, .slice none 0 0] 24) = w0 at *
      have hS0 : ∀ x, madeS (w.heap.size + 3) w0 true x w0.drew := fun x => ⟨by rw [← hM.size]; exact on_drew (Below.refl _ _), fun e => by cases e⟩
      refine wp_region_four (S := madeS (w.heap.size + 3) w0) (u := 12) (tu := 5) (Keep := fun i w1 w2 => i = 7 ∨ i = 10 ∨ i = 13 ∨ Below w1.heap.size w1 w2)
        (g := rjG (w.heap.size + 3) [.pointer (some ⟨w.heap.size, 0, none⟩), .bool false, .pointer (some ⟨w.heap.size + 1, 1, none⟩), .bool d2, undef, .pointer (some ⟨w.heap.size, 2, none⟩), .slice p l.length c, undef, .pointer (some ⟨w.heap.size + 1, 2, none⟩), .slice q m.length c2] false d2 l m)
        (tab := [[(2, none)], [(20, some 0)], [(3, none)], [(22, some 2)], [], [(2, none)], [(25, some 5)], [(24, some 4), (26, some 6)], [(3, none)], [(28, some 8)], [(27, some 7), (29, some 9)], [(21, some 1), (23, some 3), (30, some 10)], [], [(5, some 12), (31, some 11)]]) (tl := [(4, 7), (7, 10), (10, 13), (11, 13)]) (n := 40)
        (by kernel_rfl) rfl (by kernel_rfl) (by kernel_rfl) ?hx ?hK (hS0 _) ?st ?en
      case hx =>
        intro j x x' v W hed hne hg
        unfold rjG at hg ⊢
        by_cases h13 : j = 13
        · subst h13; exact absurd hed (by decide +kernel)
        · rw [if_neg h13] at hg ⊢; exact hg
      case hK =>
        intro x i j v w1 w2 hk hne hed hed2 ht hg
        by_cases h7 : i = 7
        · subst h7
          unfold rjG at hg ⊢
          by_cases e4 : j = 4
          · subst e4; exact absurd rfl (ht 7 rfl).1
          by_cases e10 : j = 10
          · subst e10; exact absurd hed (by decide +kernel)
          by_cases e11 : j = 11
          · subst e11; exact absurd (hed2 10 (by decide +kernel)) (by decide +kernel)
          by_cases e13 : j = 13
          · subst e13; exact absurd hed (by decide +kernel)
          rw [if_neg e4, if_neg hne, if_neg e10, if_neg e11, if_neg e13] at hg ⊢
          exact hg
        by_cases h10 : i = 10
        · subst h10
          unfold rjG at hg ⊢
          by_cases e4 : j = 4
          · subst e4; exact absurd (ht 7 rfl).2 (by decide +kernel)
          by_cases e7 : j = 7
          · subst e7; exact absurd rfl (ht 10 rfl).1
          by_cases e11 : j = 11
          · subst e11; exact absurd hed (by decide +kernel)
          by_cases e13 : j = 13
          · subst e13; exact absurd hed (by decide +kernel)
          rw [if_neg e4, if_neg e7, if_neg hne, if_neg e11, if_neg e13] at hg ⊢
          exact hg
        by_cases h13 : i = 13
        · subst h13
          unfold rjG at hg ⊢
          by_cases e4 : j = 4
          · subst e4; exact absurd (ht 7 rfl).2 (by decide +kernel)
          by_cases e7 : j = 7
          · subst e7; exact absurd (ht 10 rfl).2 (by decide +kernel)
          by_cases e10 : j = 10
          · subst e10; exact absurd rfl (ht 13 rfl).1
          by_cases e11 : j = 11
          · subst e11; exact absurd rfl (ht 13 rfl).1
          rw [if_neg e4, if_neg e7, if_neg e10, if_neg e11, if_neg hne] at hg ⊢
          exact hg
        have hb : Below w1.heap.size w1 w2 := by
          rcases hk with e | e | e | e
          · exact absurd e h7
          · exact absurd e h10
          · exact absurd e h13
          · exact e
        unfold rjG at hg ⊢
        by_cases e4 : j = 4
        · rw [if_pos e4] at hg ⊢; exact ownL_on hg hb
        rw [if_neg e4] at hg ⊢
        by_cases e7 : j = 7
        · rw [if_pos e7] at hg ⊢; exact ownL_on hg hb
        rw [if_neg e7] at hg ⊢
        by_cases e10 : j = 10
        · rw [if_pos e10] at hg ⊢; exact ownL_on hg hb
        rw [if_neg e10] at hg ⊢
        by_cases e11 : j = 11
        · rw [if_pos e11] at hg ⊢; exact Kd.on hg hb
        rw [if_neg e11] at hg ⊢
        by_cases e13 : j = 13
        · rw [if_pos e13] at hg ⊢; exact hg.on hb
        rw [if_neg e13] at hg ⊢
        exact hg
      case st =>
        have hH : ∀ f x W, madeS (w.heap.size + 3) w0 f x W → w.heap.size + 3 ≤ W.heap.size := fun f x W hS => by have := hS.1.size; have := hM.size; omega
        have hW : ∀ f x W, madeS (w.heap.size + 3) w0 f x W → Below w.heap.size w W := fun f x W hS => hM.on.trans (hS.1.mono (by omega))
        have row : ∀ f x W W', madeS (w.heap.size + 3) w0 f x W → RowGrow (w.heap.size + 3) W W' → madeS (w.heap.size + 3) w0 f x W' := fun f x W W' hS hr => ⟨hr.below hS.1 (Nat.le_refl _) (hH _ _ _ hS), fun e => by
          obtain ⟨b, h1, h2, x0, x1, q', n, c', h3⟩ := hS.2 e
          exact ⟨b, h1, h2, x0, x1, q', n, c', hr.box h3⟩⟩
        refine ⟨fun ρ W f hf hf2 hr hS hs => ?_, fun ρ W f hf hf2 hr hS hs => ?_, fun ρ W f hf hf2 hr hS hs => ?_, fun ρ W f hf hf2 hr hS hs => ?_, fun ρ W f hf hf2 hr hS hs => ?_, fun ρ W f hf hf2 hr hS hs => ?_, fun ρ W f hf hf2 hr hS hs => ?_, fun ρ W f hf hf2 hr hS hs => ?_, fun ρ W f hf hf2 hr hS hs => ?_, fun ρ W f hf hf2 hr hS hs => ?_, fun ρ W f hf hf2 hr hS hs => ?_, fun ρ W f hf hf2 hr hS hs => ?_, fun ρ W f hf hf2 hr hS hs => ?_, fun ρ W f hf hf2 hr hS hs => ?_, trivial⟩
        · exact step4_plain rfl (by decide) (leaves_field (.tmp 2) rfl (by decide) hs.1 ⟨rfl, by cases f <;> exact hS, .inr (.inr (.inr (Below.refl _ _)))⟩)
        · exact step4_plain rfl (by decide) (leaves_loadB (.tmp 20) rfl hs.1 (hM.fst.below hS.1 (by omega)).fst ⟨rfl, by cases f <;> exact hS, .inr (.inr (.inr (Below.refl _ _)))⟩)
        · exact step4_plain rfl (by decide) (leaves_field (.tmp 3) rfl (by decide) hs.1 ⟨rfl, by cases f <;> exact hS, .inr (.inr (.inr (Below.refl _ _)))⟩)
        · exact step4_plain rfl (by decide) (leaves_loadB (.tmp 22) rfl hs.1 (hM.snd.below hS.1 (by omega)).snd ⟨rfl, by cases f <;> exact hS, .inr (.inr (.inr (Below.refl _ _)))⟩)
        · have hb := on_alloc W (.cells #[] 9)
          refine step4_plain rfl (by decide) (leaves_value (v := .slice (some ⟨W.heap.size, 0, none⟩) 0 0) (w' := W.alloc (.cells #[] 9)) ?_ ⟨own_empty W _ (hH _ _ _ hS), by have := hS.grow hb (hH _ _ _ hS); cases f <;> exact this, .inr (.inr (.inr hb))⟩)
          simp [go_sem]
        · exact step4_plain rfl (by decide) (leaves_field (.tmp 2) rfl (by decide) hs.1 ⟨rfl, by cases f <;> exact hS, .inr (.inr (.inr (Below.refl _ _)))⟩)
        · exact step4_plain rfl (by decide) (leaves_loadS (.tmp 25) rfl hs.1 (hM.fst.below hS.1 (by omega)).thd ⟨rfl, by cases f <;> exact hS, .inr (.inr (.inr (Below.refl _ _)))⟩)
        · obtain ⟨h24, h26, _⟩ := hs
          have h24' : OwnL (w.heap.size + 3) W (ρ (.tmp 24)) [] := h24
          have h26' : ρ (.tmp 26) = .slice p l.length c := h26
          obtain ⟨v', W', hrun, hown, hgr⟩ := append_row (w.heap.size + 3) (ρ (.tmp 24)) [] p c l W (by simp) (by omega) h24' (HA.out.on (hW _ _ _ hS)) (hH _ _ _ hS)
          rw [List.nil_append] at hown
          refine step4_plain rfl (by decide) (leaves_append (v := v') (w' := W') (.tmp 24) (.tmp 26) 22 rfl ?_ ⟨hown, by have := row _ _ _ _ hS hgr; cases f <;> exact this, .inl rfl⟩)
          rw [h26']; exact hrun
        · exact step4_plain rfl (by decide) (leaves_field (.tmp 3) rfl (by decide) hs.1 ⟨rfl, by cases f <;> exact hS, .inr (.inr (.inr (Below.refl _ _)))⟩)
        · exact step4_plain rfl (by decide) (leaves_loadS (.tmp 28) rfl hs.1 (hM.snd.below hS.1 (by omega)).thd ⟨rfl, by cases f <;> exact hS, .inr (.inr (.inr (Below.refl _ _)))⟩)
        · obtain ⟨h27, h29, _⟩ := hs
          have h27' : OwnL (w.heap.size + 3) W (ρ (.tmp 27)) l := h27
          have h29' : ρ (.tmp 29) = .slice q m.length c2 := h29
          obtain ⟨v', W', hrun, hown, hgr⟩ := append_row (w.heap.size + 3) (ρ (.tmp 27)) l q c2 m W (by omega) (by omega) h27' (HA2.out.on (hW _ _ _ hS)) (hH _ _ _ hS)
          refine step4_plain rfl (by decide) (leaves_append (v := v') (w' := W') (.tmp 27) (.tmp 29) 22 rfl ?_ ⟨hown, by have := row _ _ _ _ hS hgr; cases f <;> exact this, .inr (.inl rfl)⟩)
          rw [h29']; exact hrun
        · obtain ⟨h21, h23, h30, _⟩ := hs
          have h21' : ρ (.tmp 21) = .bool false := h21
          have h23' : ρ (.tmp 23) = .bool d2 := h23
          have h30' : OwnL (w.heap.size + 3) W (ρ (.tmp 30)) (l ++ m) := h30
          obtain ⟨p', c', hv, hat, hcc⟩ := ownL_at h30'
          refine step4_plain rfl (by decide) (leaves_value (v := .agg #[.bool false, .bool d2, .slice p' (l ++ m).length c']) (w' := W) ?_ ⟨⟨p', c', rfl, hat, hcc⟩, by cases f <;> exact hS, .inr (.inr (.inr (Below.refl _ _)))⟩)
          generalize (l ++ m).length = n at *
          simp [go_sem, h21', h23', hv]
        · have hb := on_alloc W (.cells #[.bool false, .bool false, .slice none 0 0] 24)
          refine step4_made rfl (leaves_value (v := .pointer (some ⟨W.heap.size, 0, none⟩)) (w' := W.alloc (.cells #[.bool false, .bool false, .slice none 0 0] 24)) ?_ ⟨trivial, ⟨hS.1.trans (hb.mono (hH _ _ _ hS)), fun _ => ⟨_, rfl, hH _ _ _ hS, _, _, _, _, _, Box.new W _ _ _⟩⟩, .inr (.inr (.inr hb))⟩)
          simp [go_sem]
        · obtain rfl : f = false := hf2 (by kernel_rfl)
          obtain ⟨_, ⟨p', c', h10, hat, hcc⟩, _⟩ := hs
          obtain ⟨b, hx, hHb, x0, x1, q', n, c0, hbx⟩ := hS.2 rfl
          have hbut := but_put3 W b (.bool false) (.bool d2) (.slice p' (l ++ m).length c')
          exact step4_plain rfl (by decide) (leaves_store (.tmp 5) (.tmp 31) rfl hx h10 hbx ⟨⟨b, p', c', hx, hHb, hbx.put _ _ _, hat.but_box hbx hbut, hcc⟩, ⟨below_but hS.1 hbut hHb, fun _ => ⟨b, hx, hHb, _, _, _, _, _, hbx.put _ _ _⟩⟩, .inr (.inr (.inl rfl))⟩)
      case en =>
        intro x f W hf hS v0 h0 v1 h1 v2 h2 v3 h3 v4 h4 v5 h5 v6 h6 v7 h7 v8 h8 v9 h9 v10 h10 v11 h11 v12 h12 h13 hxe
        clear hf
        obtain ⟨b, p', c', rfl, hHb, hbx, hat, hcc⟩ := h13 rfl
        have hv12 : v12 = .pointer (some ⟨b, 0, none⟩) := by simpa [Act.put, Act.eval] using hxe
        subst hv12
        have HF : Hid (Box W w.heap.size (.bool false) (.bool d) (.slice p l.length c)) := hM.fst.below hS.1 (by omega)
        have HG : Hid (Box W (w.heap.size + 1) (.bool false) (.bool d2) (.slice q m.length c2)) := hM.snd.below hS.1 (by omega)
        have HY : Hid (Box W (w.heap.size + 2) (.bool false) (.bool false) (.slice none 0 0)) := hM.res.below hS.1 (by omega)
        have HB : Hid (Below w.heap.size w W) := hM.on.trans (hS.1.mono (by omega))
        have HQ : Hid (Box W b (.bool false) (.bool d2) (.slice p' (l ++ m).length c')) := hbx
        have HT : Hid (AtF (w.heap.size + 3) W p' (l ++ m)) := hat
        clear h0 h1 h2 h3 h4 h5 h6 h7 h8 h9 h10 h11 h12 h13 hxe hS hbx hat hS0 hM HA HA2
        simp only [Act.put, List.setIfInBounds_toArray, List.set_cons_succ, List.set_cons_zero]
        have hwb : w.heap.size ≤ b := by omega
        have q0 := HQ.out.fst
        have q1 := HQ.out.snd
        have q2 := HQ.out.thd
        have k1 := HQ.out.free 1
        have g2 := HG.out.thd
        have x1 := HF.out.snd
        have y0 := HY.out.fst
        have y1 := HY.out.snd
        have y2 := HY.out.thd
        have f0 := HY.out.free 0
        have f1 := HY.out.free 1
        have f2 := HY.out.free 2
        by_cases hm0 : m.length = 0
        · have ed := E2.out.symm
          rw [if_pos hm0] at ed
          subst ed
          have hmz : ((m.length : Int) == 0) = true := by rw [beq_iff_eq]; omega
          have HE : Hid (RetJo w false d (l ++ m) (.returned (.agg #[.bool false, .bool d, .slice p' (l ++ m).length c'])) (put3 (W.setCell ⟨b, 1, none⟩ (.bool d)) (w.heap.size + 2) (.bool false) (.bool d) (.slice p' (l ++ m).length c'))) := by
            have hb1 := but_set W b 1 (.bool d)
            have hb2 := but_put3 (W.setCell ⟨b, 1, none⟩ (.bool d)) (w.heap.size + 2) (.bool false) (.bool d) (.slice p' (l ++ m).length c')
            exact retJo (below_but (below_but HB.out hb1 hwb) hb2 (Nat.le_add_right _ _)) ((HT.out.but_box HQ.out hb1).but hb2 (Nat.lt_succ_self _)).at hcc
          have HBX : Hid (Box (put3 (W.setCell ⟨b, 1, none⟩ (.bool d)) (w.heap.size + 2) (.bool false) (.bool d) (.slice p' (l ++ m).length c')) (w.heap.size + 2) (.bool false) (.bool d) (.slice p' (l ++ m).length c')) := (HY.out.but (but_set W b 1 (.bool d)) (by omega)).put _ _ _
          clear HT hm0
          generalize l ++ m = L at *
          unfold put3 at HE HBX
          go_wp2
          exact bodyPost_ret (results_box rfl _ _ rfl HBX.out) rfl HE.out
        · have ed := E2.out.symm
          rw [if_neg hm0] at ed
          subst ed
          have hmz : ((m.length : Int) == 0) = false := by rw [beq_eq_false_iff_ne]; omega
          have HE : Hid (RetJo w false d2 (l ++ m) (.returned (.agg #[.bool false, .bool d2, .slice p' (l ++ m).length c'])) (put3 W (w.heap.size + 2) (.bool false) (.bool d2) (.slice p' (l ++ m).length c'))) := by
            have hb2 := but_put3 W (w.heap.size + 2) (.bool false) (.bool d2) (.slice p' (l ++ m).length c')
            exact retJo (below_but HB.out hb2 (Nat.le_add_right _ _)) (HT.out.but hb2 (Nat.lt_succ_self _)).at hcc
          have HBX : Hid (Box (put3 W (w.heap.size + 2) (.bool false) (.bool d2) (.slice p' (l ++ m).length c')) (w.heap.size + 2) (.bool false) (.bool d2) (.slice p' (l ++ m).length c')) := HY.out.put _ _ _
          clear HT hm0
          generalize l ++ m = L at *
          unfold put3 at HE HBX
          go_wp2
          exact bodyPost_ret (results_box rfl _ _ rfl HBX.out) rfl HE.out

end Go.Proofs.Ytidcfbjefemhdaa
