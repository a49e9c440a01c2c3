/- Rows that the reference's Make builds: cutting and joining. -/
import Derived.Test.YtmccfcllehfebaaA6
import Derived.Laws.OwnMore
namespace Go.Proofs.Ytmccfcllehfebaa.W
open Go Go.RowKit Go.Shelf Go.Sort

abbrev OwnL (hi : Nat) (W : World) (v : Value) (s : List Int) : Prop := W.ownsRow hi 3 1 v s.length (s.map (Value.int .i64))

theorem ownL_on {hi : Nat} {W W' : World} {v : Value} {s : List Int} (h : OwnL hi W v s) (hb : Below W.heap.size W W') : OwnL hi W' v s := ownsRow_on h hb
theorem ownL_less {hi hi' : Nat} {W : World} {v : Value} {s : List Int} (h : OwnL hi W v s) (hl : hi' ≤ hi) : OwnL hi' W v s := by
  refine ⟨h.1, ?_⟩
  rcases h.2 with h0 | ⟨g, cap, cur, h1, h2, h3⟩
  · exact .inl h0
  · exact .inr ⟨g, cap, cur, h1, Nat.le_trans hl h2, h3⟩
theorem ownL_at {hi : Nat} {W : World} {v : Value} {s : List Int} (h : OwnL hi W v s) : ∃ p c, v = .slice p s.length c ∧ AtF hi W p s ∧ (p = none → s = []) := by
  rcases h.2 with ⟨h0, h1⟩ | ⟨g, cap, cur, rfl, hb, hg, hc, _, hs, ht⟩
  · have : s = [] := List.eq_nil_of_length_eq_zero h1
    subst this
    exact ⟨none, 0, by rw [h0]; rfl, .nil _ _ _, fun _ => rfl⟩
  · refine ⟨some ⟨g, 0, none⟩, cap, rfl, .inr ⟨g, 0, rfl, hb, (Array.getElem?_eq_some_iff.1 hg).1, fun j hj => ?_⟩, fun h => by cases h⟩
    have hu : (s.map (Value.int .i64))[j]? = some (.int .i64 (s.getD j 0)) := by simp [List.getD, hj]
    rw [← ht, List.getElem?_take_of_lt (by omega)] at hu
    simp only [World.cell?, hg]
    simpa using hu

/-- append onto a row of one's own. -/
theorem append_own (hi : Nat) (v : Value) (s : List Int) (p : Option Addr) (cap : Nat) (l : List Int) (W : World) (hs : s.length ≤ 1000) (hl : l.length ≤ 1000) (hown : OwnL hi W v s) (h : At W p l) (hp : p = none → cap = 0) (hhi : hi ≤ W.heap.size) :
    ∃ v' W', (Builtin.append_ #[30, 30] 30 #[v, .slice p l.length cap]).run Try.prog W = .ok v' W' ∧ OwnL hi W' v' (s ++ l) ∧ Below hi W W' := by
  obtain ⟨i0, hi0, hz0, hz1, hz2⟩ := info_parts infoInt
  have key : ∀ (v' : Value) (W' : World), W'.ownsRow hi 3 1 v' (s.length + l.length) (s.map (Value.int .i64) ++ l.map (Value.int .i64)) → W.grownBy W' v.ownBlock → OwnL hi W' v' (s ++ l) ∧ Below hi W W' := fun v' W' h1 hg => by
    refine ⟨?_, hg.os, hg.tape, hg.output, hg.size, fun k hk => hg.block k (by omega) fun e => ?_⟩
    · show W'.ownsRow hi 3 1 v' (s ++ l).length ((s ++ l).map (Value.int .i64))
      rw [List.length_append, List.map_append]; exact h1
    · have := row_base hown k e.symm; omega
  cases p with
  | none =>
    obtain rfl : l = [] := by
      rcases h with e | ⟨b, off, e, _⟩
      · exact e
      · cases e
    obtain rfl := hp rfl
    have hrun := run_append_owned_none (P := Try.prog) (w := W) hi 30 30 3 i0 1 Try.underlying30 hi0 v s.length _ hown
    refine ⟨v, W, hrun, by rw [List.append_nil]; exact hown, Below.refl _ _⟩
  | some a =>
    obtain ⟨v', W', hrun, h1, hg, _⟩ := run_append_own (P := Try.prog) W hi 30 30 3 i0 (.int .i64 0) 1 8 Try.underlying30 hi0 hz0 hz1 hz2 rfl (by decide) v s.length _ hown
      a l.length cap (l.map (Value.int .i64)) (by simp) (fun j u hu => by
        rw [List.getElem?_map] at hu
        cases hj : l[j]? with
        | none => simp [hj] at hu
        | some x =>
          simp [hj] at hu
          subst hu
          have hjl := (List.getElem?_eq_some_iff.1 hj).1
          obtain ⟨bb, off, e, _, hc⟩ := h.resolve_left (fun e => by rw [e] at hjl; simp at hjl)
          cases e
          have := hc j hjl
          rw [show l.getD j 0 = x by simp [List.getD, hj]] at this
          rw [addr_add]
          exact this) (fun u hu => by
        obtain ⟨x, _, rfl⟩ := List.mem_map.1 hu
        rfl) (by unfold maxLen; omega) (by omega) hhi
    exact ⟨v', W', hrun, (key v' W' h1 hg).1, (key v' W' h1 hg).2⟩

/-- append onto an empty row without room: nothing that lay is turned. -/
theorem append_fresh (hi b : Nat) (p : Option Addr) (cap : Nat) (l : List Int) (W : World) (hl : l.length ≤ 1000) (hown : OwnL hi W (.slice (some ⟨b, 0, none⟩) 0 0) []) (h : At W p l) (hhi : hi ≤ W.heap.size) :
    ∃ v' W', (Builtin.append_ #[30, 30] 30 #[.slice (some ⟨b, 0, none⟩) 0 0, .slice p l.length cap]).run Try.prog W = .ok v' W' ∧ OwnL hi W' v' l ∧ Below W.heap.size W W' := by
  obtain ⟨i0, hi0, hz0, hz1, hz2⟩ := info_parts infoInt
  by_cases hnil : l = []
  · subst hnil
    cases p with
    | none => exact ⟨_, _, append_none b cap W, hown, Below.refl _ _⟩
    | some a =>
      have := run_append_room_cells (P := Try.prog) W 30 30 3 i0 Try.underlying30 hi0 b 0 0 0 a 0 cap [] (by simp) (fun j u hu => by simp at hu) (fun u hu => by simp at hu) (Nat.le_refl _) (fun j hj => by simp at hj) (fun j hj => by simp at hj)
      exact ⟨_, _, this, hown, Below.refl _ _⟩
  · obtain ⟨bb, off, rfl, hlt, hc⟩ := h.resolve_left hnil
    have hpos : 0 < l.length := List.length_pos_iff.2 hnil
    obtain ⟨v', w', hrun, hown', hg⟩ := run_append_arg_grows (P := Try.prog) W 30 30 3 i0 (.int .i64 0) 1 8 Try.underlying30 hi0 hz0 hz1 hz2 rfl (by decide) ⟨b, 0, none⟩ 0 0 [] rfl (fun j u hu => by simp at hu)
      ⟨bb, off, none⟩ l.length cap (l.map (Value.int .i64)) (by simp) (fun j u hu => by
        rw [List.getElem?_map] at hu
        cases hj : l[j]? with
        | none => simp [hj] at hu
        | some x =>
          simp [hj] at hu
          subst hu
          have hjl := (List.getElem?_eq_some_iff.1 hj).1
          have := hc j hjl
          rw [show l.getD j 0 = x by simp [List.getD, hj]] at this
          rw [addr_add]
          exact this) (by omega) (by unfold maxLen; omega) (by omega)
    rw [Nat.zero_add, List.nil_append] at hown'
    exact ⟨v', w', hrun, ownL_less hown' hhi, hg.os, hg.tape, hg.output, hg.size, fun k hk => hg.block k hk (by simp)⟩

/-- The front and the back of a row. -/
theorem cut_front {hi : Nat} {W : World} {v : Value} {s : List Int} (h : OwnL hi W v s) (j : Nat) (hj : j ≤ s.length) (hs : s.length ≤ 1000) :
    ∃ p c, (∀ W', (Instr.sliceAt 30 v none (some (.int .i64 (j : Int))) none).run Try.prog W' = .ok (.slice p j c) W') ∧ AtF hi W p (s.take j) := by
  rcases h.2 with ⟨h0, h1⟩ | ⟨g, cap, cur, h0, hb, hg, hc, hm, _⟩
  · obtain rfl : s = [] := List.eq_nil_of_length_eq_zero h1
    obtain rfl : j = 0 := by simpa using hj
    subst h0
    exact ⟨none, 0, fun W' => by kernel_rfl, by simp [AtF]⟩
  · obtain ⟨p, c, hv, hat, _⟩ := ownL_at h
    subst h0
    cases hv
    refine ⟨some ⟨g, 0, none⟩, cap, fun W' => ?_, ?_⟩
    · have h1 : (j : Int) ≤ (cap : Int) := by omega
      unfold maxLen at hm
      simp [go_sem, h1]
    · rcases hat with e | ⟨b, o, e, h2, h3, h4⟩
      · exact .inl (by rw [e]; simp)
      · refine .inr ⟨b, o, e, h2, h3, fun i hi' => ?_⟩
        have : i < j ∧ i < s.length := by simp at hi'; omega
        rw [h4 i this.2]
        simp [List.getD, this.1, this.2]

theorem cut_back {hi : Nat} {W : World} {v : Value} {s : List Int} (h : OwnL hi W v s) (j : Nat) (hj : j ≤ s.length) (hs : s.length ≤ 1000) :
    ∃ p c, (∀ W', (Instr.sliceAt 30 v (some (.int .i64 (j : Int))) none none).run Try.prog W' = .ok (.slice p (s.drop j).length c) W') ∧ AtF hi W p (s.drop j) ∧ (p = none → c = 0) := by
  rcases h.2 with ⟨h0, h1⟩ | ⟨g, cap, cur, h0, hb, hg, hc, hm, _⟩
  · obtain rfl : s = [] := List.eq_nil_of_length_eq_zero h1
    obtain rfl : j = 0 := by simpa using hj
    subst h0
    exact ⟨none, 0, fun W' => by kernel_rfl, by simp [AtF], fun _ => rfl⟩
  · obtain ⟨p, c, hv, hat, _⟩ := ownL_at h
    subst h0
    cases hv
    unfold maxLen at hm
    by_cases hcj : cap = j
    · have hlen : s.length = j := by omega
      refine ⟨some ⟨g, 0, none⟩, 0, fun W' => ?_, .inl (by rw [← hlen]; simp), fun h => by cases h⟩
      subst hcj
      rw [show (s.drop cap).length = 0 by simp; omega]
      rw [hlen]
      simp [go_sem]
    · refine ⟨some ⟨g, j, none⟩, cap - j, fun W' => ?_, ?_, fun h => by cases h⟩
      · have h1 : (j : Int) ≤ (s.length : Int) := by omega
        have h2 : (s.length : Int) ≤ (cap : Int) := by omega
        simp [go_sem, h1]
        intro e
        exact absurd e hcj
      · rcases hat with e | ⟨b, o, e, h2, h3, h4⟩
        · exact .inl (by rw [e]; simp)
        · cases e
          refine .inr ⟨g, j, rfl, h2, h3, fun i hi' => ?_⟩
          have hi2 : j + i < s.length := by simp at hi'; omega
          have := h4 (j + i) hi2
          rw [Nat.zero_add] at this
          rw [this]
          simp [List.getD]

end Go.Proofs.Ytmccfcllehfebaa.W

namespace Go.Proofs.Ytmccfcllehfebaa.W
open Go Go.RowKit Go.Shelf Go.Sort

theorem cnt_lt {x : Int} {s : List Int} {j : Nat} (h : j < cntB x s) : j < s.length ∧ s.getD j 0 < x := by
  have hl := Nat.lt_of_lt_of_le h (cnt_le x s)
  refine ⟨hl, ?_⟩
  have hm : s.getD j 0 ∈ s.take (cntB x s) := by
    rw [List.mem_take_iff_getElem]
    exact ⟨j, by omega, by simp [List.getD, hl]⟩
  rw [take_cnt] at hm
  exact takeWhile_lt _ hm
theorem dropWhile_head {p : Int → Bool} : ∀ {s : List Int} {y : Int} {r : List Int}, s.dropWhile p = y :: r → p y = false
  | [], _, _, h => by simp at h
  | z :: t, y, r, h => by
    rw [List.dropWhile_cons] at h
    split at h
    · exact dropWhile_head h
    · rename_i hz
      cases h
      simpa using hz
theorem cnt_at {x : Int} {s : List Int} (h : cntB x s < s.length) : ¬ s.getD (cntB x s) 0 < x := by
  intro hlt
  have hd := drop_cnt x s
  rw [List.drop_eq_getElem_cons h] at hd
  have : s.getD (cntB x s) 0 = s[cntB x s] := by simp [List.getD, h]
  rw [this] at hlt
  have h2 := dropWhile_head hd.symm
  simp at h2
  omega

/-- What Make leaves. -/
def MkPost (w : World) (l : List Int) (e : Ending) (w' : World) : Prop :=
  Below w.heap.size w w' ∧ ∃ p' c', e = .returned (.tuple #[.agg #[.bool false, .slice p' (mkV l).length c'], .int .i64 (mkE l)]) ∧ AtF w.heap.size w' p' (mkV l)

/-- What the loop of Make holds of the world. -/
structure MkInv (w wr : World) (s : List Int) (v : Value) : Prop where
  on : Below w.heap.size w wr
  res : Box wr w.heap.size (.bool false) (.slice none 0 0)
  box : Box wr (w.heap.size + 1) (.bool false) v
  row : OwnL (w.heap.size + 2) wr v s
theorem MkInv.drewN {w wr : World} {s : List Int} {v : Value} (h : MkInv w wr s v) (q : Nat) : MkInv w (wr.drewN q) s v :=
  ⟨on_drewN h.on q, ⟨h.res.row⟩, ⟨h.box.row⟩, ownL_on h.row (on_drewN (Below.refl _ _) q)⟩

theorem ownL_but {hi b : Nat} {W W' : World} {v : Value} {s : List Int} (h : OwnL hi W v s) (hb : But b W W') (hlt : b < hi) : OwnL hi W' v s := by
  refine ⟨h.1, ?_⟩
  rcases h.2 with h0 | ⟨g, cap, cur, h1, h2, h3, h4⟩
  · exact .inl h0
  · exact .inr ⟨g, cap, cur, h1, h2, (hb.block g (by omega)).trans h3, h4⟩

theorem insU_new {s : List Int} {x : Int} (h : s.contains x = false) : insU s x = s.take (cntB x s) ++ [x] ++ s.drop (cntB x s) := by
  unfold insU; rw [h]; simp

/-- What the joining of the parts holds of the world, ahead of the store and behind it. -/
def InsS (W0 : World) (B : Nat) (s : List Int) : Bool → World → Prop
  | true, W => Below W0.heap.size W0 W
  | false, W => ∃ W1 v', Below W0.heap.size W0 W1 ∧ W = W1.setCell ⟨B, 1, none⟩ v' ∧ OwnL W0.heap.size W1 v' s

theorem MkInv.stored {w W0 W : World} {s s' : List Int} {v : Value} (h : MkInv w W0 s v) (hS : InsS W0 (w.heap.size + 1) s' false W) : ∃ v', MkInv w W s' v' := by
  obtain ⟨W1, v', hb, rfl, hr⟩ := hS
  have hlt := h.box.lt
  have hbut := but_set W1 (w.heap.size + 1) 1 v'
  have h1 := h.res.on hb
  exact ⟨v', below_but (on_trans h.on hb) hbut (by omega), h1.but hbut (by omega), (h.box.on hb).put1 v', ownL_less (ownL_but hr hbut hlt) (by omega)⟩

/-- What each operation of the joining leaves. -/
def insG (hi B : Nat) (v4 A4 A15 lsl : Value) (s : List Int) (x : Int) (j k bl ol : Nat) (i : Nat) (v : Value) (W : World) : Prop :=
  match i with
  | 0 => ∃ b, v = .slice (some ⟨b, 0, none⟩) 0 0 ∧ OwnL hi W v []
  | 1 | 12 | 17 => v = .pointer (some ⟨B, 1, none⟩)
  | 2 | 13 => v = v4
  | 3 | 14 => v = .int .i64 j
  | 4 => v = A4
  | 5 => OwnL hi W v (s.take j)
  | 6 => v = lsl
  | 7 => v = .int .i64 k
  | 8 => v = .pointer (some ⟨bl, ol + k, none⟩)
  | 9 => v = .int .i64 x
  | 10 => ∃ b, v = .slice (some ⟨b, 0, none⟩) 1 1 ∧ At W (some ⟨b, 0, none⟩) [x]
  | 11 => OwnL hi W v (s.take j ++ [x])
  | 15 => v = A15
  | 16 => OwnL hi W v (s.take j ++ [x] ++ s.drop j)
  | _ => True
def insKeep (hi : Nat) (i : Nat) (w w' : World) : Prop := if i = 11 ∨ i = 16 then Below hi w w' else if i = 18 then True else Below w.heap.size w w'

theorem insG_on {hi B : Nat} {v4 A4 A15 lsl : Value} {s : List Int} {x : Int} {j k bl ol i : Nat} {v : Value} {W W' : World} (h : insG hi B v4 A4 A15 lsl s x j k bl ol i v W) (hb : Below W.heap.size W W') : insG hi B v4 A4 A15 lsl s x j k bl ol i v W' := by
  unfold insG at *
  split at h <;> first | exact h | skip
  · obtain ⟨b, h1, h2⟩ := h; exact ⟨b, h1, ownL_on h2 hb⟩
  · exact ownL_on h hb
  · obtain ⟨b, h1, h2⟩ := h; exact ⟨b, h1, h2.on hb⟩
  · exact ownL_on h hb
  · exact ownL_on h hb
theorem insG_is {hi B : Nat} {v4 A4 A15 lsl : Value} {s : List Int} {x : Int} {j k bl ol i : Nat} {v : Value} {W W' : World} (h : insG hi B v4 A4 A15 lsl s x j k bl ol i v W) (hi' : i ≠ 0 ∧ i ≠ 5 ∧ i ≠ 10 ∧ i ≠ 11 ∧ i ≠ 16) : insG hi B v4 A4 A15 lsl s x j k bl ol i v W' := by
  unfold insG at *
  split at h <;> first | exact h | (exfalso; omega)

set_option maxRecDepth 100000 in
set_option maxHeartbeats 4000000 in
theorem refMake_some (b off cap : Nat) (l : List Int) (w : World) (hl : l.length ≤ 1000) (hbl : b < w.heap.size) (hc : ∀ j, j < l.length → w.cell? ⟨b, off + j, none⟩ = some (.int .i64 (l.getD j 0))) :
    Calls Try.prog 59 #[.slice (some ⟨b, off, none⟩) l.length cap] w (MkPost w l) := by
  have HC : Hid (∀ W, Below w.heap.size w W → ∀ j, j < l.length → W.cell? ⟨b, off + j, none⟩ = some (.int .i64 (l.getD j 0))) := fun W hb j hj => (hb.cell (p := ⟨b, off + j, none⟩) hbl).trans (hc j hj)
  have HI : Hid (MkInv w ((w.alloc (.cells #[.bool false, .slice none 0 0] 32)).alloc (.cells #[.bool false, .slice none 0 0] 32)) [] (.slice none 0 0)) := by
    have h2 := Box.new (w.alloc (.cells #[.bool false, .slice none 0 0] 32)) (.bool false) (.slice none 0 0)
    rw [World.size_alloc] at h2
    exact ⟨on_trans (on_alloc w _) (on_alloc _ _), (Box.new w _ _).alloc _, h2, World.ownsRow_nil _ _ _ _⟩
  have HV1 : Hid (∀ (k : Nat), k < l.length → l.getD k 0 < 0 → mkV l = [] ∧ mkE l = 22) := fun k hk hx => by
    have : canB false (srt l) = false := by
      cases h : canB false (srt l) with
      | false => rfl
      | true => have := (can_srt.1 h).1 (l.getD k 0) (by simp [List.getD, hk]); omega
    simp [mkV, mkE, this]
  have HV2 : Hid (∀ (k : Nat), 32 < (srt (l.take k)).length → mkV l = [] ∧ mkE l = 22) := fun k hx => by
    have : canB false (srt l) = false := by
      cases h : canB false (srt l) with
      | false => rfl
      | true => have := (can_srt.1 h).2; have := srt_take_len l k; omega
    simp [mkV, mkE, this]
  clear hc
  go_enter Try.func59, Try.ntmps59
  go_wp2
  generalize (w.alloc (.cells #[.bool false, .slice none 0 0] 32)).alloc (.cells #[.bool false, .slice none 0 0] 32) = w0 at *
  go_loopw [5] (fun si wr => ∃ (k : Nat) (v : Value), k ≤ l.length ∧ si = .int .i64 k ∧ Hid (MkInv w wr (srt (l.take k)) v) ∧ Hid (∀ x ∈ l.take k, 0 ≤ x) ∧ Hid ((srt (l.take k)).length ≤ 32)) (fun i _ => l.length - (intOf i).toNat)
  case atStart => exact ⟨0, _, Nat.zero_le _, rfl, HI, fun x hx => by simp at hx, by show (srt (l.take 0)).length ≤ 32; simp [srt]⟩
  case round =>
    obtain ⟨k, v, hk, rfl, HM, HP, HL⟩ := hrel
    by_cases hlt : k < l.length
    · have hltz : (k : Int) < (l.length : Int) := by omega
      have hck := HC.out wr HM.out.on k hlt
      have HS : Hid (srt (l.take (k + 1)) = insU (srt (l.take k)) (l.getD k 0)) := by
        show srt (l.take (k + 1)) = _
        rw [srt_take_succ l k hlt]; simp [List.getD, hlt]
      have HT : Hid (l.take (k + 1) = l.take k ++ [l.getD k 0]) := by
        show l.take (k + 1) = _
        rw [List.take_add_one]; simp [List.getD, hlt]
      have HN := HV1.out k hlt
      by_cases hneg : l.getD k 0 < 0
      · obtain ⟨e1, e2⟩ := HN hneg
        have d1 : decide (l.getD k 0 < 0) = true := decide_eq_true hneg
        have f0 := HM.out.res.free0
        have f1 := HM.out.res.free1
        have x0 := HM.out.res.fst
        have x1 := HM.out.res.snd
        generalize l.getD k 0 = x at hck d1 hneg
        have HE1 : Hid (mkV l = []) := e1
        have HE2 : Hid (mkE l = 22) := e2
        clear e1 e2 HN
        go_wp2
        exact bodyPost_ret (results_box_tmp rfl _ _ rfl rfl (HM.out.res.put _ _)) rfl ⟨below_but HM.out.on (but_set2 _ _ _ _ _ _) (Nat.le_refl _), none, 0, by rw [HE1.out, HE2.out]; rfl, by rw [HE1.out]; exact .nil _ _ _⟩
      · have d1 : decide (l.getD k 0 < 0) = false := decide_eq_false hneg
        have HPx : Hid (∀ z ∈ l.take (k + 1), 0 ≤ z) := fun z hz => by
          rw [HT.out, List.mem_append] at hz
          rcases hz with hz | hz
          · exact HP.out z hz
          · obtain rfl : z = l.getD k 0 := by simpa using hz
            omega
        have HE := HV2.out (k + 1)
        rw [HS.out] at HE
        have HE2 : Hid (32 < (insU (srt (l.take k)) (l.getD k 0)).length → mkV l = [] ∧ mkE l = 22) := HE
        clear HE HN HP HT HV1
        generalize srt (l.take k) = s at *
        generalize l.getD k 0 = x at *
        obtain ⟨p, c, rfl, hat, hpn⟩ := ownL_at HM.out.row
        have y1 := HM.out.box.snd
        have h32 := HL.out
        have cI := fun W (hA : At W p s) => in_any p c s x W (by omega) hA
        have HA : Hid (AtF (w.heap.size + 2) wr p s) := hat
        by_cases hin : s.contains x = true
        · rw [hin] at cI
          have HU : Hid (srt (l.take (k + 1)) = s) := by show srt (l.take (k + 1)) = s; rw [HS.out]; unfold insU; rw [hin]; rfl
          clear hat hin
          go_wp2
          go_quiet (first | (go_at_call 67; refine Calls.quiet_of_same (cI _ (HA.out.at.on (on_drewN (Below.refl _ _) _)))))
          go_wp2
          go_roundw
          case rel => exact ⟨k + 1, _, by omega, by go_num, by show MkInv w _ (srt (l.take (k + 1))) _; rw [HU.out]; exact HM.out.drewN _, HPx, by show (srt (l.take (k + 1))).length ≤ 32; rw [HU.out]; exact h32⟩
          case measure => simp [intOf]; omega
        · have hin' : s.contains x = false := by simpa using hin
          rw [hin'] at cI
          have HU : Hid (insU s x = s.take (cntB x s) ++ [x] ++ s.drop (cntB x s)) := insU_new hin'
          clear hat hin hin'
          go_wp2
          go_quiet (first | (go_at_call 67; refine Calls.quiet_of_same (cI _ (HA.out.at.on (on_drewN (Below.refl _ _) _)))))
          go_wp2
          go_loopw [6] (fun s6 w2 => ∃ j q : Nat, j ≤ cntB x s ∧ s6 = .int .i64 j ∧ w2 = wr.drewN q) (fun i _ => s.length + 1 - (intOf i).toNat)
          case atStart => exact ⟨0, _, Nat.zero_le _, rfl, rfl⟩
          case round =>
            obtain ⟨j, q, hj, rfl, rfl⟩ := hrel
            by_cases hjc : j < cntB x s
            · obtain ⟨hjl, hsx⟩ := cnt_lt hjc
              have hjz : (j : Int) < (s.length : Int) := by omega
              have djz : decide ((j : Int) < (s.length : Int)) = true := decide_eq_true hjz
              have djn : decide (j < s.length) = true := decide_eq_true hjl
              obtain ⟨b1, o1, rfl, hb1, hb2, hcs⟩ := HA.out.resolve_left (fun e => by rw [e] at hjl; simp at hjl)
              have hcj := hcs j hjl
              have dsx : decide (s.getD j 0 < x) = true := decide_eq_true hsx
              have hck2 : (wr.drewN q).cell? ⟨b, off + k, none⟩ = some (.int .i64 x) := hck
              clear hcs hb1
              generalize s.getD j 0 = y at hcj dsx hsx
              go_wp2
              go_quiet (fail)
              go_wp2
              go_roundw
              case rel => exact ⟨j + 1, _, by omega, by go_num, rfl⟩
              case measure => simp [intOf]; omega
            · obtain rfl : j = cntB x s := by omega
              have hle := cnt_le x s
              by_cases hlen : cntB x s < s.length
              have hsx := cnt_at hlen
              have hjz : (cntB x s : Int) < (s.length : Int) := by omega
              have djz : decide ((cntB x s : Int) < (s.length : Int)) = true := decide_eq_true hjz
              have djn : decide (cntB x s < s.length) = true := decide_eq_true hlen
              obtain ⟨b1, o1, rfl, hb1, hb2, hcs⟩ := HA.out.resolve_left (fun e => by rw [e] at hlen; simp at hlen)
              have hcj := hcs _ hlen
              have dsx : decide (s.getD (cntB x s) 0 < x) = false := decide_eq_false hsx
              clear hcs hb1
              generalize s.getD (cntB x s) 0 = y at hcj dsx hsx
              generalize hJ : cntB x s = J at *
              go_wp2
              go_quiet (fail)
              go_wp2
              rotate_left
              have hjz : ¬ (cntB x s : Int) < (s.length : Int) := by omega
              have djz : decide ((cntB x s : Int) < (s.length : Int)) = false := decide_eq_false hjz
              have djn : decide (cntB x s < s.length) = false := decide_eq_false hlen
              generalize hJ : cntB x s = J at *
              go_wp2
              go_quiet (fail)
              go_wp2
              all_goals
                have hckW : ((wr.drewN q).drewN nq).cell? ⟨b, off + k, none⟩ = some (.int .i64 x) := hck
                obtain ⟨v4, HW⟩ : ∃ v4, MkInv w ((wr.drewN q).drewN nq) s v4 := ⟨_, (HM.out.drewN q).drewN nq⟩
                generalize (wr.drewN q).drewN nq = W0 at *
                obtain ⟨p4, c4, hrun4, hat4⟩ := cut_front HW.row J (by omega) (by omega)
                obtain ⟨p15, c15, hrun15, hat15, hp15⟩ := cut_back HW.row J (by omega) (by omega)
                have hJl : (s.take J).length = J := by simp; omega
                have hB0 := HW.box.lt
                have hbW := Nat.lt_of_lt_of_le hbl HW.on.size
                refine wp_region_two (S := InsS W0 (w.heap.size + 1) (insU s x)) (u := 18) (Keep := insKeep W0.heap.size)
                  (g := insG W0.heap.size (w.heap.size + 1) v4 (.slice p4 J c4) (.slice p15 (s.drop J).length c15) (.slice (some ⟨b, off, none⟩) l.length cap) s x J k b off)
                  (tab := [[], [(4, none)], [(47, some 1)], [(6, none)], [(48, some 2), (49, some 3)], [(46, some 0), (50, some 4)], [(0, none)], [(5, none)], [(52, some 6), (53, some 7)], [(54, some 8)], [(55, some 9)], [(51, some 5), (56, some 10)], [(4, none)], [(58, some 12)], [(6, none)], [(59, some 13), (60, some 14)], [(57, some 11), (61, some 15)], [(4, none)], [(63, some 17), (62, some 16)]])
                  (tl := [(0, 11), (5, 11), (10, 11), (11, 16), (16, 18)]) (n := 70)
                  (by kernel_rfl) rfl (by kernel_rfl) ?hK (on_drew (Below.refl _ _)) ?st ?en
                case hK =>
                  intro i j' v w1 w2 hk hne hed htl hg
                  by_cases h11 : i = 11
                  · subst h11
                    by_cases e0 : j' = 0
                    · subst e0; exact absurd rfl (htl 11 rfl).1
                    by_cases e5 : j' = 5
                    · subst e5; exact absurd rfl (htl 11 rfl).1
                    by_cases e10 : j' = 10
                    · subst e10; exact absurd rfl (htl 11 rfl).1
                    by_cases e16 : j' = 16
                    · subst e16; exact absurd hed (by decide +kernel)
                    exact insG_is hg ⟨e0, e5, e10, hne, e16⟩
                  by_cases h16 : i = 16
                  · subst h16
                    by_cases e0 : j' = 0
                    · subst e0; exact absurd (htl 11 rfl).2 (by decide +kernel)
                    by_cases e5 : j' = 5
                    · subst e5; exact absurd (htl 11 rfl).2 (by decide +kernel)
                    by_cases e10 : j' = 10
                    · subst e10; exact absurd (htl 11 rfl).2 (by decide +kernel)
                    by_cases e11 : j' = 11
                    · subst e11; exact absurd rfl (htl 16 rfl).1
                    exact insG_is hg ⟨e0, e5, e10, e11, hne⟩
                  by_cases h18 : i = 18
                  · subst h18
                    by_cases e0 : j' = 0
                    · subst e0; exact absurd (htl 11 rfl).2 (by decide +kernel)
                    by_cases e5 : j' = 5
                    · subst e5; exact absurd (htl 11 rfl).2 (by decide +kernel)
                    by_cases e10 : j' = 10
                    · subst e10; exact absurd (htl 11 rfl).2 (by decide +kernel)
                    by_cases e11 : j' = 11
                    · subst e11; exact absurd (htl 16 rfl).2 (by decide +kernel)
                    by_cases e16 : j' = 16
                    · subst e16; exact absurd rfl (htl 18 rfl).1
                    exact insG_is hg ⟨e0, e5, e10, e11, e16⟩
                  refine insG_on hg ?_
                  unfold insKeep at hk
                  rw [if_neg (by omega), if_neg h18] at hk
                  exact hk
                case st =>
                  refine ⟨fun ρ W f hf hr hS hs => ?_, fun ρ W f hf hr hS hs => ?_, fun ρ W f hf hr hS hs => ?_, fun ρ W f hf hr hS hs => ?_, fun ρ W f hf hr hS hs => ?_, fun ρ W f hf hr hS hs => ?_, fun ρ W f hf hr hS hs => ?_, fun ρ W f hf hr hS hs => ?_, fun ρ W f hf hr hS hs => ?_, fun ρ W f hf hr hS hs => ?_, fun ρ W f hf hr hS hs => ?_, fun ρ W f hf hr hS hs => ?_, fun ρ W f hf hr hS hs => ?_, fun ρ W f hf hr hS hs => ?_, fun ρ W f hf hr hS hs => ?_, fun ρ W f hf hr hS hs => ?_, fun ρ W f hf hr hS hs => ?_, fun ρ W f hf hr hS hs => ?_, fun ρ W f hf hr hS hs => ?_, trivial⟩
                  all_goals
                    obtain rfl : f = true := hf (by kernel_rfl)
                    have hS' : Below W0.heap.size W0 W := hS
                    clear hf
                  · have hb := on_alloc W (.cells #[] 3)
                    refine step_plain rfl (leaves_value (v := .slice (some ⟨W.heap.size, 0, none⟩) 0 0) (w' := W.alloc (.cells #[] 3)) ?_ ⟨⟨_, rfl, World.ownsRow_made W #[] 0 hS'.size (by unfold maxLen; omega) rfl⟩, on_trans hS' hb, hb⟩)
                    simp [go_sem]
                  · have h4 : ρ (.tmp 4) = .pointer (some ⟨w.heap.size + 1, 0, none⟩) := hs.1
                    refine step_plain rfl (leaves_value (v := .pointer (some ⟨w.heap.size + 1, 1, none⟩)) (w' := W) ?_ ⟨rfl, hS, Below.refl _ _⟩)
                    simp [go_sem, h4]
                  · have h4 : ρ (.tmp 47) = .pointer (some ⟨w.heap.size + 1, 1, none⟩) := hs.1
                    have hc := (HW.box.on hS').snd
                    refine step_plain rfl (leaves_value (v := v4) (w' := W) ?_ ⟨rfl, hS, Below.refl _ _⟩)
                    simp [go_sem, h4, hc]
                  · exact step_plain rfl (leaves_move (.tmp 6) rfl ⟨hs.1, hS, Below.refl _ _⟩)
                  · have h1 : ρ (.tmp 48) = v4 := hs.1
                    have h2 : ρ (.tmp 49) = .int .i64 J := hs.2.1
                    refine step_plain rfl (leaves_slice _ (.tmp 48) none (some (.tmp 49)) none rfl (v := .slice p4 J c4) ?_ ⟨rfl, hS, Below.refl _ _⟩)
                    simp only [Option.map_some, Option.map_none, h1, h2]
                    exact hrun4 W
                  · obtain ⟨⟨b0, h1, how⟩, h2, _⟩ := hs
                    have h2' : ρ (.tmp 50) = .slice p4 J c4 := h2
                    rw [h1] at how
                    obtain ⟨v', W', hrun, hown, hb⟩ := append_fresh W0.heap.size b0 p4 c4 (s.take J) W (by omega) how (hat4.at.on hS') hS'.size
                    rw [hJl] at hrun
                    refine step_plain rfl (leaves_append (v := v') (w' := W') (.tmp 46) (.tmp 50) 30 rfl ?_ ⟨hown, on_trans hS' hb, hb⟩)
                    rw [h1, h2']; exact hrun
                  · exact step_plain rfl (leaves_move (.tmp 0) rfl ⟨hs.1, hS, Below.refl _ _⟩)
                  · exact step_plain rfl (leaves_move (.tmp 5) rfl ⟨hs.1, hS, Below.refl _ _⟩)
                  · have h1 : ρ (.tmp 52) = .slice (some ⟨b, off, none⟩) l.length cap := hs.1
                    have h2 : ρ (.tmp 53) = .int .i64 k := hs.2.1
                    refine step_plain rfl (leaves_value (v := .pointer (some ⟨b, off + k, none⟩)) (w' := W) ?_ ⟨rfl, hS, Below.refl _ _⟩)
                    simp [go_sem, h1, h2, hlt]
                  · have h1 : ρ (.tmp 54) = .pointer (some ⟨b, off + k, none⟩) := hs.1
                    have hc := (hS'.cell (p := ⟨b, off + k, none⟩) hbW).trans hckW
                    refine step_plain rfl (leaves_value (v := .int .i64 x) (w' := W) ?_ ⟨rfl, hS, Below.refl _ _⟩)
                    simp [go_sem, h1, hc]
                  · have h1 : ρ (.tmp 55) = .int .i64 x := hs.1
                    have hb := on_alloc W (.cells #[.int .i64 x] 3)
                    refine step_plain rfl (leaves_value (v := .slice (some ⟨W.heap.size, 0, none⟩) 1 1) (w' := W.alloc (.cells #[.int .i64 x] 3)) ?_ ⟨⟨_, rfl, at_row (l := [x]) (World.alloc_heap_new W _)⟩, on_trans hS' hb, hb⟩)
                    simp [go_sem, h1]
                  · obtain ⟨h1, ⟨b0, h2, hA⟩, _⟩ := hs
                    have h1' : OwnL W0.heap.size W (ρ (.tmp 51)) (s.take J) := h1
                    obtain ⟨v', W', hrun, hown, hb⟩ := append_own W0.heap.size (ρ (.tmp 51)) (s.take J) (some ⟨b0, 0, none⟩) 1 [x] W (by omega) (by simp) h1' hA (fun h => by cases h) hS'.size
                    refine step_plain rfl (leaves_append (v := v') (w' := W') (.tmp 51) (.tmp 56) 30 rfl ?_ ⟨hown, hS'.trans hb, hb⟩)
                    rw [h2]; exact hrun
                  · have h4 : ρ (.tmp 4) = .pointer (some ⟨w.heap.size + 1, 0, none⟩) := hs.1
                    refine step_plain rfl (leaves_value (v := .pointer (some ⟨w.heap.size + 1, 1, none⟩)) (w' := W) ?_ ⟨rfl, hS, Below.refl _ _⟩)
                    simp [go_sem, h4]
                  · have h4 : ρ (.tmp 58) = .pointer (some ⟨w.heap.size + 1, 1, none⟩) := hs.1
                    have hc := (HW.box.on hS').snd
                    refine step_plain rfl (leaves_value (v := v4) (w' := W) ?_ ⟨rfl, hS, Below.refl _ _⟩)
                    simp [go_sem, h4, hc]
                  · exact step_plain rfl (leaves_move (.tmp 6) rfl ⟨hs.1, hS, Below.refl _ _⟩)
                  · have h1 : ρ (.tmp 59) = v4 := hs.1
                    have h2 : ρ (.tmp 60) = .int .i64 J := hs.2.1
                    refine step_plain rfl (leaves_slice _ (.tmp 59) (some (.tmp 60)) none none rfl (v := .slice p15 (s.drop J).length c15) ?_ ⟨rfl, hS, Below.refl _ _⟩)
                    simp only [Option.map_some, Option.map_none, h1, h2]
                    exact hrun15 W
                  · obtain ⟨h1, h2, _⟩ := hs
                    have h1' : OwnL W0.heap.size W (ρ (.tmp 57)) (s.take J ++ [x]) := h1
                    have h2' : ρ (.tmp 61) = .slice p15 (s.drop J).length c15 := h2
                    obtain ⟨v', W', hrun, hown, hb⟩ := append_own W0.heap.size (ρ (.tmp 57)) (s.take J ++ [x]) p15 c15 (s.drop J) W (by simp; omega) (by simp; omega) h1' (hat15.at.on hS') hp15 hS'.size
                    refine step_plain rfl (leaves_append (v := v') (w' := W') (.tmp 57) (.tmp 61) 30 rfl ?_ ⟨hown, hS'.trans hb, hb⟩)
                    rw [h2']; exact hrun
                  · have h4 : ρ (.tmp 4) = .pointer (some ⟨w.heap.size + 1, 0, none⟩) := hs.1
                    refine step_plain rfl (leaves_value (v := .pointer (some ⟨w.heap.size + 1, 1, none⟩)) (w' := W) ?_ ⟨rfl, hS, Below.refl _ _⟩)
                    simp [go_sem, h4]
                  · obtain ⟨h1, h2, _⟩ := hs
                    have h1' : ρ (.tmp 63) = .pointer (some ⟨w.heap.size + 1, 1, none⟩) := h1
                    have h2' : OwnL W0.heap.size W (ρ (.tmp 62)) (s.take J ++ [x] ++ s.drop J) := h2
                    rw [← HU.out] at h2'
                    obtain ⟨p', c', h3, _⟩ := ownL_at h2'
                    have hX := HW.box.on hS'
                    have f1 := hX.free1
                    have x1 := hX.snd
                    refine step_plain rfl (leaves_skip (w' := W.setCell ⟨w.heap.size + 1, 1, none⟩ (ρ (.tmp 62))) ?_ ⟨trivial, ⟨W, ρ (.tmp 62), hS', rfl, h2'⟩, trivial⟩)
                    rw [h3]
                    simp [go_sem, h1', h3, f1, x1]
                case en =>
                  intro f W hf hS
                  obtain rfl : f = false := hf (by decide)
                  intro v0 h0 v1 h1 v2 h2 v3 h3 v4' h4 v5 h5 v6 h6 v7 h7 v8 h8 v9 h9 v10 h10 v11 h11 v12 h12 v13 h13 v14 h14 v15 h15 v16 h16 v17 h17 h18
                  clear h0 h1 h2 h3 h4 h5 h6 h7 h8 h9 h10 h11 h12 h13 h14 h15 h16 h17 h18
                  simp only [ends, Act.put, List.setIfInBounds_toArray, List.set_cons_succ, List.set_cons_zero]
                  obtain ⟨vn, hM2⟩ := HW.stored hS
                  obtain ⟨pn, cn, rfl, _, _⟩ := ownL_at hM2.row
                  have z1 := hM2.box.snd
                  have g0 := hM2.res.free0
                  have g1 := hM2.res.free1
                  have r0 := hM2.res.fst
                  have r1 := hM2.res.snd
                  have HM2 : Hid (MkInv w W (insU s x) _) := hM2
                  have HZ : Hid (srt (l.take (k + 1)) = insU s x) := HS
                  clear hS hM2 HS HU
                  generalize insU s x = s2 at *
                  by_cases h33 : 32 < s2.length
                  · have hgt : (32 : Int) < (s2.length : Int) := by omega
                    have HE3 : Hid (mkV l = [] ∧ mkE l = 22) := HE2.out h33
                    go_wp2
                    exact bodyPost_ret (results_box_tmp rfl _ _ rfl rfl (HM2.out.res.put _ _)) rfl ⟨below_but HM2.out.on (but_set2 _ _ _ _ _ _) (Nat.le_refl _), none, 0, by rw [HE3.out.1, HE3.out.2]; rfl, by rw [HE3.out.1]; exact .nil _ _ _⟩
                  · have hgt : ¬ (32 : Int) < (s2.length : Int) := by omega
                    go_wp2
                    go_roundw
                    case rel => exact ⟨k + 1, _, by omega, by go_num, by show MkInv w _ (srt (l.take (k + 1))) _; rw [HZ.out]; exact HM2.out, HPx, by show (srt (l.take (k + 1))).length ≤ 32; rw [HZ.out]; omega⟩
                    case measure => simp [intOf]; omega
    · obtain rfl : k = l.length := by omega
      have hltz : ¬ (l.length : Int) < (l.length : Int) := by omega
      have f0 := HM.out.res.free0
      have f1 := HM.out.res.free1
      have x0 := HM.out.res.fst
      have x1 := HM.out.res.snd
      have y0 := HM.out.box.fst
      have y1 := HM.out.box.snd
      have hM := HM.out
      rw [List.take_length] at hM
      obtain ⟨p, c, rfl, hat, _⟩ := ownL_at hM.row
      have HCan : Hid (canB false (srt l) = true) := can_srt.2 ⟨by have := HP.out; rwa [List.take_length] at this, by have := HL.out; rwa [List.take_length] at this⟩
      have hat2 := hat.but (but_set2 wr w.heap.size 0 1 (.bool false) (.slice p (srt l).length c)) (by omega)
      have hon := below_but hM.on (but_set2 wr w.heap.size 0 1 (.bool false) (.slice p (srt l).length c)) (Nat.le_refl _)
      have HRB : Hid (Box ((wr.setCell ⟨w.heap.size, 0, none⟩ (.bool false)).setCell ⟨w.heap.size, 1, none⟩ (.slice p (srt l).length c)) w.heap.size (.bool false) (.slice p (srt l).length c)) := hM.res.put _ _
      clear hM
      go_wp2
      exact bodyPost_ret (results_box_tmp rfl _ _ rfl rfl HRB.out) rfl ⟨hon, p, c, by rw [show mkV l = srt l by unfold mkV; rw [HCan.out]; rfl, show mkE l = 0 by unfold mkE; rw [HCan.out]; rfl]; rfl, by
        rw [show mkV l = srt l by unfold mkV; rw [HCan.out]; rfl]
        exact hat2.less (by omega)⟩

end Go.Proofs.Ytmccfcllehfebaa.W

namespace Go.Proofs.Ytmccfcllehfebaa.W
open Go Go.RowKit Go.Shelf Go.Sort

set_option maxRecDepth 100000 in
set_option maxHeartbeats 1000000 in
theorem refMake_zero (p : Option Addr) (cap : Nat) (w : World) : Calls Try.prog 59 #[.slice p 0 cap] w (MkPost w []) := by
  have h2 := Box.new (w.alloc (.cells #[.bool false, .slice none 0 0] 32)) (.bool false) (.slice none 0 0)
  rw [World.size_alloc] at h2
  have h1 := (Box.new w (.bool false) (.slice none 0 0)).alloc (.cells #[.bool false, .slice none 0 0] 32)
  have hon := on_trans (on_alloc w (.cells #[.bool false, .slice none 0 0] 32)) (on_alloc _ (.cells #[.bool false, .slice none 0 0] 32))
  have H1 : Hid _ := h1
  have H2 : Hid _ := h2
  have HO : Hid _ := hon
  clear h1 h2 hon
  go_enter Try.func59, Try.ntmps59
  go_wp2
  generalize (w.alloc (.cells #[.bool false, .slice none 0 0] 32)).alloc (.cells #[.bool false, .slice none 0 0] 32) = w0 at *
  go_loop [5] (fun i => i = .int .i64 0) (fun _ => 0)
  case atStart => rfl
  case round =>
    subst hrel
    have f0 := H1.out.free0
    have f1 := H1.out.free1
    have x0 := H1.out.fst
    have x1 := H1.out.snd
    have y0 := H2.out.fst
    have y1 := H2.out.snd
    go_wp2
    exact bodyPost_ret (results_box_tmp rfl _ _ rfl rfl (H1.out.put _ _)) rfl ⟨below_but HO.out (but_set2 _ _ _ _ _ _) (Nat.le_refl _), none, 0, rfl, .nil _ _ _⟩

theorem refMake_any (p : Option Addr) (cap : Nat) (l : List Int) (w : World) (hl : l.length ≤ 1000) (h : At w p l) : Calls Try.prog 59 #[.slice p l.length cap] w (MkPost w l) := by
  rcases h with rfl | ⟨b, off, rfl, hlt, hc⟩
  · exact refMake_zero p cap w
  · exact refMake_some b off cap l w hl hlt hc

theorem can_mkV (l : List Int) : canB false (mkV l) = true := by
  unfold mkV
  cases h : canB false (srt l) with
  | true => exact h
  | false => rfl

theorem leaves_eqErr {o : Oper} {ρ : Operand → Value} {w : World} {post : Value → World → Prop} (x y : Operand) (ho : o.op = .binOp .eql 40 x y 40) (e : Int) (hx : ρ x = .int .i64 e) (hy : ρ y = .int .i64 e)
    (h : post (.bool true) w) : leaves Try.prog o ρ w post := by
  refine leaves_value (v := .bool true) (w' := w) ?_ h
  obtain ⟨dst, op, ty, pos, after, guard⟩ := o
  simp only at ho
  subst ho
  simp [go_sem, hx, hy]

theorem mkV_len (l : List Int) : (mkV l).length ≤ 32 := (canB_rise (can_mkV l)).1

end Go.Proofs.Ytmccfcllehfebaa.W
