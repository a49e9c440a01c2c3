/- One cell in a block of its own, and the closure that cuts a part. -/
import Derived.Test.YtidcfbjefemhdaaPOwn
import Derived.Test.YtidcfbjefemhdaaReg2
namespace Go.Proofs.Ytidcfbjefemhdaa
open Go Go.RowKit

/-- A variable in a block of its own. -/
structure One (w : World) (b : Nat) (t : TypeId) (v : Value) : Prop where
  row : w.heap[b]? = some (.cells #[v] t (0, 0))
section
variable {w w' : World} {b B c : Nat} {t : TypeId} {v : Value}
theorem One.lt (h : One w b t v) : b < w.heap.size := (Array.getElem?_eq_some_iff.1 h.row).1
theorem One.cell (h : One w b t v) : w.cell? ⟨b, 0, none⟩ = some v := cell_of_row _ _ 0 _ _ _ h.row
theorem One.free (h : One w b t v) : w.frozen? ⟨b, 0, none⟩ = false := by simp [World.frozen?, h.row]
theorem One.new (w : World) (t : TypeId) (v : Value) : One (w.alloc (.cells #[v] t)) w.heap.size t v := ⟨World.alloc_heap_new w _⟩
theorem One.below (h : One w b t v) (hb : Below B w w') (hB : b < B) : One w' b t v := ⟨(hb.block b hB).trans h.row⟩
theorem One.on (h : One w b t v) (hb : Below w.heap.size w w') : One w' b t v := h.below hb h.lt
theorem One.alloc (h : One w b t v) (o : Obj) : One (w.alloc o) b t v := h.on (on_alloc w o)
theorem One.drew (h : One w b t v) : One w.drew b t v := ⟨h.row⟩
theorem One.but (h : One w c t v) (k : But b w w') (hne : c ≠ b) : One w' c t v := ⟨(k.block c hne).trans h.row⟩
theorem One.put (h : One w b t v) (u : Value) : One (w.setCell ⟨b, 0, none⟩ u) b t u := ⟨by simp [World.setCell, Array.getElem?_modify, h.row]⟩
end

/-- All blocks below a bound, but one, are as they were. -/
structure Apart (hi b : Nat) (w w' : World) : Prop where
  os : w'.os = w.os
  tape : w'.tape = w.tape
  output : w'.output = w.output
  size : w.heap.size ≤ w'.heap.size
  block : ∀ k, k < hi → k ≠ b → w'.heap[k]? = w.heap[k]?
theorem Apart.of {hi b : Nat} {w w' : World} (h : Below hi w w') : Apart hi b w w' := ⟨h.os, h.tape, h.output, h.size, fun k hk _ => h.block k hk⟩
theorem Apart.below {hi b : Nat} {w w1 w2 : World} (h : Apart hi b w w1) (k : Below hi w1 w2) : Apart hi b w w2 :=
  ⟨k.os.trans h.os, k.tape.trans h.tape, k.output.trans h.output, Nat.le_trans h.size k.size, fun j hj hne => (k.block j hj).trans (h.block j hj hne)⟩
theorem Apart.but {hi b : Nat} {w w1 w2 : World} (h : Apart hi b w w1) (k : But b w1 w2) : Apart hi b w w2 :=
  ⟨k.os.trans h.os, k.tape.trans h.tape, k.output.trans h.output, by rw [k.size]; exact h.size, fun j hj hne => (k.block j hne).trans (h.block j hj hne)⟩
theorem Apart.base {hi b base : Nat} {w w' : World} (h : Apart hi b w w') (h1 : base ≤ b) (h2 : base ≤ hi) : Below base w w' :=
  ⟨h.os, h.tape, h.output, h.size, fun k hk => h.block k (by omega) (by omega)⟩
theorem Apart.one {hi b c : Nat} {w w' : World} {t : TypeId} {v : Value} (h : Apart hi b w w') (o : One w c t v) (h1 : c < hi) (h2 : c ≠ b) : One w' c t v := ⟨(h.block c h1 h2).trans o.row⟩
theorem Apart.box {hi b c : Nat} {w w' : World} {v0 v1 v2 : Value} (h : Apart hi b w w') (o : Box w c v0 v1 v2) (h1 : c < hi) (h2 : c ≠ b) : Box w' c v0 v1 v2 := ⟨(h.block c h1 h2).trans o.row⟩

theorem slice_str (s : ByteArray) (i j : Nat) (w : World) (hij : i ≤ j) (hj : j ≤ s.size) (_hs : s.size ≤ 100000) :
    (Instr.sliceAt 9 (.string s) (some (.int .i64 (i : Int))) (some (.int .i64 (j : Int))) none).run Try.prog w = .ok (.string (s.extract i j)) w := by
  have h1 : (i : Int) ≤ (j : Int) := by omega
  have h2 : (j : Int) ≤ (s.size : Int) := by omega
  simp [go_sem, h1, h2]

/-- What a cut leaves. -/
def cutPs (s : ByteArray) (st k : Nat) (ps : List ByteArray) : List ByteArray := if st < k then ps ++ [s.extract st k] else ps
def CutPost (base hi b0 b1 b2 : Nat) (s : ByteArray) (k : Nat) (ps : List ByteArray) (w w' : World) : Prop :=
  ∃ v', One w' b0 9 (.string s) ∧ One w' b1 22 v' ∧ One w' b2 3 (.int .i64 (k + 1 : Nat)) ∧ OwnL hi w' v' ps ∧ Below base w w'

/-- The world in such a region: till the row is turned nothing is, then one block below the bound may be. -/
def rowS (hi b : Nat) (E : World → Prop) (w : World) (f : Bool) (W : World) : Prop := if f then Below w.heap.size w W else Apart hi b w W ∧ E W
theorem rowS_one {hi b c : Nat} {w W : World} {f : Bool} {t : TypeId} {v : Value} {E : World → Prop} (h : rowS hi b E w f W) (o : One w c t v) (h1 : c < hi) (h2 : c ≠ b) : One W c t v := by
  cases f
  · exact Apart.one (show Apart hi b w W ∧ E W from h).1 o h1 h2
  · exact o.on h
theorem rowS_box {hi b c : Nat} {w W : World} {f : Bool} {v0 v1 v2 : Value} {E : World → Prop} (h : rowS hi b E w f W) (o : Box w c v0 v1 v2) (h1 : c < hi) (h2 : c ≠ b) : Box W c v0 v1 v2 := by
  cases f
  · exact Apart.box (show Apart hi b w W ∧ E W from h).1 o h1 h2
  · exact o.on h

/-- What is said of the values of a region that lays one text more behind a row: of the text's own row (n), of the row that is made (m), of the store (z), of all others what they are. -/
def rowG (hi : Nat) (ks : List Value) (n m z : Nat) (x : ByteArray) (ps : List ByteArray) (Z : World → Prop) (i : Nat) (v : Value) (W : World) : Prop :=
  if i = n then ∃ a, v = .slice (some a) 1 1 ∧ At W (some a) [x] else if i = m then OwnL hi W v ps else if i = z then Z W else match ks[i]? with | some u => v = u | none => True

/-- The last two operations alone turn what is older. -/
def rowKeep (hi b m z : Nat) (i : Nat) (w w' : World) : Prop := if i = m then Below hi w w' else if i = z then But b w w' else Below w.heap.size w w'

theorem rowG_keep {ops : Array Oper} {hi b : Nat} {ks : List Value} {n m z : Nat} {x : ByteArray} {ps : List ByteArray} {Z : World → Prop} (hb : b < hi) (hzm : edge ops z m = true)
    (hZ : ∀ w w', Z w → Below w.heap.size w w' → Z w')
    (i j : Nat) (v : Value) (w w' : World) (hk : rowKeep hi b m z i w w') (hne : j ≠ i) (hed : edge ops j i = false) (ht : ∀ u, (([(n, m)] : Till).lookup j) = some u → u ≠ i ∧ edge ops i u = false)
    (hg : rowG hi ks n m z x ps Z j v w) : rowG hi ks n m z x ps Z j v w' := by
  unfold rowG at hg ⊢
  by_cases hjn : j = n
  · rw [if_pos hjn] at hg ⊢
    obtain ⟨h1, h2⟩ := ht m (by simp [List.lookup, hjn])
    have him : i ≠ m := fun e => h1 e.symm
    have hiz : i ≠ z := fun e => by subst e; rw [hzm] at h2; cases h2
    unfold rowKeep at hk
    rw [if_neg him, if_neg hiz] at hk
    obtain ⟨a, e, hat⟩ := hg
    exact ⟨a, e, hat.on hk⟩
  · rw [if_neg hjn] at hg ⊢
    by_cases hjm : j = m
    · rw [if_pos hjm] at hg ⊢
      have him : i ≠ m := fun e => hne (hjm.trans e.symm)
      unfold rowKeep at hk
      rw [if_neg him] at hk
      by_cases hiz : i = z
      · rw [if_pos hiz] at hk; exact ownL_but hg hk hb
      · rw [if_neg hiz] at hk; exact ownL_on hg hk
    · rw [if_neg hjm] at hg ⊢
      by_cases hjz : j = z
      · rw [if_pos hjz] at hg ⊢
        have him : i ≠ m := fun e => by rw [hjz, e, hzm] at hed; cases hed
        have hiz : i ≠ z := fun e => hne (hjz.trans e.symm)
        unfold rowKeep at hk
        rw [if_neg him, if_neg hiz] at hk
        exact hZ _ _ hg hk
      · rw [if_neg hjz] at hg ⊢
        exact hg

theorem kept_some (d : Tmp) (v : Value) : kept (some d) v = v := rfl

set_option maxRecDepth 100000 in
set_option maxHeartbeats 4000000 in
theorem cut_any (base hi b0 b1 b2 : Nat) (s : ByteArray) (st k : Nat) (v : Value) (ps : List ByteArray) (w : World) (h0 : One w b0 9 (.string s)) (h1 : One w b1 22 v) (h2 : One w b2 3 (.int .i64 st))
    (ho : OwnL hi w v ps) (d01 : b0 ≠ b1) (d02 : b0 ≠ b2) (d12 : b1 ≠ b2) (l0 : b0 < hi) (l1 : b1 < hi) (l2 : b2 < hi) (hhi : hi ≤ w.heap.size) (g1 : base ≤ b1) (g2 : base ≤ b2)
    (hst : st ≤ k) (hk : k ≤ s.size) (hs : s.size ≤ 10000) (hps : ps.length ≤ 10000) :
    Calls Try.prog 37 #[.int .i64 k, .pointer (some ⟨b2, 0, none⟩), .pointer (some ⟨b1, 0, none⟩), .pointer (some ⟨b0, 0, none⟩)] w fun e w' => e = .returned (.tuple #[]) ∧ CutPost base hi b0 b1 b2 s k (cutPs s st k ps) w w' := by
  have c2 := h2.cell
  have f2 := h2.free
  have H0 : Hid (One w b0 9 (.string s)) := h0
  have H1 : Hid (One w b1 22 v) := h1
  have H2 : Hid (One w b2 3 (.int .i64 st)) := h2
  have HO : Hid (OwnL hi w v ps) := ho
  clear h0 h1 h2 ho
  by_cases hlt : st < k
  · have hltz : (st : Int) < (k : Int) := by omega
    have e : cutPs s st k ps = ps ++ [s.extract st k] := by unfold cutPs; rw [if_pos hlt]
    rw [e]
    clear e
    go_enter Try.func37, Try.ntmps37
    go_wp2
    refine wp_region_three (S := rowS hi b1 (fun W => ∃ u, One W b1 22 u) w) (u := 6) (Keep := rowKeep hi b1 6 7)
      (g := rowG hi [v, .string s, .int .i64 st, .int .i64 k, .string (s.extract st k)] 5 6 7 (s.extract st k) (ps ++ [s.extract st k]) (fun W => ∃ u, One W b1 22 u ∧ OwnL hi W u (ps ++ [s.extract st k])))
      (tab := [[(2, none)], [(3, none)], [(1, none)], [(0, none)], [(9, some 1), (10, some 2), (11, some 3)], [(12, some 4)], [(8, some 0), (13, some 5)], [(2, none), (14, some 6)]]) (tl := [(5, 6)]) (n := 17)
      (by kernel_rfl) rfl (by kernel_rfl) (rowG_keep l1 (by decide +kernel) (fun w1 w2 h hb => by obtain ⟨u, h1, h2⟩ := h; exact ⟨u, h1.on hb, ownL_on h2 hb⟩)) (on_drew (Below.refl _ _)) ?st ?en
    case st =>
      refine ⟨fun ρ W f hf hf2 hr hS hs => ?_, fun ρ W f hf hf2 hr hS hs => ?_, fun ρ W f hf hf2 hr hS hs => ?_, fun ρ W f hf hf2 hr hS hs => ?_, fun ρ W f hf hf2 hr hS hs => ?_, fun ρ W f hf hf2 hr hS hs => ?_, fun ρ W f hf hf2 hr hS hs => ?_, fun ρ W f hf hf2 hr hS hs => ?_, trivial⟩
      · obtain rfl : f = true := hf (by kernel_rfl)
        have hS' : Below w.heap.size w W := hS
        exact step_plain rfl (leaves_loadS (.tmp 2) rfl hs.1 (H1.out.on hS').cell ⟨rfl, hS, Below.refl _ _⟩)
      · have hc := (rowS_one hS H0.out l0 d01).cell
        have h3 : ρ (.tmp 3) = .pointer (some ⟨b0, 0, none⟩) := hs.1
        refine step_plain rfl (leaves_value (v := .string s) (w' := W) ?_ ⟨rfl, by cases f <;> exact hS, Below.refl _ _⟩)
        simp [go_sem, h3, hc]
      · have hc := (rowS_one hS H2.out l2 (fun e => d12 e.symm)).cell
        have h3 : ρ (.tmp 1) = .pointer (some ⟨b2, 0, none⟩) := hs.1
        refine step_plain rfl (leaves_value (v := .int .i64 st) (w' := W) ?_ ⟨rfl, by cases f <;> exact hS, Below.refl _ _⟩)
        simp [go_sem, h3, hc]
      · exact step_plain rfl (leaves_move (.tmp 0) rfl ⟨hs.1, by cases f <;> exact hS, Below.refl _ _⟩)
      · obtain ⟨h9, h10, h11, _⟩ := hs
        have h9' : ρ (.tmp 9) = .string s := h9
        have h10' : ρ (.tmp 10) = .int .i64 st := h10
        have h11' : ρ (.tmp 11) = .int .i64 k := h11
        refine step_plain rfl (leaves_slice 9 (.tmp 9) (some (.tmp 10)) (some (.tmp 11)) none rfl (v := .string (s.extract st k)) ?_ ⟨rfl, by cases f <;> exact hS, Below.refl _ _⟩)
        simp only [Option.map_some, Option.map_none, h9', h10', h11']
        exact slice_str s st k W hst hk (by omega)
      · obtain rfl : f = true := hf (by kernel_rfl)
        have hS' : Below w.heap.size w W := hS
        have h12 : ρ (.tmp 12) = .string (s.extract st k) := hs.1
        have hb := on_alloc W (.cells #[.string (s.extract st k)] 9)
        refine step_plain rfl (leaves_value (v := .slice (some ⟨W.heap.size, 0, none⟩) 1 1) (w' := W.alloc (.cells #[.string (s.extract st k)] 9)) ?_ ⟨⟨_, rfl, at_row1 W _⟩, on_trans hS' hb, hb⟩)
        simp [go_sem, h12]
      · obtain rfl : f = true := hf (by kernel_rfl)
        have hS' : Below w.heap.size w W := hS
        obtain ⟨h8, ⟨a, h13, hat⟩, _⟩ := hs
        have h8' : ρ (.tmp 8) = v := h8
        obtain ⟨v', W', hrun, hown, hB⟩ := append_own hi v ps a 1 [s.extract st k] W hps (by simp) (ownL_on HO.out hS') hat (Nat.le_trans hhi hS'.size)
        refine step_plain rfl (leaves_append (v := v') (w' := W') (.tmp 8) (.tmp 13) 22 rfl ?_ ⟨hown, ⟨Apart.of ((hS'.mono hhi).trans hB), _, H1.out.below ((hS'.mono hhi).trans hB) l1⟩, hB⟩)
        rw [h8', h13]; exact hrun
      · obtain rfl : f = false := hf2 (by kernel_rfl)
        obtain ⟨hS', u, hu⟩ : Apart hi b1 w W ∧ ∃ u, One W b1 22 u := hS
        obtain ⟨h2, hown, _⟩ := hs
        have h2' : ρ (.tmp 2) = .pointer (some ⟨b1, 0, none⟩) := h2
        have hc := hu.cell
        have hfr := hu.free
        have hown' : OwnL hi W (ρ (.tmp 14)) (ps ++ [s.extract st k]) := hown
        have hbut := but_set W b1 0 (ρ (.tmp 14))
        have hown2 := ownL_but hown' hbut l1
        obtain ⟨pp, cc, hv, _⟩ := ownL_at hown'
        refine step_plain rfl (leaves_skip (w' := W.setCell ⟨b1, 0, none⟩ (ρ (.tmp 14))) ?_ ⟨⟨_, hu.put _, hown2⟩, ⟨hS'.but hbut, _, hu.put _⟩, hbut⟩)
        rw [hv]
        simp [go_sem, h2', hc, hfr, hv]
    case en =>
      intro f W hf hS v0 h0 v1 h1 v2 h2 v3 h3 v4 h4 v5 h5 v6 h6 h7
      obtain rfl : f = false := hf (by decide)
      have hS' : Apart hi b1 w W := (show Apart hi b1 w W ∧ _ from hS).1
      obtain ⟨u, ho, hown⟩ := h7 rfl
      have hT := rowS_one hS H2.out l2 (fun e => d12 e.symm)
      have hT0 := rowS_one hS H0.out l0 d01
      have c2 := hT.cell
      have f2 := hT.free
      have hbut := but_set W b2 0 (.int .i64 ((k : Int) + 1))
      have HE : Hid (CutPost base hi b0 b1 b2 s k (ps ++ [s.extract st k]) w (W.setCell ⟨b2, 0, none⟩ (.int .i64 ((k : Int) + 1)))) :=
        ⟨u, hT0.but hbut d02, ho.but hbut d12, hT.put _, ownL_but hown hbut l2, below_but (hS'.base g1 (by omega)) hbut g2⟩
      clear h0 h1 h2 h3 h4 h5 h6 h7 hS hS' ho hown hT hT0 hbut
      simp only [ends, Act.put, List.setIfInBounds_toArray, List.set_cons_succ, List.set_cons_zero]
      go_wp2
      go_end0
      exact ⟨rfl, HE.out⟩
  · have hltz : ¬ (st : Int) < (k : Int) := by omega
    have e : cutPs s st k ps = ps := by unfold cutPs; rw [if_neg hlt]
    rw [e]
    clear e
    have hbut := but_set w b2 0 (.int .i64 ((k : Int) + 1))
    have HE : Hid (CutPost base hi b0 b1 b2 s k ps w (w.setCell ⟨b2, 0, none⟩ (.int .i64 ((k : Int) + 1)))) :=
      ⟨v, H0.out.but hbut d02, H1.out.but hbut d12, H2.out.put _, ownL_but HO.out hbut l2, below_but (Below.refl _ _) hbut g2⟩
    clear hbut
    go_enter Try.func37, Try.ntmps37
    go_wp2
    go_end0
    exact ⟨rfl, HE.out⟩

end Go.Proofs.Ytidcfbjefemhdaa
