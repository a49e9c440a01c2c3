/- The law WhiteShows answers true at every pair of whitelists. -/
import Derived.Test.YthicbobddopcpaaDoorWRefShow
import Derived.Test.YthicbobddopcpaaDoorWRefSub
namespace Go.Proofs.YthicbobddopcpaaDoor
open Go Go.RowKit Go.Shelf Go.Sort

/-- A box still holds what came in, or the cut copy of it. -/
def held1 (hi b : Nat) (all : Bool) (p : Option Addr) (c : Nat) (l : List Int) (W : World) : Prop :=
  Box W b (.bool all) (.slice p l.length c) ∨ ∃ p' c', Box W b (.bool all) (.slice p' (l.take 200).length c') ∧ AtF hi W p' (l.take 200)
def load1 (hi : Nat) (all : Bool) (p : Option Addr) (c : Nat) (l : List Int) (v : Value) (W : World) : Prop :=
  v = .agg #[.bool all, .slice p l.length c] ∨ ∃ p' c', v = .agg #[.bool all, .slice p' (l.take 200).length c'] ∧ AtF hi W p' (l.take 200)
theorem held1.on {hi b : Nat} {all : Bool} {p : Option Addr} {c : Nat} {l : List Int} {W W' : World} (h : held1 hi b all p c l W) (hb : Below W.heap.size W W') : held1 hi b all p c l W' := by
  rcases h with h | ⟨p', c', h1, h2⟩
  · exact .inl (h.on hb)
  · exact .inr ⟨p', c', h1.on hb, h2.on hb⟩
theorem held1.but {hi b b' : Nat} {all : Bool} {p : Option Addr} {c : Nat} {l : List Int} {W W' : World} (h : held1 hi b all p c l W) (hb : But b' W W') (hne : b ≠ b') (hlt : b' < hi) : held1 hi b all p c l W' := by
  rcases h with h | ⟨p', c', h1, h2⟩
  · exact .inl (h.but hb hne)
  · exact .inr ⟨p', c', h1.but hb hne, h2.but hb hlt⟩
theorem held1.box {hi b : Nat} {all : Bool} {p : Option Addr} {c : Nat} {l : List Int} {W : World} (h : held1 hi b all p c l W) : ∃ v0 v1, Box W b v0 v1 ∧ load1 hi all p c l (.agg #[v0, v1]) W := by
  rcases h with h | ⟨p', c', h1, h2⟩
  · exact ⟨_, _, h, .inl rfl⟩
  · exact ⟨_, _, h1, .inr ⟨p', c', rfl, h2⟩⟩
theorem load1.on {hi : Nat} {all : Bool} {p : Option Addr} {c : Nat} {l : List Int} {v : Value} {W W' : World} (h : load1 hi all p c l v W) (hb : Below W.heap.size W W') : load1 hi all p c l v W' := by
  rcases h with h | ⟨p', c', h1, h2⟩
  · exact .inl h
  · exact .inr ⟨p', c', h1, h2.on hb⟩
theorem load1.but {hi b' : Nat} {all : Bool} {p : Option Addr} {c : Nat} {l : List Int} {v : Value} {W W' : World} (h : load1 hi all p c l v W) (hb : But b' W W') (hlt : b' < hi) : load1 hi all p c l v W' := by
  rcases h with h | ⟨p', c', h1, h2⟩
  · exact .inl h
  · exact .inr ⟨p', c', h1, h2.but hb hlt⟩

/-- short, of either. -/
theorem short_load {hi : Nat} {all : Bool} {p : Option Addr} {c : Nat} {l : List Int} {v : Value} {W : World} (h : load1 hi all p c l v W) (hcap : 200 < l.length → 200 ≤ c) (hl : l.length ≤ 9223372036854775807) (hat : At W p l) :
    Calls Tryd.prog 10 #[v] W fun e w' => Below W.heap.size W w' ∧ ∃ p' c', e = .returned (.agg #[.bool all, .slice p' (l.take 200).length c']) ∧ AtF W.heap.size w' p' (l.take 200) := by
  rcases h with rfl | ⟨p', c', rfl, h2⟩
  · exact short_any all p c l W hcap hl hat
  · have hle : (l.take 200).length ≤ 200 := by simp; omega
    have := short_any all p' c' (l.take 200) W (fun h => by omega) (by omega) h2.at
    rw [take_short (l := l.take 200) (by omega)] at this
    exact this

/-- What the cutting of both holds of the world. -/
structure CutS (w : World) (a b : Bool) (p q : Option Addr) (c d : Nat) (la lb : List Int) (W : World) : Prop where
  on : Below w.heap.size w W
  size : w.heap.size + 2 ≤ W.heap.size
  fst : held1 (w.heap.size + 2) w.heap.size a p c la W
  snd : held1 (w.heap.size + 2) (w.heap.size + 1) b q d lb W
theorem CutS.grow {w : World} {a b : Bool} {p q : Option Addr} {c d : Nat} {la lb : List Int} {W W' : World} (h : CutS w a b p q c d la lb W) (hb : Below W.heap.size W W') : CutS w a b p q c d la lb W' :=
  ⟨on_trans h.on hb, Nat.le_trans h.size hb.size, h.fst.on hb, h.snd.on hb⟩

def cutG (w : World) (a b : Bool) (p q : Option Addr) (c d : Nat) (la lb : List Int) (i : Nat) (v : Value) (W : World) : Prop :=
  match i with
  | 0 => load1 (w.heap.size + 2) a p c la v W
  | 1 => Kd.ok (w.heap.size + 2) (.wl a (la.take 200)) v W
  | 2 => load1 (w.heap.size + 2) b q d lb v W
  | 3 => Kd.ok (w.heap.size + 2) (.wl b (lb.take 200)) v W
  | 4 => Kd.ok (w.heap.size + 2) (.box w.heap.size a (la.take 200)) v W
  | 5 => Kd.ok (w.heap.size + 2) (.box (w.heap.size + 1) b (lb.take 200)) v W
  | _ => True
def cutKeep (w : World) (i : Nat) (W W' : World) : Prop := if i = 4 then But w.heap.size W W' else if i = 5 then But (w.heap.size + 1) W W' else Below W.heap.size W W'
theorem cut_keep {w : World} {a b : Bool} {p q : Option Addr} {c d : Nat} {la lb : List Int} {i j : Nat} {v : Value} {W W' : World} (hk : cutKeep w i W W') (hne : j ≠ i) (h : cutG w a b p q c d la lb j v W) : cutG w a b p q c d la lb j v W' := by
  unfold cutKeep at hk
  by_cases h4 : i = 4
  · rw [if_pos h4] at hk
    unfold cutG at *
    split at h
    · exact load1.but h hk (by omega)
    · exact Kd.but h hk (by omega) (blk_none rfl)
    · exact load1.but h hk (by omega)
    · exact Kd.but h hk (by omega) (blk_none rfl)
    · omega
    · exact Kd.but h hk (by omega) (blk_other rfl (by omega))
    · trivial
  · rw [if_neg h4] at hk
    by_cases h5 : i = 5
    · rw [if_pos h5] at hk
      unfold cutG at *
      split at h
      · exact load1.but h hk (by omega)
      · exact Kd.but h hk (by omega) (blk_none rfl)
      · exact load1.but h hk (by omega)
      · exact Kd.but h hk (by omega) (blk_none rfl)
      · exact Kd.but h hk (by omega) (blk_other rfl (by omega))
      · omega
      · trivial
    · rw [if_neg h5] at hk
      unfold cutG at *
      split at h
      · exact load1.on h hk
      · exact Kd.on h hk
      · exact load1.on h hk
      · exact Kd.on h hk
      · exact Kd.on h hk
      · exact Kd.on h hk
      · trivial

theorem leaves_loadAny {o : Oper} {ρ : Operand → Value} {w : World} {post : Value → World → Prop} (x : Operand) (ho : o.op = .load 24 x) {b : Nat} (hx : ρ x = .pointer (some ⟨b, 0, none⟩))
    (h : ∃ v0 v1, Box w b v0 v1 ∧ post (.agg #[v0, v1]) w) : leaves Tryd.prog o ρ w post := by
  obtain ⟨v0, v1, h1, h2⟩ := h
  exact leaves_load x ho hx h1 h2

/-- Both boxes hold their lists. -/
structure TwoL (w : World) (a b : Bool) (p q : Option Addr) (c d : Nat) (la lb : List Int) (W : World) : Prop where
  two : Two w (.bool a, .slice p la.length c) (.bool b, .slice q lb.length d) W
  fst : At W p la
  snd : At W q lb
theorem TwoL.grow {w : World} {a b : Bool} {p q : Option Addr} {c d : Nat} {la lb : List Int} {W W' : World} (h : TwoL w a b p q c d la lb W) (hb : Below W.heap.size W W') : TwoL w a b p q c d la lb W' :=
  ⟨h.two.grow hb, h.fst.on hb, h.snd.on hb⟩

set_option maxRecDepth 100000 in
set_option maxHeartbeats 4000000 in
theorem shows_walk (a : Bool) (p : Option Addr) (c : Nat) (la : List Int) (b : Bool) (q : Option Addr) (d : Nat) (lb : List Int) (w : World) (ht : Tb w)
    (hcap : 200 < la.length → 200 ≤ c) (hl : la.length ≤ 9223372036854775807) (hr1 : ∀ z ∈ la, z ≤ 9223372036854775807) (h : At w p la)
    (hcap2 : 200 < lb.length → 200 ≤ d) (hl2 : lb.length ≤ 9223372036854775807) (hr2 : ∀ z ∈ lb, z ≤ 9223372036854775807) (h2 : At w q lb) :
    Calls Tryd.prog 8 #[.agg #[.bool a, .slice p la.length c], .agg #[.bool b, .slice q lb.length d]] w fun e w' => e = .returned (.bool true) ∧ Below w.heap.size w w' := by
  have H2 := Two.new w (.bool a) (.slice p la.length c) (.bool b) (.slice q lb.length d)
  have ha200 : (la.take 200).length ≤ 200 := by simp; omega
  have hb200 : (lb.take 200).length ≤ 200 := by simp; omega
  have hra : ∀ z ∈ la.take 200, z ≤ 9223372036854775807 := fun z hz => hr1 z (List.mem_of_mem_take hz)
  have hrb : ∀ z ∈ lb.take 200, z ≤ 9223372036854775807 := fun z hz => hr2 z (List.mem_of_mem_take hz)
  clear hr1 hr2
  go_enter Tryd.func8, Tryd.ntmps8
  go_wp2
  generalize (w.alloc (.cells #[.bool a, .slice p la.length c] 24)).alloc (.cells #[.bool b, .slice q lb.length d] 24) = w0 at *
  have hsz := H2.snd.lt
  refine wp_region_left (S := CutS w a b p q c d la lb) (Keep := cutKeep w) (g := cutG w a b p q c d la lb)
    (tab := [[(2, none)], [(7, some 0)], [(3, none)], [(9, some 2)], [(2, none), (8, some 1)], [(3, none), (10, some 3)]]) (tl := []) (n := 43)
    (by kernel_rfl) rfl (by kernel_rfl) (fun i j v w1 w2 hk hne _ _ hg => cut_keep hk hne hg) ⟨on_drew H2.on, hsz, .inl H2.fst.drew, .inl H2.snd.drew⟩ ?st ?en
  case st =>
    refine ⟨fun ρ W hr hS hs => ?_, fun ρ W hr hS hs => ?_, fun ρ W hr hS hs => ?_, fun ρ W hr hS hs => ?_, fun ρ W hr hS hs => ?_, fun ρ W hr hS hs => ?_, trivial⟩
    · obtain ⟨v0, v1, hx, hv⟩ := hS.fst.box
      exact step_plain rfl (leaves_loadAny (.tmp 2) rfl hs.1 ⟨v0, v1, hx, hv, hS, Below.refl _ _⟩)
    · have hv : load1 (w.heap.size + 2) a p c la (ρ (.tmp 7)) W := hs.1
      refine step_plain rfl (leaves_call en_short hr #[.tmp 7] _ rfl #[ρ (.tmp 7)] (by simp) ?_)
      refine (short_load hv hcap hl (h.below hS.on (Nat.le_refl _))).mono ?_
      rintro e W' ⟨hb, p', c', rfl, hat⟩
      exact ⟨_, rfl, ⟨p', c', rfl, hat.less hS.size⟩, hS.grow hb, hb⟩
    · obtain ⟨v0, v1, hx, hv⟩ := hS.snd.box
      exact step_plain rfl (leaves_loadAny (.tmp 3) rfl hs.1 ⟨v0, v1, hx, hv, hS, Below.refl _ _⟩)
    · have hv : load1 (w.heap.size + 2) b q d lb (ρ (.tmp 9)) W := hs.1
      refine step_plain rfl (leaves_call en_short hr #[.tmp 9] _ rfl #[ρ (.tmp 9)] (by simp) ?_)
      refine (short_load hv hcap2 hl2 (h2.below hS.on (Nat.le_refl _))).mono ?_
      rintro e W' ⟨hb, p', c', rfl, hat⟩
      exact ⟨_, rfl, ⟨p', c', rfl, hat.less hS.size⟩, hS.grow hb, hb⟩
    · obtain ⟨h3, ⟨p', c', h12, hat⟩, _⟩ := hs
      obtain ⟨v0, v1, hx, _⟩ := hS.fst.box
      have hbut := but_set2 W w.heap.size 0 1 (.bool a) (.slice p' (la.take 200).length c')
      have hat' := hat.but hbut (by omega)
      exact step_plain rfl (leaves_store (.tmp 2) (.tmp 8) rfl h3 h12 hx ⟨⟨p', c', hx.put _ _, hat'⟩, ⟨below_but hS.on hbut (Nat.le_refl _), by rw [hbut.size]; exact hS.size, .inr ⟨p', c', hx.put _ _, hat'⟩, hS.snd.but hbut (by omega) (by omega)⟩, hbut⟩)
    · obtain ⟨h3, ⟨p', c', h12, hat⟩, _⟩ := hs
      obtain ⟨v0, v1, hx, _⟩ := hS.snd.box
      have hbut := but_set2 W (w.heap.size + 1) 0 1 (.bool b) (.slice p' (lb.take 200).length c')
      have hat' := hat.but hbut (by omega)
      exact step_plain rfl (leaves_store (.tmp 3) (.tmp 10) rfl h3 h12 hx ⟨⟨p', c', hx.put _ _, hat'⟩, ⟨below_but hS.on hbut (by omega), by rw [hbut.size]; exact hS.size, hS.fst.but hbut (by omega) (by omega), .inr ⟨p', c', hx.put _ _, hat'⟩⟩, hbut⟩)
  case en =>
    intro W hS v0 h0 v1 h1 v2 h2 v3 h3 h4 h5
    obtain ⟨p1, c1, hbx1, hat1⟩ := h4 rfl
    obtain ⟨q1, d1, hbx2, hat2⟩ := h5 rfl
    have hL : TwoL w a b p1 q1 c1 d1 (la.take 200) (lb.take 200) W := ⟨⟨hS.on, hbx1, hbx2⟩, hat1.at, hat2.at⟩
    clear h0 h1 h2 h3 h4 h5 hS hbx1 hbx2 hat1 hat2 h hcap hcap2 hl hl2 H2
    simp only [ends, Act.put, List.setIfInBounds_toArray, List.set_cons_succ, List.set_cons_zero]
    generalize la.take 200 = l at *
    generalize lb.take 200 = m at *
    go_wp2
    refine wp_region_left (S := TwoL w a b p1 q1 c1 d1 l m) (Keep := KeepK [])
      (g := fun i v W => ([.is (.agg #[.bool a, .slice p1 l.length c1]), .wl a l, .is (.string ⟨(showB a l).toArray⟩), .is (.agg #[.bool b, .slice q1 m.length d1]), .wl b m, .is (.string ⟨(showB b m).toArray⟩), .is (.string ⟨(showB a l).toArray⟩), .is (.string ⟨(showB b m).toArray⟩)].getD i Kd.any).ok 0 v W)
      (tab := [[(2, none)], [(11, some 0)], [(12, some 1)], [(3, none)], [(14, some 3)], [(15, some 4)], [(13, some 2)], [(16, some 5)]]) (tl := []) (n := 43)
      (by kernel_rfl) rfl (by kernel_rfl) keep_none (hL.grow (on_drew (Below.refl _ _))) ?st ?en
    case st =>
      refine ⟨fun ρ W hr hS hs => ?_, fun ρ W hr hS hs => ?_, fun ρ W hr hS hs => ?_, fun ρ W hr hS hs => ?_, fun ρ W hr hS hs => ?_, fun ρ W hr hS hs => ?_, fun ρ W hr hS hs => ?_, fun ρ W hr hS hs => ?_, trivial⟩
      · exact step_plain rfl (leaves_load (.tmp 2) rfl hs.1 hS.two.fst ⟨rfl, hS, Below.refl _ _⟩)
      · refine step_plain rfl (leaves_call en_short hr #[.tmp 11] _ rfl #[.agg #[.bool a, .slice p1 l.length c1]] (by simp only [List.map_toArray, List.map_cons, List.map_nil]; rw [show ρ (.tmp 11) = _ from hs.1]) ?_)
        refine (short_any a p1 c1 l W (fun h => by omega) (by omega) hS.fst).mono ?_
        rintro e W' ⟨hb, p', c', rfl, hat⟩
        rw [take_short (by omega)] at hat ⊢
        exact ⟨_, rfl, ⟨p', c', rfl, hat.less (Nat.zero_le _)⟩, hS.grow hb, hb⟩
      · obtain ⟨⟨p', c', h8, hat⟩, _⟩ := hs
        refine step_plain rfl (leaves_call en_show hr #[.tmp 12] _ rfl #[.agg #[.bool a, .slice p' l.length c']] (by simp only [List.map_toArray, List.map_cons, List.map_nil]; rw [h8]) ?_)
        refine (show_any a p' c' l W (ht.on hS.two.on) (by omega) hra hat.at).mono ?_
        rintro e W' ⟨rfl, hb⟩
        exact ⟨_, rfl, rfl, hS.grow hb, hb⟩
      · exact step_plain rfl (leaves_load (.tmp 3) rfl hs.1 hS.two.snd ⟨rfl, hS, Below.refl _ _⟩)
      · refine step_plain rfl (leaves_call en_short hr #[.tmp 14] _ rfl #[.agg #[.bool b, .slice q1 m.length d1]] (by simp only [List.map_toArray, List.map_cons, List.map_nil]; rw [show ρ (.tmp 14) = _ from hs.1]) ?_)
        refine (short_any b q1 d1 m W (fun h => by omega) (by omega) hS.snd).mono ?_
        rintro e W' ⟨hb, p', c', rfl, hat⟩
        rw [take_short (by omega)] at hat ⊢
        exact ⟨_, rfl, ⟨p', c', rfl, hat.less (Nat.zero_le _)⟩, hS.grow hb, hb⟩
      · obtain ⟨⟨p', c', h8, hat⟩, _⟩ := hs
        refine step_plain rfl (leaves_call en_show hr #[.tmp 15] _ rfl #[.agg #[.bool b, .slice p' m.length c']] (by simp only [List.map_toArray, List.map_cons, List.map_nil]; rw [h8]) ?_)
        refine (show_any b p' c' m W (ht.on hS.two.on) (by omega) hrb hat.at).mono ?_
        rintro e W' ⟨rfl, hb⟩
        exact ⟨_, rfl, rfl, hS.grow hb, hb⟩
      · exact step_plain rfl (leaves_assign (.tmp 13) rfl ⟨hs.1, hS, Below.refl _ _⟩)
      · exact step_plain rfl (leaves_assign (.tmp 16) rfl ⟨hs.1, hS, Below.refl _ _⟩)
    case en =>
      intro W hS v0 h0 v1 h1 v2 h2 v3 h3 v4 h4 v5 h5 v6 h6 v7 h7
      obtain rfl : v6 = .string ⟨(showB a l).toArray⟩ := h6 rfl
      obtain rfl : v7 = .string ⟨(showB b m).toArray⟩ := h7 rfl
      clear h0 h1 h2 h3 h4 h5 h6 h7 hL
      simp only [ends, Act.put, List.setIfInBounds_toArray, List.set_cons_succ, List.set_cons_zero]
      have HS : Hid (TwoL w a b p1 q1 c1 d1 l m W) := hS
      have x0 := hS.two.fst.fst
      have x1 := hS.two.fst.snd
      have cRS := refShow_any a p1 c1 l W (by omega) hra hS.fst
      have HI : Hid (canB a l = true → canB b m = true → ((⟨(showB a l).toArray⟩ : ByteArray) = ⟨(showB b m).toArray⟩ ↔ (a = b ∧ l = m))) := fun h1 h2 => by
        constructor
        · intro e
          exact show_inj h1 h2 (by simpa using congrArg (fun x => x.data.toList) e)
        · rintro ⟨rfl, rfl⟩; rfl
      have HT : Hid (Tb w) := ht
      have cCA := fun W' (hb : TwoL w a b p1 q1 c1 d1 l m W') => refCan_any a p1 c1 l W' (by omega) hb.fst
      have cCB := fun W' (hb : TwoL w a b p1 q1 c1 d1 l m W') => refCan_any b q1 d1 m W' (by omega) hb.snd
      have cSm := fun W' (hb : TwoL w a b p1 q1 c1 d1 l m W') => same_any a b p1 q1 c1 d1 l m W' (by omega) hb.fst hb.snd
      clear hS ht
      generalize (⟨(showB a l).toArray⟩ : ByteArray) = X at *
      generalize (⟨(showB b m).toArray⟩ : ByteArray) = Y at *
      obtain ⟨ca, hca⟩ : ∃ ca, canB a l = ca := ⟨_, rfl⟩
      obtain ⟨cb, hcb⟩ : ∃ cb, canB b m = cb := ⟨_, rfl⟩
      rw [hca] at cCA
      rw [hcb] at cCB
      have HCA : Hid (canB a l = ca) := hca
      have HCB : Hid (canB b m = cb) := hcb
      clear hca hcb
      go_wp2_with fail
      refine cRS.mono ?_
      rintro e w1 ⟨rfl, hb1⟩
      have HS1 : Hid (TwoL w a b p1 q1 c1 d1 l m w1) := TwoL.grow HS.out hb1
      clear x0 x1 cRS hb1 HS
      have x0 := HS1.out.two.fst.fst
      have x1 := HS1.out.two.fst.snd
      go_wp2_with fail
      refine (cCA _ HS1.out).mono ?_
      rintro e w2 ⟨rfl, hb2⟩
      have HS2 : Hid (TwoL w a b p1 q1 c1 d1 l m w2) := TwoL.grow HS1.out hb2
      clear x0 x1 cCA hb2 HS1
      have x0 := HS2.out.two.fst.fst
      have x1 := HS2.out.two.fst.snd
      have y0 := HS2.out.two.snd.fst
      have y1 := HS2.out.two.snd.snd
      cases ca with
      | false =>
        go_wp2_with fail
        refine (lives_any w2 (Tb.on HT.out HS2.out.two.on)).mono ?_
        rintro e w3 ⟨rfl, hb3⟩
        go_wp2
        go_ret
        exact ⟨rfl, on_trans HS2.out.two.on hb3⟩
      | true =>
        go_wp2_with fail
        refine (cCB _ HS2.out).mono ?_
        rintro e w3 ⟨rfl, hb3⟩
        have HS3 : Hid (TwoL w a b p1 q1 c1 d1 l m w3) := TwoL.grow HS2.out hb3
        clear x0 x1 y0 y1 cCB hb3 HS2
        have x0 := HS3.out.two.fst.fst
        have x1 := HS3.out.two.fst.snd
        have y0 := HS3.out.two.snd.fst
        have y1 := HS3.out.two.snd.snd
        cases cb with
        | false =>
          go_wp2_with fail
          refine (lives_any w3 (Tb.on HT.out HS3.out.two.on)).mono ?_
          rintro e w4 ⟨rfl, hb4⟩
          go_wp2
          go_ret
          exact ⟨rfl, on_trans HS3.out.two.on hb4⟩
        | true =>
          have hiff := HI.out HCA.out HCB.out
          have cS3 := cSm _ HS3.out
          by_cases hab : a = b ∧ l = m
          · have hXY := hiff.2 hab
            rw [show ((a == b) && decide (l = m)) = true by rw [hab.1, hab.2]; simp] at cS3
            subst hXY
            clear hiff HI hab cSm
            go_wp2_with fail
            refine cS3.mono ?_
            rintro e w4 ⟨rfl, hb4⟩
            have hB4 := on_trans HS3.out.two.on hb4
            go_wp2_with fail
            refine (lives_any w4 (Tb.on HT.out hB4)).mono ?_
            rintro e w5 ⟨rfl, hb5⟩
            go_wp2
            go_ret
            exact ⟨rfl, on_trans hB4 hb5⟩
          · have hXY : X ≠ Y := fun e => hab (hiff.1 e)
            have qXY : (X.toList == Y.toList) = false := beq_eq_false_iff_ne.2 fun e => hXY (ByteArray.ext (Array.toList_inj.1 (by rwa [ByteArray.toList_eq, ByteArray.toList_eq] at e)))
            rw [show ((a == b) && decide (l = m)) = false by
              cases hx : ((a == b) && decide (l = m)) with
              | false => rfl
              | true =>
                simp only [Bool.and_eq_true, beq_iff_eq, decide_eq_true_eq] at hx
                exact absurd hx hab] at cS3
            clear hiff HI hab cSm hXY
            go_wp2_with fail
            refine cS3.mono ?_
            rintro e w4 ⟨rfl, hb4⟩
            have hB4 := on_trans HS3.out.two.on hb4
            go_wp2_with fail
            refine (lives_any w4 (Tb.on HT.out hB4)).mono ?_
            rintro e w5 ⟨rfl, hb5⟩
            go_wp2
            go_ret
            exact ⟨rfl, on_trans hB4 hb5⟩

end Go.Proofs.YthicbobddopcpaaDoor
