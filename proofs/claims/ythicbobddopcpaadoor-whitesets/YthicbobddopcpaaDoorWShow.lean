/- What white.Show answers. -/
import Derived.Test.YthicbobddopcpaaDoorWHas
import Derived.Lib.AppendIntMem
import Derived.Lib.ItoaLen
import Derived.OwnWalk
import Derived.Laws.MakeOwn
namespace Go.Proofs.YthicbobddopcpaaDoor
open Go Go.RowKit Go.Shelf Go.Sort

def showB (all : Bool) (l : List Int) : List UInt8 :=
  if canB all l then (if all then [97, 108, 108] else if l = [] then [110, 111, 110, 101] else Lib.join (l.map Lib.itoa) [44]) else []

/-- The world holds strconv's table. -/
def Tb (w : World) : Prop := Lib.TabIs Tryd.prog w "internal/strconv.uint64pow10" .u64 Lib.pow10Tab
theorem Tb.on {w w' : World} (h : Tb w) (hb : Below w.heap.size w w') : Tb w' := Lib.tabBelow_of_tabIs h w' hb

theorem itoa_any (n : Int) (h0 : -9223372036854775808 ≤ n) (h1 : n ≤ 9223372036854775807) (w : World) (ht : Tb w) :
    Calls Tryd.prog 43 #[.int .i64 n] w fun e w' => e = .returned (.string ⟨(Lib.itoa n).toArray⟩) ∧ Below w.heap.size w w' := by
  refine (Tryd.strconv_Itoa n h0 h1 w ht).mono ?_
  rintro e w' ⟨rfl, k, os, rfl⟩
  refine ⟨rfl, rfl, rfl, rfl, ?_, fun j hj => ?_⟩
  · show w.heap.size ≤ (w.heap ++ os).size
    rw [Array.size_append]; omega
  · show (w.heap ++ os)[j]? = w.heap[j]?
    rw [Array.getElem?_append_left hj]

def txt (x : Int) : ByteArray := ⟨(Lib.itoa x).toArray⟩

theorem join_len (sep : List UInt8) (hs : sep.length = 1) : ∀ (xs : List (List UInt8)), (∀ x ∈ xs, x.length ≤ 30) → (Lib.join xs sep).length ≤ xs.length * 31
  | [], _ => by simp [Lib.join_nil]
  | [x], h => by have := h x (by simp); rw [Lib.join_one]; simp; omega
  | x :: y :: r, h => by
    have ih := join_len sep hs (y :: r) fun z hz => h z (List.mem_cons_of_mem _ hz)
    have hx := h x (by simp)
    rw [Lib.join_cons] at ih ⊢
    simp only [Lib.joinTail, List.map_cons, List.flatten_cons, List.length_append, List.length_cons, hs] at ih ⊢
    omega

theorem infoStr : (Tryd.prog.info? 9).map (fun i => (i.zero, i.size, i.bytes)) = some (some (.string ⟨#[]⟩), 1, 16) := by kernel_rfl

theorem row_base {w : World} {base : Nat} {e : TypeId} {size : Nat} {v : Value} {n : Nat} {xs : List Value} (h : w.ownsRow base e size v n xs) (j : Nat) (ej : v.ownBlock = some j) : base ≤ j := by
  rcases h.2 with ⟨rfl, _⟩ | ⟨g, cap, cur, rfl, hb, _⟩
  · simp [Value.ownBlock] at ej
  · simp [Value.ownBlock] at ej; omega

theorem row_cells {w : World} {base : Nat} {e : TypeId} {v : Value} {n : Nat} {xs : List Value} (h : w.ownsRow base e 1 v n xs) (hn : n ≠ 0) :
    ∃ g cap, v = .slice (some ⟨g, 0, none⟩) n cap ∧ n ≤ cap ∧ g < w.heap.size ∧ ∀ j u, xs[j]? = some u → w.cell? ⟨g, 0 + j, none⟩ = some u := by
  rcases h.2 with ⟨_, h0⟩ | ⟨g, cap, cur, rfl, hb, hg, hc, _, hs, ht⟩
  · exact absurd h0 hn
  · refine ⟨g, cap, rfl, hc, (Array.getElem?_eq_some_iff.1 hg).1, fun j u hu => ?_⟩
    have hj : j < n := by
      have := (List.getElem?_eq_some_iff.1 hu).1
      have := h.1
      omega
    rw [← ht, List.getElem?_take_of_lt (by omega)] at hu
    simp only [World.cell?, hg, Nat.zero_add]
    simpa using hu

/-- What a growing row leaves of older blocks. -/
theorem on_grown {w w1 w2 : World} {v : Value} {n : Nat} {e : TypeId} {xs : List Value} {o : Obj} (hb : Below w.heap.size w w1) (hr : w1.ownsRow w.heap.size e 1 v n xs) (hg : (w1.alloc o).grownBy w2 v.ownBlock) : Below w.heap.size w w2 :=
  (hb.alloc hb.size _).grown hg (by have := hb.size; simp; omega) (fun j ej => row_base hr j ej)

theorem ownsRow_on {w w' : World} {base : Nat} {e : TypeId} {v : Value} {n : Nat} {xs : List Value} (h : w.ownsRow base e 1 v n xs) (hb : Below w.heap.size w w') : w'.ownsRow base e 1 v n xs := by
  refine ⟨h.1, ?_⟩
  rcases h.2 with h0 | ⟨g, cap, cur, rfl, hbs, hg, h3, h4, h5, h6⟩
  · exact .inl h0
  · exact .inr ⟨g, cap, cur, rfl, hbs, (hb.block g (Array.getElem?_eq_some_iff.1 hg).1).trans hg, h3, h4, h5, h6⟩

set_option maxRecDepth 100000 in
set_option maxHeartbeats 2000000 in
theorem show_any (all : Bool) (p : Option Addr) (cap : Nat) (l : List Int) (w : World) (ht : Tb w) (hl : l.length ≤ 9223372036854775807) (hr : ∀ x ∈ l, x ≤ 9223372036854775807) (h : At w p l) :
    Calls Tryd.prog 27 #[.agg #[.bool all, .slice p l.length cap]] w fun e w' => e = .returned (.string ⟨(showB all l).toArray⟩) ∧ Below w.heap.size w w' := by
  have HB : Hid (Below w.heap.size w (w.alloc (.cells #[.bool all, .slice p l.length cap] 24))) := on_alloc w _
  have HX : Hid (Box (w.alloc (.cells #[.bool all, .slice p l.length cap] 24)) w.heap.size (.bool all) (.slice p l.length cap)) := Box.new w _ _
  have cA := fun w1 (hb : Below w.heap.size w w1) => can_any all p l.length cap l w1 rfl hl (h.below hb (Nat.le_refl _))
  obtain ⟨cv, hcv⟩ : ∃ cv, canB all l = cv := ⟨_, rfl⟩
  have HV : Hid (canB all l = cv) := hcv
  rw [hcv] at cA
  clear hcv
  have HH : Hid (At w p l) := h
  have HT : Hid (Tb w) := ht
  have HR : Hid (∀ x ∈ l, x ≤ 9223372036854775807) := hr
  clear h ht hr
  cases cv with
  | false =>
    go_enter Tryd.func27, Tryd.ntmps27
    go_wp2_with fail
    refine (cA _ HB.out).mono ?_
    rintro e w1 ⟨rfl, hb1⟩
    go_wp2
    go_ret
    exact ⟨by unfold showB; rw [HV.out]; rfl, on_trans HB.out hb1⟩
  | true =>
    cases all with
    | true =>
      go_enter Tryd.func27, Tryd.ntmps27
      go_wp2_with fail
      refine (cA _ HB.out).mono ?_
      rintro e w1 ⟨rfl, hb1⟩
      have hX1 := HX.out.on hb1
      have y0 := hX1.fst
      go_wp2
      go_ret
      exact ⟨by unfold showB; rw [HV.out]; rfl, on_trans HB.out hb1⟩
    | false =>
      by_cases hnil : l = []
      · subst hnil
        go_enter Tryd.func27, Tryd.ntmps27
        go_wp2_with fail
        refine (cA _ HB.out).mono ?_
        rintro e w1 ⟨rfl, hb1⟩
        have hX1 := HX.out.on hb1
        have y0 := hX1.fst
        have y1 := hX1.snd
        rw [List.length_nil] at y1
        go_wp2
        go_ret
        exact ⟨rfl, on_trans HB.out hb1⟩
      · have hpos : l.length ≠ 0 := fun e => hnil (List.eq_nil_of_length_eq_zero e)
        have hq : ((l.length : Int) == 0) = false := beq_eq_false_iff_ne.2 (by omega)
        obtain ⟨h32, hge, _⟩ := canB_rise HV.out
        have HG : Hid (∀ x ∈ l, 0 ≤ x) := hge
        obtain ⟨i0, hi, hz0, hz1, hz2⟩ := info_parts infoStr
        obtain ⟨b, off, rfl, hbl, hcl⟩ : ∃ b off, p = some ⟨b, off, none⟩ ∧ b < w.heap.size ∧ ∀ j, j < l.length → w.cell? ⟨b, off + j, none⟩ = some (.int .i64 (l.getD j 0)) := HH.out.resolve_left hnil
        have HC : Hid (∀ j, j < l.length → w.cell? ⟨b, off + j, none⟩ = some (.int .i64 (l.getD j 0))) := hcl
        have HN : Hid (l ≠ []) := hnil
        clear hcl hge hnil
        go_enter Tryd.func27, Tryd.ntmps27
        go_wp2_with fail
        refine (cA _ HB.out).mono ?_
        rintro e w1 ⟨rfl, hb1⟩
        have hX1 := HX.out.on hb1
        have hB1 := on_trans HB.out hb1
        have y0 := hX1.fst
        have y1 := hX1.snd
        obtain ⟨w2, hmk, hown, hg2⟩ := run_make_own (P := Tryd.prog) w1 w.heap.size 50 9 i0 (.string ⟨#[]⟩) 1 Tryd.underlying50 hi hz0 hz1 .i64 .i64 l.length (by rw [hz2]; omega) (by unfold maxLen; omega) hB1.size
        have hB2 : Below w.heap.size w w2 := hB1.grown hg2 hB1.size (fun j ej => by cases ej)
        have y2 : w2.cell? ⟨w.heap.size, 1, none⟩ = some (.slice (some ⟨b, off, none⟩) l.length cap) := hg2.cell y1 (by simp)
        clear hg2 hX1 cA
        go_wp2
        go_loopw [3, 25] (fun v i wr => ∃ k : Nat, k ≤ l.length ∧ i = .int .i64 k ∧ wr.ownsRow w.heap.size 9 1 v k ((l.take k).map fun x => .string (txt x)) ∧ Below w.heap.size w wr) (fun _ i _ => l.length - (intOf i).toNat)
        case atStart => exact ⟨0, by omega, rfl, hown, hB2⟩
        case round =>
          obtain ⟨k, hk, rfl, hrow, hBr⟩ := hrel
          by_cases hlt : k < l.length
          · have hltz : (k : Int) < (l.length : Int) := by omega
            have hck := (hBr.cell (p := ⟨b, off + k, none⟩) hbl).trans (HC.out k hlt)
            have hmem : l.getD k 0 ∈ l := by simp [List.getD, hlt]
            have h0 := HG.out _ hmem
            have h1 := HR.out _ hmem
            have HK : Hid (l.take (k + 1) = l.take k ++ [l.getD k 0]) := by
              show l.take (k + 1) = _
              rw [List.take_add_one]; simp [List.getD, hlt]
            have cI := itoa_any (l.getD k 0) (by omega) h1 wr (HT.out.on hBr)
            generalize l.getD k 0 = x at *
            clear h0 h1 hmem
            go_wp2_with fail
            refine cI.mono ?_
            rintro e w3 ⟨rfl, hb3⟩
            have hB3 := on_trans hBr hb3
            have hrow3 := ownsRow_on hrow hb3
            clear cI hrow
            go_wp2_with (at_builtin; refine wpList_append_own _ rfl _ _ 50 rfl w.heap.size 9 i0 (.string ⟨#[]⟩) 1 16 Tryd.underlying50 hi hz0 hz1 hz2 rfl (by decide) _ _ _ rfl (hrow3.alloc _) ⟨_, 0, none⟩ 1 1 [.string (txt x)] rfl rfl ?c1 ?c2 ?c3 ?c4 ?c5 ?_)
            case c1 =>
              intro j u hj
              match j, hj with
              | 0, hj => simp at hj; subst hj; simp [Addr.add, txt]
            case c2 => intro u hu; simp at hu; subst hu; rfl
            case c3 => unfold maxLen; omega
            case c4 => omega
            case c5 => have := hB3.size; simp; omega
            intro v' w4 hown' hgrow _
            have hB4 := on_grown hB3 hrow3 hgrow
            have hrow4 : w4.ownsRow w.heap.size 9 1 v' (k + 1) ((l.take (k + 1)).map fun x => .string (txt x)) := by
              rw [HK.out, List.map_append, List.map_take]; exact hown'
            clear hown' hgrow hrow3
            go_wp2
            go_roundw
            case rel => exact ⟨k + 1, by omega, by go_num, hrow4, hB4⟩
            case measure => simp [intOf]; omega
          · obtain rfl : k = l.length := by omega
            have hltz : ¬ (l.length : Int) < (l.length : Int) := by omega
            obtain ⟨g, c, rfl, hc, hgl, hcells⟩ := row_cells hrow hpos
            have cJ := Tryd.strings_Join g 0 c (l.map txt) ⟨#[44]⟩ wr (fun j x hx => hcells j _ (by
              rw [List.take_length]
              rw [List.getElem?_map] at hx ⊢
              cases hlj : l[j]? with
              | none => simp [hlj] at hx
              | some y => simp [hlj] at hx ⊢; exact hx)) hgl (by simp; omega) (by simpa using hc) (by
                refine Nat.le_trans (join_len _ rfl _ fun y hy => ?_) (by simp; omega)
                simp only [List.mem_map] at hy
                obtain ⟨_, ⟨x, hx, rfl⟩, rfl⟩ := hy
                have h0 := HG.out x hx
                have h1 := HR.out x hx
                simp only [txt]
                have := Lib.itoa_length_le x (by omega) h1
                omega)
            rw [List.length_map] at cJ
            clear hcells hrow
            go_wp2_with fail
            refine cJ.mono ?_
            rintro e w5 ⟨rfl, hb5⟩
            go_wp2
            go_ret
            refine ⟨?_, on_trans hBr hb5⟩
            unfold showB
            rw [HV.out]
            simp only [if_true, Bool.false_eq_true, if_false, HN.out]
            rfl

end Go.Proofs.YthicbobddopcpaaDoor
