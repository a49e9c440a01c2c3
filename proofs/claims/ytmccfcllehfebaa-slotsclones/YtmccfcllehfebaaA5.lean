/- What white.holds, white.Has and white.All answer. -/
import Derived.Test.YtmccfcllehfebaaA4
import Derived.Test.YtmccfcllehfebaaShelf
import Derived.Lib.AppendIntMem
import Derived.Lib.ItoaLen
import Derived.OwnWalk
import Derived.Laws.MakeOwn
import Derived.Test.YtmccfcllehfebaaA1
import Derived.ArgAppend
namespace Go.Proofs.Ytmccfcllehfebaa.W
open Go Go.RowKit Go.Shelf

theorem search_any (p : Option Addr) (n cap : Nat) (l : List Int) (x : Int) (w : World) (hn : n = l.length) (hl : l.length < 4611686018427387904) (h : At w p l) (hs : l.Pairwise (· ≤ ·)) :
    Calls Try.prog 71 #[.slice p n cap, .int .i64 x] w fun e w' => (∃ k : Nat, e = .returned (.tuple #[.int .i64 k, .bool (l.contains x)])) ∧ ∃ q, w' = w.drewN q := by
  subst hn
  rcases h with rfl | ⟨b, off, rfl, _, hc⟩
  · refine (Try.slices_BinarySearch_int_empty p cap x w).mono ?_
    rintro e w' ⟨rfl, rfl⟩
    exact ⟨⟨0, rfl⟩, 0, rfl⟩
  · refine (Try.slices_BinarySearch_int b off l.length cap l x w (Nat.le_refl _) hl hc (by simpa using hs)).mono ?_
    rintro e w' ⟨rfl, hq⟩
    exact ⟨⟨_, by rw [List.take_length]⟩, hq⟩

set_option maxRecDepth 100000 in
set_option maxHeartbeats 1000000 in
theorem holds_any (all : Bool) (p : Option Addr) (n cap : Nat) (l : List Int) (x : Int) (w : World) (hn : n = l.length) (hc : canB all l = true) (h : At w p l) :
    Calls Try.prog 66 #[.agg #[.bool all, .slice p n cap], .int .i64 x] w fun e w' => e = .returned (.bool (hasB all l x)) ∧ Below w.heap.size w w' := by
  have HB : Hid (∀ o, Below w.heap.size w (w.alloc o)) := fun o => (Below.refl _ w).alloc (Nat.le_refl _) o
  cases all with
  | true =>
    obtain ⟨r, hr⟩ : ∃ r, decide (0 ≤ x) = r := ⟨_, rfl⟩
    rw [show hasB true l x = r by rw [← hr]; rfl]
    clear h hc hn
    go_enter Try.func66, Try.ntmps66
    cases r
    all_goals
      go_wp2
      go_ret
      exact ⟨rfl, HB.out _⟩
  | false =>
    obtain ⟨h32, _, hp⟩ := canB_rise hc
    have hs : l.Pairwise (· ≤ ·) := hp.imp fun h => by omega
    have c := fun w1 (hb : Below w.heap.size w w1) => search_any p n cap l x w1 hn (by omega) (h.below hb (Nat.le_refl _)) hs
    rw [show hasB false l x = l.contains x from rfl]
    clear h hc hn hp hs h32
    generalize l.contains x = r at *
    go_enter Try.func66, Try.ntmps66
    go_wp2_with fail
    refine (c _ (HB.out _)).mono ?_
    rintro e w' ⟨⟨k, rfl⟩, q, rfl⟩
    go_wp2
    go_ret
    exact ⟨rfl, on_drewN (HB.out _) q⟩

theorem all_any (w : World) : Calls Try.prog 51 #[] w fun e w' => e = .returned (.agg #[.bool true, .slice none 0 0]) ∧ Below w.heap.size w w' := by
  have HB : Hid (Below w.heap.size w (w.alloc (.cells #[.bool true, .slice none 0 0] 32))) := on_alloc w _
  have HX := Box.new w (.bool true) (.slice none 0 0)
  go_enter Try.func51, Try.ntmps51
  go_wp2
  exact bodyPost_ret (results_box rfl _ _ rfl HX) rfl ⟨rfl, HB.out⟩

end Go.Proofs.Ytmccfcllehfebaa.W

namespace Go.Proofs.Ytmccfcllehfebaa.W
open Go Go.RowKit Go.Shelf Go.Sort

def showB (all : Bool) (l : List Int) : List UInt8 :=
  if canB all l then (if all then [97, 108, 108] else if l = [] then [110, 111, 110, 101] else Lib.join (l.map Lib.itoa) [44]) else []

/-- The world holds strconv's table. -/
def Tb (w : World) : Prop := Lib.TabIs Try.prog w "internal/strconv.uint64pow10" .u64 Lib.pow10Tab
theorem Tb.on {w w' : World} (h : Tb w) (hb : Below w.heap.size w w') : Tb w' := Lib.tabBelow_of_tabIs h w' hb

def txt (x : Int) : ByteArray := ⟨(Lib.itoa x).toArray⟩

theorem join_len (sep : List UInt8) (hs : sep.length = 1) : ∀ (xs : List (List UInt8)), (∀ x ∈ xs, x.length ≤ 30) → (Lib.join xs sep).length ≤ xs.length * 31
  | [], _ => by simp [Lib.join_nil]
  | [x], h => by have := h x (by simp); rw [Lib.join_one]; simp; omega
  | x :: y :: r, h => by
    have ih := join_len sep hs (y :: r) fun z hz => h z (List.mem_cons_of_mem _ hz)
    have hx := h x (by simp)
    rw [Lib.join_cons] at ih ⊢
    simp only [Lib.joinTail, List.map_cons, List.flatten_cons, List.length_append, List.length_cons, hs] at ih ⊢
    omega

theorem infoStr : (Try.prog.info? 9).map (fun i => (i.zero, i.size, i.bytes)) = some (some (.string ⟨#[]⟩), 1, 16) := by kernel_rfl

theorem row_base {w : World} {base : Nat} {e : TypeId} {size : Nat} {v : Value} {n : Nat} {xs : List Value} (h : w.ownsRow base e size v n xs) (j : Nat) (ej : v.ownBlock = some j) : base ≤ j := by
  rcases h.2 with ⟨rfl, _⟩ | ⟨g, cap, cur, rfl, hb, _⟩
  · simp [Value.ownBlock] at ej
  · simp [Value.ownBlock] at ej; omega

theorem row_cells {w : World} {base : Nat} {e : TypeId} {v : Value} {n : Nat} {xs : List Value} (h : w.ownsRow base e 1 v n xs) (hn : n ≠ 0) :
    ∃ g cap, v = .slice (some ⟨g, 0, none⟩) n cap ∧ n ≤ cap ∧ g < w.heap.size ∧ ∀ j u, xs[j]? = some u → w.cell? ⟨g, 0 + j, none⟩ = some u := by
  rcases h.2 with ⟨_, h0⟩ | ⟨g, cap, cur, rfl, hb, hg, hc, _, hs, ht⟩
  · exact absurd h0 hn
  · refine ⟨g, cap, rfl, hc, (Array.getElem?_eq_some_iff.1 hg).1, fun j u hu => ?_⟩
    have hj : j < n := by
      have := (List.getElem?_eq_some_iff.1 hu).1
      have := h.1
      omega
    rw [← ht, List.getElem?_take_of_lt (by omega)] at hu
    simp only [World.cell?, hg, Nat.zero_add]
    simpa using hu

/-- What a growing row leaves of older blocks. -/
theorem on_grown {w w1 w2 : World} {v : Value} {n : Nat} {e : TypeId} {xs : List Value} {o : Obj} (hb : Below w.heap.size w w1) (hr : w1.ownsRow w.heap.size e 1 v n xs) (hg : (w1.alloc o).grownBy w2 v.ownBlock) : Below w.heap.size w w2 :=
  (hb.alloc hb.size _).grown hg (by have := hb.size; simp; omega) (fun j ej => row_base hr j ej)

theorem ownsRow_on {w w' : World} {base : Nat} {e : TypeId} {v : Value} {n : Nat} {xs : List Value} (h : w.ownsRow base e 1 v n xs) (hb : Below w.heap.size w w') : w'.ownsRow base e 1 v n xs := by
  refine ⟨h.1, ?_⟩
  rcases h.2 with h0 | ⟨g, cap, cur, rfl, hbs, hg, h3, h4, h5, h6⟩
  · exact .inl h0
  · exact .inr ⟨g, cap, cur, rfl, hbs, (hb.block g (Array.getElem?_eq_some_iff.1 hg).1).trans hg, h3, h4, h5, h6⟩

end Go.Proofs.Ytmccfcllehfebaa.W

namespace Go.Proofs.Ytmccfcllehfebaa.W
open Go Go.RowKit

theorem leaves_append {P : Program} {o : Oper} {ρ : Operand → Value} {w w' : World} {v : Value} {post : Value → World → Prop} (s x : Operand) (t : TypeId)
    (ho : o.op = .call { callee := .builtin .append, args := #[s, x], argTypes := #[t, t] }) (hrun : (Builtin.append_ #[t, t] o.type #[ρ s, ρ x]).run P w = .ok v w') (hp : post v w') : leaves P o ρ w post := by
  refine leaves_value (v := v) (w' := w') ?_ hp
  obtain ⟨dst, op, ty, pos, after, guard⟩ := o
  simp only at ho
  subst ho
  rw [BigFrame.execOp_builtin, BigFrame.builtin_append]
  simp only [List.map_toArray, List.map_cons, List.map_nil]
  rw [Sem.run_bind, hrun]
  rfl

theorem wpList_run_append {P : Program} {ops : Array Oper} {rest : List Oper} {o : Oper} {a : Act} {w w' : World} {v : Value} {Q : Exit → Act → World → Prop} (hgd : o.guard = none) (s x : Operand) (t : TypeId)
    (ho : o.op = .call { callee := .builtin .append, args := #[s, x], argTypes := #[t, t] }) (u1 u2 : Value) (h1 : a.eval s = u1) (h2 : a.eval x = u2)
    (hrun : (Builtin.append_ #[t, t] o.type #[u1, u2]).run P w = .ok v w') (h : wpList P ops Q rest (a.put o.dst v) w') : wpList P ops Q (o :: rest) a w := by
  subst h1 h2
  refine wpList_plain hgd fun K hK => ?_
  exact leaves_wp (leaves_append (post := fun u W => u = v ∧ W = w') s x t ho hrun ⟨rfl, rfl⟩) fun u W h2 => by
    obtain ⟨rfl, rfl⟩ := h2
    exact hK _ _ h

/-- Kinds: any, this value, a slice, a whitelist, a whitelist and an error, an empty slice, a box. -/
def Kd : Type := Option (Value ⊕ List Int ⊕ (Bool × List Int) ⊕ (Bool × List Int × Int) ⊕ Unit ⊕ (Nat × Bool × List Int))

def Kd.any : Kd := none
def Kd.is (v : Value) : Kd := some (.inl v)
def Kd.sl (l : List Int) : Kd := some (.inr (.inl l))
def Kd.wl (all : Bool) (l : List Int) : Kd := some (.inr (.inr (.inl (all, l))))
def Kd.wle (all : Bool) (l : List Int) (e : Int) : Kd := some (.inr (.inr (.inr (.inl (all, l, e)))))
def Kd.empty : Kd := some (.inr (.inr (.inr (.inr (.inl ())))))
def Kd.box (b : Nat) (all : Bool) (l : List Int) : Kd := some (.inr (.inr (.inr (.inr (.inr (b, all, l))))))

def Kd.ok (hi : Nat) (k : Kd) (v : Value) (W : World) : Prop :=
  match k with
  | none => True
  | some (.inl u) => v = u
  | some (.inr (.inl l)) => ∃ p c, v = .slice p l.length c ∧ AtF hi W p l
  | some (.inr (.inr (.inl (all, l)))) => ∃ p c, v = .agg #[.bool all, .slice p l.length c] ∧ AtF hi W p l
  | some (.inr (.inr (.inr (.inl (all, l, e))))) => ∃ p c, v = .tuple #[.agg #[.bool all, .slice p l.length c], .int .i64 e] ∧ AtF hi W p l
  | some (.inr (.inr (.inr (.inr (.inl _))))) => ∃ b, v = .slice (some ⟨b, 0, none⟩) 0 0
  | some (.inr (.inr (.inr (.inr (.inr (b, all, l)))))) => ∃ p c, Box W b (.bool all) (.slice p l.length c) ∧ AtF hi W p l

def Kd.blk (k : Kd) : Option Nat :=
  match k with
  | some (.inr (.inr (.inr (.inr (.inr (b, _, _)))))) => some b
  | _ => none
theorem blk_none {k : Kd} {b : Nat} (h : k.blk = none) : k.blk ≠ some b := by rw [h]; simp
theorem blk_other {k : Kd} {b b' : Nat} (h : k.blk = some b') (hne : b' ≠ b) : k.blk ≠ some b := by rw [h]; simpa using hne

/-- An operation leaves all blocks as they were, but for the box that it stores to. -/
def KeepK (kp : List (Nat × Nat)) (i : Nat) (w w' : World) : Prop := match kp.lookup i with | none => Below w.heap.size w w' | some b => But b w w'

theorem Kd.on {hi : Nat} {k : Kd} {v : Value} {w w' : World} (h : k.ok hi v w) (hb : Below w.heap.size w w') : k.ok hi v w' := by
  match k, h with
  | none, _ => trivial
  | some (.inl _), h => exact h
  | some (.inr (.inl _)), h => obtain ⟨p, c, h1, h2⟩ := h; exact ⟨p, c, h1, h2.on hb⟩
  | some (.inr (.inr (.inl (_, _)))), h => obtain ⟨p, c, h1, h2⟩ := h; exact ⟨p, c, h1, h2.on hb⟩
  | some (.inr (.inr (.inr (.inl (_, _, _))))), h => obtain ⟨p, c, h1, h2⟩ := h; exact ⟨p, c, h1, h2.on hb⟩
  | some (.inr (.inr (.inr (.inr (.inl _))))), h => exact h
  | some (.inr (.inr (.inr (.inr (.inr (_, _, _)))))), h => obtain ⟨p, c, h1, h2⟩ := h; exact ⟨p, c, h1.on hb, h2.on hb⟩

theorem Kd.but {hi b : Nat} {k : Kd} {v : Value} {w w' : World} (h : k.ok hi v w) (hb : But b w w') (hlt : b < hi) (hne : k.blk ≠ some b) : k.ok hi v w' := by
  match k, h, hne with
  | none, _, _ => trivial
  | some (.inl _), h, _ => exact h
  | some (.inr (.inl _)), h, _ => obtain ⟨p, c, h1, h2⟩ := h; exact ⟨p, c, h1, h2.but hb hlt⟩
  | some (.inr (.inr (.inl (_, _)))), h, _ => obtain ⟨p, c, h1, h2⟩ := h; exact ⟨p, c, h1, h2.but hb hlt⟩
  | some (.inr (.inr (.inr (.inl (_, _, _))))), h, _ => obtain ⟨p, c, h1, h2⟩ := h; exact ⟨p, c, h1, h2.but hb hlt⟩
  | some (.inr (.inr (.inr (.inr (.inl _))))), h, _ => exact h
  | some (.inr (.inr (.inr (.inr (.inr (b', _, _)))))), h, hne =>
    obtain ⟨p, c, h1, h2⟩ := h
    exact ⟨p, c, h1.but hb (fun e => hne (congrArg some e)), h2.but hb hlt⟩

theorem keep_kd {hi : Nat} {ops : Array Oper} {kp : List (Nat × Nat)} {ks : List Kd} {tl : Till} (h : ∀ i b, kp.lookup i = some b → b < hi ∧ ∀ j, j ≠ i → (ks.getD j .any).blk ≠ some b) :
    ∀ i j v w w', KeepK kp i w w' → j ≠ i → edge ops j i = false → (∀ u, tl.lookup j = some u → u ≠ i ∧ edge ops i u = false) → (ks.getD j .any).ok hi v w → (ks.getD j .any).ok hi v w' := by
  intro i j v w w' hk hne _ _ hok
  unfold KeepK at hk
  cases hb : kp.lookup i with
  | none => rw [hb] at hk; exact Kd.on hok hk
  | some b =>
    rw [hb] at hk
    exact Kd.but hok hk (h i b hb).1 ((h i b hb).2 j hne)

theorem keep_none {hi : Nat} {ops : Array Oper} {ks : List Kd} {tl : Till} : ∀ i j v w w', KeepK [] i w w' → j ≠ i → edge ops j i = false → (∀ u, tl.lookup j = some u → u ≠ i ∧ edge ops i u = false) → (ks.getD j .any).ok hi v w → (ks.getD j .any).ok hi v w' :=
  keep_kd (fun i b h => by simp at h)

end Go.Proofs.Ytmccfcllehfebaa.W

namespace Go.Proofs.Ytmccfcllehfebaa.W
open Go Go.RowKit Go.Shelf Go.Sort

theorem infoInt : (Try.prog.info? 3).map (fun i => (i.zero, i.size, i.bytes)) = some (some (.int .i64 0), 1, 8) := by kernel_rfl

theorem append_none (b c : Nat) (w : World) : (Builtin.append_ #[30, 30] 30 #[.slice (some ⟨b, 0, none⟩) 0 0, .slice none 0 c]).run Try.prog w = .ok (.slice (some ⟨b, 0, none⟩) 0 0) w := by
  kernel_rfl

theorem append_copy (b : Nat) (p : Option Addr) (cap : Nat) (l : List Int) (w : World) (hl : l.length * 8 ≤ 140737488355328) (h : At w p l) :
    ∃ p' c' w', (Builtin.append_ #[30, 30] 30 #[.slice (some ⟨b, 0, none⟩) 0 0, .slice p l.length cap]).run Try.prog w = .ok (.slice p' l.length c') w' ∧ Below w.heap.size w w' ∧ AtF w.heap.size w' p' l ∧ l.length ≤ c' := by
  obtain ⟨i0, hi, hz0, hz1, hz2⟩ := info_parts infoInt
  by_cases hnil : l = []
  · subst hnil
    cases p with
    | none => exact ⟨_, _, _, append_none b cap w, Below.refl _ _, .nil _ _ _, Nat.le_refl _⟩
    | some a =>
      have := run_append_room_cells (P := Try.prog) w 30 30 3 i0 Try.underlying30 hi b 0 0 0 a 0 cap [] (by simp) (fun j u hu => by simp at hu) (fun u hu => by simp at hu) (Nat.le_refl _) (fun j hj => by simp at hj) (fun j hj => by simp at hj)
      exact ⟨_, _, _, this, Below.refl _ _, .nil _ _ _, Nat.le_refl _⟩
  · obtain ⟨bb, off, rfl, hlt, hc⟩ := h.resolve_left hnil
    have hpos : 0 < l.length := List.length_pos_iff.2 hnil
    obtain ⟨v', w', hrun, hown, hg⟩ := run_append_arg_grows (P := Try.prog) w 30 30 3 i0 (.int .i64 0) 1 8 Try.underlying30 hi hz0 hz1 hz2 rfl (by decide) ⟨b, 0, none⟩ 0 0 [] rfl (fun j u hu => by simp at hu)
      ⟨bb, off, none⟩ l.length cap (l.map (Value.int .i64)) (by simp) (fun j u hu => by
        rw [List.getElem?_map] at hu
        cases hj : l[j]? with
        | none => simp [hj] at hu
        | some x =>
          simp [hj] at hu
          subst hu
          have hjl := (List.getElem?_eq_some_iff.1 hj).1
          have := hc j hjl
          rw [show l.getD j 0 = x by simp [List.getD, hj]] at this
          rw [addr_add]
          exact this) (by omega) (by unfold maxLen; omega) (by omega)
    rw [Nat.zero_add, List.nil_append] at hown
    obtain ⟨p', c', rfl, hat, _⟩ := at_of_row hown
    have hB : Below w.heap.size w w' := ⟨hg.os, hg.tape, hg.output, hg.size, fun k hk => hg.block k hk (by simp)⟩
    rcases hown.2 with ⟨h0, h1⟩ | ⟨g, cc, cur, he, hb, _, hcc, _⟩
    · omega
    · cases he
      refine ⟨_, _, w', hrun, hB, ?_, hcc⟩
      rcases hat with e | ⟨b1, o1, e1, h2, h3⟩
      · exact .inl e
      · cases e1; exact .inr ⟨g, 0, rfl, hb, h2, h3⟩

set_option maxRecDepth 100000 in
set_option maxHeartbeats 1000000 in
theorem own_any (all : Bool) (p : Option Addr) (cap : Nat) (l : List Int) (w : World) (hl : l.length * 8 ≤ 140737488355328) (h : At w p l) :
    Calls Try.prog 47 #[.agg #[.bool all, .slice p l.length cap]] w fun e w' => Below w.heap.size w w' ∧
      ∃ p' c', e = .returned (.agg #[.bool all, .slice p' l.length c']) ∧ AtF w.heap.size w' p' l := by
  have hX := (Box.new w (.bool all) (.slice p l.length cap)).alloc (.cells #[.bool false, .slice none 0 0] 32)
  have hY := Box.new (w.alloc (.cells #[.bool all, .slice p l.length cap] 32)) (.bool false) (.slice none 0 0)
  have hB := on_trans (on_alloc w (.cells #[.bool all, .slice p l.length cap] 32)) (on_alloc _ (.cells #[.bool false, .slice none 0 0] 32))
  rw [World.size_alloc] at hY
  go_enter Try.func47, Try.ntmps47
  go_wp2
  generalize (w.alloc (.cells #[.bool all, .slice p l.length cap] 32)).alloc (.cells #[.bool false, .slice none 0 0] 32) = w0 at *
  have hlt := hY.lt
  refine wp_region_left (S := fun W => w0.heap.size ≤ W.heap.size ∧ Box W w.heap.size (.bool all) (.slice p l.length cap) ∧ (∃ u0 u1, Box W (w.heap.size + 1) u0 u1) ∧ Below w.heap.size w W)
    (Keep := KeepK [(7, w.heap.size + 1)])
    (g := fun i v W => ([.is (.pointer (some ⟨w.heap.size, 0, none⟩)), .is (.bool all), .empty, .is (.pointer (some ⟨w.heap.size, 1, none⟩)), .is (.slice p l.length cap), .sl l, .wl all l, .box (w.heap.size + 1) all l].getD i Kd.any).ok (w.heap.size + 2) v W)
    (tab := [[(1, none)], [(3, some 0)], [], [(1, none)], [(6, some 3)], [(5, some 2), (7, some 4)], [(4, some 1), (8, some 5)], [(2, none), (9, some 6)]]) (tl := []) (n := 10)
    (by kernel_rfl) rfl (by kernel_rfl) (keep_kd ?k) ⟨Nat.le_refl _, hX.drew, ⟨_, _, hY.drew⟩, on_drew hB⟩ ?_ ?_
  case k =>
    intro i b hb
    have : i = 7 ∧ b = w.heap.size + 1 := by
      simp only [List.lookup] at hb
      split at hb
      · rename_i h7
        exact ⟨by simpa using h7, by simpa using hb.symm⟩
      · cases hb
    obtain ⟨rfl, rfl⟩ := this
    refine ⟨by omega, fun j hj => ?_⟩
    match j, hj with
    | 0, _ | 1, _ | 2, _ | 3, _ | 4, _ | 5, _ | 6, _ => exact blk_none rfl
    | 7, hj => exact absurd rfl hj
    | j + 8, _ => exact blk_none rfl
  · refine ⟨fun ρ W hr hS hs => ?_, fun ρ W hr hS hs => ?_, fun ρ W hr hS hs => ?_, fun ρ W hr hS hs => ?_, fun ρ W hr hS hs => ?_, fun ρ W hr hS hs => ?_, fun ρ W hr hS hs => ?_, fun ρ W hr hS hs => ?_, trivial⟩
    · have h1 : ρ (.tmp 1) = .pointer (some ⟨w.heap.size, 0, none⟩) := hs.1
      refine step_plain rfl (leaves_value (v := .pointer (some ⟨w.heap.size, 0, none⟩)) (w' := W) ?_ ⟨rfl, hS, Below.refl _ _⟩)
      simp [go_sem, h1]
    · have h1 : ρ (.tmp 3) = .pointer (some ⟨w.heap.size, 0, none⟩) := hs.1
      have h2 := hS.2.1.fst
      refine step_plain rfl (leaves_value (v := .bool all) (w' := W) ?_ ⟨rfl, hS, Below.refl _ _⟩)
      simp [go_sem, h1, h2]
    · have hb := on_alloc W (.cells #[] 3)
      refine step_plain rfl (leaves_value (v := .slice (some ⟨W.heap.size, 0, none⟩) 0 0) (w' := W.alloc (.cells #[] 3)) ?_ ⟨⟨_, rfl⟩, ⟨Nat.le_trans hS.1 hb.size, hS.2.1.on hb, ?_, on_trans hS.2.2.2 hb⟩, hb⟩)
      · simp [go_sem]
      · obtain ⟨u0, u1, hu⟩ := hS.2.2.1
        exact ⟨u0, u1, hu.on hb⟩
    · have h1 : ρ (.tmp 1) = .pointer (some ⟨w.heap.size, 0, none⟩) := hs.1
      refine step_plain rfl (leaves_value (v := .pointer (some ⟨w.heap.size, 1, none⟩)) (w' := W) ?_ ⟨rfl, hS, Below.refl _ _⟩)
      simp [go_sem, h1]
    · have h1 : ρ (.tmp 6) = .pointer (some ⟨w.heap.size, 1, none⟩) := hs.1
      have h2 := hS.2.1.snd
      refine step_plain rfl (leaves_value (v := .slice p l.length cap) (w' := W) ?_ ⟨rfl, hS, Below.refl _ _⟩)
      simp [go_sem, h1, h2]
    · obtain ⟨⟨b, h5⟩, h7, _⟩ := hs
      have h7' : ρ (.tmp 7) = .slice p l.length cap := h7
      obtain ⟨p', c', W', hrun, hb, hat, _⟩ := append_copy b p cap l W hl (h.below hS.2.2.2 (Nat.le_refl _))
      refine step_plain rfl (leaves_append (v := .slice p' l.length c') (w' := W') (.tmp 5) (.tmp 7) 30 rfl ?_ ⟨⟨p', c', rfl, hat.less ?_⟩, ⟨Nat.le_trans hS.1 hb.size, hS.2.1.on hb, ?_, on_trans hS.2.2.2 hb⟩, hb⟩)
      · rw [h5, h7']; exact hrun
      · have := hS.1; omega
      · obtain ⟨u0, u1, hu⟩ := hS.2.2.1
        exact ⟨u0, u1, hu.on hb⟩
    · obtain ⟨h4, ⟨p', c', h8, hat⟩, _⟩ := hs
      have h4' : ρ (.tmp 4) = .bool all := h4
      refine step_plain rfl (leaves_value (v := .agg #[.bool all, .slice p' l.length c']) (w' := W) ?_ ⟨⟨p', c', rfl, hat⟩, hS, Below.refl _ _⟩)
      simp [go_sem, h4', h8]
    · obtain ⟨h2, ⟨p', c', h9, hat⟩, _⟩ := hs
      have h2' : ρ (.tmp 2) = .pointer (some ⟨w.heap.size + 1, 0, none⟩) := h2
      obtain ⟨u0, u1, hu⟩ := hS.2.2.1
      have f0 := hu.free0
      have f1 := hu.free1
      have x0 := hu.fst
      have x1 := hu.snd
      have hbut := but_set2 W (w.heap.size + 1) 0 1 (.bool all) (.slice p' l.length c')
      refine step_plain rfl (leaves_skip (w' := (W.setCell ⟨w.heap.size + 1, 0, none⟩ (.bool all)).setCell ⟨w.heap.size + 1, 1, none⟩ (.slice p' l.length c')) ?_ ⟨⟨p', c', hu.put _ _, hat.but hbut (by omega)⟩, ⟨by rw [hbut.size]; exact hS.1, hS.2.1.but hbut (by omega), ⟨_, _, hu.put _ _⟩, below_but hS.2.2.2 hbut (by omega)⟩, hbut⟩)
      simp [go_sem, h2', h9, f0, f1, x0, x1]
  · intro W hS v0 h0 v1 h1 v2 h2 v3 h3 v4 h4 v5 h5 v6 h6 h7
    obtain ⟨p', c', hbx, hat⟩ := h7 rfl
    clear h0 h1 h2 h3 h4 h5 h6 h7
    simp only [ends, Act.put, List.setIfInBounds_toArray, List.set_cons_succ, List.set_cons_zero]
    go_wp2
    exact bodyPost_ret (results_box rfl _ _ rfl hbx) rfl ⟨hS.2.2.2, p', c', rfl, hat.less (by omega)⟩

end Go.Proofs.Ytmccfcllehfebaa.W

namespace Go.Proofs.Ytmccfcllehfebaa.W
open Go Go.RowKit Go.Shelf Go.Sort

theorem At.take {w : World} {p : Option Addr} {l : List Int} (h : At w p l) (k : Nat) : At w p (l.take k) := by
  rcases h with rfl | ⟨b, off, hp, hlt, hc⟩
  · exact .inl (by simp)
  · refine .inr ⟨b, off, hp, hlt, fun j hj => ?_⟩
    have hj2 : j < k ∧ j < l.length := by simp at hj; omega
    rw [hc j hj2.2]
    simp [List.getD, hj2.1, hj2.2]

theorem take_short {l : List Int} (h : ¬ 200 < l.length) : l.take 200 = l := List.take_of_length_le (by omega)
theorem take_len {l : List Int} (h : 200 < l.length) : (l.take 200).length = 200 := by simp; omega

end Go.Proofs.Ytmccfcllehfebaa.W

namespace Go.Proofs.Ytmccfcllehfebaa.W
open Go Go.RowKit Go.Shelf Go.Sort

set_option maxRecDepth 100000 in
set_option maxHeartbeats 1000000 in
theorem in_some (b off cap : Nat) (l : List Int) (x : Int) (w : World) (hl : l.length ≤ 9223372036854775807) (hc : ∀ j, j < l.length → w.cell? ⟨b, off + j, none⟩ = some (.int .i64 (l.getD j 0))) :
    Calls Try.prog 67 #[.slice (some ⟨b, off, none⟩) l.length cap, .int .i64 x] w fun e w' => e = .returned (.bool (l.contains x)) ∧ w' = w := by
  have HC : Hid (∀ j, j < l.length → w.cell? ⟨b, off + j, none⟩ = some (.int .i64 (l.getD j 0))) := hc
  clear hc
  obtain ⟨r, hr⟩ : ∃ r, l.contains x = r := ⟨_, rfl⟩
  have HR : Hid (l.contains x = r) := hr
  rw [hr]
  clear hr
  go_enter Try.func67, Try.ntmps67
  go_wp2
  go_loop [5] (fun i => ∃ k : Nat, k ≤ l.length ∧ i = .int .i64 k ∧ Hid (∀ j, j < k → l.getD j 0 ≠ x)) (fun i => l.length - (intOf i).toNat)
  case atStart => exact ⟨0, Nat.zero_le _, rfl, fun j hj => absurd hj (Nat.not_lt_zero _)⟩
  case round =>
    obtain ⟨k, hk, rfl, H⟩ := hrel
    by_cases hlt : k < l.length
    · have hltz : (k : Int) < (l.length : Int) := by omega
      have hck := HC.out k hlt
      by_cases hx : l.getD k 0 = x
      · have HM : Hid (l.contains x = true) := by
          show l.contains x = true
          rw [← hx]; simp [List.getD, hlt]
        rw [hx] at hck
        clear hx
        go_wp2
        go_ret
        exact ⟨by rw [← HR.out, HM.out]; rfl, rfl⟩
      · have hq : (l.getD k 0 == x) = false := beq_eq_false_iff_ne.2 hx
        have HX : Hid (l.getD k 0 ≠ x) := hx
        clear hx
        generalize l.getD k 0 = y at hck hq
        go_wp2
        go_round
        case rel => exact ⟨k + 1, by omega, by go_num, fun j hj => by
          by_cases e : j = k
          · subst e; exact HX.out
          · exact H.out j (by omega)⟩
        case measure => simp [intOf]; omega
    · obtain rfl : k = l.length := by omega
      have hltz : ¬ (l.length : Int) < (l.length : Int) := by omega
      have HM : Hid (l.contains x = false) := by
        show l.contains x = false
        cases hc : l.contains x with
        | false => rfl
        | true =>
          obtain ⟨j, hj, e⟩ := List.getElem_of_mem (show x ∈ l by simpa using hc)
          exact absurd (by simp [List.getD, hj, e]) (H.out j hj)
      go_wp2
      go_ret
      exact ⟨by rw [← HR.out, HM.out]; rfl, rfl⟩

set_option maxRecDepth 100000 in
theorem in_zero (p : Option Addr) (cap : Nat) (x : Int) (w : World) :
    Calls Try.prog 67 #[.slice p 0 cap, .int .i64 x] w fun e w' => e = .returned (.bool false) ∧ w' = w := by
  go_enter Try.func67, Try.ntmps67
  go_wp2
  go_loop [5] (fun i => i = .int .i64 0) (fun _ => 0)
  case atStart => rfl
  case round =>
    subst hrel
    go_wp2
    go_ret
    exact ⟨rfl, rfl⟩

theorem in_any (p : Option Addr) (cap : Nat) (l : List Int) (x : Int) (w : World) (hl : l.length ≤ 9223372036854775807) (h : At w p l) :
    Calls Try.prog 67 #[.slice p l.length cap, .int .i64 x] w fun e w' => e = .returned (.bool (l.contains x)) ∧ w' = w := by
  rcases h with rfl | ⟨b, off, rfl, _, hc⟩
  · exact in_zero p cap x w
  · exact in_some b off cap l x w hl hc

set_option maxRecDepth 100000 in
set_option maxHeartbeats 1000000 in
theorem nums_ne (p q : Option Addr) (c d : Nat) (l m : List Int) (w : World) (hne : l.length ≠ m.length) :
    Calls Try.prog 36 #[.slice p l.length c, .slice q m.length d] w fun e w' => e = .returned (.bool false) ∧ w' = w := by
  have hq : ((l.length : Int) == (m.length : Int)) = false := beq_eq_false_iff_ne.2 (by omega)
  have hq2 : ((l.length : Int) != (m.length : Int)) = true := by simp [bne, hq]
  clear hne
  generalize (l.length : Nat) = x at *
  generalize (m.length : Nat) = y at *
  go_enter Try.func36, Try.ntmps36
  go_wp2
  go_ret
  exact ⟨rfl, rfl⟩

set_option maxRecDepth 100000 in
set_option maxHeartbeats 1000000 in
theorem nums_zero (p q : Option Addr) (c d : Nat) (w : World) :
    Calls Try.prog 36 #[.slice p 0 c, .slice q 0 d] w fun e w' => e = .returned (.bool true) ∧ w' = w := by
  go_enter Try.func36, Try.ntmps36
  go_wp2
  go_loop [5] (fun i => i = .int .i64 0) (fun _ => 0)
  case atStart => rfl
  case round =>
    subst hrel
    go_wp2
    go_ret
    exact ⟨rfl, rfl⟩

set_option maxRecDepth 100000 in
set_option maxHeartbeats 1000000 in
theorem nums_some (b off b2 off2 : Nat) (c d : Nat) (l m : List Int) (w : World) (hlm : l.length = m.length) (hl : l.length ≤ 9223372036854775807) (hc : ∀ j, j < l.length → w.cell? ⟨b, off + j, none⟩ = some (.int .i64 (l.getD j 0)))
    (hd : ∀ j, j < m.length → w.cell? ⟨b2, off2 + j, none⟩ = some (.int .i64 (m.getD j 0))) :
    Calls Try.prog 36 #[.slice (some ⟨b, off, none⟩) l.length c, .slice (some ⟨b2, off2, none⟩) m.length d] w fun e w' => e = .returned (.bool (decide (l = m))) ∧ Below w.heap.size w w' := by
  have HC : Hid (∀ j, j < l.length → w.cell? ⟨b, off + j, none⟩ = some (.int .i64 (l.getD j 0))) := hc
  have HD : Hid (∀ j, j < m.length → w.cell? ⟨b2, off2 + j, none⟩ = some (.int .i64 (m.getD j 0))) := hd
  have HL : Hid (l.length = m.length) := hlm
  rw [← hlm]
  clear hc hd hlm
  obtain ⟨r, hr⟩ : ∃ r, decide (l = m) = r := ⟨_, rfl⟩
  have HR : Hid (decide (l = m) = r) := hr
  rw [hr]
  clear hr
  go_enter Try.func36, Try.ntmps36
  go_wp2
  go_loopw [5] (fun i wr => ∃ k q : Nat, k ≤ l.length ∧ i = .int .i64 k ∧ wr = w.drewN q ∧ Hid (∀ j, j < k → l.getD j 0 = m.getD j 0)) (fun i _ => l.length - (intOf i).toNat)
  case atStart => exact ⟨0, 0, Nat.zero_le _, rfl, rfl, fun j hj => absurd hj (Nat.not_lt_zero _)⟩
  case round =>
    obtain ⟨k, q, hk, rfl, rfl, H⟩ := hrel
    by_cases hlt : k < l.length
    · have hltz : (k : Int) < (l.length : Int) := by omega
      have hck := HC.out k hlt
      have hdk := HD.out k (by have := HL.out; omega)
      by_cases hx : l.getD k 0 = m.getD k 0
      · have HX : Hid (l.getD k 0 = m.getD k 0) := hx
        rw [← hx] at hdk
        clear hx
        generalize l.getD k 0 = y at hck hdk
        go_wp2
        go_quiet (fail)
        go_wp2
        go_roundw
        case rel => exact ⟨k + 1, _, by omega, by go_num, rfl, fun j hj => by
          by_cases e : j = k
          · subst e; exact HX.out
          · exact H.out j (by omega)⟩
        case measure => simp [intOf]; omega
      · have hq : (l.getD k 0 == m.getD k 0) = false := beq_eq_false_iff_ne.2 hx
        have HM : Hid (decide (l = m) = false) := decide_eq_false fun e => hx (by rw [e])
        clear hx
        generalize l.getD k 0 = y at hck hq
        generalize m.getD k 0 = z at hdk hq
        have hq2 : (y != z) = true := by simp only [bne, hq]; rfl
        obtain rfl : r = false := by rw [← HR.out, HM.out]
        go_wp2
        go_quiet (fail)
        go_wp2
        go_ret
        exact ⟨rfl, on_drewN (on_drewN (Below.refl _ _) _) _⟩
    · obtain rfl : k = l.length := by omega
      have hltz : ¬ (l.length : Int) < (l.length : Int) := by omega
      have HM : Hid (decide (l = m) = true) := decide_eq_true (by
        refine List.ext_getElem HL.out fun j h1 h2 => ?_
        have := H.out j h1
        simpa [List.getD, h1, h2] using this)
      obtain rfl : r = true := by rw [← HR.out, HM.out]
      go_wp2
      go_ret
      exact ⟨rfl, on_drewN (Below.refl _ _) _⟩

theorem nums_any (p q : Option Addr) (c d : Nat) (l m : List Int) (w : World) (hl : l.length ≤ 9223372036854775807) (h : At w p l) (h2 : At w q m) :
    Calls Try.prog 36 #[.slice p l.length c, .slice q m.length d] w fun e w' => e = .returned (.bool (decide (l = m))) ∧ Below w.heap.size w w' := by
  by_cases hlm : l.length = m.length
  · rcases h with rfl | ⟨b, off, rfl, _, hc⟩
    · obtain rfl : m = [] := List.eq_nil_of_length_eq_zero (by simpa using hlm.symm)
      refine (nums_zero p q c d w).mono ?_
      rintro e w' ⟨rfl, rfl⟩
      exact ⟨rfl, Below.refl _ _⟩
    · rcases h2 with rfl | ⟨b2, off2, rfl, _, hd⟩
      · obtain rfl : l = [] := List.eq_nil_of_length_eq_zero (by simpa using hlm)
        refine (nums_zero (some ⟨b, off, none⟩) q c d w).mono ?_
        rintro e w' ⟨rfl, rfl⟩
        exact ⟨rfl, Below.refl _ _⟩
      · exact nums_some b off b2 off2 c d l m w hlm hl hc hd
  · refine (nums_ne p q c d l m w hlm).mono ?_
    rintro e w' ⟨rfl, rfl⟩
    exact ⟨by rw [decide_eq_false fun e => hlm (by rw [e])], Below.refl _ _⟩

set_option maxRecDepth 100000 in
set_option maxHeartbeats 1000000 in
theorem same_any (a1 a2 : Bool) (p q : Option Addr) (c d : Nat) (l m : List Int) (w : World) (hl : l.length ≤ 9223372036854775807) (h : At w p l) (h2 : At w q m) :
    Calls Try.prog 43 #[.agg #[.bool a1, .slice p l.length c], .agg #[.bool a2, .slice q m.length d]] w fun e w' => e = .returned (.bool ((a1 == a2) && decide (l = m))) ∧ Below w.heap.size w w' := by
  have hB := on_trans (on_alloc w (.cells #[.bool a1, .slice p l.length c] 32)) (on_alloc _ (.cells #[.bool a2, .slice q m.length d] 32))
  have cN := fun w1 (hb : Below w.heap.size w w1) => nums_any p q c d l m w1 hl (h.below hb (Nat.le_refl _)) (h2.below hb (Nat.le_refl _))
  have HB : Hid _ := hB
  clear h h2 hB
  generalize decide (l = m) = r at *
  by_cases ha : a1 = a2
  · subst ha
    rw [show (a1 == a1) = true by simp, Bool.true_and]
    have hq : (a1 == a1) = true := by simp
    go_enter Try.func43, Try.ntmps43
    go_wp2_with fail
    refine (cN _ HB.out).mono ?_
    rintro e w1 ⟨rfl, hb1⟩
    go_wp2
    go_ret
    exact ⟨rfl, on_trans HB.out hb1⟩
  · have hq : (a1 == a2) = false := beq_eq_false_iff_ne.2 ha
    rw [hq, Bool.false_and]
    clear cN ha
    go_enter Try.func43, Try.ntmps43
    go_wp2
    go_ret
    exact ⟨rfl, HB.out⟩

end Go.Proofs.Ytmccfcllehfebaa.W
