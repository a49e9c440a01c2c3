/- What slices.DeleteFunc and remove do to a row of processes. -/
import Derived.Test.YthmefiegoagkjaaYFun2
namespace Go.Proofs.Ythmefiegoagkjaa.Y
open Go Go.RowKit

section
variable {P : Program} {o : Oper} {w w' : World} {ops : Array Oper} {rest : List Oper} {a : Act} {v : Value} {Q : Exit → Act → World → Prop}
theorem wpList_run_clear (hgd : o.guard = none) (d : Operand) (t : TypeId) (hop : o.op = Op.call { callee := Callee.builtin Builtin.clear, args := #[d], argTypes := #[t] })
    (u1 : Value) (h1 : a.eval d = u1) (hr : (Builtin.clear_ #[t] o.type #[u1]).run P w = .ok v w') (h : wpList P ops Q rest (a.put o.dst v) w') : wpList P ops Q (o :: rest) a w := by
  subst h1
  refine wpList_plain hgd fun K' hK' => ?_
  unfold Oper.wp
  simp [execOp, hop, resolve, invoke, builtin, hr, Result.andThen]
  exact hK' _ _ h
end
section
variable {hi g n cap : Nat} {w : World} {S : List Pr}
theorem row_set1 (h : Row hi w (.slice (some ⟨g, 0, none⟩) n cap) S) (k i : Nat) (hk : k < S.length) (hin : i < 7) (u : Value) (y : Pr) (hx : (prC S[k]).set i u = prC y) : Row hi (w.setCell ⟨g, k * 7 + i, none⟩ u) (.slice (some ⟨g, 0, none⟩) n cap) (S.set k y) := by
  obtain ⟨p, c, e, _⟩ := row_cells h
  cases e
  have hs := (h.stored (k * 7 + i) u).1
  have e2 : (flat S).set (k * 7 + i) u = flat (S.set k y) := T.flat_set encP S k i hk hin u y hx
  rw [e2] at hs
  show World.ownsRow _ hi _ 7 _ (S.set k y).length _
  rw [List.length_set]
  exact hs
theorem row_at (h : Row hi w (.slice (some ⟨g, 0, none⟩) n cap) S) {k : Nat} (hk : k < S.length) : g < w.heap.size ∧ Cells w g k S[k] := by
  obtain ⟨p, c, e, hc⟩ := row_cells h
  cases e
  obtain ⟨g', e2, _, h1, h2⟩ := hc k hk
  cases e2
  exact ⟨h1, h2⟩
/-- A process laid at a place of the row. -/
theorem row_put (h : Row hi w (.slice (some ⟨g, 0, none⟩) n cap) S) (k : Nat) (hk : k < S.length) (x : Pr) :
    Row hi (((((((w.setCell ⟨g, k * 7, none⟩ (.int .i64 x.pid)).setCell ⟨g, k * 7 + 1, none⟩ (.int .i64 x.parent)).setCell ⟨g, k * 7 + 2, none⟩ (.bool x.lives)).setCell ⟨g, k * 7 + 3, none⟩ (.int .i64 x.code)).setCell ⟨g, k * 7 + 4, none⟩ (.bool x.pd)).setCell ⟨g, k * 7 + 5, none⟩ (.bool x.cap)).setCell ⟨g, k * 7 + 6, none⟩ (.int .i64 x.cwd)) (.slice (some ⟨g, 0, none⟩) n cap) (S.set k x) ∧
    But g w (((((((w.setCell ⟨g, k * 7, none⟩ (.int .i64 x.pid)).setCell ⟨g, k * 7 + 1, none⟩ (.int .i64 x.parent)).setCell ⟨g, k * 7 + 2, none⟩ (.bool x.lives)).setCell ⟨g, k * 7 + 3, none⟩ (.int .i64 x.code)).setCell ⟨g, k * 7 + 4, none⟩ (.bool x.pd)).setCell ⟨g, k * 7 + 5, none⟩ (.bool x.cap)).setCell ⟨g, k * 7 + 6, none⟩ (.int .i64 x.cwd)) := by
  constructor
  · obtain ⟨F, hF⟩ : ∃ F, S[k] = F := ⟨_, rfl⟩
    have h0 := row_set1 h k 0 hk (by decide) (.int .i64 x.pid) ⟨x.pid, F.parent, F.lives, F.code, F.pd, F.cap, F.cwd⟩ (by rw [hF]; rfl)
    have h1 := row_set1 h0 k 1 (by simpa using hk) (by decide) (.int .i64 x.parent) ⟨x.pid, x.parent, F.lives, F.code, F.pd, F.cap, F.cwd⟩ (by rw [List.getElem_set_self]; rfl)
    rw [List.set_set] at h1
    have h2 := row_set1 h1 k 2 (by simpa using hk) (by decide) (.bool x.lives) ⟨x.pid, x.parent, x.lives, F.code, F.pd, F.cap, F.cwd⟩ (by rw [List.getElem_set_self]; rfl)
    rw [List.set_set] at h2
    have h3 := row_set1 h2 k 3 (by simpa using hk) (by decide) (.int .i64 x.code) ⟨x.pid, x.parent, x.lives, x.code, F.pd, F.cap, F.cwd⟩ (by rw [List.getElem_set_self]; rfl)
    rw [List.set_set] at h3
    have h4 := row_set1 h3 k 4 (by simpa using hk) (by decide) (.bool x.pd) ⟨x.pid, x.parent, x.lives, x.code, x.pd, F.cap, F.cwd⟩ (by rw [List.getElem_set_self]; rfl)
    rw [List.set_set] at h4
    have h5 := row_set1 h4 k 5 (by simpa using hk) (by decide) (.bool x.cap) ⟨x.pid, x.parent, x.lives, x.code, x.pd, x.cap, F.cwd⟩ (by rw [List.getElem_set_self]; rfl)
    rw [List.set_set] at h5
    have h6 := row_set1 h5 k 6 (by simpa using hk) (by decide) (.int .i64 x.cwd) x (by rw [List.getElem_set_self]; rfl)
    rw [List.set_set] at h6
    exact h6
  · exact ((((((but_set w g _ _).trans (but_set _ g _ _)).trans (but_set _ g _ _)).trans (but_set _ g _ _)).trans (but_set _ g _ _)).trans (but_set _ g _ _)).trans (but_set _ g _ _)
end
theorem goes_but {g : Nat} {v v' : Value} {w w1 w2 : World} (h : T.Goes g v v' w w1) (hb : But g w1 w2) : T.Goes g v v' w w2 :=
  ⟨hb.os.trans h.os, hb.tape.trans h.tape, hb.output.trans h.output, by rw [hb.size]; exact h.size, fun k hk h1 h2 => (hb.block k h1).trans (h.block k hk h1 h2), h.lies⟩
theorem goes_blk {g nb : Nat} {t : TypeId} {cs : List Value} {v v' : Value} {w w1 : World} (h : T.Goes g v v' w w1) (hv : v.ownBlock = some g) (hb : Blk w nb t cs) (hne : nb ≠ g) : Blk w1 nb t cs :=
  ⟨(h.block nb hb.lt hne (fun e => hne (by rw [hv] at e; exact (Option.some.inj e).symm))).trans hb.row⟩

def nq (i : Int) (x : Pr) : Bool := !(x.pid == i)
/-- What the loop of DeleteFunc has laid. -/
structure Laid (i : Int) (S T : List Pr) (a c : Nat) : Prop where
  len : T.length = S.length
  ac : a < c
  cn : c ≤ S.length
  front : T.take a = (S.take c).filter (nq i)
  back : T.drop c = S.drop c
section
variable {i : Int} {S T : List Pr} {a c : Nat}
theorem Laid.get (h : Laid i S T a c) (hc : c < S.length) : T[c]'(by rw [h.len]; exact hc) = S[c] := by
  have e := congrArg (fun l : List Pr => l[0]?) h.back
  simp only [List.getElem?_drop, Nat.add_zero] at e
  rw [List.getElem?_eq_getElem (by rw [h.len]; exact hc), List.getElem?_eq_getElem hc] at e
  exact Option.some.inj e
theorem Laid.skip (h : Laid i S T a c) (hc : c < S.length) (hq : nq i S[c] = false) : Laid i S T a (c + 1) := by
  refine ⟨h.len, by have := h.ac; omega, hc, ?_, ?_⟩
  · rw [h.front, List.take_succ_eq_append_getElem hc, List.filter_append, List.filter_cons_of_neg (by rw [hq]; decide)]; simp
  · have := congrArg (List.drop 1) h.back
    rwa [List.drop_drop, List.drop_drop] at this
theorem Laid.keep (h : Laid i S T a c) (hc : c < S.length) (hq : nq i S[c] = true) : Laid i S (T.set a S[c]) (a + 1) (c + 1) := by
  have hac := h.ac
  have ha : a < T.length := by rw [h.len]; omega
  refine ⟨by rw [List.length_set, h.len], by omega, hc, ?_, ?_⟩
  · rw [List.take_succ_eq_append_getElem (by rw [List.length_set]; exact ha), List.getElem_set_self, List.take_set_of_le (Nat.le_refl _), h.front, List.take_succ_eq_append_getElem hc, List.filter_append, List.filter_cons_of_pos hq]
    rfl
  · have := congrArg (List.drop 1) h.back
    rw [List.drop_drop, List.drop_drop] at this
    rw [List.drop_set_of_lt (by omega)]
    exact this
theorem Laid.start (hq : has i S = true) : Laid i S S (spot i S) (spot i S + 1) := by
  have hlt := spot_lt hq
  refine ⟨rfl, Nat.lt_succ_self _, hlt, ?_, rfl⟩
  rw [List.take_succ_eq_append_getElem hlt, List.filter_append, List.filter_cons_of_neg (by unfold nq; rw [spot_id hlt]; simp)]
  simp only [List.filter_nil, List.append_nil]
  refine (List.filter_eq_self.2 fun x hx => ?_).symm
  obtain ⟨j, hj, rfl⟩ := List.mem_iff_getElem.1 hx
  rw [List.length_take] at hj
  have hn := List.not_of_lt_findIdx (xs := S) (p := fun x : Pr => x.pid == i) (i := j) (by show j < spot i S; omega)
  rw [List.getElem_take]
  unfold nq
  simpa using hn
theorem Laid.done (h : Laid i S T a S.length) : T.take a = S.filter (nq i) ∧ (S.filter (nq i)).length = a := by
  have e := h.front
  rw [List.take_length] at e
  refine ⟨e, ?_⟩
  rw [← e, List.length_take, h.len]
  have := h.ac
  omega
end
/-- What DeleteFunc leaves. -/
def DelPost (hi : Nat) (i : Int) (v : Value) (S : List Pr) (w : World) (e : Ending) (w' : World) : Prop := ∃ g cap, v = .slice (some ⟨g, 0, none⟩) S.length cap ∧ e = .returned (.slice (some ⟨g, 0, none⟩) (S.filter (nq i)).length cap) ∧ Row hi w' (.slice (some ⟨g, 0, none⟩) (S.filter (nq i)).length cap) (S.filter (nq i)) ∧ T.Goes g v v w w'
set_option maxRecDepth 100000 in
set_option maxHeartbeats 2000000 in
theorem deleteF_any (hi nb : Nat) (i : Int) (v : Value) (S : List Pr) (w : World) (hn : S.length ≤ 1000) (h : Row hi w v S) (hq : has i S = true) (hb : Blk w nb 3 [.int .i64 i]) :
    Calls Try.prog 36 #[v, .func (.func 37) #[] #[ptr nb]] w (DelPost hi i v S w) := by
  have cI := index_any hi 37 #[ptr nb] (fun x => x.pid == i) (fun W => Blk W nb 3 [.int .i64 i]) en_remove1 ⟨fun W W' h hb => h.on hb, fun x W h => remove1_any x i _ W h⟩ v S hn w h hb
  have hlt := spot_lt hq
  rw [show (S.any fun x => x.pid == i) = true from hq, if_pos rfl, show S.findIdx (fun x => x.pid == i) = spot i S from rfl] at cI
  obtain ⟨p, cap, rfl, hcs⟩ := row_cells h
  obtain ⟨g, rfl, hg, hgl, _⟩ := hcs (spot i S) hlt
  clear hcs
  obtain ⟨cs0, hB0, _, hnc, hcm, _⟩ := rowS_blk h
  have hne : nb ≠ g := fun e => by
    subst e
    have := hB0.row.symm.trans hb.row
    simp at this
    exact absurd this.2 (by decide)
  have HL0 : Hid (Laid i S S (spot i S) (spot i S + 1)) := Laid.start hq
  have HW : Hid (∀ w1, Below w.heap.size w w1 → Row hi w1 (.slice (some ⟨g, 0, none⟩) S.length cap) S ∧ Blk w1 nb 3 [.int .i64 i] ∧ T.Goes g (.slice (some ⟨g, 0, none⟩) S.length cap) (.slice (some ⟨g, 0, none⟩) S.length cap) w w1) := fun w1 hb1 => ⟨rowS_on h hb1, hb.on hb1, .on hb1⟩
  have HP : Hid (∀ w', Row hi w' (.slice (some ⟨g, 0, none⟩) (S.filter (nq i)).length cap) (S.filter (nq i)) → T.Goes g (.slice (some ⟨g, 0, none⟩) S.length cap) (.slice (some ⟨g, 0, none⟩) S.length cap) w w' → DelPost hi i (.slice (some ⟨g, 0, none⟩) S.length cap) S w (.returned (.slice (some ⟨g, 0, none⟩) (S.filter (nq i)).length cap)) w') := fun w' h1 h2 => ⟨g, cap, rfl, rfl, h1, h2⟩
  generalize DelPost hi i (.slice (some ⟨g, 0, none⟩) S.length cap) S w = Post at *
  have hz1 : ((spot i S : Int) == -1) = false := by
    rw [beq_eq_false_iff_ne]
    omega
  clear hB0 h hq hb
  generalize spot i S = k0 at *
  go_enter Try.func36, Try.ntmps36
  go_wp2_with fail
  refine cI.mono ?_
  rintro e w1 ⟨rfl, hb1⟩
  have HS0 : Hid _ := HW.out w1 hb1
  clear cI hb1 HW
  go_wp2
  go_loopw [5, 6] (fun iv jv wq => ∃ a c : Nat, ∃ L : List Pr, iv = .int .i64 (a : Int) ∧ jv = .int .i64 (c : Int) ∧ Hid (Laid i S L a c) ∧ Hid (Row hi wq (.slice (some ⟨g, 0, none⟩) S.length cap) L ∧ Blk wq nb 3 [.int .i64 i] ∧ T.Goes g (.slice (some ⟨g, 0, none⟩) S.length cap) (.slice (some ⟨g, 0, none⟩) S.length cap) w wq)) (fun _ jv _ => S.length - (intOf jv).toNat)
  case atStart => exact ⟨k0, k0 + 1, S, rfl, by go_num, HL0.out, HS0.out⟩
  case round =>
    clear HS0 HL0 hz1
    obtain ⟨a, c, L, rfl, rfl, HL, HS⟩ := hrel
    have hac := HL.out.ac
    have hcn := HL.out.cn
    by_cases hlt2 : c < S.length
    · have hltz : (c : Int) < (S.length : Int) := by omega
      have haz : (a : Int) < (S.length : Int) := by omega
      obtain ⟨hrow, hbk, hgo⟩ := HS.out
      have hcL : c < L.length := by rw [HL.out.len]; exact hlt2
      obtain ⟨hgl2, cc⟩ := row_at hrow hcL
      rw [HL.out.get hlt2] at cc
      obtain ⟨c0, c1, c2, c3, c4, c5, c6, hfr⟩ := cc
      have HK : Hid (nq i S[c] = true → Laid i S (L.set a S[c]) (a + 1) (c + 1)) := HL.out.keep hlt2
      have HN : Hid (nq i S[c] = false → Laid i S L a (c + 1)) := HL.out.skip hlt2
      have HX : Hid (nq i S[c] = !(S[c].pid == i)) := rfl
      have haL : a < L.length := by omega
      generalize S[c] = x at *
      have cA := fun W h => remove1_any x i nb W h
      obtain ⟨x0, x1, x2, x3, x4, x5, x6⟩ := x
      simp only at c0 c1 c2 c3 c4 c5 c6 cA
      have hal := on_alloc wr (.cells #[.int .i64 x0, .int .i64 x1, .bool x2, .int .i64 x3, .bool x4, .bool x5, .int .i64 x6] 37)
      have cB := cA _ (hbk.on hal)
      have HBl : Hid (Blk (wr.alloc (.cells #[.int .i64 x0, .int .i64 x1, .bool x2, .int .i64 x3, .bool x4, .bool x5, .int .i64 x6] 37)) wr.heap.size 37 (prC ⟨x0, x1, x2, x3, x4, x5, x6⟩)) := Blk.new wr 37 (prC ⟨x0, x1, x2, x3, x4, x5, x6⟩)
      have HBa : Hid (Below wr.heap.size wr (wr.alloc (.cells #[.int .i64 x0, .int .i64 x1, .bool x2, .int .i64 x3, .bool x4, .bool x5, .int .i64 x6] 37))) := hal
      clear hrow hbk hgo cA hal hfr
      go_wp2_with fail
      refine cB.mono ?_
      rintro e w2 ⟨rfl, hb2⟩
      have HB2 : Hid (Below wr.heap.size wr w2) := on_trans HBa.out hb2
      have HS2 : Hid (Row hi w2 (.slice (some ⟨g, 0, none⟩) S.length cap) L ∧ Blk w2 nb 3 [.int .i64 i] ∧ T.Goes g (.slice (some ⟨g, 0, none⟩) S.length cap) (.slice (some ⟨g, 0, none⟩) S.length cap) w w2) := ⟨rowS_on HS.out.1 HB2.out, HS.out.2.1.on HB2.out, HS.out.2.2.trans (.on HB2.out)⟩
      have hX1 := HBl.out.on hb2
      have y0 := hX1.cell 0 rfl
      have y1 := hX1.cell 1 rfl
      have y2 := hX1.cell 2 rfl
      have y3 := hX1.cell 3 rfl
      have y4 := hX1.cell 4 rfl
      have y5 := hX1.cell 5 rfl
      have y6 := hX1.cell 6 rfl
      simp only at y0 y1 y2 y3 y4 y5 y6
      clear hX1 hb2 cB HBl HBa HB2 HS c0 c1 c2 c3 c4 c5 c6
      cases hq : (x0 == i) with
      | true =>
        have HLL : Hid (Laid i S L a (c + 1)) := HN.out (by rw [HX.out, hq]; rfl)
        clear HN HK HX HL
        go_wp2
        go_roundw
        case rel => exact ⟨a, c + 1, L, rfl, by go_num, HLL.out, HS2.out⟩
        case measure => simp [intOf]; omega
      | false =>
        have HLL : Hid (Laid i S (L.set a ⟨x0, x1, x2, x3, x4, x5, x6⟩) (a + 1) (c + 1)) := HK.out (by rw [HX.out, hq]; rfl)
        obtain ⟨_, d0, d1, d2, d3, d4, d5, d6, hfr⟩ := row_at HS2.out.1 haL
        have f0 := hfr (a * 7)
        have f1 := hfr (a * 7 + 1)
        have f2 := hfr (a * 7 + 2)
        have f3 := hfr (a * 7 + 3)
        have f4 := hfr (a * 7 + 4)
        have f5 := hfr (a * 7 + 5)
        have f6 := hfr (a * 7 + 6)
        have hput := row_put HS2.out.1 a haL ⟨x0, x1, x2, x3, x4, x5, x6⟩
        have HS3 : Hid _ := And.intro hput.1 (And.intro (HS2.out.2.1.but hput.2 hne) (goes_but HS2.out.2.2 hput.2))
        clear HN HK HX HL HS2 hput hfr
        go_wp2
        go_roundw
        case rel => exact ⟨a + 1, c + 1, _, by go_num, by go_num, HLL.out, HS3.out⟩
        case measure => simp [intOf]; omega
    · obtain rfl : c = S.length := by omega
      have hltz : ¬ (S.length : Int) < (S.length : Int) := by omega
      obtain ⟨hD, hDl⟩ := HL.out.done
      obtain ⟨hrow, hbk, hgo⟩ := HS.out
      have hLn := HL.out.len
      obtain ⟨cs, hB, hcl, _, _, _, hct⟩ := rowS_blk (show wr.ownsRow hi 37 7 (.slice (some ⟨g, 0, none⟩) S.length cap) S.length (flat L) by have := hrow; rw [show Row hi wr (.slice (some ⟨g, 0, none⟩) S.length cap) L = wr.ownsRow hi 37 7 (.slice (some ⟨g, 0, none⟩) S.length cap) L.length (flat L) from rfl, hLn] at this; exact this)
      obtain ⟨w6, zz, hcl6, hbut, hzl, hB6⟩ := clear_partS elemP zeroP (by intro v hv; simp [Value.cells] at hv; rcases hv with rfl | rfl | rfl | rfl | rfl <;> rfl) hB (a * 7) (S.length - a) (cap - a) (by omega) (by omega)
      have HR : Hid (Row hi w6 (.slice (some ⟨g, 0, none⟩) a cap) (S.filter (nq i))) := by
        show w6.ownsRow hi _ 7 _ (S.filter (nq i)).length (flat (S.filter (nq i)))
        rw [hDl]
        refine rowS_of hB6 ?_ (by omega) hcm hg ?_ ?_
        · rw [List.length_append, List.length_append, List.length_take, List.length_drop, hzl]; omega
        · rw [List.append_assoc, List.take_append_of_le_length (by rw [List.length_take]; omega), List.take_take, Nat.min_self, ← hD]
          have e1 := T.flat_take encP L a
          have e2 : (flat L).take (a * 7) = flat (L.take a) := e1
          rw [← e2, ← hct, List.take_take, Nat.min_eq_left (by omega)]
        · rw [flat_length, hDl]
      have HG : Hid (T.Goes g (.slice (some ⟨g, 0, none⟩) S.length cap) (.slice (some ⟨g, 0, none⟩) S.length cap) w w6) := goes_but hgo hbut
      have hw1 : (a : Int) ≤ (S.length : Int) := by omega
      have hw2 : (S.length : Int) ≤ (cap : Int) := by omega
      have hw3 : (a : Int) ≤ (cap : Int) := by omega
      have hb1 : ¬ cap = a := by omega
      have hb2 : ¬ cap - a = 0 := by omega
      rw [hDl] at HP
      clear hB hB6 hbut hzl hct hcl hrow hbk hgo hD hDl HS HL hLn
      go_wp2_with (at_builtin; refine wpList_run_clear rfl _ 31 rfl _ rfl (hcl6 _) ?_)
      exact HP.out _ HR.out HG.out

section
variable {hi b : Nat} {v : Value} {mo nx : Int} {S : List Pr} {w : World} {i : Int}
set_option maxRecDepth 100000 in
set_option maxHeartbeats 1000000 in
theorem remove_any (h : TabAt hi 57 w b v mo nx S) (hl : S.length ≤ 1000) (hq : has i S = true) :
    Calls Try.prog 33 #[ptr b, .int .i64 i] w (TPost hi 57 b w v mo nx (S.filter (nq i)) (.tuple #[])) := by
  have hal := on_alloc w (.cells #[.int .i64 i] 3)
  have h0 := h.on hal
  have cD := deleteF_any hi w.heap.size i v S (w.alloc (.cells #[.int .i64 i] 3)) hl h0.row hq (Blk.new w 3 [.int .i64 i])
  have y0 := h0.box.cell 0 rfl
  have HP : Hid (∀ e w', DelPost hi i v S (w.alloc (.cells #[.int .i64 i] 3)) e w' → ∃ g cap, v = .slice (some ⟨g, 0, none⟩) S.length cap ∧ e = .returned (.slice (some ⟨g, 0, none⟩) (S.filter (nq i)).length cap) ∧ w'.frozen? ⟨b, 0, none⟩ = false ∧ w'.cell? ⟨b, 0, none⟩ = some v ∧ TPost hi 57 b w v mo nx (S.filter (nq i)) (.tuple #[]) (.returned (.tuple #[])) (w'.setCell ⟨b, 0, none⟩ (.slice (some ⟨g, 0, none⟩) (S.filter (nq i)).length cap))) := by
    rintro e w' ⟨g, cap, rfl, rfl, hrow, hgo⟩
    have hne : b ≠ g := fun e => by
      obtain ⟨cs, hB, _⟩ := rowS_blk h.row
      subst e
      have := hB.row.symm.trans h.box.row
      simp at this
      exact absurd this.2 (by decide)
    have hbox := goes_blk hgo rfl h0.box hne
    refine ⟨g, cap, rfl, rfl, hbox.free 0, hbox.cell 0 rfl, rfl, _, T.TabAt.laid hbox hrow h.hid (by decide), ?_⟩
    refine T.goes_box (v1 := .slice (some ⟨g, 0, none⟩) S.length cap) ?_ _ _ rfl
    refine (T.Goes.on hal).trans ⟨hgo.os, hgo.tape, hgo.output, hgo.size, fun k hk h1 h2 => hgo.block k hk (fun e => h2 (by rw [e]; rfl)) h2, hgo.lies⟩
  generalize TPost hi 57 b w v mo nx (S.filter (nq i)) (.tuple #[]) = Post at *
  generalize DelPost hi i v S (w.alloc (.cells #[.int .i64 i] 3)) = DP at *
  obtain ⟨p, cap, rfl⟩ := h.slice
  clear h h0 hal hq
  go_enter Try.func33, Try.ntmps33
  go_wp2_with fail
  refine cD.mono ?_
  intro e w1 hp
  obtain ⟨g, cap2, e1, rfl, f0, x0, hpost⟩ := HP.out e w1 hp
  cases e1
  have HZ : Hid _ := hpost
  clear hp HP cD hpost y0
  go_wp2
  go_end0
  exact HZ.out
end

end Go.Proofs.Ythmefiegoagkjaa.Y
