/- What slices.Delete does to a row of files: one less. -/
import Derived.Test.YtigikmojhllmdaaVFun3
namespace Go.Proofs.Ytigikmojhllmdaa.V
open Go Go.RowKit

/-- append in place. -/
theorem append_inS {P : Program} {T e : TypeId} {z : Value} {size bytes : Nat} (E : ElemS P T e z size bytes) {w : World} {g : Nat} {cs : List Value} (hB : Blk w g e cs) (k m cap c : Nat) (a : Addr) (l : List Value) (hl : l.length = m * size) (hsrc : ∀ (j : Nat) v, l[j]? = some v → w.cell? (a.add j) = some v) (hone : ∀ v ∈ l, v.oneCell' = true) (hroom : k + m ≤ cap) (hfit : k * size + l.length ≤ cs.length) :
    ∃ w', (∀ ty, (Builtin.append_ #[T, T] ty #[.slice (some ⟨g, 0, none⟩) k cap, .slice (some a) m c]).run P w = .ok (.slice (some ⟨g, 0, none⟩) (k + m) cap) w') ∧ But g w w' ∧ Blk w' g e (cs.take (k * size) ++ l ++ cs.drop (k * size + l.length)) := by
  obtain ⟨i0, hi0, hz0, hz1, hz2⟩ := info_parts E.info
  have key := fun ty => run_append_room (P := P) w T ty e i0 E.slice hi0 g k cap cs.toArray hB.row a m c l (by rw [hz1]; exact hl) hsrc hone hroom (by rw [hz1, List.size_toArray]; exact hfit)
  rw [hz1] at key
  exact ⟨_, key, but_setRow _ _ _, by have := blk_setRow hB (cs.take (k * size) ++ l ++ cs.drop (k * size + l.length)); simpa using this⟩
theorem slice_fromX {P : Program} {T e : TypeId} {z : Value} {size bytes : Nat} (E : ElemS P T e z size bytes) (sb so m c n : Nat) (hn : n ≤ m) (hm : m ≤ c) : ∃ x, (∀ w, (Instr.slice T (.slice (some ⟨sb, so, none⟩) m c) (some (.int .i64 (n : Int))) none none).run P w = .ok (.slice (some ⟨sb, x, none⟩) (m - n) (c - n)) w) ∧ (n < c → x = so + n * size) := by
  by_cases h : n < c
  · exact ⟨so + n * size, fun w => slice_fromS E sb so m c n hn h w, fun _ => rfl⟩
  · obtain rfl : n = c := by omega
    obtain rfl : m = n := by omega
    exact ⟨so, fun w => by rw [Nat.sub_self]; exact slice_endS E sb so m w, fun h => by omega⟩
section
variable {P : Program} {o : Oper} {w w' : World} {post : Value → World → Prop} {ρ : Operand → Value} {ops : Array Oper} {rest : List Oper} {a : Act} {v : Value} {Q : Exit → Act → World → Prop}
theorem wpList_run_clear (hgd : o.guard = none) (d : Operand) (t : TypeId) (hop : o.op = Op.call { callee := Callee.builtin Builtin.clear, args := #[d], argTypes := #[t] })
    (u1 : Value) (h1 : a.eval d = u1) (hr : (Builtin.clear_ #[t] o.type #[u1]).run P w = .ok v w') (h : wpList P ops Q rest (a.put o.dst v) w') : wpList P ops Q (o :: rest) a w := by
  subst h1
  refine wpList_plain hgd fun K' hK' => ?_
  unfold Oper.wp
  simp [execOp, hop, resolve, invoke, builtin, hr, Result.andThen]
  exact hK' _ _ h
theorem leaves_sliceTo (x l : Operand) (t : TypeId) (ho : o.op = Op.slice t x none (some l) none)
    (hr : (Instr.sliceAt t (ρ x) none (some (ρ l)) none).run P w = .ok v w') (hp : post v w') : leaves P o ρ w post := by
  refine leaves_value (v := v) (w' := w') ?_ hp
  obtain ⟨dst, op, ty, pos, after, guard⟩ := o
  simp only at ho
  subst ho
  simp [execOp, hr, Result.andThen]
end
set_option maxRecDepth 100000 in
set_option maxHeartbeats 1000000 in
theorem delete_blk (g cap n i0 : Nat) (cs : List Value) (w : World) (hi : i0 < n) (hnc : n ≤ cap) (hn : n ≤ 1000) (_hcap : cap ≤ maxLen) (hB : Blk w g 37 cs) (hcl : cs.length = cap * 6) (h1 : ∀ u ∈ cs.take (n * 6), u.oneCell' = true) :
    Calls Try.prog 28 #[.slice (some ⟨g, 0, none⟩) n cap, .int .i64 i0, .int .i64 ((i0 : Int) + 1)] w fun e w' =>
      e = .returned (.slice (some ⟨g, 0, none⟩) (n - 1) cap) ∧ But g w w' ∧ ∃ R, Blk w' g 37 R ∧ R.length = cap * 6 ∧ R.take ((n - 1) * 6) = cs.take (i0 * 6) ++ (cs.drop ((i0 + 1) * 6)).take ((n - 1 - i0) * 6) := by
  obtain ⟨xo, hsx, hxo⟩ := slice_fromX elemF g 0 n cap (i0 + 1) (by omega) hnc
  obtain ⟨l, hl⟩ : ∃ l, (cs.drop ((i0 + 1) * 6)).take ((n - 1 - i0) * 6) = l := ⟨_, rfl⟩
  have hll : l.length = (n - (i0 + 1)) * 6 := by rw [← hl, List.length_take, List.length_drop]; omega
  have hlc : ∀ (j : Nat) v, l[j]? = some v → cs[(i0 + 1) * 6 + j]? = some v := fun j v hj => by
    have hjl := (List.getElem?_eq_some_iff.1 hj).1
    rw [← hl, List.getElem?_take_of_lt (by omega), List.getElem?_drop] at hj
    exact hj
  have hl1 : ∀ u ∈ l, u.oneCell' = true := fun u hu => h1 u (by
    obtain ⟨j, hj, rfl⟩ := List.mem_iff_getElem.1 hu
    exact List.mem_iff_getElem?.2 ⟨(i0 + 1) * 6 + j, by rw [List.getElem?_take_of_lt (by omega)]; exact hlc j _ (List.getElem?_eq_getElem hj)⟩)
  have HL : Hid (l.length = (n - (i0 + 1)) * 6 ∧ (∀ (j : Nat) v, l[j]? = some v → cs[(i0 + 1) * 6 + j]? = some v) ∧ (∀ u ∈ l, u.oneCell' = true)) := ⟨hll, hlc, hl1⟩
  have HS1 : Hid (∀ w, (Instr.slice 31 (.slice (some ⟨g, 0, none⟩) n cap) none (some (.int .i64 (i0 : Int))) none).run Try.prog w = .ok (.slice (some ⟨g, 0, none⟩) i0 cap) w) := fun w => slice_toS elemF g 0 n cap i0 (by omega) w
  have HS2 : Hid (∀ w, (Instr.slice 31 (.slice (some ⟨g, 0, none⟩) n cap) (some (.int .i64 ((i0 : Int) + 1))) none none).run Try.prog w = .ok (.slice (some ⟨g, xo, none⟩) (n - (i0 + 1)) (cap - (i0 + 1))) w) := fun w => by
    rw [show (i0 : Int) + 1 = ((i0 + 1 : Nat) : Int) by omega]; exact hsx w
  have HXO : Hid (i0 + 1 < cap → xo = 0 + (i0 + 1) * 6) := hxo
  have HBg : Hid (Blk w g 37 cs) := hB
  have hfin : (cs.take (i0 * 6) ++ l ++ cs.drop (i0 * 6 + l.length)).take ((n - 1) * 6) = cs.take (i0 * 6) ++ l ∧ (cs.take (i0 * 6) ++ l ++ cs.drop (i0 * 6 + l.length)).length = cap * 6 := by
    have e : (n - 1) * 6 = (cs.take (i0 * 6) ++ l).length := by rw [List.length_append, List.length_take, hll]; omega
    refine ⟨by rw [e]; exact List.take_left, ?_⟩
    simp only [List.length_append, List.length_take, List.length_drop]
    omega
  rw [hl]
  have HF : Hid _ := hfin
  obtain ⟨M, hM⟩ : ∃ M, cs.take (i0 * 6) ++ l = M := ⟨_, rfl⟩
  have HMM : Hid (cs.take (i0 * 6) ++ l = M) := hM
  rw [hM]
  have hz1 : ((i0 : Int) == (i0 : Int) + 1) = false := by
    rw [beq_eq_false_iff_ne]
    omega
  have hw1 : (i0 : Int) + 1 ≤ (n : Int) := by omega
  have hw2 : (n : Int) ≤ (cap : Int) := by omega
  have hw3 : (0 : Int) ≤ (i0 : Int) + 1 := by omega
  clear hl h1 hB hll hlc hl1 hsx hxo hfin hM
  go_enter Try.func28, Try.ntmps28
  go_wp2
  refine wp_region_two (S := fun f W => (f = true → Blk W g 37 cs) ∧ (f = false → Blk W g 37 (cs.take (i0 * 6) ++ l ++ cs.drop (i0 * 6 + l.length))) ∧ But g w W) (u := 6) (Keep := KeepK [(6, g)])
    (g := fun i v W => ([Kd.is (.slice (some ⟨g, 0, none⟩) n cap), .is (.int .i64 (i0 : Int)), .is (.slice (some ⟨g, 0, none⟩) i0 cap), .is (.slice (some ⟨g, 0, none⟩) n cap), .is (.int .i64 ((i0 : Int) + 1)), .is (.slice (some ⟨g, xo, none⟩) (n - (i0 + 1)) (cap - (i0 + 1))), .is (.slice (some ⟨g, 0, none⟩) (i0 + (n - (i0 + 1))) cap), .is (.slice (some ⟨g, 0, none⟩) (i0 + (n - (i0 + 1))) cap)].getD i (Kd.any (hi := g + 1))).ok v W)
    (tab := [[(0, none)], [(1, none)], [(20, some 0), (21, some 1)], [(0, none)], [(2, none)], [(23, some 3), (24, some 4)], [(22, some 2), (25, some 5)], [(26, some 6)]]) (tl := []) (n := 33)
    (by kernel_rfl) rfl (by kernel_rfl) (keep_one (by omega) ?k) ⟨fun _ => HBg.out.drew, (fun e => by cases e), ⟨rfl, rfl, rfl, rfl, fun _ _ => rfl⟩⟩ ?st ?en
  case k =>
    intro j hj
    match j, hj with
    | 0, _ | 1, _ | 2, _ | 3, _ | 4, _ | 5, _ | 6, _ | 7, _ => rfl
    | j + 8, _ => rfl
  case st =>
    refine ⟨fun ρ W f hf hr hS hs => ?_, fun ρ W f hf hr hS hs => ?_, fun ρ W f hf hr hS hs => ?_, fun ρ W f hf hr hS hs => ?_, fun ρ W f hf hr hS hs => ?_, fun ρ W f hf hr hS hs => ?_, fun ρ W f hf hr hS hs => ?_, fun ρ W f hf hr hS hs => ?_, trivial⟩
    · exact step_plain rfl (leaves_move (.tmp 0) rfl ⟨hs.1, by simpa using hS, Below.refl _ _⟩)
    · exact step_plain rfl (leaves_move (.tmp 1) rfl ⟨hs.1, by simpa using hS, Below.refl _ _⟩)
    · have ha : ρ (.tmp 20) = .slice (some ⟨g, 0, none⟩) n cap := hs.1
      have hb : ρ (.tmp 21) = .int .i64 (i0 : Int) := hs.2.1
      refine step_plain rfl (leaves_sliceTo (.tmp 20) (.tmp 21) 31 rfl ?_ ⟨rfl, by simpa using hS, Below.refl _ _⟩)
      rw [ha, hb, run_sliceAt_slice W 31 _ _ _ _ (by kernel_rfl)]
      exact HS1.out W
    · exact step_plain rfl (leaves_move (.tmp 0) rfl ⟨hs.1, by simpa using hS, Below.refl _ _⟩)
    · exact step_plain rfl (leaves_move (.tmp 2) rfl ⟨hs.1, by simpa using hS, Below.refl _ _⟩)
    · have ha : ρ (.tmp 23) = .slice (some ⟨g, 0, none⟩) n cap := hs.1
      have hb : ρ (.tmp 24) = .int .i64 ((i0 : Int) + 1) := hs.2.1
      refine step_plain rfl (leaves_slice (.tmp 23) (.tmp 24) 31 rfl ?_ ⟨rfl, by simpa using hS, Below.refl _ _⟩)
      rw [ha, hb, run_sliceAt_slice W 31 _ _ _ _ (by kernel_rfl)]
      exact HS2.out W
    · obtain rfl : f = true := hf (by kernel_rfl)
      have ha : ρ (.tmp 22) = .slice (some ⟨g, 0, none⟩) i0 cap := hs.1
      have hb : ρ (.tmp 25) = .slice (some ⟨g, xo, none⟩) (n - (i0 + 1)) (cap - (i0 + 1)) := hs.2.1
      obtain ⟨hS1, _, hS3⟩ := hS
      obtain ⟨w5, hcp, hbut, hB5⟩ := append_inS elemF (hS1 rfl) i0 (n - (i0 + 1)) cap (cap - (i0 + 1)) ⟨g, xo, none⟩ l HL.out.1 (fun j v hj => by
        have hjl := (List.getElem?_eq_some_iff.1 hj).1
        have hx := HXO.out (by have := HL.out.1; omega)
        have e : (⟨g, xo, none⟩ : Addr).add j = ⟨g, (i0 + 1) * 6 + j, none⟩ := by rw [hx]; unfold Addr.add; split <;> simp_all
        rw [e]
        exact (hS1 rfl).cell _ (HL.out.2.1 j v hj)) HL.out.2.2 (by omega) (by rw [HL.out.1]; omega)
      exact step_plain rfl (leaves_append (.tmp 22) (.tmp 25) 31 rfl (by rw [ha, hb]; exact hcp _) ⟨rfl, ⟨(fun e => by cases e), (fun _ => hB5), hS3.trans hbut⟩, hbut⟩)
    · exact step_plain rfl (leaves_assign (.tmp 26) rfl ⟨hs.1, by simpa using hS, Below.refl _ _⟩)
  case en =>
    intro f W hf hS v0 h0 v1 h1 v2 h2 v3 h3 v4 h4 v5 h5 v6 h6 v7 h7
    obtain rfl : f = false := hf (by decide)
    obtain rfl : v7 = .slice (some ⟨g, 0, none⟩) (i0 + (n - (i0 + 1))) cap := h7 rfl
    clear hf h0 h1 h2 h3 h4 h5 h6 h7
    simp only [ends, Act.put, List.setIfInBounds_toArray, List.set_cons_succ, List.set_cons_zero]
    obtain ⟨_, hS2, hS3⟩ := hS
    have hB5 := hS2 rfl
    clear hS2
    rw [show i0 + (n - (i0 + 1)) = n - 1 by omega]
    obtain ⟨w6, zz, hcl6, hbut, hzl, hB6⟩ := clear_partS elemF zeroF (by intro v hv; simp [Value.cells] at hv; subst hv; rfl) hB5 ((n - 1) * 6) 1 (cap - (n - 1)) (by rw [HF.out.2]; omega) (by decide)
    have HR : Hid (∃ R, Blk w6 g 37 R ∧ R.length = cap * 6 ∧ R.take ((n - 1) * 6) = M) := ⟨_, hB6, by
      have := HF.out.2
      rw [List.length_append, List.length_append, List.length_take, List.length_drop, hzl, this]
      omega, by
      rw [List.append_assoc, List.take_append_of_le_length (by rw [List.length_take, HF.out.2]; omega), List.take_take, Nat.min_self, HF.out.1, HMM.out]⟩
    have HE : Hid (But g w w6) := hS3.trans hbut
    have hlm : ((n - 1 : Nat) : Int) = (n : Int) - 1 := by omega
    have hb1 : ¬ cap = n - 1 := by omega
    have hnn : n - (n - 1) = 1 := by omega
    clear hB6 hB5 hbut hzl hS3
    go_wp2_with (at_builtin; refine wpList_run_clear rfl _ 31 rfl _ rfl (hcl6 _) ?_)
    go_ret
    exact ⟨rfl, HE.out, HR.out⟩

theorem erase_is (S : List Fl) (k : Nat) : S.eraseIdx k = S.take k ++ S.drop (k + 1) := List.eraseIdx_eq_take_drop_succ S k
/-- slices.Delete of one file. -/
theorem delete_any (hi i0 : Nat) (v : Value) (S : List Fl) (w : World) (hn : S.length ≤ 1000) (hi0 : i0 < S.length) (h : Row hi w v S) :
    Calls Try.prog 28 #[v, .int .i64 i0, .int .i64 ((i0 : Int) + 1)] w fun e w' => ∃ g cap, v = .slice (some ⟨g, 0, none⟩) S.length cap ∧ e = .returned (.slice (some ⟨g, 0, none⟩) (S.length - 1) cap) ∧ Row hi w' (.slice (some ⟨g, 0, none⟩) (S.length - 1) cap) (S.eraseIdx i0) ∧ But g w w' := by
  obtain ⟨p, cap, rfl, hat, _⟩ := rowS_at h
  obtain ⟨g, rfl⟩ : ∃ g, p = some ⟨g, 0, none⟩ := by
    rcases h.2 with ⟨_, h1⟩ | ⟨g, c, cur, h0, _⟩
    · omega
    · cases h0; exact ⟨g, rfl⟩
  obtain ⟨cs, hB, hcl, hnc, hcm, hg, ht⟩ := rowS_blk h
  have h1 : ∀ u ∈ cs.take (S.length * 6), u.oneCell' = true := by rw [ht]; exact flat_cell S
  have htk : cs.take (i0 * 6) = flat (S.take i0) := by
    rw [← flat_take, ← ht, List.take_take, Nat.min_eq_left (by omega)]
  have hdr : (cs.drop ((i0 + 1) * 6)).take ((S.length - 1 - i0) * 6) = flat (S.drop (i0 + 1)) := by
    rw [← flat_drop, ← ht, List.drop_take]
    congr 1
    omega
  refine (delete_blk g cap S.length i0 cs w hi0 hnc hn hcm hB hcl h1).mono ?_
  rintro e w' ⟨rfl, hb, R, hB', hRl, hR⟩
  rw [htk, hdr] at hR
  refine ⟨g, cap, rfl, rfl, ?_, hb⟩
  show w'.ownsRow hi _ 6 _ (S.eraseIdx i0).length _
  rw [List.length_eraseIdx_of_lt hi0, erase_is, flat_append]
  refine rowS_of hB' hRl (by omega) hcm hg hR ?_
  simp only [List.length_append, flat_length, List.length_take, List.length_drop]
  omega

end Go.Proofs.Ytigikmojhllmdaa.V
