/- The reference's Truncate. -/
import Derived.Test.YtigkelcmiknfjaaSWSteps
namespace Go.Proofs.Ytigkelcmiknfjaa
open Go Go.RowKit

/-- Bytes cut, or longer by bytes that are 0. -/
def cutL (B : List UInt8) (n : Nat) : List UInt8 := B.take n ++ List.replicate (n - B.length) 0
theorem cutL_len (B : List UInt8) (n : Nat) : (cutL B n).length = n := by simp [cutL]; omega
theorem cutL_get (B : List UInt8) (n j : Nat) : (cutL B n).getD j 0 = if j < n then B.getD j 0 else 0 := by
  unfold cutL
  rw [List.getD_eq_getElem?_getD, List.getElem?_append]
  by_cases h1 : j < (B.take n).length
  · have h2 : j < n := by simp at h1; omega
    rw [if_pos h1, if_pos h2, List.getElem?_take_of_lt h2, List.getD_eq_getElem?_getD]
  · rw [if_neg h1, List.getElem?_replicate]
    have h3 : j < n → B.length ≤ j := fun h => by simp at h1; omega
    by_cases h2 : j < n
    · rw [if_pos h2, List.getD_eq_getElem?_getD, List.getElem?_eq_none (h3 h2)]
      split <;> rfl
    · rw [if_neg h2]
      split <;> rfl
theorem cutL_succ (B : List UInt8) (k : Nat) : cutL B (k + 1) = cutL B k ++ [B.getD k 0] := by
  refine List.ext_getElem? fun j => ?_
  have key : ∀ n, (cutL B n)[j]? = if j < n then some (if j < n then B.getD j 0 else 0) else none := fun n => by
    by_cases h : j < n
    · rw [if_pos h, ← cutL_get, List.getD_eq_getElem?_getD, List.getElem?_eq_getElem (by rw [cutL_len]; exact h)]; rfl
    · rw [if_neg h, List.getElem?_eq_none (by rw [cutL_len]; omega)]
  rw [key, List.getElem?_append, cutL_len, key]
  by_cases h1 : j < k
  · rw [if_pos (by omega), if_pos (by omega), if_pos h1, if_pos h1, if_pos h1]
  · rw [if_neg h1]
    by_cases h2 : j = k
    · subst h2; simp
    · rw [if_neg (by omega), List.getElem?_eq_none (by simp; omega)]
theorem take_snocH {H : List Bool} {k : Nat} (h : k < H.length) : H.take (k + 1) = H.take k ++ [H.getD k false] := by
  rw [List.take_add_one, List.getElem?_eq_getElem h]
  simp [List.getD, h]

section
variable {o : Oper} {ρ : Operand → Value} {w : World} {post : Value → World → Prop} {b k : Nat}
theorem leaves_storeBools {p : Option Addr} {n c : Nat} {u : Value} (x y : Operand) (ho : o.op = .store 26 x y) (hx : ρ x = .pointer (some ⟨b, k, none⟩)) (hy : ρ y = .slice p n c) (hc : w.cell? ⟨b, k, none⟩ = some u) (hf : w.frozen? ⟨b, k, none⟩ = false)
    (h : post undef (w.setCell ⟨b, k, none⟩ (.slice p n c))) : leaves Try.prog o ρ w post := by
  refine leaves_skip (w' := w.setCell ⟨b, k, none⟩ (.slice p n c)) ?_ h
  obtain ⟨dst, op, ty, pos, after, guard⟩ := o
  simp only at ho
  subst ho
  simp [go_sem, hx, hy, hc, hf]
theorem leaves_oneBool {z : Bool} (x : Operand) (ho : o.op = .buildSlice 26 1 #[(0, x)]) (hx : ρ x = .bool z) (h : post (.slice (some ⟨w.heap.size, 0, none⟩) 1 1) (w.alloc (.cells #[.bool z] 4))) : leaves Try.prog o ρ w post := by
  refine leaves_value (v := .slice (some ⟨w.heap.size, 0, none⟩) 1 1) (w' := w.alloc (.cells #[.bool z] 4)) ?_ h
  obtain ⟨dst, op, ty, pos, after, guard⟩ := o
  simp only at ho
  subst ho
  simp [go_sem, hx]
theorem leaves_subI (x y : Operand) {a d : Int} (ho : o.op = .binOp .sub 3 x y 3) (hx : ρ x = .int .i64 a) (hy : ρ y = .int .i64 d) (hl : -9000000000 ≤ a - d ∧ a - d ≤ 9000000000) (h : post (.int .i64 (a - d)) w) : leaves Try.prog o ρ w post := by
  refine leaves_value (v := .int .i64 (a - d)) (w' := w) ?_ h
  obtain ⟨dst, op, ty, pos, after, guard⟩ := o
  simp only at ho
  subst ho
  simp [go_sem, hx, hy]
  rw [IntKind.wrap_i64]
  omega
end

theorem en_blocks : ∀ args w, (callFunc 23 args).run Try.prog w = .ok (.enter 23 args) w := fun _ _ => by simp [callFunc, Try.func23]; rfl
/-- What holds of the world in the last region. -/
structure CutE (w : World) (f0 f1 : Value) (b : Nat) (v1 v2 : Value) (B : List UInt8) (Hk : List Bool) (W : World) : Prop where
  fst : Blk W w.heap.size 28 [f0, f1]
  snd : ∃ u0 u1, Blk W (w.heap.size + 1) 28 [u0, u1]
  below : Below w.heap.size w W
  box : Blk W b 28 [v1, v2]
  bs : OwnV w.heap.size 5 W v1 (bytesV B)
  hs : OwnV w.heap.size 4 W v2 (boolsV Hk)
theorem CutE.on {w W W' : World} {f0 f1 v1 v2 : Value} {b : Nat} {B : List UInt8} {Hk : List Bool} (h : CutE w f0 f1 b v1 v2 B Hk W) (hb : Below W.heap.size W W') : CutE w f0 f1 b v1 v2 B Hk W' := by
  obtain ⟨u0, u1, hu⟩ := h.snd
  exact ⟨h.fst.on hb, ⟨u0, u1, hu.on hb⟩, on_trans h.below hb, h.box.on hb, ownV_on h.bs hb, ownV_on h.hs hb⟩
/-- What holds of the world where a flag is appended and stored. -/
structure CutS (w : World) (f0 f1 : Value) (b : Nat) (v1 v2 : Value) (B : List UInt8) (Hk : List Bool) (f : Bool) (W : World) : Prop where
  two : Two w w.heap.size f0 f1 W
  some_ : ∃ u, Blk W b 28 [v1, u]
  bs : OwnV w.heap.size 5 W v1 (bytesV B)
  old : f = true → Blk W b 28 [v1, v2] ∧ OwnV w.heap.size 4 W v2 (boolsV Hk)
def CutK (w : World) (b : Nat) (i : Nat) (W W' : World) : Prop :=
  (i = 8 → RowGrow w.heap.size 4 W W') ∧ (i = 10 → (∃ cs, Blk W b 28 cs) ∧ But b W W') ∧ (i ≠ 8 → i ≠ 10 → Below W.heap.size W W')
theorem cutK_on {w W W' : World} {b i : Nat} (h : Below W.heap.size W W') (h8 : i ≠ 8) (h10 : i ≠ 10) : CutK w b i W W' := ⟨fun e => absurd e h8, fun e => absurd e h10, fun _ _ => h⟩
def cutG (w : World) (b : Nat) (v1 : Value) (x : Bool) (new : List Bool) (vs : List Value) (i : Nat) (v : Value) (W : World) : Prop :=
  if i = 7 then ∃ nb, v = .slice (some ⟨nb, 0, none⟩) 1 1 ∧ At W (some ⟨nb, 0, none⟩) [.bool x]
  else if i = 8 then OwnV w.heap.size 4 W v (boolsV new)
  else if i = 10 then ∃ u, Blk W b 28 [v1, u] ∧ OwnV w.heap.size 4 W u (boolsV new)
  else v = vs.getD i undef
theorem cut_keep {w : World} {b : Nat} {v1 : Value} {x : Bool} {new : List Bool} {vs : List Value} {ops : Array Oper} (he : edge ops 10 8 = true) :
    ∀ i j v W W', CutK w b i W W' → j ≠ i → edge ops j i = false → (∀ u, ([(7, 8)] : Till).lookup j = some u → u ≠ i ∧ edge ops i u = false) → cutG w b v1 x new vs j v W → cutG w b v1 x new vs j v W' := by
  intro i j v W W' hk hne hed ht hg
  unfold cutG at *
  by_cases h7 : j = 7
  · subst h7
    have ht7 := ht 8 rfl
    have h10 : i ≠ 10 := fun e => by rw [e, he] at ht7; cases ht7.2
    simp only [if_true] at hg ⊢
    obtain ⟨nb, e, hat⟩ := hg
    exact ⟨nb, e, hat.on (hk.2.2 (Ne.symm ht7.1) h10)⟩
  · rw [if_neg h7] at hg ⊢
    by_cases h8 : j = 8
    · subst h8
      rw [if_pos rfl] at hg ⊢
      by_cases h10 : i = 10
      · obtain ⟨⟨cs, hb⟩, hbut⟩ := hk.2.1 h10
        exact ownV_ty hg hbut hb (by decide)
      · exact ownV_on hg (hk.2.2 (Ne.symm hne) h10)
    · rw [if_neg h8] at hg ⊢
      by_cases h10 : j = 10
      · subst h10
        rw [if_pos rfl] at hg ⊢
        have h8' : i ≠ 8 := fun e => by rw [e, he] at hed; cases hed
        obtain ⟨u, hb, ho⟩ := hg
        have hbl := hk.2.2 h8' (Ne.symm hne)
        exact ⟨u, hb.on hbl, ownV_on ho hbl⟩
      · rw [if_neg h10] at hg ⊢
        exact hg
theorem CutS.on {w W W' : World} {f0 f1 v1 v2 : Value} {b : Nat} {B : List UInt8} {Hk : List Bool} {f : Bool} (h : CutS w f0 f1 b v1 v2 B Hk f W) (hb : Below W.heap.size W W') : CutS w f0 f1 b v1 v2 B Hk f W' := by
  obtain ⟨u, hu⟩ := h.some_
  exact ⟨h.two.on hb, ⟨u, hu.on hb⟩, ownV_on h.bs hb, fun e => ⟨(h.old e).1.on hb, ownV_on (h.old e).2 hb⟩⟩

set_option maxRecDepth 100000 in
set_option maxHeartbeats 1000000 in
theorem ref_cut_bad (p q : Option Addr) (c d : Nat) (B : List UInt8) (H : List Bool) (n : Int) (w : World) (hbad : n < 0 ∨ 65536 < n) :
    Calls Try.prog 21 #[fileV p q c d B.length H.length, .int .i64 n] w fun e w' => e = .returned (.tuple #[fileV p q c d B.length H.length, .int .i64 0, .int .i64 (if n < 0 then 22 else 27 : Nat)]) ∧ Below w.heap.size w w' := by
  have T := Two.new w (.slice p B.length c) (.slice q H.length d)
  have HZ : Hid _ := two_same w (.slice p B.length c) (.slice q H.length d)
  have x0 := T.fst.cell 0 rfl
  have x1 := T.fst.cell 1 rfl
  have y0 := T.snd.cell 0 rfl
  have y1 := T.snd.cell 1 rfl
  have f0 := T.snd.free 0
  have f1 := T.snd.free 1
  clear T
  by_cases h1 : n < 0
  · rw [if_pos h1]
    clear hbad
    go_enter Try.func21, Try.ntmps21
    go_wp2
    exact bodyPost_ret (results_blk2 (cs := [.slice p B.length c, .slice q H.length d]) Try.isAgg28 infoRef rfl _ _ rfl rfl rfl HZ.out.1) rfl ⟨rfl, HZ.out.2⟩
  · rw [if_neg h1]
    have h2 : 65536 < n := by omega
    clear hbad
    go_enter Try.func21, Try.ntmps21
    go_wp2
    exact bodyPost_ret (results_blk2 (cs := [.slice p B.length c, .slice q H.length d]) Try.isAgg28 infoRef rfl _ _ rfl rfl rfl HZ.out.1) rfl ⟨rfl, HZ.out.2⟩

set_option maxRecDepth 100000 in
set_option maxHeartbeats 4000000 in
theorem ref_cut_do (p q : Option Addr) (c d : Nat) (B : List UInt8) (H : List Bool) (n : Nat) (w : World) (hn : n ≤ 65536) (_hB : B.length ≤ 65536) (hH : H.length ≤ 1024) (hp : At w p (bytesV B)) (hq : At w q (boolsV H)) :
    Calls Try.prog 21 #[fileV p q c d B.length H.length, .int .i64 n] w fun e w' => ∃ v, e = .returned (.tuple #[v, .int .i64 ((many H : Nat) - (many (H.take ((n + 63) / 64)) : Nat) : Int), .int .i64 0]) ∧ OwnFile w.heap.size w' v (cutL B n) (H.take ((n + 63) / 64)) ∧ Below w.heap.size w w' := by
  have HP : Hid (At w p (bytesV B)) := hp
  have HQ : Hid (At w q (boolsV H)) := hq
  have h1 : ¬ (n : Int) < 0 := by omega
  have h2 : ¬ (65536 : Int) < (n : Int) := by omega
  have HI0 : Hid (WrI w (.slice p B.length c) (.slice q H.length d) (w.heap.size + 2) (.slice none 0 0) (.slice none 0 0) (cutL B 0) (H.take 0) ((((w.alloc (.cells #[.slice p B.length c, .slice q H.length d] 28)).alloc (.cells #[.slice none 0 0, .slice none 0 0] 28))).alloc (.cells #[.slice none 0 0, .slice none 0 0] 28))) := by
    have T := Two.new w (.slice p B.length c) (.slice q H.length d)
    have hb := Blk.new ((w.alloc (.cells #[.slice p B.length c, .slice q H.length d] 28)).alloc (.cells #[.slice none 0 0, .slice none 0 0] 28)) 28 [.slice none 0 0, .slice none 0 0]
    rw [World.size_alloc, World.size_alloc] at hb
    refine ⟨T.on (on_alloc _ _), hb, ?_, ?_⟩
    · have : cutL B 0 = [] := by simp [cutL]
      rw [this]; exact ownV_nil _ _ _
    · exact ownV_nil _ _ _
  obtain ⟨M, HM⟩ : ∃ M, Hid ((n + 63) / 64 = M) := ⟨_, rfl⟩
  have hM : (n + 63) / 64 = M := HM.out
  rw [hM]
  clear hM hp hq
  go_enter Try.func21, Try.ntmps21
  go_wp2
  generalize (((w.alloc (.cells #[.slice p B.length c, .slice q H.length d] 28)).alloc (.cells #[.slice none 0 0, .slice none 0 0] 28))).alloc (.cells #[.slice none 0 0, .slice none 0 0] 28) = w0 at *
  go_loopw [8, 9] (fun iv _ wr => ∃ (i cc : Nat) (pp : Option Addr), i ≤ n ∧ iv = .int .i64 i ∧ Hid (WrI w (.slice p B.length c) (.slice q H.length d) (w.heap.size + 2) (.slice pp i cc) (.slice none 0 0) (cutL B i) (H.take 0) wr)) (fun iv _ _ => n - (intOf iv).toNat)
  case atStart => exact ⟨0, 0, none, Nat.zero_le _, rfl, HI0⟩
  case round =>
    clear HI0
    obtain ⟨i, cc, pp, hi, rfl, HI⟩ := hrel
    have x0 := HI.out.two.fst.cell 0 rfl
    by_cases hlt : i < n
    · have hltz : (i : Int) < (n : Int) := by omega
      have y0 := HI.out.box.cell 0 rfl
      obtain ⟨p', c', W', hrun, z0, f0, HI'⟩ := HI.out.byte (n := i) (Nat.le_refl _) (cutL_len B i) (by omega) (B.getD i 0)
      rw [← cutL_succ] at HI'
      have HI2 : Hid _ := HI'
      by_cases hb : i < B.length
      · have hbz : (i : Int) < (B.length : Int) := by omega
        obtain ⟨bb, oo, hpp, _, hbl, hbc⟩ := HP.out.place (k := i) (by simpa using hb)
        subst hpp
        have hck := (HI.out.two.below.cell (p := ⟨bb, oo + i, none⟩) hbl).trans (hbc i _ (bytesV_get hb))
        have hrun' : (Builtin.append_ #[25, 25] 25 #[.slice pp i cc, .slice (some ⟨wr.heap.size, 0, none⟩) 1 1]).run Try.prog (wr.alloc (.cells #[.int .u8 ((B.getD i 0).toNat : Int)] 5)) = .ok (.slice p' (i + 1) c') W' := hrun
        clear HI' hrun HI hbc
        generalize ((B.getD i 0).toNat : Int) = z at *
        go_wp2_with (at_builtin; refine wpList_run_append (by rfl) _ _ _ (by rfl) _ _ (by rfl) (by rfl) hrun' ?_)
        go_roundw
        case rel => exact ⟨i + 1, c', p', by omega, by go_num, HI2⟩
        case measure => simp [intOf]; omega
      · have hbz : ¬ (i : Int) < (B.length : Int) := by omega
        have e0 : B.getD i 0 = 0 := by simp [List.getD, show B.length ≤ i by omega]
        rw [e0] at hrun
        have hrun' : (Builtin.append_ #[25, 25] 25 #[.slice pp i cc, .slice (some ⟨wr.heap.size, 0, none⟩) 1 1]).run Try.prog (wr.alloc (.cells #[.int .u8 0] 5)) = .ok (.slice p' (i + 1) c') W' := hrun
        clear HI' hrun HI
        go_wp2_with (at_builtin; refine wpList_run_append (by rfl) _ _ _ (by rfl) _ _ (by rfl) (by rfl) hrun' ?_)
        go_roundw
        case rel => exact ⟨i + 1, c', p', by omega, by go_num, HI2⟩
        case measure => simp [intOf]; omega
    · obtain rfl : i = n := by omega
      have hltz : ¬ (i : Int) < (i : Int) := by omega
      go_wp2
      go_loopw [10] (fun kv wr => ∃ (k cc2 : Nat) (pp2 : Option Addr), k ≤ H.length ∧ k ≤ M ∧ kv = .int .i64 k ∧ Hid (WrI w (.slice p B.length c) (.slice q H.length d) (w.heap.size + 2) (.slice pp i cc) (.slice pp2 k cc2) (cutL B i) (H.take k) wr)) (fun kv _ => H.length - (intOf kv).toNat)
      case atStart => exact ⟨0, 0, none, Nat.zero_le _, Nat.zero_le _, rfl, HI⟩
      case round =>
        clear HI x0
        obtain ⟨k, cc2, pp2, hk, hkM, rfl, HI⟩ := hrel
        have x1 := HI.out.two.fst.cell 1 rfl
        have hMz : (k : Int) * 64 < (i : Int) ↔ k < M := by have := HM.out; omega
        by_cases hk1 : k < M
        · have hkz : (k : Int) * 64 < (i : Int) := hMz.2 hk1
          by_cases hkH : k < H.length
          · have hkHz : (k : Int) < (H.length : Int) := by omega
            obtain ⟨qb, qo, hqq, _, hqb, hqc⟩ := HQ.out.place (k := k) (by simpa using hkH)
            subst hqq
            have HQC : Hid (∀ W, Below w.heap.size w W → W.cell? ⟨qb, qo + k, none⟩ = some (.bool (H.getD k false))) := fun W hb => (hb.cell (p := ⟨qb, qo + k, none⟩) hqb).trans (hqc k _ (boolsV_get hkH))
            clear hMz
            go_wp2
            refine wp_region_three (S := CutS w (.slice p B.length c) (.slice (some ⟨qb, qo, none⟩) H.length d) (w.heap.size + 2) (.slice pp i cc) (.slice pp2 k cc2) (cutL B i) (H.take k)) (u := 8) (Keep := CutK w (w.heap.size + 2))
              (g := cutG w (w.heap.size + 2) (.slice pp i cc) (H.getD k false) (H.take (k + 1)) [.pointer (some ⟨w.heap.size + 2, 1, none⟩), .slice pp2 k cc2, .pointer (some ⟨w.heap.size, 1, none⟩), .slice (some ⟨qb, qo, none⟩) H.length d, .int .i64 k, .pointer (some ⟨qb, qo + k, none⟩), .bool (H.getD k false), undef, undef, .pointer (some ⟨w.heap.size + 2, 1, none⟩)])
              (tab := [[(7, none)], [(52, some 0)], [(2, none)], [(54, some 2)], [(10, none)], [(55, some 3), (56, some 4)], [(57, some 5)], [(58, some 6)], [(53, some 1), (59, some 7)], [(7, none)], [(61, some 9), (60, some 8)]]) (tl := [(7, 8)]) (n := 68)
              (by kernel_rfl) rfl (by kernel_rfl) (cut_keep (by kernel_rfl)) ⟨⟨HI.out.two.fst.drew, HI.out.two.snd.drew, on_drew HI.out.two.below⟩, ⟨_, HI.out.box.drew⟩, HI.out.bs, fun _ => ⟨HI.out.box.drew, HI.out.hs⟩⟩ ?st ?en
            case st =>
              refine ⟨fun ρ W f hf hf2 hr hS hs => ?_, fun ρ W f hf hf2 hr hS hs => ?_, fun ρ W f hf hf2 hr hS hs => ?_, fun ρ W f hf hf2 hr hS hs => ?_, fun ρ W f hf hf2 hr hS hs => ?_, fun ρ W f hf hf2 hr hS hs => ?_, fun ρ W f hf hf2 hr hS hs => ?_, fun ρ W f hf hf2 hr hS hs => ?_, fun ρ W f hf hf2 hr hS hs => ?_, fun ρ W f hf hf2 hr hS hs => ?_, fun ρ W f hf hf2 hr hS hs => ?_, trivial⟩
              · exact step_plain rfl (leaves_field (.tmp 7) rfl (by decide) hs.1 ⟨rfl, by simpa using hS, cutK_on (Below.refl _ _) (by decide) (by decide)⟩)
              · obtain rfl : f = true := hf (by kernel_rfl)
                exact step_plain rfl (leaves_cell Try.isAgg26 (.tmp 52) rfl hs.1 ((hS.old rfl).1.cell 1 rfl) ⟨rfl, hS, cutK_on (Below.refl _ _) (by decide) (by decide)⟩)
              · exact step_plain rfl (leaves_field (.tmp 2) rfl (by decide) hs.1 ⟨rfl, by simpa using hS, cutK_on (Below.refl _ _) (by decide) (by decide)⟩)
              · exact step_plain rfl (leaves_cell Try.isAgg26 (.tmp 54) rfl hs.1 (hS.two.fst.cell 1 rfl) ⟨rfl, by simpa using hS, cutK_on (Below.refl _ _) (by decide) (by decide)⟩)
              · exact step_plain rfl (leaves_move (.tmp 10) rfl ⟨hs.1, by simpa using hS, cutK_on (Below.refl _ _) (by decide) (by decide)⟩)
              · exact step_plain rfl (leaves_boolIndex (.tmp 55) (.tmp 56) rfl hs.1 hs.2.1 hkH ⟨rfl, by simpa using hS, cutK_on (Below.refl _ _) (by decide) (by decide)⟩)
              · exact step_plain rfl (leaves_cell Try.isAgg4 (.tmp 57) rfl hs.1 (HQC.out W hS.two.below) ⟨rfl, by simpa using hS, cutK_on (Below.refl _ _) (by decide) (by decide)⟩)
              · have hb := on_alloc W (.cells #[.bool (H.getD k false)] 4)
                exact step_plain rfl (leaves_oneBool (.tmp 58) rfl hs.1 ⟨⟨_, rfl, (at_row1 W 4 (.bool (H.getD k false))).at⟩, by simpa using hS.on hb, cutK_on hb (by decide) (by decide)⟩)
              · obtain rfl : f = true := hf (by kernel_rfl)
                have h53 : ρ (.tmp 53) = .slice pp2 k cc2 := hs.1
                obtain ⟨nb, h59, hat⟩ := hs.2.1
                obtain ⟨hbx, ho⟩ := hS.old rfl
                obtain ⟨v', W', hrun, ho', hG⟩ := append_row elemBool w.heap.size (.slice pp2 k cc2) (boolsV (H.take k)) (some ⟨nb, 0, none⟩) 1 [.bool (H.getD k false)] W (by simp; omega) (by simp) (fun u hu => by simp at hu; subst hu; rfl) ho hat hS.two.below.size
                have ho2 : OwnV w.heap.size 4 W' v' (boolsV (H.take (k + 1))) := by
                  rw [take_snocH hkH]
                  simpa [boolsV] using ho'
                refine step_plain rfl (leaves_append (v := v') (w' := W') (.tmp 53) (.tmp 59) 26 rfl (by rw [h53, h59]; exact hrun) ⟨ho2, ⟨⟨hG.blk hS.two.fst (by decide), hG.blk hS.two.snd (by decide), hG.below hS.two.below (Nat.le_refl _) hS.two.below.size⟩, ⟨_, hG.blk hbx (by decide)⟩, ownV_grow hS.bs hG (by decide), (fun e => by cases e)⟩, ⟨fun _ => hG, (fun e => by cases e), fun e => absurd rfl e⟩⟩)
              · exact step_plain rfl (leaves_field (.tmp 7) rfl (by decide) hs.1 ⟨rfl, by simpa using hS, cutK_on (Below.refl _ _) (by decide) (by decide)⟩)
              · obtain rfl : f = false := hf2 (by kernel_rfl)
                have h61 : ρ (.tmp 61) = .pointer (some ⟨w.heap.size + 2, 1, none⟩) := hs.1
                have h60 : OwnV w.heap.size 4 W (ρ (.tmp 60)) (boolsV (H.take (k + 1))) := hs.2.1
                obtain ⟨u, hu⟩ := hS.some_
                obtain ⟨p', c', e', _, _⟩ := ownV_at h60
                have hbut := but_set W (w.heap.size + 2) 1 (.slice p' (boolsV (H.take (k + 1))).length c')
                have hset : Blk (W.setCell ⟨w.heap.size + 2, 1, none⟩ (.slice p' (boolsV (H.take (k + 1))).length c')) (w.heap.size + 2) 28 [.slice pp i cc, .slice p' (boolsV (H.take (k + 1))).length c'] := hu.set 1 _
                rw [e'] at h60
                refine step_plain rfl (leaves_storeBools (.tmp 61) (.tmp 60) rfl h61 e' (hu.cell 1 rfl) (hu.free 1) ⟨⟨_, hset, ownV_ty h60 hbut hu (by decide)⟩, ⟨⟨hS.two.fst.but hbut (by omega), hS.two.snd.but hbut (by omega), below_but hS.two.below hbut (by omega)⟩, ⟨_, hset⟩, ownV_ty hS.bs hbut hu (by decide), (fun e => by cases e)⟩, ⟨(fun e => by cases e), fun _ => ⟨⟨_, hu⟩, hbut⟩, fun _ e => absurd rfl e⟩⟩)
            case en =>
              intro f W hf hS v0 h0 v1 h1 v2 h2 v3 h3 v4 h4 v5 h5 v6 h6 v7 h7 v8 h8 v9 h9 h10
              obtain ⟨u, hbx, hou⟩ := h10 rfl
              obtain ⟨p', c', e', _, _⟩ := ownV_at hou
              have hlk : (boolsV (H.take (k + 1))).length = k + 1 := by simp; omega
              rw [hlk] at e'
              subst e'
              have HI2 : Hid (WrI w (.slice p B.length c) (.slice (some ⟨qb, qo, none⟩) H.length d) (w.heap.size + 2) (.slice pp i cc) (.slice p' (k + 1) c') (cutL B i) (H.take (k + 1)) W) := ⟨hS.two, hbx, hS.bs, hou⟩
              clear h0 h1 h2 h3 h4 h5 h6 h7 h8 h9 h10 hf hS hbx hou HI HQC hlk
              simp only [ends, Act.put, List.setIfInBounds_toArray, List.set_cons_succ, List.set_cons_zero]
              go_wp2
              go_roundw
              case rel => exact ⟨k + 1, c', p', by omega, by omega, by go_num, HI2⟩
              case measure => simp [intOf]; omega
          · have hkHz : ¬ (k : Int) < (H.length : Int) := by omega
            have hlk : (H.take k).length = k := by simp; omega
            have hm1 := many_le H
            have hm2 := many_le (H.take k)
            have HEQ : Hid (H.take M = H.take k) := show H.take M = H.take k from by rw [List.take_of_length_le (by omega), List.take_of_length_le (by omega)]
            clear hMz
            go_wp2
            have hsz2 := HI.out.box.lt
            refine wp_region_left (S := CutE w (.slice p B.length c) (.slice q H.length d) (w.heap.size + 2) (.slice pp i cc) (.slice pp2 k cc2) (cutL B i) (H.take k)) (Keep := KeepK [(6, w.heap.size + 1)])
              (g := fun j v W => ([Kd.is (.agg #[.slice pp i cc, .slice pp2 k cc2]), .is (.agg #[.slice p B.length c, .slice q H.length d]), .is (.int .i64 (many H : Nat)), .is (.agg #[.slice pp i cc, .slice pp2 k cc2]), .is (.int .i64 (many (H.take k) : Nat)), .is (.int .i64 ((many H : Nat) - (many (H.take k) : Nat) : Int)), .box (w.heap.size + 1) 28 [.slice pp i cc, .slice pp2 k cc2], .is (.int .i64 ((many H : Nat) - (many (H.take k) : Nat) : Int)), .is (.int .i64 0)].getD j (Kd.any (hi := wr.heap.size))).ok v W)
              (tab := [[(7, none)], [(2, none)], [(63, some 1)], [(7, none)], [(65, some 3)], [(64, some 2), (66, some 4)], [(4, none), (62, some 0)], [(67, some 5)], []]) (tl := []) (n := 68)
              (by kernel_rfl) rfl (by kernel_rfl) (keep_one (by omega) ?kp) ⟨HI.out.two.fst.drew, ⟨_, _, HI.out.two.snd.drew⟩, on_drew HI.out.two.below, HI.out.box.drew, HI.out.bs, HI.out.hs⟩ ?st ?en
            case kp =>
              intro j hj
              match j, hj with
              | 0, _ | 1, _ | 2, _ | 3, _ | 4, _ | 5, _ | 7, _ | 8, _ => rfl
              | 6, hj => exact absurd rfl hj
              | j + 9, _ => rfl
            case st =>
              refine ⟨fun ρ W hr hS hs => ?_, fun ρ W hr hS hs => ?_, fun ρ W hr hS hs => ?_, fun ρ W hr hS hs => ?_, fun ρ W hr hS hs => ?_, fun ρ W hr hS hs => ?_, fun ρ W hr hS hs => ?_, fun ρ W hr hS hs => ?_, fun ρ W hr hS hs => ?_, trivial⟩
              · exact step_plain rfl (leaves_load (cs := [.slice pp i cc, .slice pp2 k cc2]) Try.isAgg28 infoRef (.tmp 7) rfl hs.1 hS.box ⟨rfl, hS, Below.refl _ _⟩)
              · exact step_plain rfl (leaves_load (cs := [.slice p B.length c, .slice q H.length d]) Try.isAgg28 infoRef (.tmp 2) rfl hs.1 hS.fst ⟨rfl, hS, Below.refl _ _⟩)
              · refine step_plain rfl (leaves_call1 en_blocks hr (.tmp 63) _ rfl hs.1 ?_)
                refine (blocks_any p q c d B.length H W (by omega) (HQ.out.below hS.below (Nat.le_refl _))).mono ?_
                rintro e W' ⟨rfl, hb⟩
                exact ⟨_, rfl, rfl, hS.on hb, hb⟩
              · exact step_plain rfl (leaves_load (cs := [.slice pp i cc, .slice pp2 k cc2]) Try.isAgg28 infoRef (.tmp 7) rfl hs.1 hS.box ⟨rfl, hS, Below.refl _ _⟩)
              · refine step_plain rfl (leaves_call1 en_blocks hr (.tmp 65) _ rfl hs.1 ?_)
                obtain ⟨p7, c7, e7, hat7, _⟩ := ownV_at hS.hs
                have hat8 : At W pp2 (boolsV (H.take k)) := by injection e7 with e8; rw [e8]; exact hat7.at
                have hb7 := blocks_any pp pp2 cc cc2 i (H.take k) W (by omega) hat8
                rw [hlk] at hb7
                refine hb7.mono ?_
                rintro e W' ⟨rfl, hb⟩
                exact ⟨_, rfl, rfl, hS.on hb, hb⟩
              · exact step_plain rfl (leaves_subI (.tmp 64) (.tmp 66) rfl hs.1 hs.2.1 (by omega) ⟨rfl, hS, Below.refl _ _⟩)
              · obtain ⟨u0, u1, hu⟩ := hS.snd
                have hbut := but_putL (w.heap.size + 1) [.slice pp i cc, .slice pp2 k cc2] W 0
                have hpt := hu.put [.slice pp i cc, .slice pp2 k cc2] rfl
                exact step_plain rfl (leaves_put (.tmp 4) (.tmp 62) ⟨_, _, _, rfl⟩ ⟨_, _, _, rfl⟩ rfl hs.1 hs.2.1 hu ⟨hpt, ⟨hS.fst.but hbut (by omega), ⟨_, _, hpt⟩, below_but hS.below hbut (by omega), hS.box.but hbut (by omega), ownV_ty hS.bs hbut hu (by decide), ownV_ty hS.hs hbut hu (by decide)⟩, hbut⟩)
              · exact step_plain rfl (leaves_assign (.tmp 67) rfl ⟨hs.1, hS, Below.refl _ _⟩)
              · exact step_plain rfl (leaves_assign _ rfl ⟨hr.const _, hS, Below.refl _ _⟩)
            case en =>
              intro W hS v0 h0 v1 h1 v2 h2 v3 h3 v4 h4 v5 h5 h6 v7 h7 v8 h8
              have hbx := h6 rfl
              obtain rfl := h7 rfl
              obtain rfl := h8 rfl
              have HF : Hid (OwnFile w.heap.size W (.agg #[.slice pp i cc, .slice pp2 k cc2]) (cutL B i) (H.take k)) := ⟨_, _, rfl, hS.bs, hS.hs⟩
              have HBx : Hid (Blk W (w.heap.size + 1) 28 [.slice pp i cc, .slice pp2 k cc2]) := hbx
              have HBl : Hid (Below w.heap.size w W) := hS.below
              clear h0 h1 h2 h3 h4 h5 h6 h7 h8 hbx hS HI
              simp only [ends, Act.put, List.setIfInBounds_toArray, List.set_cons_succ, List.set_cons_zero]
              go_wp2
              exact bodyPost_ret (results_blk2 (cs := [.slice pp i cc, .slice pp2 k cc2]) Try.isAgg28 infoRef rfl _ _ rfl rfl rfl HBx.out) rfl ⟨.agg #[.slice pp i cc, .slice pp2 k cc2], by rw [HEQ.out]; rfl, by rw [HEQ.out]; exact HF.out, HBl.out⟩
        · have hkz : ¬ (k : Int) * 64 < (i : Int) := fun h => hk1 (hMz.1 h)
          have hlk : (H.take k).length = k := by simp; omega
          have hm1 := many_le H
          have hm2 := many_le (H.take k)
          have HEQ : Hid (H.take M = H.take k) := show H.take M = H.take k from by rw [show M = k by omega]
          clear hMz
          go_wp2
          have hsz2 := HI.out.box.lt
          refine wp_region_left (S := CutE w (.slice p B.length c) (.slice q H.length d) (w.heap.size + 2) (.slice pp i cc) (.slice pp2 k cc2) (cutL B i) (H.take k)) (Keep := KeepK [(6, w.heap.size + 1)])
            (g := fun j v W => ([Kd.is (.agg #[.slice pp i cc, .slice pp2 k cc2]), .is (.agg #[.slice p B.length c, .slice q H.length d]), .is (.int .i64 (many H : Nat)), .is (.agg #[.slice pp i cc, .slice pp2 k cc2]), .is (.int .i64 (many (H.take k) : Nat)), .is (.int .i64 ((many H : Nat) - (many (H.take k) : Nat) : Int)), .box (w.heap.size + 1) 28 [.slice pp i cc, .slice pp2 k cc2], .is (.int .i64 ((many H : Nat) - (many (H.take k) : Nat) : Int)), .is (.int .i64 0)].getD j (Kd.any (hi := wr.heap.size))).ok v W)
            (tab := [[(7, none)], [(2, none)], [(63, some 1)], [(7, none)], [(65, some 3)], [(64, some 2), (66, some 4)], [(4, none), (62, some 0)], [(67, some 5)], []]) (tl := []) (n := 68)
            (by kernel_rfl) rfl (by kernel_rfl) (keep_one (by omega) ?kp) ⟨HI.out.two.fst.drew, ⟨_, _, HI.out.two.snd.drew⟩, on_drew HI.out.two.below, HI.out.box.drew, HI.out.bs, HI.out.hs⟩ ?st ?en
          case kp =>
            intro j hj
            match j, hj with
            | 0, _ | 1, _ | 2, _ | 3, _ | 4, _ | 5, _ | 7, _ | 8, _ => rfl
            | 6, hj => exact absurd rfl hj
            | j + 9, _ => rfl
          case st =>
            refine ⟨fun ρ W hr hS hs => ?_, fun ρ W hr hS hs => ?_, fun ρ W hr hS hs => ?_, fun ρ W hr hS hs => ?_, fun ρ W hr hS hs => ?_, fun ρ W hr hS hs => ?_, fun ρ W hr hS hs => ?_, fun ρ W hr hS hs => ?_, fun ρ W hr hS hs => ?_, trivial⟩
            · exact step_plain rfl (leaves_load (cs := [.slice pp i cc, .slice pp2 k cc2]) Try.isAgg28 infoRef (.tmp 7) rfl hs.1 hS.box ⟨rfl, hS, Below.refl _ _⟩)
            · exact step_plain rfl (leaves_load (cs := [.slice p B.length c, .slice q H.length d]) Try.isAgg28 infoRef (.tmp 2) rfl hs.1 hS.fst ⟨rfl, hS, Below.refl _ _⟩)
            · refine step_plain rfl (leaves_call1 en_blocks hr (.tmp 63) _ rfl hs.1 ?_)
              refine (blocks_any p q c d B.length H W (by omega) (HQ.out.below hS.below (Nat.le_refl _))).mono ?_
              rintro e W' ⟨rfl, hb⟩
              exact ⟨_, rfl, rfl, hS.on hb, hb⟩
            · exact step_plain rfl (leaves_load (cs := [.slice pp i cc, .slice pp2 k cc2]) Try.isAgg28 infoRef (.tmp 7) rfl hs.1 hS.box ⟨rfl, hS, Below.refl _ _⟩)
            · refine step_plain rfl (leaves_call1 en_blocks hr (.tmp 65) _ rfl hs.1 ?_)
              obtain ⟨p7, c7, e7, hat7, _⟩ := ownV_at hS.hs
              have hat8 : At W pp2 (boolsV (H.take k)) := by injection e7 with e8; rw [e8]; exact hat7.at
              have hb7 := blocks_any pp pp2 cc cc2 i (H.take k) W (by omega) hat8
              rw [hlk] at hb7
              refine hb7.mono ?_
              rintro e W' ⟨rfl, hb⟩
              exact ⟨_, rfl, rfl, hS.on hb, hb⟩
            · exact step_plain rfl (leaves_subI (.tmp 64) (.tmp 66) rfl hs.1 hs.2.1 (by omega) ⟨rfl, hS, Below.refl _ _⟩)
            · obtain ⟨u0, u1, hu⟩ := hS.snd
              have hbut := but_putL (w.heap.size + 1) [.slice pp i cc, .slice pp2 k cc2] W 0
              have hpt := hu.put [.slice pp i cc, .slice pp2 k cc2] rfl
              exact step_plain rfl (leaves_put (.tmp 4) (.tmp 62) ⟨_, _, _, rfl⟩ ⟨_, _, _, rfl⟩ rfl hs.1 hs.2.1 hu ⟨hpt, ⟨hS.fst.but hbut (by omega), ⟨_, _, hpt⟩, below_but hS.below hbut (by omega), hS.box.but hbut (by omega), ownV_ty hS.bs hbut hu (by decide), ownV_ty hS.hs hbut hu (by decide)⟩, hbut⟩)
            · exact step_plain rfl (leaves_assign (.tmp 67) rfl ⟨hs.1, hS, Below.refl _ _⟩)
            · exact step_plain rfl (leaves_assign _ rfl ⟨hr.const _, hS, Below.refl _ _⟩)
          case en =>
            intro W hS v0 h0 v1 h1 v2 h2 v3 h3 v4 h4 v5 h5 h6 v7 h7 v8 h8
            have hbx := h6 rfl
            obtain rfl := h7 rfl
            obtain rfl := h8 rfl
            have HF : Hid (OwnFile w.heap.size W (.agg #[.slice pp i cc, .slice pp2 k cc2]) (cutL B i) (H.take k)) := ⟨_, _, rfl, hS.bs, hS.hs⟩
            have HBx : Hid (Blk W (w.heap.size + 1) 28 [.slice pp i cc, .slice pp2 k cc2]) := hbx
            have HBl : Hid (Below w.heap.size w W) := hS.below
            clear h0 h1 h2 h3 h4 h5 h6 h7 h8 hbx hS HI
            simp only [ends, Act.put, List.setIfInBounds_toArray, List.set_cons_succ, List.set_cons_zero]
            go_wp2
            exact bodyPost_ret (results_blk2 (cs := [.slice pp i cc, .slice pp2 k cc2]) Try.isAgg28 infoRef rfl _ _ rfl rfl rfl HBx.out) rfl ⟨.agg #[.slice pp i cc, .slice pp2 k cc2], by rw [HEQ.out]; rfl, by rw [HEQ.out]; exact HF.out, HBl.out⟩

end Go.Proofs.Ytigkelcmiknfjaa
