/- What New, Full, Free, All and Room answer and do. -/
import Derived.Test.YtmccfcllehfebaaZFun3
namespace Go.Proofs.Ytmccfcllehfebaa.Z
open Go Go.RowKit

theorem elemP : ElemOk Try.prog 65 77 (.pointer none) 8 := ⟨Try.underlying65, by kernel_rfl, rfl, by decide⟩
set_option maxRecDepth 100000 in
theorem new_in (D : Nat → Prop) (n : Nat) (w : World) (hD : Lt D w) (h1 : 1 ≤ n) (h2 : n ≤ 64) : Calls Try.prog 8 #[.int .i64 (n : Int)] w (MadePost D w (List.replicate n zS)) := by
  obtain ⟨w0, hmk, hB0, hb0, hs0⟩ := make_row elemP rfl n (by omega) w
  have z1 : decide ((n : Int) < 1) = false := decide_eq_false (by omega)
  have z2 : decide ((64 : Int) < (n : Int)) = false := decide_eq_false (by omega)
  have HP : Hid (MadePost D w (List.replicate n zS) (.returned (.pointer (some ⟨w0.heap.size, 0, none⟩))) (w0.alloc (.cells #[.slice (some ⟨w.heap.size, 0, none⟩) n n] 67))) := by
    have hal := on_alloc w0 (.cells #[.slice (some ⟨w.heap.size, 0, none⟩) n n] 67)
    refine ⟨w0.heap.size, fun j => j = w.heap.size, rfl, ⟨w.heap.size, List.replicate n Ent.z, by rw [List.map_replicate]; rfl, ?_, ?_, fun i a hi hf => ?_, fun i j a b hi _ _ hf => ?_, rfl, fun k hk => ⟨.inr hk, ?_⟩, ?_⟩, on_trans hb0 hal, fun k hk => Nat.le_of_eq hk.symm⟩
    · rw [List.length_replicate]; exact Blk.new w0 _ [.slice (some ⟨w.heap.size, 0, none⟩) n n]
    · rw [List.map_replicate]; exact hB0.on hal
    · rw [List.eq_of_mem_replicate (List.mem_of_getElem? hi)] at hf; exact absurd rfl hf
    · rw [List.eq_of_mem_replicate (List.mem_of_getElem? hi)] at hf; exact absurd rfl hf
    · have := hal.size; omega
    · rintro (h | h)
      · have := hD _ h; omega
      · omega
  generalize MadePost D w (List.replicate n zS) = Post at *
  clear hB0 hb0 hs0
  go_enter Try.func8, Try.ntmps8
  go_wp2
  exact HP.out
set_option maxRecDepth 100000 in
theorem new_no (n : Int) (w : World) (h : n < 1 ∨ 64 < n) : Calls Try.prog 8 #[.int .i64 n] w fun e w' => e = .returned (.pointer none) ∧ w' = w := by
  by_cases h1 : n < 1
  · have z1 : decide (n < 1) = true := decide_eq_true h1
    go_enter Try.func8, Try.ntmps8
    go_wp2
    go_ret
    exact ⟨rfl, rfl⟩
  · have z1 : decide (n < 1) = false := decide_eq_false h1
    have z2 : decide (64 < n) = true := decide_eq_true (by omega)
    go_enter Try.func8, Try.ntmps8
    go_wp2
    go_ret
    exact ⟨rfl, rfl⟩

theorem results_blk {P : Program} {fn : Func} {p : Tmp} {t : TypeId} {cs : List Value} (hagg : ∀ w, (isAgg t).run P w = .ok true w) (hi : (P.info? t).map (·.size) = some cs.length) (h : fn.results = #[.cell p t]) (tmps : Array Value) (w : World) {b : Nat}
    (hp : tmps.getD p undef = .pointer (some ⟨b, 0, none⟩)) (hb : Blk w b t cs) : (results fn tmps).run P w = .ok (.agg cs.toArray) w := by
  have hp' : tmps[p]?.getD undef = .pointer (some ⟨b, 0, none⟩) := by simpa using hp
  simp [results, h, hp', asAddr, run_loadVar_blk hagg hi hb]
theorem infoL : (Try.prog.info? 32).map (·.size) = some 2 := by kernel_rfl
set_option maxRecDepth 100000 in
theorem wall_any (w : World) : Calls Try.prog 51 #[] w fun e w' => e = .returned (.agg #[.bool true, .slice none 0 0]) ∧ Below w.heap.size w w' := by
  have HB : Hid (Below w.heap.size w (w.alloc (.cells #[.bool true, .slice none 0 0] 32))) := on_alloc w _
  have HX : Hid (Blk (w.alloc (.cells #[.bool true, .slice none 0 0] 32)) w.heap.size 32 [.bool true, .slice none 0 0]) := Blk.new w _ [.bool true, .slice none 0 0]
  go_enter Try.func51, Try.ntmps51
  go_wp2
  exact bodyPost_ret (results_blk (cs := [.bool true, .slice none 0 0]) Try.isAgg32 infoL rfl _ _ rfl HX.out) rfl ⟨rfl, HB.out⟩
abbrev fullV (n : Int) : Value := .agg #[.int .i64 n, .int .u32 4294967295, .bool true, .slice none 0 0, .int .i64 120]
set_option maxRecDepth 100000 in
theorem full_any (n : Int) (w : World) : Calls Try.prog 25 #[.int .i64 n] w fun e w' => e = .returned (fullV n) ∧ Below w.heap.size w w' := by
  have HB : Hid (Below w.heap.size w (w.alloc (.cells #[.int .i64 0, .int .u32 0, .bool false, .slice none 0 0, .int .i64 0] 34))) := on_alloc w _
  have HX : Hid (Blk (w.alloc (.cells #[.int .i64 0, .int .u32 0, .bool false, .slice none 0 0, .int .i64 0] 34)) w.heap.size 34 (slC zS (.slice none 0 0))) := zBlk w
  have cA := fun w => wall_any w
  go_enter Try.func25, Try.ntmps25
  go_wp2_with fail
  generalize w.alloc (.cells #[.int .i64 0, .int .u32 0, .bool false, .slice none 0 0, .int .i64 0] 34) = w0 at *
  refine (cA _).mono ?_
  rintro e w1 ⟨rfl, hb1⟩
  have HX1 : Hid (Blk w1 w.heap.size 34 (slC zS (.slice none 0 0))) := HX.out.on hb1
  have HB1 : Hid (Below w.heap.size w w1) := on_trans HB.out hb1
  have f := HX1.out
  have f0 := f.free 0
  have f1 := f.free 1
  have f2 := f.free 2
  have f3 := f.free 3
  have f4 := f.free 4
  have x0 := f.cell 0 rfl
  have x1 := f.cell 1 rfl
  have x2 := f.cell 2 rfl
  have x3 := f.cell 3 rfl
  have x4 := f.cell 4 rfl
  simp only [zS, Int.natCast_zero] at x0 x1 x2 x3 x4
  clear cA hb1 HX HB f
  go_wp2
  exact bodyPost_ret (results_blk (cs := slC (fullS n) (.slice none 0 0)) Try.isAgg34 infoS rfl _ _ rfl (HX1.out.put (slC (fullS n) (.slice none 0 0)) rfl)) rfl ⟨rfl, below_but HB1.out (but_putL w.heap.size (slC (fullS n) (.slice none 0 0)) w1 0) (Nat.le_refl _)⟩
set_option maxRecDepth 100000 in
theorem rfull_any (n : Int) (w : World) : Calls Try.prog 26 #[.int .i64 n] w fun e w' => e = .returned (fullV n) ∧ Below w.heap.size w w' := by
  have HB : Hid (Below w.heap.size w (w.alloc (.cells #[.int .i64 n, .int .u32 4294967295, .bool true, .slice none 0 0, .int .i64 120] 34))) := on_alloc w _
  have HX : Hid (Blk (w.alloc (.cells #[.int .i64 n, .int .u32 4294967295, .bool true, .slice none 0 0, .int .i64 120] 34)) w.heap.size 34 [.int .i64 n, .int .u32 4294967295, .bool true, .slice none 0 0, .int .i64 120]) := Blk.new w _ [.int .i64 n, .int .u32 4294967295, .bool true, .slice none 0 0, .int .i64 120]
  go_enter Try.func26, Try.ntmps26
  go_wp2
  exact bodyPost_ret (results_blk (cs := [.int .i64 n, .int .u32 4294967295, .bool true, .slice none 0 0, .int .i64 120]) Try.isAgg34 infoS rfl _ _ rfl HX.out) rfl ⟨rfl, HB.out⟩

section
variable {D F : Nat → Prop} {w : World} {tb : Nat} {S : List Sl}
set_option maxRecDepth 100000 in
set_option maxHeartbeats 1000000 in
theorem free_any (h : TabAt D F w tb S) (hl : S.length ≤ 64) (fd : Int) :
    Calls Try.prog 14 #[ptr tb, .int .i64 fd] w fun e w' => e = .returned (.tuple #[.int .i64 (freeN S fd), .int .i64 (freeE S fd)]) ∧ w' = w := by
  obtain ⟨rb, M, hM, h⟩ := h
  have hlM : M.length = S.length := by rw [← hM, List.length_map]
  have x0 := h.box.cell 0 rfl
  rw [hlM] at x0
  have cN := numbers_any (S := S) x0 rfl fd
  cases hi : inB S fd with
  | false =>
    rw [hi] at cN
    have e1 : freeN S fd = 0 := by unfold freeN; rw [hi]; rfl
    have e2 : freeE S fd = 22 := by unfold freeE; rw [hi]; rfl
    rw [e1, e2]
    clear h hi
    go_enter Try.func14, Try.ntmps14
    go_wp2_with fail
    refine cN.mono ?_
    rintro e w1 ⟨rfl, rfl⟩
    go_wp2
    go_ret2
    exact ⟨rfl, rfl⟩
  | true =>
    rw [hi] at cN
    obtain ⟨a, rfl⟩ : ∃ a : Nat, fd = (a : Int) := ⟨fd.toNat, by have := (in_iff.1 hi).1; omega⟩
    have ha : a < S.length := by have := (in_iff.1 hi).2; omega
    have e1 : freeN S (a : Int) = if frF S a < S.length then (frF S a : Int) else 0 := by unfold freeN; rw [hi]; simp
    have e2 : freeE S (a : Int) = if frF S a < S.length then 0 else 24 := by unfold freeE; rw [hi]; simp
    obtain ⟨z, hz0⟩ : ∃ z, frF S a = z := ⟨_, rfl⟩
    have HZ : Hid (frF S a = z) := hz0
    rw [hz0] at e1 e2
    have H1 : Hid (z < S.length → freeN S (a : Int) = (z : Int) ∧ freeE S (a : Int) = 0) := fun h => ⟨by rw [e1, if_pos h], by rw [e2, if_pos h]⟩
    have H2 : Hid (z = S.length → freeN S (a : Int) = 0 ∧ freeE S (a : Int) = 24) := fun h => ⟨by rw [e1, if_neg (by omega)], by rw [e2, if_neg (by omega)]⟩
    clear e1 e2
    generalize freeN S (a : Int) = rN at *
    generalize freeE S (a : Int) = rE at *
    have HF : Hid (∀ k, k < S.length → ∃ v, w.cell? ⟨rb, k, none⟩ = some v ∧ ((S.getD k zS).file = 0 → v = .pointer none) ∧ ((S.getD k zS).file ≠ 0 → ∃ b, v = ptr b)) := fun k hk => by
      obtain ⟨e, hke, he⟩ := ent_at M (k := k) (by omega)
      rw [hM] at he
      refine ⟨e.ptr, h.look hke, fun h1 => ?_, fun h1 => ⟨e.bk, ?_⟩⟩
      · rw [he] at h1; unfold Ent.ptr; rw [if_pos h1]
      · rw [he] at h1; unfold Ent.ptr; rw [if_neg h1]
    have HH : Hid (∀ k, k < S.length → (S.getD k zS).file = 0 → frF S k = k) := fun k hk h1 => frF_hit hk h1
    have HN : Hid (∀ k, k < S.length → (S.getD k zS).file ≠ 0 → frF S k = frF S (k + 1)) := fun k hk h1 => frF_next hk h1
    have HE : Hid (frF S S.length = S.length) := frF_end (Nat.le_refl _)
    clear h hi hz0 hM hlM
    go_enter Try.func14, Try.ntmps14
    go_wp2_with fail
    refine cN.mono ?_
    rintro e w1 ⟨rfl, rfl⟩
    clear cN
    go_wp2
    go_loop [6] (fun iv => ∃ k : Nat, k ≤ S.length ∧ iv = .int .i64 (k : Int) ∧ Hid (frF S k = z)) (fun iv => S.length - (intOf iv).toNat)
    case atStart => exact ⟨a, by omega, rfl, HZ⟩
    case round =>
      obtain ⟨k, hk, rfl, HK⟩ := hrel
      by_cases hlt : k < S.length
      · have hltz : (k : Int) < (S.length : Int) := by omega
        obtain ⟨v, x1, hv0, hv1⟩ := HF.out k hlt
        by_cases hf : (S.getD k zS).file = 0
        · have hvv := hv0 hf
          subst hvv
          have HR : Hid (z = k) := by have := HK.out; rw [HH.out k hlt hf] at this; exact this.symm
          clear hv0 hv1 hf
          go_wp2
          go_ret2
          exact ⟨by obtain ⟨r1, r2⟩ := H1.out (by rw [HR.out]; exact hlt); rw [r1, r2, HR.out]; rfl, rfl⟩
        · obtain ⟨b, rfl⟩ := hv1 hf
          have HR : Hid (frF S (k + 1) = z) := by have := HK.out; rwa [HN.out k hlt hf] at this
          clear hv0 hv1 hf
          go_wp2
          go_round
          case rel => exact ⟨k + 1, by omega, by go_num, HR⟩
          case measure => simp [intOf]; omega
      · obtain rfl : k = S.length := by omega
        have hltz : ¬ (S.length : Int) < (S.length : Int) := by omega
        have HR : Hid (z = S.length) := by have := HK.out; rw [HE.out] at this; exact this.symm
        go_wp2
        go_ret2
        exact ⟨by obtain ⟨r1, r2⟩ := H2.out HR.out; rw [r1, r2]; rfl, rfl⟩

/-- The numbers of all. -/
def AllPost (w : World) (S : List Sl) (e : Ending) (w' : World) : Prop := ∃ p c, e = .returned (.slice p (allS S).length c) ∧ Go.Proofs.Ytmccfcllehfebaa.W.AtF w.heap.size w' p (allS S) ∧ Below w.heap.size w w'
set_option maxRecDepth 100000 in
set_option maxHeartbeats 1000000 in
theorem all_any (h : TabAt D F w tb S) (hl : S.length ≤ 64) :
    Calls Try.prog 28 #[ptr tb] w (AllPost w S) := by
  have HT : Hid (TabAt D F w tb S) := h
  have x0 : ∃ rb, w.cell? ⟨tb, 0, none⟩ = some (.slice (some ⟨rb, 0, none⟩) S.length S.length) ∧ ∀ wr, Below w.heap.size w wr → ∀ k, k < S.length → ∃ v, wr.cell? ⟨rb, k, none⟩ = some v ∧ ((S.getD k zS).file = 0 → v = .pointer none) ∧ ((S.getD k zS).file ≠ 0 → ∃ b, v = ptr b) := by
    obtain ⟨rb, M, hM, h⟩ := h
    have hlM : M.length = S.length := by rw [← hM, List.length_map]
    refine ⟨rb, by rw [← hlM]; exact h.box.cell 0 rfl, fun wr hb k hk => ?_⟩
    obtain ⟨e, hke, he⟩ := ent_at M (k := k) (by omega)
    rw [hM] at he
    refine ⟨e.ptr, (h.keep (keep_on hb)).look hke, fun h1 => ?_, fun h1 => ⟨e.bk, ?_⟩⟩
    · rw [he] at h1; unfold Ent.ptr; rw [if_pos h1]
    · rw [he] at h1; unfold Ent.ptr; rw [if_neg h1]
  obtain ⟨rb, x0, hF⟩ := x0
  have HF : Hid _ := hF
  have HS : Hid (∀ k, allK S (k + 1) = if liveAt S k then allK S k ++ [(k : Int)] else allK S k) := fun k => allK_succ S k
  have HLen : Hid (∀ k, (allK S k).length ≤ k) := fun k => allK_len S k
  have HP : Hid (∀ v wr, OwnV w.heap.size 3 wr v (Go.Proofs.Ytmccfcllehfebaa.W.intsV (allS S)) → Below w.heap.size w wr → AllPost w S (.returned v) wr) := fun v wr h1 h2 => by
    obtain ⟨p, c, e, hat, _⟩ := ownV_at h1
    rw [Go.Proofs.Ytmccfcllehfebaa.W.intsV_len] at e
    exact ⟨p, c, by rw [e], Go.Proofs.Ytmccfcllehfebaa.W.atF_ints.2 hat, h2⟩
  generalize AllPost w S = Post at *
  clear h hF HT
  go_enter Try.func28, Try.ntmps28
  go_wp2
  go_loopw [3, 13] (fun v i wr => ∃ (k : Nat) (u : Value), u = v ∧ i = .int .i64 (k : Int) ∧ k ≤ S.length ∧ Hid (OwnV w.heap.size 3 wr v (Go.Proofs.Ytmccfcllehfebaa.W.intsV (allK S k))) ∧ Hid (Below w.heap.size w wr)) (fun _ i _ => S.length - (intOf i).toNat)
  case atStart => exact ⟨0, _, rfl, rfl, Nat.zero_le _, ownV_nil _ _ _, Below.refl _ _⟩
  case round =>
    obtain ⟨k, u, hu, rfl, hk, HO, HB⟩ := hrel
    subst hu
    by_cases hlt : k < S.length
    · have hltz : (k : Int) < (S.length : Int) := by omega
      obtain ⟨vv, x1, hv0, hv1⟩ := HF.out wr HB.out k hlt
      by_cases hf : (S.getD k zS).file = 0
      · have hvv := hv0 hf
        subst hvv
        have HR : Hid (OwnV w.heap.size 3 wr u (Go.Proofs.Ytmccfcllehfebaa.W.intsV (allK S (k + 1)))) := by
          show OwnV _ _ _ _ _
          rw [HS.out, show liveAt S k = false by unfold liveAt; exact decide_eq_false (fun h => h hf)]
          exact HO.out
        clear hv0 hv1 hf
        go_wp2
        go_roundw
        case rel => exact ⟨k + 1, _, rfl, by go_num, by omega, HR, HB⟩
        case measure => simp [intOf]; omega
      · obtain ⟨b, rfl⟩ := hv1 hf
        obtain ⟨v', W', hrun, hO2, hB2⟩ := append_one elemInt w.heap.size u (Go.Proofs.Ytmccfcllehfebaa.W.intsV (allK S k)) (.int .i64 (k : Int)) wr (by rw [Go.Proofs.Ytmccfcllehfebaa.W.intsV_len]; have := HLen.out k; omega) rfl HO.out HB.out.size
        have HR : Hid (OwnV w.heap.size 3 W' v' (Go.Proofs.Ytmccfcllehfebaa.W.intsV (allK S (k + 1)))) := by
          show OwnV _ _ _ _ _
          rw [HS.out, show liveAt S k = true by unfold liveAt; exact decide_eq_true hf]
          simpa [Go.Proofs.Ytmccfcllehfebaa.W.intsV] using hO2
        have HBn : Hid (Below w.heap.size w W') := HB.out.trans hB2
        clear hv0 hv1 hf hO2 hB2
        go_wp2_with (at_builtin; refine wpList_run_append (by rfl) _ _ _ (by rfl) _ _ (by rfl) (by rfl) hrun ?_)
        go_roundw
        case rel => exact ⟨k + 1, _, rfl, by go_num, by omega, HR, HBn⟩
        case measure => simp [intOf]; omega
    · obtain rfl : k = S.length := by omega
      have hltz : ¬ (S.length : Int) < (S.length : Int) := by omega
      have HZ : Hid _ := HP.out _ _ HO.out HB.out
      go_wp2
      exact HZ.out

def kn (m : Nat) : Kd 0 := ⟨fun v _ => ∃ p c, v = .slice p m c, none, fun _ _ _ h _ => h, fun _ _ _ _ h _ _ _ => h⟩
theorem en_all : ∀ args w, (callFunc 28 args).run Try.prog w = .ok (.enter 28 args) w := fun _ _ => by simp [callFunc, Try.func28]; rfl
set_option maxRecDepth 100000 in
set_option maxHeartbeats 1000000 in
theorem room_any (h : TabAt D F w tb S) (hl : S.length ≤ 64) :
    Calls Try.prog 27 #[ptr tb] w fun e w' => e = .returned (.int .i64 ((S.length : Int) - ((allS S).length : Int))) ∧ Below w.heap.size w w' := by
  have HC : Hid (∀ W, Below w.heap.size w W → Calls Try.prog 28 #[ptr tb] W fun e W' => ∃ p c, e = .returned (.slice p (allS S).length c) ∧ Below W.heap.size W W') := fun W hb => (all_any (h.on hb) hl).mono fun e W' ⟨p, c, h1, _, h3⟩ => ⟨p, c, h1, h3⟩
  obtain ⟨rb, M, hM, h⟩ := h
  have hlM : M.length = S.length := by rw [← hM, List.length_map]
  have HY : Hid (∀ W, Below w.heap.size w W → W.cell? ⟨tb, 0, none⟩ = some (.slice (some ⟨rb, 0, none⟩) S.length S.length)) := fun W hb => by rw [← hlM]; exact (h.box.on hb).cell 0 rfl
  have hm := allK_len S S.length
  clear h hM hlM
  generalize (allS S).length = m at *
  generalize S.length = n at *
  have wr : (IntKind.i64.wrap ((n : Int) - (m : Int))) = (n : Int) - (m : Int) := by rw [IntKind.wrap_i64]; omega
  go_enter Try.func27, Try.ntmps27
  go_wp2
  refine wp_region_left (S := fun W => Below w.heap.size w W) (Keep := KeepK [])
    (g := fun jj vv WW => (([.is (ptr tb), .is (ptr tb), .is (.pointer (some ⟨tb, 0, none⟩)), .is (.slice (some ⟨rb, 0, none⟩) n n), .is (.int .i64 (n : Int)), .is (ptr tb), kn m, .is (.int .i64 (m : Int)), .is (.int .i64 ((n : Int) - (m : Int))), .is (.int .i64 ((n : Int) - (m : Int)))] : List (Kd 0)).getD jj Kd.any).ok vv WW)
    (tab := [[(0, none)], [(5, some 0)], [(6, some 1)], [(7, some 2)], [(8, some 3)], [(0, none)], [(10, some 5)], [(11, some 6)], [(9, some 4), (12, some 7)], [(13, some 8)]]) (tl := []) (n := 14)
    (by kernel_rfl) rfl (by kernel_rfl) keep_none (on_drew (Below.refl _ _)) ?st ?en
  case st =>
    refine ⟨fun ρ W hr hS hs => ?_, fun ρ W hr hS hs => ?_, fun ρ W hr hS hs => ?_, fun ρ W hr hS hs => ?_, fun ρ W hr hS hs => ?_, fun ρ W hr hS hs => ?_, fun ρ W hr hS hs => ?_, fun ρ W hr hS hs => ?_, fun ρ W hr hS hs => ?_, fun ρ W hr hS hs => ?_, trivial⟩
    · have h0 : ρ (.tmp 0) = ptr tb := hs.1
      exact step_plain rfl (leaves_move (.tmp 0) rfl ⟨h0, hS, Below.refl _ _⟩)
    · have h5 : ρ (.tmp 5) = ptr tb := hs.1
      refine step_plain rfl (leaves_value (v := ptr tb) (w' := W) ?_ ⟨rfl, hS, Below.refl _ _⟩)
      have y0 := HY.out W hS
      simp [go_sem, h5]
    · have h6 : ρ (.tmp 6) = ptr tb := hs.1
      refine step_plain rfl (leaves_value (v := .pointer (some ⟨tb, 0, none⟩)) (w' := W) ?_ ⟨rfl, hS, Below.refl _ _⟩)
      have y0 := HY.out W hS
      simp [go_sem, h6]
    · have h7 : ρ (.tmp 7) = .pointer (some ⟨tb, 0, none⟩) := hs.1
      refine step_plain rfl (leaves_value (v := .slice (some ⟨rb, 0, none⟩) n n) (w' := W) ?_ ⟨rfl, hS, Below.refl _ _⟩)
      have y0 := HY.out W hS
      simp [go_sem, h7, y0]
    · have h8 : ρ (.tmp 8) = .slice (some ⟨rb, 0, none⟩) n n := hs.1
      refine step_plain rfl (leaves_value (v := .int .i64 (n : Int)) (w' := W) ?_ ⟨rfl, hS, Below.refl _ _⟩)
      have y0 := HY.out W hS
      simp [go_sem, h8]
    · have h0 : ρ (.tmp 0) = ptr tb := hs.1
      exact step_plain rfl (leaves_move (.tmp 0) rfl ⟨h0, hS, Below.refl _ _⟩)
    · have h10 : ρ (.tmp 10) = ptr tb := hs.1
      refine step_plain rfl (leaves_call1 en_all hr (.tmp 10) _ rfl h10 ((HC.out W hS).mono ?_))
      rintro e W' ⟨p9, c9, rfl, hb9⟩
      exact ⟨_, rfl, ⟨p9, c9, rfl⟩, on_trans hS hb9, hb9⟩
    · have h11 := hs.1
      obtain ⟨p9, c9, h11⟩ := h11
      change ρ (.tmp 11) = _ at h11
      refine step_plain rfl (leaves_value (v := .int .i64 (m : Int)) (w' := W) ?_ ⟨rfl, hS, Below.refl _ _⟩)
      simp [go_sem, h11]
    · have h9 : ρ (.tmp 9) = .int .i64 (n : Int) := hs.1
      have h12 : ρ (.tmp 12) = .int .i64 (m : Int) := hs.2.1
      refine step_plain rfl (leaves_value (v := .int .i64 ((n : Int) - (m : Int))) (w' := W) ?_ ⟨rfl, hS, Below.refl _ _⟩)
      have y0 := HY.out W hS
      simp [go_sem, h9, h12, wr]
    · have h13 : ρ (.tmp 13) = .int .i64 ((n : Int) - (m : Int)) := hs.1
      exact step_plain rfl (leaves_assign (.tmp 13) rfl ⟨h13, hS, Below.refl _ _⟩)
  case en =>
    intro W hS v0 h0 v1 h1 v2 h2 v3 h3 v4 h4 v5 h5 v6 h6 v7 h7 v8 h8 v9 h9
    have e0 : v0 = ptr tb := h0 rfl
    subst v0
    have e1 : v1 = ptr tb := h1 rfl
    subst v1
    have e2 : v2 = .pointer (some ⟨tb, 0, none⟩) := h2 rfl
    subst v2
    have e3 : v3 = .slice (some ⟨rb, 0, none⟩) n n := h3 rfl
    subst v3
    have e4 : v4 = .int .i64 (n : Int) := h4 rfl
    subst v4
    have e5 : v5 = ptr tb := h5 rfl
    subst v5
    have e7 : v7 = .int .i64 (m : Int) := h7 rfl
    subst v7
    have e8 : v8 = .int .i64 ((n : Int) - (m : Int)) := h8 rfl
    subst v8
    have e9 : v9 = .int .i64 ((n : Int) - (m : Int)) := h9 rfl
    subst v9
    clear h0 h1 h2 h3 h4 h5 h7 h8 h9
    simp only [ends, Act.put, List.setIfInBounds_toArray, List.set_cons_succ, List.set_cons_zero]
    have HB : Hid (Below w.heap.size w W) := hS
    clear HC HY hS
    go_wp2
    go_ret
    exact ⟨rfl, HB.out⟩
end

set_option maxRecDepth 100000 in
theorem free_nil (fd : Int) (w : World) : Calls Try.prog 14 #[.pointer none, .int .i64 fd] w fun e w' => e = .returned (.tuple #[.int .i64 0, .int .i64 22]) ∧ w' = w := by
  go_enter Try.func14, Try.ntmps14
  go_wp2
  go_ret2
  exact ⟨rfl, rfl⟩
set_option maxRecDepth 100000 in
theorem all_nil (w : World) : Calls Try.prog 28 #[.pointer none] w fun e w' => e = .returned (.slice none 0 0) ∧ w' = w := by
  go_enter Try.func28, Try.ntmps28
  go_wp2
  go_ret
  exact ⟨rfl, rfl⟩
set_option maxRecDepth 100000 in
theorem room_nil (w : World) : Calls Try.prog 27 #[.pointer none] w fun e w' => e = .returned (.int .i64 0) ∧ w' = w := by
  go_enter Try.func27, Try.ntmps27
  go_wp2
  go_ret
  exact ⟨rfl, rfl⟩
set_option maxRecDepth 100000 in
theorem clone_nil (w : World) : Calls Try.prog 24 #[.pointer none] w fun e w' => e = .returned (.pointer none) ∧ w' = w := by
  go_enter Try.func24, Try.ntmps24
  go_wp2
  go_ret
  exact ⟨rfl, rfl⟩

end Go.Proofs.Ytmccfcllehfebaa.Z
