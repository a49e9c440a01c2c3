/- What Gate answers, for every request and mode. -/
import Derived.Test.YtgolihipinjfmaaGreatDoorJCheck
import Derived.Test.YtgolihipinjfmaaGreatDoorCGate
import Derived.Laws.EntriesVeiled
namespace Go.Proofs.YtgolihipinjfmaaGreatDoor.J
open Go Go.RowKit Go.Shelf
open Go.Proofs.YtgolihipinjfmaaGreatDoor.C (cshape cname cgate cneed0 cneed1 byt byt_list byt_size row_size callV callC noV noC Sp gateE gateB gate_at)

theorem gate_zero (g dir : Int) (cap : Bool) : (gateE g dir cap == 0) = !(cap && (g == 1 || (g == 2 && dir == -100))) := by
  unfold gateE gateB
  cases cap && (g == 1 || (g == 2 && dir == -100)) <;> simp

/-- Whether a directory passes: the first closure of Gate. -/
theorem pass_any (k : Fin 64) (dir : Int) (cap : Bool) (B C : Nat) (w : World) (hB : w.cell? ⟨B, 0, none⟩ = some (.int .i64 ((k.val : Int) + 1))) (hC : w.cell? ⟨C, 0, none⟩ = some (.bool cap)) (he : Env w) :
    Calls Tryz.prog 29 #[.int .i64 dir, .pointer (some ⟨B, 0, none⟩), .pointer (some ⟨C, 0, none⟩)] w fun e W => e = .returned (.bool (!(cap && (cgate k == 1 || (cgate k == 2 && dir == -100))))) ∧ Below w.heap.size w W := by
  have cG := gate_at k dir cap w he.sp he.nm
  rw [← gate_zero]
  generalize gateE (cgate k) dir cap = E at *
  clear he
  generalize ((k.val : Int) + 1) = no at *
  go_enter Tryz.func29, Tryz.ntmps29
  go_wp2_with (go_at_call 30; refine cG.mono ?_; rintro e W ⟨rfl, hb⟩)
  go_ret
  exact ⟨rfl, hb⟩
/-- Whether a number passes, by its letter: the second closure of Gate. -/
theorem let_any (k : Fin 64) (c n : Int) (cap : Bool) (B C P : Nat) (w : World) (hB : w.cell? ⟨B, 0, none⟩ = some (.int .i64 ((k.val : Int) + 1))) (hC : w.cell? ⟨C, 0, none⟩ = some (.bool cap))
    (hP : w.cell? ⟨P, 0, none⟩ = some (.func (.func 29) #[] #[.pointer (some ⟨B, 0, none⟩), .pointer (some ⟨C, 0, none⟩)])) (he : Env w) :
    Calls Tryz.prog 31 #[.int .u8 c, .int .i64 n, .pointer (some ⟨P, 0, none⟩)] w fun e W => e = .returned (.bool (letB (cgate k) cap c n)) ∧ Below w.heap.size w W := by
  have cP := pass_any k n cap B C w hB hC he
  unfold letB
  generalize (!(cap && (cgate k == 1 || (cgate k == 2 && n == -100)))) = v at *
  clear hB hC he
  cases h : (c == 100)
  · have h2 : (c != 100) = true := by simpa using h
    go_enter Tryz.func31, Tryz.ntmps31
    go_wp2
    go_ret
    exact ⟨rfl, Below.refl _ _⟩
  · have h2 : (c != 100) = false := by simpa using h
    go_enter Tryz.func31, Tryz.ntmps31
    go_wp2_with (go_at_call 29; refine cP.mono ?_; rintro e W ⟨rfl, hb⟩)
    go_ret
    exact ⟨rfl, hb⟩
theorem en_let : ∀ args w, (callFunc 31 args).run Tryz.prog w = .ok (.enter 31 args) w := fun _ _ => by simp [callFunc, Tryz.func31]; rfl

/-- A request that is refused at once. -/
theorem gate_bad (r : Rq) (p : Option Addr) (c : Nat) (cap : Bool) (w : World) (hE : chk r ≠ 0) (hat : At w p (ints r.l)) (hl : r.l.length ≤ 1000000) (he : Env w) :
    Calls Tryz.prog 18 #[rqV r p c, .bool cap] w fun e W => e = .returned (.int .i64 (chk r)) ∧ Below w.heap.size w W := by
  have hB1 := on_alloc w (.cells (rqC r p c).toArray 25)
  have bB2 := (Blk.new w 25 (rqC r p c)).alloc (.cells #[.bool cap] 4)
  have hB2 := hB1.alloc hB1.size (.cells #[.bool cap] 4)
  have cC := check_any r p c ((w.alloc (.cells (rqC r p c).toArray 25)).alloc (.cells #[.bool cap] 4)) (AtF.on hat hB2) hl (he.below hB2)
  have h0b : (chk r != 0) = true := by simpa using hE
  have hld := run_loadVar_blk (cs := rqC r p c) Tryz.isAgg25 (by kernel_rfl) bB2
  generalize chk r = E at *
  clear hat he hE
  unfold rqV at *
  unfold rqC at *
  have b0 := bB2.cell 0 rfl
  have b1 := bB2.cell 1 rfl
  have b2 := bB2.cell 2 rfl
  have b3 := bB2.cell 3 rfl
  have b4 := bB2.cell 4 rfl
  have b5 := bB2.cell 5 rfl
  have b6 := bB2.cell 6 rfl
  have b7 := bB2.cell 7 rfl
  have b8 := bB2.cell 8 rfl
  go_enter Tryz.func18, Tryz.ntmps18
  go_wp2_with (go_at_call 9; refine cC.mono ?_; rintro e X ⟨rfl, hb⟩)
  go_ret
  exact ⟨rfl, on_trans hB2 hb⟩

set_option maxRecDepth 100000 in
set_option maxHeartbeats 2000000 in
theorem gate_good (k : Fin 64) (r : Rq) (hk : (k.val : Int) + 1 = r.no) (p : Option Addr) (c : Nat) (cap : Bool) (w : World) (hE : chk r = 0) (hat : At w p (ints r.l)) (hl : r.l.length ≤ 1000000) (he : Env w) :
    Calls Tryz.prog 18 #[rqV r p c, .bool cap] w fun e W => e = .returned (.int .i64 (if shutB k r cap then 94 else 0)) ∧ Below w.heap.size w W := by
  have hB1 := on_alloc w (.cells (rqC r p c).toArray 25)
  have bB2 := (Blk.new w 25 (rqC r p c)).alloc (.cells #[.bool cap] 4)
  have bC2 := Blk.new (w.alloc (.cells (rqC r p c).toArray 25)) 4 [.bool cap]
  have hB2 := hB1.alloc hB1.size (.cells #[.bool cap] 4)
  simp only [World.size_alloc] at bC2
  have cC := check_any r p c ((w.alloc (.cells (rqC r p c).toArray 25)).alloc (.cells #[.bool cap] 4)) (AtF.on hat hB2) hl (he.below hB2)
  rw [hE] at cC
  have HSh : Hid ((!numB (letB (cgate k) cap) (sm k) [r.a0, r.a1, r.a2, r.a3, r.a4] || !(!(cap && (cgate k == 1 || (cgate k == 2 && (0 : Int) == -100))))) = shutB k r cap) := shut_is k r cap
  have HNum : Hid (∀ W P, Below w.heap.size w W → (∀ Y, Below W.heap.size W Y → Y.cell? ⟨w.heap.size, 0, none⟩ = some (.int .i64 ((k.val : Int) + 1)) ∧ Y.cell? ⟨w.heap.size + 1, 0, none⟩ = some (.bool cap) ∧ Y.cell? ⟨P, 0, none⟩ = some (.func (.func 29) #[] #[.pointer (some ⟨w.heap.size, 0, none⟩), .pointer (some ⟨w.heap.size + 1, 0, none⟩)])) →
      Calls Tryz.prog 21 #[.string (byt (cshape k)), .agg #[.int .i64 r.a0, .int .i64 r.a1, .int .i64 r.a2, .int .i64 r.a3, .int .i64 r.a4], .func (.func 31) #[] #[.pointer (some ⟨P, 0, none⟩)]] W fun e Y => e = .returned (.bool (numB (letB (cgate k) cap) (sm k) [r.a0, r.a1, r.a2, r.a3, r.a4])) ∧ Below W.heap.size W Y) := fun W P hW hY =>
    numbers_at k r.a0 r.a1 r.a2 r.a3 r.a4 31 _ en_let (letB (cgate k) cap) W (he.below hW).ut fun Y cc n hb => let_any k cc n cap w.heap.size (w.heap.size + 1) P Y (hY Y hb).1 (hY Y hb).2.1 (hY Y hb).2.2 ((he.below hW).below hb)
  have HPass : Hid (∀ Y, Below w.heap.size w Y → Y.cell? ⟨w.heap.size, 0, none⟩ = some (.int .i64 ((k.val : Int) + 1)) → Y.cell? ⟨w.heap.size + 1, 0, none⟩ = some (.bool cap) →
      Calls Tryz.prog 29 #[.int .i64 0, .pointer (some ⟨w.heap.size, 0, none⟩), .pointer (some ⟨w.heap.size + 1, 0, none⟩)] Y fun e Z => e = .returned (.bool (!(cap && (cgate k == 1 || (cgate k == 2 && (0 : Int) == -100))))) ∧ Below Y.heap.size Y Z) := fun Y hY h1 h2 => pass_any k 0 cap w.heap.size (w.heap.size + 1) Y h1 h2 (he.below hY)
  have HGet : Hid (∀ Y, Below w.heap.size w Y → Calls Tryz.prog 20 #[.int .i64 ((k.val : Int) + 1)] Y fun e W => e = .returned (.tuple #[callV k, .bool true]) ∧ Below Y.heap.size Y W) := fun Y hY => C.get_at k Y (he.below hY).sp (he.below hY).nm
  rw [hk] at HNum HPass HGet
  unfold callV callC at HGet
  generalize shutB k r cap = sh at *
  generalize numB (letB (cgate k) cap) (sm k) [r.a0, r.a1, r.a2, r.a3, r.a4] = bl at *
  generalize (!(cap && (cgate k == 1 || (cgate k == 2 && (0 : Int) == -100)))) = ps at *
  clear hat he hE hk hB1
  unfold rqV at *
  unfold rqC at *
  generalize r.l.length = n at *
  generalize r.no = no at *
  generalize r.a0 = a0 at *
  generalize r.a1 = a1 at *
  generalize r.a2 = a2 at *
  generalize r.a3 = a3 at *
  generalize r.a4 = a4 at *
  generalize r.S = sS at *
  generalize r.T = sT at *
  generalize byt (cname k) = nm at *
  generalize byt (cshape k) = sb at *
  generalize cgate k = gt at *
  generalize ((cneed0 k : Nat) : Int) = n0 at *
  generalize ((cneed1 k : Nat) : Int) = n1 at *
  have b0 := bB2.cell 0 rfl
  have b1 := bB2.cell 1 rfl
  have b2 := bB2.cell 2 rfl
  have b3 := bB2.cell 3 rfl
  have b4 := bB2.cell 4 rfl
  have b5 := bB2.cell 5 rfl
  have b6 := bB2.cell 6 rfl
  have b7 := bB2.cell 7 rfl
  have b8 := bB2.cell 8 rfl
  go_enter Tryz.func18, Tryz.ntmps18
  go_upto_region 4 with (go_at_call 9; refine cC.mono ?_; rintro e X ⟨rfl, hb⟩)
  have hX := on_trans hB2 hb
  have bBX := bB2.on hb
  have bCX := bC2.on hb
  clear b0 b1 b2 b3 b4 b5 b6 b7 b8 cC bB2 bC2 hB2 hb
  have b0 := bBX.cell 0 rfl
  have c0 := bCX.cell 0 rfl
  have bPX := Blk.new X 47 [.func (.func 29) #[] #[.pointer (some ⟨w.heap.size, 0, none⟩), .pointer (some ⟨w.heap.size + 1, 0, none⟩)]]
  have bBY := bBX.alloc (.cells #[.func (.func 29) #[] #[.pointer (some ⟨w.heap.size, 0, none⟩), .pointer (some ⟨w.heap.size + 1, 0, none⟩)]] 47)
  have bCY := bCX.alloc (.cells #[.func (.func 29) #[] #[.pointer (some ⟨w.heap.size, 0, none⟩), .pointer (some ⟨w.heap.size + 1, 0, none⟩)]] 47)
  have hY := hX.alloc hX.size (.cells #[.func (.func 29) #[] #[.pointer (some ⟨w.heap.size, 0, none⟩), .pointer (some ⟨w.heap.size + 1, 0, none⟩)]] 47)
  go_upto_region 5 with fail
  obtain ⟨P, hP⟩ : ∃ P, X.heap.size = P := ⟨_, rfl⟩
  obtain ⟨Y, hYY⟩ : ∃ Y, X.alloc (.cells #[.func (.func 29) #[] #[.pointer (some ⟨w.heap.size, 0, none⟩), .pointer (some ⟨w.heap.size + 1, 0, none⟩)]] 47) = Y := ⟨_, rfl⟩
  rw [hYY] at bPX bBY bCY hY ⊢
  rw [hP] at bPX ⊢
  clear hYY hP b0 c0 bBX bCX hX
  have b0 := bBY.cell 0 rfl
  have cG := HGet.out Y hY
  go_upto_region 6 with (go_at_call 20; refine cG.mono ?_; rintro e Z ⟨rfl, hbZ⟩)
  have hZ := (on_trans hY hbZ).alloc (on_trans hY hbZ).size (.cells #[.string nm, .string sb, .int .i64 gt, .int .u32 n0, .int .u32 n1] 37)
  have bBZ := (bBY.on hbZ).alloc (.cells #[.string nm, .string sb, .int .i64 gt, .int .u32 n0, .int .u32 n1] 37)
  have bCZ := (bCY.on hbZ).alloc (.cells #[.string nm, .string sb, .int .i64 gt, .int .u32 n0, .int .u32 n1] 37)
  have bPZ := (bPX.on hbZ).alloc (.cells #[.string nm, .string sb, .int .i64 gt, .int .u32 n0, .int .u32 n1] 37)
  have bDZ := Blk.new Z 37 [.string nm, .string sb, .int .i64 gt, .int .u32 n0, .int .u32 n1]
  obtain ⟨D, hD⟩ : ∃ D, Z.heap.size = D := ⟨_, rfl⟩
  obtain ⟨V, hV⟩ : ∃ V, Z.alloc (.cells #[.string nm, .string sb, .int .i64 gt, .int .u32 n0, .int .u32 n1] 37) = V := ⟨_, rfl⟩
  rw [hV] at hZ bBZ bCZ bPZ bDZ ⊢
  rw [hD] at bDZ ⊢
  clear hD hV b0 cG hbZ bBY bCY bPX hY
  have cN := HNum.out V P hZ fun Q h => ⟨(bBZ.on h).cell 0 rfl, (bCZ.on h).cell 0 rfl, (bPZ.on h).cell 0 rfl⟩
  have d1 := bDZ.cell 1 rfl
  have b1 := bBZ.cell 1 rfl
  have b2 := bBZ.cell 2 rfl
  have b3 := bBZ.cell 3 rfl
  have b4 := bBZ.cell 4 rfl
  have b5 := bBZ.cell 5 rfl
  go_upto_region 7 with (go_at_call 21; refine cN.mono ?_; rintro e U ⟨rfl, hbU⟩)
  have hU := on_trans hZ hbU
  have p0 := (bPZ.on hbU).cell 0 rfl
  have cP := HPass.out U hU ((bBZ.on hbU).cell 0 rfl) ((bCZ.on hbU).cell 0 rfl)
  have HR : Hid ((!bl || !ps) = sh) := HSh.out
  clear cN d1 b1 b2 b3 b4 b5 bBZ bCZ bPZ bDZ hbU hZ HSh HNum HPass HGet
  cases bl
  · have hs : sh = true := by rw [← HR.out]; rfl
    subst hs
    clear cP
    go_wp2
    go_ret
    exact ⟨rfl, hU⟩
  · have hs : sh = !ps := by rw [← HR.out]; rfl
    subst hs
    cases ps
    all_goals
      go_wp2_with (go_at_call 29; refine cP.mono ?_; rintro e T ⟨rfl, hbT⟩)
      go_ret
      exact ⟨rfl, on_trans hU hbT⟩

theorem gate_all (r : Rq) (p : Option Addr) (c : Nat) (cap : Bool) (w : World) (hat : At w p (ints r.l)) (hl : r.l.length ≤ 1000000) (he : Env w) :
    Calls Tryz.prog 18 #[rqV r p c, .bool cap] w fun e W => e = .returned (.int .i64 (gat r cap)) ∧ Below w.heap.size w W := by
  by_cases hE : chk r = 0
  · rcases kcases r.no with ⟨k, hk⟩ | hk
    · have ho : okB k r = true := by
        rw [chk_at hk] at hE
        cases h : okB k r
        · rw [h] at hE; cases hE
        · rfl
      have := gate_good k r hk p c cap w hE hat hl he
      rw [gat_at hk]
      unfold gatE
      rw [ho]
      exact this
    · rw [chk_no hk] at hE; cases hE
  · have := gate_bad r p c cap w hE hat hl he
    have e : gat r cap = chk r := by
      rcases kcases r.no with ⟨k, hk⟩ | hk
      · rw [gat_at hk, chk_at hk]
        rw [chk_at hk] at hE
        unfold gatE
        cases h : okB k r
        · rfl
        · rw [h] at hE; exact absurd rfl hE
      · rw [gat_no hk, chk_no hk]
    rw [e]
    exact this

end Go.Proofs.YtgolihipinjfmaaGreatDoor.J
