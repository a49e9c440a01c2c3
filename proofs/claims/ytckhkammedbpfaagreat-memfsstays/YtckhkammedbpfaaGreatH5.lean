/- MemfsStays: its walk. -/
import Derived.Test.YtckhkammedbpfaaGreatH2
import Derived.Test.YtckhkammedbpfaaGreatH3
import Derived.Test.YtckhkammedbpfaaGreatH4
namespace Go.Proofs.YtckhkammedbpfaaGreat
open Go Go.RowKit Go.Maps
theorem NamesAt.turns {lo : Nat} {q : Obj -> Bool} {hi : Lo} {w w' : World} {v : Value} {l : List ByteArray} (h : NamesAt lo w v l) (ht : Turns q hi w w') (hq : ∀ a f, q (.cells a 9 f) = false) : NamesAt lo w' v l := by
 rcases h with h | ⟨g, c, h1, h2, h3⟩
 . exact .inl h
 . exact .inr ⟨g, c, h1, h2, ht.blk h3 hq⟩
theorem DumpM.turns {lo : Nat} {q : Obj -> Bool} {hi : Lo} {U : Int -> Int} {s : SS} {w w' : World} {v : Value} {Q : List DN} {L : List Nd} (h : DumpM lo U s w v Q L) (ht : Turns q hi w w') (hq : ∀ a t f, t = 61 ∨ t = 9 ∨ t = 3 -> q (.cells a t f) = false) : DumpM lo U s w' v Q L :=
 ⟨h.list, ht.rowS h.row fun _ _ => hq _ _ _ (.inl rfl), fun x hx => ⟨(h.node x hx).names.turns ht fun _ _ => hq _ _ _ (.inr (.inl rfl)), ht.rowS (h.node x hx).inos fun _ _ => hq _ _ _ (.inr (.inr rfl))⟩⟩
def isA : Obj -> Bool
 | .cells _ t _ => t == 30
 | _ => false
theorem isP_isA {o : Obj} (h : isP o = true) : isA o = false := by
 cases o <;> simp [isP, isA] at h ⊢
 rcases h with ((((h | h) | h) | h) | h) | h <;> rw [h] <;> decide
theorem FsAt.turnsA {n fb c : Nat} {w w' : World} {s : SS} {U : Int -> Int} {hi : Lo} (h : FsAt n w fb c s U) (ht : Turns isA hi w w') : FsAt n w' fb c s U := by
 obtain ⟨sb, ub, B, h⟩ := h
 obtain ⟨es, clock, ho⟩ := h.up.is
 exact ⟨sb, ub, B, ht.blk h.box fun _ _ => rfl, h.store.turns ht fun o ho => isP_isA ho, h.up.block (ht.block ub h.up.lt (.inr fun o ho' => by rw [ho] at ho'; cases ho'; rfl)), h.lo⟩
theorem dump_types (q : Obj -> Bool) (h1 : ∀ a f, q (.cells a 61 f) = false) (h2 : ∀ a f, q (.cells a 9 f) = false) (h3 : ∀ a f, q (.cells a 3 f) = false) : ∀ a t f, t = 61 ∨ t = 9 ∨ t = 3 -> q (.cells a t f) = false := fun a t f h => by
 rcases h with rfl | rfl | rfl
 . exact h1 _ _
 . exact h2 _ _
 . exact h3 _ _
theorem bytes_new (w : World) (t : ByteArray) (hi : Nat) : ∃ p c w', (convert 9 69 (.string t)).run Tryz.prog w = .ok (.slice p t.data.toList.length c) w' /\ t.data.toList.length <= c /\ At w' p (bytesV t.data.toList) /\ Off (.up hi) w' p /\ Below w.heap.size w w' := by
 have hrun := Lib.run_convert_string_bytes (P := Tryz.prog) w 9 69 5 t Tryz.underlying9 Tryz.underlying69 Tryz.underlying5
 have hat : BytAt t.data.toList (.slice (some ⟨w.heap.size, 0, none⟩) t.size (grownCap w t.size 0 5)) (Lib.bytesWorld w 5 t) := by
   refine ⟨w.heap.size, _, _, _, by rw [size_list], by rw [size_list]; exact grownCap_ge _ _ _ _, Lib.bytesWorld_at_new w _ t, fun j u hu => ?_⟩
   have hj : j < t.data.toList.length := by have := (List.getElem?_eq_some_iff.1 hu).1; simpa using this
   rw [List.getElem?_map, List.getElem?_eq_getElem hj] at hu
   simp only [Option.map_some, Option.some.injEq] at hu
   have hj2 : j < t.data.size := by simpa using hj
   unfold Lib.bytesCells
   rw [Array.getElem?_append_left (by simpa using hj2), Array.getElem?_map, Array.getElem?_eq_getElem hj2, <- hu]
   simp [byteV]
 obtain ⟨p, c, e, h1, h2, h3⟩ := BytAt.at (hi := hi) hat
 exact ⟨p, c, _, by rw [hrun, e], h1, h2, h3, rfl, rfl, rfl, by rw [Lib.bytesWorld_size]; omega, fun k hk => Lib.bytesWorld_at_old w _ t k hk⟩
section
variable {s : SS} {U : Int -> Int}
theorem create_stay {d : Int} {nm : ByteArray} {kind : Int} {t : ByteArray} (h : createE s d nm kind t ≠ 0) : createT s d nm kind t = s /\ createTU s U d nm kind t = U := ⟨if_neg h, if_neg fun h7 => h h7.1⟩
theorem link_stay {d : Int} {nm : ByteArray} {k : Int} (h : linkE s d nm k ≠ 0) : linkT s d nm k = s /\ U = U := ⟨if_neg h, rfl⟩
theorem unl_stay {d : Int} {nm : ByteArray} (h : unlinkE s d nm ≠ 0) : unlT s d nm = s /\ unlTU s U d nm = U := ⟨if_neg h, if_neg h⟩
theorem rmd_stay {d : Int} {nm : ByteArray} (h : rmdirE s d nm ≠ 0) : rmdT s d nm = s /\ rmdTU s U d nm = U := ⟨if_neg h, if_neg h⟩
theorem ren_stay {d1 : Int} {n1 : ByteArray} {d2 : Int} {n2 : ByteArray} (h : renE s d1 n1 d2 n2 ≠ 0) : renT s d1 n1 d2 n2 = s /\ renTU s U d1 n1 d2 n2 = U := by
 have : ¬ renDo s d1 n1 d2 n2 = true := fun h7 => by
   unfold renDo at h7
   exact h (of_decide_eq_true h7).1
 exact ⟨if_neg this, if_neg this⟩
theorem write_stay {x off : Int} {B : List UInt8} (h : ((writeE s x off B : Nat) : Int) ≠ 0) : writeS s x off B = s /\ U = U := by
 refine ⟨?_, rfl⟩
 unfold writeE at h
 unfold writeS
 cases hx : look s x with
 | none => rfl
 | some y =>
   obtain ⟨i, n⟩ := y
   rw [hx] at h
   show (if n.kind = 1 then _ else s) = s
   by_cases hk : n.kind = 1
   . have h' : wrF n.f.h off B.length s.bl ≠ 0 := fun e => h (by show (((if n.kind = 1 then _ else 22 : Nat) : Nat) : Int) = 0; rw [if_pos hk, e]; rfl)
     have e : n.f.wrote off B s.bl = n.f := by
       unfold St.wrote
       rw [if_neg fun h7 => h' h7.1]
     obtain ⟨hi, en, _, _⟩ := look_some hx
     rw [if_pos hk, e]
     unfold SS.set
     show ({ s with L := s.L.set i n } : SS) = s
     rw [en, List.set_getElem_self]
   . exact if_neg hk
end
set_option maxRecDepth 100000 in
set_option maxHeartbeats 16000000 in
theorem stays_walk (pa : Option Addr) (ca : Nat) (l : List Act7) (y : Act7) (w : World) (_hca : l.length <= ca) (_hla : l.length <= 9223372036854775807) (hat : At w pa (actsV7 l)) (hok : ∀ x ∈ l, Act7Ok x) (hy : Act7Ok y) :
   Calls Tryz.prog 6 #[.slice pa l.length ca, .agg y.cells.toArray] w fun e w' => e = .returned (.bool true) /\ Below w.heap.size w w' := by
 have HX0 : Hid (Blk (w.alloc (.cells y.cells.toArray 30)) w.heap.size 30 (actC y.k y.d y.n1 y.n2 y.a)) := Blk.new w _ _
 have HB0 : Hid (Below w.heap.size w (w.alloc (.cells y.cells.toArray 30))) := on_alloc w _
 have HAT : Hid (At w pa (actsV7 l)) := hat
 have HOK : Hid (∀ x ∈ l, Act7Ok x) := hok
 have HY : Hid (Act7Ok y) := hy
 have HQ : Hid (∀ w', Below w.heap.size w w' -> (fun e w' => e = Ending.returned (.bool true) /\ Below w.heap.size w w') (Ending.returned (.bool true)) w') := fun w' h => ⟨rfl, h⟩
 generalize (fun e w' => e = Ending.returned (.bool true) /\ Below w.heap.size w w') = Post at *
 have cB := fun w => begins7 9 5 w (by omega) (by omega)
 have hN : bgN7 9 = 10 := by decide
 have hBB : bgB7 5 = 5 := by decide
 rw [hN, hBB] at cB
 have cL := lives7
 obtain ⟨yk, yd, y1, y2, ya⟩ := y
 unfold Act7.cells actC at *
 simp only at *
 clear hat hok hy hN hBB
 go_enter Tryz.func6, Tryz.ntmps6
 go_wp2_with fail
 generalize w.alloc (.cells #[.int .i64 yk, .int .i64 yd, .string y1, .string y2, .int .i64 ya] 30) = w0 at *
 refine (cB _).mono ?_
 rintro e w1 ⟨fb, rb, rfl, hS1, hR1, hB1⟩
 have HI1 : Hid (∃ s U, FsAt w0.heap.size w1 fb 1 s U /\ RefAt6 w0.heap.size w1 rb s /\ FsOk s U 1 /\ Below w0.heap.size w0 w1) := ⟨_, _, hS1, hR1, ok_new (by omega), hB1⟩
 generalize hbx : w.heap.size = bx at *
 have HBX : Hid (w.heap.size = bx) := hbx
 clear hS1 hR1 hB1 cB hbx
 go_wp2
 go_loopw [7] (fun i wr => ∃ k : Nat, k <= l.length /\ k <= 60 /\ i = .int .i64 (k : Int) /\ Hid (∃ s U, FsAt w0.heap.size wr fb (4 * k + 1) s U /\ RefAt6 w0.heap.size wr rb s /\ FsOk s U (4 * k + 1) /\ Below w0.heap.size w0 wr)) (fun i _ => 60 - (intOf i).toNat)
 case atStart => exact ⟨0, Nat.zero_le _, by omega, rfl, HI1⟩
 case round =>
   clear HI1
   obtain ⟨k, hk, hk60, rfl, HI⟩ := hrel
   obtain ⟨s, U, hS, hR, hf, hB⟩ := HI.out
   have HS : Hid (FsAt w0.heap.size wr fb (4 * k + 1) s U) := hS
   have HR : Hid (RefAt6 w0.heap.size wr rb s) := hR
   have HB : Hid (Below w0.heap.size w0 wr) := hB
   have HF : Hid (FsOk s U (4 * k + 1)) := hf
   clear HI hS hR hf hB
   by_cases hlt : k < l.length /\ k < 60
   . have hltz : (k : Int) < (l.length : Int) := by omega
     have hkz : (k : Int) < 60 := by omega
     have hkl : k < l.length := hlt.1
     have hBw : Below w.heap.size w wr := by rw [HBX.out]; exact HB0.out.trans (HB.out.mono (by have := HB0.out.size; have := HBX.out; omega))
     have hokk := HOK.out _ (List.getElem_mem hkl)
     obtain ⟨g, off, rfl, a0, a1, a2, a3, a4⟩ := act_cells7 HAT.out hBw hkl
     have cD := does7 l[k].k l[k].d l[k].n1 l[k].n2 l[k].a _ HS.out HR.out HF.out HF.out.rf (by omega) (by omega) hokk.kw hokk.dw hokk.aw hokk.w1 hokk.w2
     unfold actC at cD
     clear hlt hBw hokk
     go_wp2_with fail
     refine cD.mono ?_
     rintro e w2 ⟨b2, s2, U2, m2, rfl, hS2, hR2, hf2, _, heq, ht2⟩
     obtain ⟨rfl, rfl⟩ := heq rfl
     have HI2 : Hid (∃ s U, FsAt w0.heap.size w2 fb (4 * (k + 1) + 1) s U /\ RefAt6 w0.heap.size w2 rb s /\ FsOk s U (4 * (k + 1) + 1) /\ Below w0.heap.size w0 w2) := ⟨_, _, hS2.more (by omega), hR2, hf2.more (by omega), ht2.below HB.out (Nat.le_refl _) HB.out.size⟩
     clear hS2 hR2 hf2 heq ht2 cD HS HR HB HF
     go_wp2
     go_roundw
     case rel => exact ⟨k + 1, by omega, by omega, by go_num, HI2⟩
     case measure => simp [intOf]; omega
   . have HC : Hid (4 * k + 1 <= 241) := by show _ <= _; omega
     have hXr : Blk wr bx 30 [.int .i64 yk, .int .i64 yd, .string y1, .string y2, .int .i64 ya] := ⟨(HB.out.block bx HX0.out.lt).trans HX0.out.row⟩
     have HXR : Hid _ := hXr
     have HLT : Hid (bx < w0.heap.size) := HX0.out.lt
     have HBW : Hid (∀ w', Below w0.heap.size wr w' -> Below bx w w') := fun w' h => HB0.out.trans ((HB.out.trans h).mono (by have := HB0.out.size; have := HBX.out; omega))
     have HSZ : Hid (w0.heap.size <= wr.heap.size) := HB.out.size
     have cM := dump7 HS.out HF.out.wf (by have := HC.out; omega) HF.out.tree
     have cS := fun w => short7 yk yd y1 y2 ya w HY.out.kw HY.out.aw HY.out.w1 HY.out.w2
     unfold actC at cS
     have hkw := HY.out.kw
     have hdw := HY.out.dw
     clear hXr HAT HOK HY HR HB
     generalize 4 * k + 1 = c at *
     have hex : (¬ (k : Int) < (l.length : Int)) ∨ ((k : Int) < (l.length : Int) /\ ¬ (k : Int) < 60) := by omega
     clear hlt hk hk60
     rcases hex with hex | ⟨hex, hex2⟩
     all_goals
       go_wp2_with fail
       refine cM.mono ?_
       rintro e w2 ⟨v, Q, rfl, hD2, hb2⟩
       obtain ⟨pv, cv, ev, _⟩ := rowS_at hD2.row
       generalize Q.length = lQ at ev
       subst ev
       have HD2 : Hid (∃ Q, DumpM wr.heap.size U s w2 (.slice pv lQ cv) Q s.L) := ⟨Q, hD2⟩
       have HS2 : Hid (FsAt w0.heap.size w2 fb c s U) := HS.out.on hb2
       have HX2 : Hid _ := HXR.out.on hb2
       have HB2 : Hid (Below w0.heap.size wr w2) := hb2.mono HSZ.out
       have x0 := HX2.out.cell 0 rfl
       have x1 := HX2.out.cell 1 rfl
       have x2 := HX2.out.cell 2 rfl
       have x3 := HX2.out.cell 3 rfl
       have x4 := HX2.out.cell 4 rfl
       clear hD2 cM hb2
       go_wp2_with fail
       refine (cS _).mono ?_
       rintro e w3 ⟨n1, n2, a, rfl, hn1, hn2, haw, hb3⟩
       have hX3 := HX2.out.on hb3
       have HX4 : Hid (Blk (putL w3 bx 0 [.int .i64 yk, .int .i64 yd, .string n1, .string n2, .int .i64 a]) bx 30 [.int .i64 yk, .int .i64 yd, .string n1, .string n2, .int .i64 a]) := hX3.put _ rfl
       have tA : Turns isA (.up 0) w3 (putL w3 bx 0 [.int .i64 yk, .int .i64 yd, .string n1, .string n2, .int .i64 a]) := .of_but (but_putL _ _ _ _) hX3.row rfl (Nat.zero_le _)
       have HS4 : Hid (FsAt w0.heap.size (putL w3 bx 0 [.int .i64 yk, .int .i64 yd, .string n1, .string n2, .int .i64 a]) fb c s U) := (HS2.out.on hb3).turnsA tA
       have HD4 : Hid (∃ Q, DumpM wr.heap.size U s (putL w3 bx 0 [.int .i64 yk, .int .i64 yd, .string n1, .string n2, .int .i64 a]) (.slice pv lQ cv) Q s.L) := by
         obtain ⟨Q, hD⟩ := HD2.out
         exact ⟨Q, (hD.on hb3).turns tA (dump_types _ (fun _ _ => rfl) (fun _ _ => rfl) fun _ _ => rfl)⟩
       have HB4 : Hid (Below bx w (putL w3 bx 0 [.int .i64 yk, .int .i64 yd, .string n1, .string n2, .int .i64 a])) := below_but (HBW.out _ (HB2.out.trans (hb3.mono (Nat.le_trans HSZ.out HB2.out.size)))) (but_putL _ _ _ _) (Nat.le_refl _)
       have HSZ4 : Hid (w0.heap.size <= (putL w3 bx 0 [.int .i64 yk, .int .i64 yd, .string n1, .string n2, .int .i64 a]).heap.size) := by
         have h7 := (but_putL bx [.int .i64 yk, .int .i64 yd, .string n1, .string n2, .int .i64 a] w3 0).size
         have h8 := HSZ.out
         have h9 := HB2.out.size
         have h10 := hb3.size
         show _ <= _
         omega
       have f0 := hX3.free 0
       have u0 := hX3.cell 0 rfl
       have z0 := HX4.out.cell 0 rfl
       have f1 := hX3.free 1
       have u1 := hX3.cell 1 rfl
       have z1 := HX4.out.cell 1 rfl
       have f2 := hX3.free 2
       have u2 := hX3.cell 2 rfl
       have z2 := HX4.out.cell 2 rfl
       have f3 := hX3.free 3
       have u3 := hX3.cell 3 rfl
       have z3 := HX4.out.cell 3 rfl
       have f4 := hX3.free 4
       have u4 := hX3.cell 4 rfl
       have z4 := HX4.out.cell 4 rfl
       simp only [putL] at HX4 HS4 HD4 HB4 HSZ4 z0 z1 z2 z3 z4
       clear hX3 hb3 cS x0 x1 x2 x3 x4 tA HS2 HX2 HD2 HB2
       unfold actC
       go_wp2_with fail
       generalize ((((w3.setCell ⟨bx, 0, none⟩ (.int .i64 yk)).setCell ⟨bx, 0 + 1, none⟩ (.int .i64 yd)).setCell ⟨bx, 0 + 1 + 1, none⟩ (.string n1)).setCell ⟨bx, 0 + 1 + 1 + 1, none⟩ (.string n2)).setCell ⟨bx, 0 + 1 + 1 + 1 + 1, none⟩ (.int .i64 a) = w4 at *
       clear f0 f1 f2 f3 f4 u0 u1 u2 u3 u4
       have cK := kind7 yk w4 hkw
       refine cK.mono ?_
       rintro e w6 ⟨r, hr8, rfl, hw6⟩
       subst w6
       have hcase : r = 0 ∨ r = 1 ∨ r = 2 ∨ r = 3 ∨ r = 4 ∨ 5 <= r := by omega
       clear cK
       have HNS : Hid (n1.size <= 10000 /\ n2.size <= 10000 /\ n1.data.toList.length <= 1000000 /\ c <= 800) := ⟨by omega, by omega, by rw [size_list]; show n1.size <= _; omega, by have := HC.out; omega⟩
       clear hn1 hn2
       rcases hcase with rfl | rfl | rfl | rfl | rfl | hr5
       . have cP := pcreate HS4.out HF.out HNS.out.2.2.2 yd hdw n1 HNS.out.1 a n2 HNS.out.2.1
         clear hr8
         go_wp2_with fail
         refine cP.mono ?_
         rintro e w5 ⟨rfl, h5, t5⟩
         have HE : Hid (createE s yd n1 a n2 ≠ 0 -> FsAt w0.heap.size w5 fb (c + 4) s U) := fun hne => by
           have := create_stay (U := U) hne
           rw [this.1, this.2] at h5
           exact h5
         generalize createE s yd n1 a n2 = E5 at *
         have HD5 : Hid (∃ Q, DumpM wr.heap.size U s w5 (.slice pv lQ cv) Q s.L) := by
           obtain ⟨Q, hD⟩ := HD4.out
           exact ⟨Q, hD.turns t5 (dump_types _ (fun _ _ => rfl) (fun _ _ => rfl) fun _ _ => rfl)⟩
         have HB5 : Hid (Below bx w w5) := t5.below HB4.out (Nat.le_of_lt HLT.out) (by have := HSZ4.out; have := HLT.out; omega)
         have HSZ5 : Hid (bx <= w5.heap.size) := by have := HSZ4.out; have := HLT.out; have := t5.size; show _ <= _; omega
         clear h5 t5 cP HS4 HD4 HB4 HX4 z0 z1 z2 z3 z4
         by_cases hE : E5 = 0
         . subst hE
           go_wp2_with fail
           refine (cL _).mono ?_
           rintro e w6 ⟨rfl, hb6⟩
           have hz := HQ.out w6 (HB5.out.trans (hb6.mono HSZ5.out))
           go_wp2
           exact hz
         . have hEb : (E5 == 0) = false := by simpa using hE
           have cM2 := dump7 (HE.out hE) (HF.out.wf.more (show c <= c + 4 by omega)) (by have := HC.out; omega) HF.out.tree
           go_wp2_with fail
           refine cM2.mono ?_
           rintro e w6 ⟨v2, Q2, rfl, hD6, hb6⟩
           obtain ⟨Q, hD⟩ := HD5.out
           have cSm := same7 (hD.on hb6) hD6 (by have := HF.out.wf.room; have := HF.out.wf.most; omega) HF.out.wf.ds
           have HB6 : Hid (Below bx w w6) := HB5.out.trans (hb6.mono HSZ5.out)
           have HSZ6 : Hid (bx <= w6.heap.size) := Nat.le_trans HSZ5.out hb6.size
           clear hD hD6 hb6 cM2
           go_wp2_with fail
           refine cSm.mono ?_
           rintro e w7 ⟨rfl, hb7⟩
           have HB7 : Hid (Below bx w w7) := HB6.out.trans (hb7.mono HSZ6.out)
           have HSZ7 : Hid (bx <= w7.heap.size) := Nat.le_trans HSZ6.out hb7.size
           clear hb7 cSm
           go_wp2_with fail
           refine (cL _).mono ?_
           rintro e w8 ⟨rfl, hb8⟩
           have hz := HQ.out w8 (HB7.out.trans (hb8.mono HSZ7.out))
           go_wp2
           exact hz
       . have cP := plink HS4.out HF.out HNS.out.2.2.2 yd hdw n1 HNS.out.1 a haw
         clear hr8
         go_wp2_with fail
         refine cP.mono ?_
         rintro e w5 ⟨rfl, h5, t5⟩
         have HE : Hid (linkE s yd n1 a ≠ 0 -> FsAt w0.heap.size w5 fb (c + 4) s U) := fun hne => by
           have := link_stay (U := U) hne
           rw [this.1] at h5
           exact h5
         generalize linkE s yd n1 a = E5 at *
         have HD5 : Hid (∃ Q, DumpM wr.heap.size U s w5 (.slice pv lQ cv) Q s.L) := by
           obtain ⟨Q, hD⟩ := HD4.out
           exact ⟨Q, hD.turns t5 (dump_types _ (fun _ _ => rfl) (fun _ _ => rfl) fun _ _ => rfl)⟩
         have HB5 : Hid (Below bx w w5) := t5.below HB4.out (Nat.le_of_lt HLT.out) (by have := HSZ4.out; have := HLT.out; omega)
         have HSZ5 : Hid (bx <= w5.heap.size) := by have := HSZ4.out; have := HLT.out; have := t5.size; show _ <= _; omega
         clear h5 t5 cP HS4 HD4 HB4 HX4 z0 z1 z2 z3 z4
         by_cases hE : E5 = 0
         . subst hE
           go_wp2_with fail
           refine (cL _).mono ?_
           rintro e w6 ⟨rfl, hb6⟩
           have hz := HQ.out w6 (HB5.out.trans (hb6.mono HSZ5.out))
           go_wp2
           exact hz
         . have hEb : (E5 == 0) = false := by simpa using hE
           have cM2 := dump7 (HE.out hE) (HF.out.wf.more (show c <= c + 4 by omega)) (by have := HC.out; omega) HF.out.tree
           go_wp2_with fail
           refine cM2.mono ?_
           rintro e w6 ⟨v2, Q2, rfl, hD6, hb6⟩
           obtain ⟨Q, hD⟩ := HD5.out
           have cSm := same7 (hD.on hb6) hD6 (by have := HF.out.wf.room; have := HF.out.wf.most; omega) HF.out.wf.ds
           have HB6 : Hid (Below bx w w6) := HB5.out.trans (hb6.mono HSZ5.out)
           have HSZ6 : Hid (bx <= w6.heap.size) := Nat.le_trans HSZ5.out hb6.size
           clear hD hD6 hb6 cM2
           go_wp2_with fail
           refine cSm.mono ?_
           rintro e w7 ⟨rfl, hb7⟩
           have HB7 : Hid (Below bx w w7) := HB6.out.trans (hb7.mono HSZ6.out)
           have HSZ7 : Hid (bx <= w7.heap.size) := Nat.le_trans HSZ6.out hb7.size
           clear hb7 cSm
           go_wp2_with fail
           refine (cL _).mono ?_
           rintro e w8 ⟨rfl, hb8⟩
           have hz := HQ.out w8 (HB7.out.trans (hb8.mono HSZ7.out))
           go_wp2
           exact hz
       . have cP := punlink HS4.out HF.out HNS.out.2.2.2 yd hdw n1 HNS.out.1
         clear hr8
         go_wp2_with fail
         refine cP.mono ?_
         rintro e w5 ⟨rfl, h5, t5⟩
         have HE : Hid (unlinkE s yd n1 ≠ 0 -> FsAt w0.heap.size w5 fb (c + 4) s U) := fun hne => by
           have := unl_stay (U := U) hne
           rw [this.1, this.2] at h5
           exact h5
         generalize unlinkE s yd n1 = E5 at *
         have HD5 : Hid (∃ Q, DumpM wr.heap.size U s w5 (.slice pv lQ cv) Q s.L) := by
           obtain ⟨Q, hD⟩ := HD4.out
           exact ⟨Q, hD.turns t5 (dump_types _ (fun _ _ => rfl) (fun _ _ => rfl) fun _ _ => rfl)⟩
         have HB5 : Hid (Below bx w w5) := t5.below HB4.out (Nat.le_of_lt HLT.out) (by have := HSZ4.out; have := HLT.out; omega)
         have HSZ5 : Hid (bx <= w5.heap.size) := by have := HSZ4.out; have := HLT.out; have := t5.size; show _ <= _; omega
         clear h5 t5 cP HS4 HD4 HB4 HX4 z0 z1 z2 z3 z4
         by_cases hE : E5 = 0
         . subst hE
           go_wp2_with fail
           refine (cL _).mono ?_
           rintro e w6 ⟨rfl, hb6⟩
           have hz := HQ.out w6 (HB5.out.trans (hb6.mono HSZ5.out))
           go_wp2
           exact hz
         . have hEb : (E5 == 0) = false := by simpa using hE
           have cM2 := dump7 (HE.out hE) (HF.out.wf.more (show c <= c + 4 by omega)) (by have := HC.out; omega) HF.out.tree
           go_wp2_with fail
           refine cM2.mono ?_
           rintro e w6 ⟨v2, Q2, rfl, hD6, hb6⟩
           obtain ⟨Q, hD⟩ := HD5.out
           have cSm := same7 (hD.on hb6) hD6 (by have := HF.out.wf.room; have := HF.out.wf.most; omega) HF.out.wf.ds
           have HB6 : Hid (Below bx w w6) := HB5.out.trans (hb6.mono HSZ5.out)
           have HSZ6 : Hid (bx <= w6.heap.size) := Nat.le_trans HSZ5.out hb6.size
           clear hD hD6 hb6 cM2
           go_wp2_with fail
           refine cSm.mono ?_
           rintro e w7 ⟨rfl, hb7⟩
           have HB7 : Hid (Below bx w w7) := HB6.out.trans (hb7.mono HSZ6.out)
           have HSZ7 : Hid (bx <= w7.heap.size) := Nat.le_trans HSZ6.out hb7.size
           clear hb7 cSm
           go_wp2_with fail
           refine (cL _).mono ?_
           rintro e w8 ⟨rfl, hb8⟩
           have hz := HQ.out w8 (HB7.out.trans (hb8.mono HSZ7.out))
           go_wp2
           exact hz
       . have cP := prmdir HS4.out HF.out HNS.out.2.2.2 yd hdw n1 HNS.out.1
         clear hr8
         go_wp2_with fail
         refine cP.mono ?_
         rintro e w5 ⟨rfl, h5, t5⟩
         have HE : Hid (rmdirE s yd n1 ≠ 0 -> FsAt w0.heap.size w5 fb (c + 4) s U) := fun hne => by
           have := rmd_stay (U := U) hne
           rw [this.1, this.2] at h5
           exact h5
         generalize rmdirE s yd n1 = E5 at *
         have HD5 : Hid (∃ Q, DumpM wr.heap.size U s w5 (.slice pv lQ cv) Q s.L) := by
           obtain ⟨Q, hD⟩ := HD4.out
           exact ⟨Q, hD.turns t5 (dump_types _ (fun _ _ => rfl) (fun _ _ => rfl) fun _ _ => rfl)⟩
         have HB5 : Hid (Below bx w w5) := t5.below HB4.out (Nat.le_of_lt HLT.out) (by have := HSZ4.out; have := HLT.out; omega)
         have HSZ5 : Hid (bx <= w5.heap.size) := by have := HSZ4.out; have := HLT.out; have := t5.size; show _ <= _; omega
         clear h5 t5 cP HS4 HD4 HB4 HX4 z0 z1 z2 z3 z4
         by_cases hE : E5 = 0
         . subst hE
           go_wp2_with fail
           refine (cL _).mono ?_
           rintro e w6 ⟨rfl, hb6⟩
           have hz := HQ.out w6 (HB5.out.trans (hb6.mono HSZ5.out))
           go_wp2
           exact hz
         . have hEb : (E5 == 0) = false := by simpa using hE
           have cM2 := dump7 (HE.out hE) (HF.out.wf.more (show c <= c + 4 by omega)) (by have := HC.out; omega) HF.out.tree
           go_wp2_with fail
           refine cM2.mono ?_
           rintro e w6 ⟨v2, Q2, rfl, hD6, hb6⟩
           obtain ⟨Q, hD⟩ := HD5.out
           have cSm := same7 (hD.on hb6) hD6 (by have := HF.out.wf.room; have := HF.out.wf.most; omega) HF.out.wf.ds
           have HB6 : Hid (Below bx w w6) := HB5.out.trans (hb6.mono HSZ5.out)
           have HSZ6 : Hid (bx <= w6.heap.size) := Nat.le_trans HSZ5.out hb6.size
           clear hD hD6 hb6 cM2
           go_wp2_with fail
           refine cSm.mono ?_
           rintro e w7 ⟨rfl, hb7⟩
           have HB7 : Hid (Below bx w w7) := HB6.out.trans (hb7.mono HSZ6.out)
           have HSZ7 : Hid (bx <= w7.heap.size) := Nat.le_trans HSZ6.out hb7.size
           clear hb7 cSm
           go_wp2_with fail
           refine (cL _).mono ?_
           rintro e w8 ⟨rfl, hb8⟩
           have hz := HQ.out w8 (HB7.out.trans (hb8.mono HSZ7.out))
           go_wp2
           exact hz
       . have cP := prename HS4.out HF.out HNS.out.2.2.2 yd a hdw haw n1 n2 HNS.out.1 HNS.out.2.1
         clear hr8
         go_wp2_with fail
         refine cP.mono ?_
         rintro e w5 ⟨rfl, h5, t5⟩
         have HE : Hid (renE s yd n1 a n2 ≠ 0 -> FsAt w0.heap.size w5 fb (c + 4) s U) := fun hne => by
           have := ren_stay (U := U) hne
           rw [this.1, this.2] at h5
           exact h5
         generalize renE s yd n1 a n2 = E5 at *
         have HD5 : Hid (∃ Q, DumpM wr.heap.size U s w5 (.slice pv lQ cv) Q s.L) := by
           obtain ⟨Q, hD⟩ := HD4.out
           exact ⟨Q, hD.turns t5 (dump_types _ (fun _ _ => rfl) (fun _ _ => rfl) fun _ _ => rfl)⟩
         have HB5 : Hid (Below bx w w5) := t5.below HB4.out (Nat.le_of_lt HLT.out) (by have := HSZ4.out; have := HLT.out; omega)
         have HSZ5 : Hid (bx <= w5.heap.size) := by have := HSZ4.out; have := HLT.out; have := t5.size; show _ <= _; omega
         clear h5 t5 cP HS4 HD4 HB4 HX4 z0 z1 z2 z3 z4
         by_cases hE : E5 = 0
         . subst hE
           go_wp2_with fail
           refine (cL _).mono ?_
           rintro e w6 ⟨rfl, hb6⟩
           have hz := HQ.out w6 (HB5.out.trans (hb6.mono HSZ5.out))
           go_wp2
           exact hz
         . have hEb : (E5 == 0) = false := by simpa using hE
           have cM2 := dump7 (HE.out hE) (HF.out.wf.more (show c <= c + 4 by omega)) (by have := HC.out; omega) HF.out.tree
           go_wp2_with fail
           refine cM2.mono ?_
           rintro e w6 ⟨v2, Q2, rfl, hD6, hb6⟩
           obtain ⟨Q, hD⟩ := HD5.out
           have cSm := same7 (hD.on hb6) hD6 (by have := HF.out.wf.room; have := HF.out.wf.most; omega) HF.out.wf.ds
           have HB6 : Hid (Below bx w w6) := HB5.out.trans (hb6.mono HSZ5.out)
           have HSZ6 : Hid (bx <= w6.heap.size) := Nat.le_trans HSZ5.out hb6.size
           clear hD hD6 hb6 cM2
           go_wp2_with fail
           refine cSm.mono ?_
           rintro e w7 ⟨rfl, hb7⟩
           have HB7 : Hid (Below bx w w7) := HB6.out.trans (hb7.mono HSZ6.out)
           have HSZ7 : Hid (bx <= w7.heap.size) := Nat.le_trans HSZ6.out hb7.size
           clear hb7 cSm
           go_wp2_with fail
           refine (cL _).mono ?_
           rintro e w8 ⟨rfl, hb8⟩
           have hz := HQ.out w8 (HB7.out.trans (hb8.mono HSZ7.out))
           go_wp2
           exact hz
       . obtain ⟨pb, cb, w4b, hrun, hcb, hatb, hob, hbb⟩ := bytes_new w4 n1 w0.heap.size
         have cP := pwrite (HS4.out.on hbb) HF.out yd a hdw haw pb cb n1.data.toList HNS.out.2.2.1 hcb hatb hob
         have HD4 : Hid (∃ Q, DumpM wr.heap.size U s w4b (.slice pv lQ cv) Q s.L) := by
           obtain ⟨Q, hD⟩ := HD4.out
           exact ⟨Q, hD.on hbb⟩
         have HB4 : Hid (Below bx w w4b) := HB4.out.trans (hbb.mono (by have := HSZ4.out; have := HLT.out; omega))
         have HSZ4 : Hid (w0.heap.size <= w4b.heap.size) := Nat.le_trans HSZ4.out hbb.size
         clear hcb hatb hob hbb
         go_wp2_with fail
         refine cP.mono ?_
         rintro e w5 ⟨rfl, h5, t5⟩
         have HE : Hid (((writeE s yd a n1.data.toList : Nat) : Int) ≠ 0 -> FsAt w0.heap.size w5 fb (c + 4) s U) := fun hne => by
           have := write_stay (U := U) hne
           rw [this.1] at h5
           exact h5
         generalize ((writeE s yd a n1.data.toList : Nat) : Int) = E5 at *
         have HD5 : Hid (∃ Q, DumpM wr.heap.size U s w5 (.slice pv lQ cv) Q s.L) := by
           obtain ⟨Q, hD⟩ := HD4.out
           exact ⟨Q, hD.turns t5 (dump_types _ (fun _ _ => rfl) (fun _ _ => rfl) fun _ _ => rfl)⟩
         have HB5 : Hid (Below bx w w5) := t5.below HB4.out (Nat.le_of_lt HLT.out) (by have := HSZ4.out; have := HLT.out; omega)
         have HSZ5 : Hid (bx <= w5.heap.size) := by have := HSZ4.out; have := HLT.out; have := t5.size; show _ <= _; omega
         clear h5 t5 cP HS4 HD4 HB4 HX4 z0 z1 z2 z3 z4
         by_cases hE : E5 = 0
         . subst hE
           go_wp2_with fail
           refine (cL _).mono ?_
           rintro e w6 ⟨rfl, hb6⟩
           have hz := HQ.out w6 (HB5.out.trans (hb6.mono HSZ5.out))
           go_wp2
           exact hz
         . have hEb : (E5 == 0) = false := by simpa using hE
           have cM2 := dump7 (HE.out hE) (HF.out.wf.more (show c <= c + 4 by omega)) (by have := HC.out; omega) HF.out.tree
           go_wp2_with fail
           refine cM2.mono ?_
           rintro e w6 ⟨v2, Q2, rfl, hD6, hb6⟩
           obtain ⟨Q, hD⟩ := HD5.out
           have cSm := same7 (hD.on hb6) hD6 (by have := HF.out.wf.room; have := HF.out.wf.most; omega) HF.out.wf.ds
           have HB6 : Hid (Below bx w w6) := HB5.out.trans (hb6.mono HSZ5.out)
           have HSZ6 : Hid (bx <= w6.heap.size) := Nat.le_trans HSZ5.out hb6.size
           clear hD hD6 hb6 cM2
           go_wp2_with fail
           refine cSm.mono ?_
           rintro e w7 ⟨rfl, hb7⟩
           have HB7 : Hid (Below bx w w7) := HB6.out.trans (hb7.mono HSZ6.out)
           have HSZ7 : Hid (bx <= w7.heap.size) := Nat.le_trans HSZ6.out hb7.size
           clear hb7 cSm
           go_wp2_with fail
           refine (cL _).mono ?_
           rintro e w8 ⟨rfl, hb8⟩
           have hz := HQ.out w8 (HB7.out.trans (hb8.mono HSZ7.out))
           go_wp2
           exact hz
end Go.Proofs.YtckhkammedbpfaaGreat
