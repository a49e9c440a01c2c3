/- MemfsTree: its walk. -/
import Derived.Test.YtckhkammedbpfaaGreatH2
import Derived.Test.YtckhkammedbpfaaGreatH3
import Derived.Test.YtckhkammedbpfaaGreatH4
namespace Go.Proofs.YtckhkammedbpfaaGreat
open Go Go.RowKit Go.Maps
section
variable {s : SS} {U : Int -> Int} {c : Nat}
theorem up_one (hf : Wf s c) (ht : Tree s) {m : Nd} (h : DirOk s m) : Up s.L m.ino 1 := by
 obtain ⟨r, hr⟩ := ht.rank
 have key : ∀ k, ∀ m, DirOk s m -> r m.ino <= k -> Up s.L m.ino 1 := fun k => by
   induction k with
   | zero =>
     intro m hm hk
     by_cases h1 : m.ino = 1
     . rw [h1]; exact Up.refl _ _
     . obtain ⟨q, _, _, _, hu⟩ := dir_up hf ht hm
       have := hr _ _ (hu h1)
       omega
   | succ k ih =>
     intro m hm hk
     by_cases h1 : m.ino = 1
     . rw [h1]; exact Up.refl _ _
     . obtain ⟨q, hq, _, _, hu⟩ := dir_up hf ht hm
       have := hr _ _ (hu h1)
       exact Up.step (hu h1) (ih q hq (by omega))
 exact key _ m h (Nat.le_refl _)
theorem within_one (hf : Wf s c) (ht : Tree s) {m : Nd} (h : DirOk s m) : withinB s 1 m.ino = true := by
 rw [within_iff ht hf h.1]
 obtain ⟨rn, hrn, er, hk, _⟩ := ht.root
 refine ⟨?_, up_one hf ht h⟩
 have := isDir_mem hf hrn
 rw [er, hk] at this
 exact this
theorem entry_par (h : FsOk s U c) {n m : Nd} (hn : n ∈ s.L) (hm : m ∈ s.L) {e : IEnt} (he : e ∈ n.ds) (h1 : e.2 = (m.ino : Int)) (hk : m.kind = 2) : U m.ino = (n.ino : Int) := by
 obtain ⟨q, hq, h2, h3⟩ := h.tree.there n hn e he
 have : q = m := h.wf.one hq hm (by omega)
 subst this
 rw [h.agree q hq hk (.inr (h.tree.entry hn he hq h1))]
 exact h3 hk
theorem cntE_take {L : List Nd} {k : Nat} (hk : k < L.length) (x : Nat) : cntE (L.take (k + 1)) x = cntE (L.take k) x + cd L[k].ds x := by
 unfold cntE
 rw [show L.take (k + 1) = L.take k ++ [L[k]] by rw [List.take_add_one, List.getElem?_eq_getElem hk]; rfl, List.map_append, List.sum_append]
 simp
theorem cntE_le {L : List Nd} (h : ∀ n ∈ L, n.ds.length <= 64) (x : Nat) : cntE L x <= 64 * L.length := by
 induction L with
 | nil => simp [cntE]
 | cons a r ih =>
   have h1 := ih fun n hn => h n (List.mem_cons_of_mem _ hn)
   have h2 := h a List.mem_cons_self
   have h3 : cd a.ds x <= a.ds.length := List.countP_le_length
   unfold cntE at h1 ⊢
   rw [List.map_cons, List.sum_cons, List.length_cons]
   omega
theorem cd_take {ds : List IEnt} {j : Nat} (hj : j < ds.length) (x : Nat) : cd (ds.take (j + 1)) x = cd (ds.take j) x + if ds[j].2 = (x : Int) then 1 else 0 := by
 rw [List.take_add_one, List.getElem?_eq_getElem hj, cd_append]
 congr 1
 simp only [cd, Option.toList, List.countP_cons, List.countP_nil]
 by_cases h : ds[j].2 = (x : Int)
 . simp [h]
 . simp [h]
theorem cntK_le {L : List Nd} (h : ∀ n ∈ L, n.ds.length <= 64) (hl : L.length <= 256) {k : Nat} (hk : k < L.length) (j x : Nat) : cntE (L.take k) x + cd (L[k].ds.take j) x <= 20000 := by
 have h1 := cntE_le (L := L.take k) (fun n hn => h n (List.mem_of_mem_take hn)) x
 have h2 := h _ (List.getElem_mem hk)
 have h3 : cd (L[k].ds.take j) x <= (L[k].ds.take j).length := List.countP_le_length
 rw [List.length_take] at h1 h3
 omega
end
structure TellAt (U : Int -> Int) (w : World) (b off : Nat) (m : Nd) (k : Nat) (pi : Option Addr) (ci : Nat) : Prop where
 ino : w.cell? ⟨b, off + k * 9, none⟩ = some (.int .i64 (m.ino : Nat))
 kind : w.cell? ⟨b, off + k * 9 + 1, none⟩ = some (.int .i64 (m.kind : Nat))
 links : w.cell? ⟨b, off + k * 9 + 2, none⟩ = some (.int .i64 (m.links : Nat))
 holds : w.cell? ⟨b, off + k * 9 + 3, none⟩ = some (.int .i64 (m.holds : Nat))
 par : w.cell? ⟨b, off + k * 9 + 4, none⟩ = some (.int .i64 (U m.ino))
 inos : w.cell? ⟨b, off + k * 9 + 8, none⟩ = some (.slice pi m.ds.length ci)
 to : At w pi (intsV (m.ds.map (·.2)))
theorem DumpM.tells {lo : Nat} {U : Int -> Int} {s : SS} {w : World} {v : Value} {Q : List DN} {L : List Nd} (h : DumpM lo U s w v Q L) (h0 : 0 < L.length) : ∃ b off cap, v = .slice (some ⟨b, off, none⟩) L.length cap /\ ∀ k (hk : k < L.length), ∃ pi ci, TellAt U w b off L[k] k pi ci := by
 obtain ⟨b, off, cap, _, _, _, _, ev, _⟩ := h.place h0
 refine ⟨b, off, cap, ev, fun k hk => ?_⟩
 obtain ⟨b2, off2, cap2, pn, cn, pi, ci, ev2, _, hc, _, ha⟩ := h.place hk
 rw [ev] at ev2
 cases ev2
 exact ⟨pi, ci, hc 0 (by omega) _ rfl, hc 1 (by omega) _ rfl, hc 2 (by omega) _ rfl, hc 3 (by omega) _ rfl, hc 4 (by omega) _ rfl, hc 8 (by omega) _ rfl, ha⟩
set_option maxRecDepth 100000 in
set_option maxHeartbeats 16000000 in
theorem tree_walk (sa sb : Int) (pa : Option Addr) (ca : Nat) (l : List Act7) (w : World) (hsa : 0 <= sa /\ sa <= 255) (hsb : 0 <= sb /\ sb <= 255) (_hca : l.length <= ca) (_hla : l.length <= 9223372036854775807) (hat : At w pa (actsV7 l)) (hok : ∀ x ∈ l, Act7Ok x) :
   Calls Tryz.prog 5 #[.agg #[.int .u8 sa, .int .u8 sb], .slice pa l.length ca] w fun e w' => e = .returned (.bool true) /\ Below w.heap.size w w' := by
 have hX := Blk.new w 22 [.int .u8 sa, .int .u8 sb]
 have HB0 : Hid (Below w.heap.size w (w.alloc (.cells #[.int .u8 sa, .int .u8 sb] 22))) := on_alloc w _
 have x0 := hX.cell 0 rfl
 have x1 := hX.cell 1 rfl
 have HAT : Hid (At w pa (actsV7 l)) := hat
 have HOK : Hid (∀ x ∈ l, Act7Ok x) := hok
 have HQ : Hid (∀ w', Below w.heap.size w w' -> (fun e w' => e = Ending.returned (.bool true) /\ Below w.heap.size w w') (Ending.returned (.bool true)) w') := fun w' h => ⟨rfl, h⟩
 generalize (fun e w' => e = Ending.returned (.bool true) /\ Below w.heap.size w w') = Post at *
 have cB := fun w => begins7 sa sb w hsa hsb
 have cN : ∀ w, Calls Tryz.prog 26 #[.int .i64 1, .int .i64 0] w (RNewPost 1 0 w) := fun w => rnew7 1 0 w (by omega)
 have HN : Hid (1 <= bgN7 sa /\ bgN7 sa <= 256 /\ bgB7 sb <= 4096) := by unfold bgN7 bgB7; show _ /\ _; omega
 have cL := lives7
 clear hat hok hX
 go_enter Tryz.func5, Tryz.ntmps5
 go_wp2_with fail
 generalize w.alloc (.cells #[.int .u8 sa, .int .u8 sb] 22) = w0 at *
 refine (cB _).mono ?_
 rintro e w1 ⟨fb, rb, rfl, hS1, _, hB1⟩
 have HI1 : Hid (∃ s U, FsAt w0.heap.size w1 fb 1 s U /\ FsOk s U 1 /\ Below w0.heap.size w0 w1) := ⟨_, _, hS1, ok_new HN.out, hB1⟩
 clear hS1 hB1 cB x0 x1
 go_wp2
 go_loopw [7] (fun i wr => ∃ k : Nat, k <= l.length /\ k <= 60 /\ i = .int .i64 (k : Int) /\ Hid (∃ s U, FsAt w0.heap.size wr fb (4 * k + 1) s U /\ FsOk s U (4 * k + 1) /\ Below w0.heap.size w0 wr)) (fun i _ => 60 - (intOf i).toNat)
 case atStart => exact ⟨0, Nat.zero_le _, by omega, rfl, HI1⟩
 case round =>
   clear HI1
   obtain ⟨k, hk, hk60, rfl, HI⟩ := hrel
   obtain ⟨s, U, hS, hf, hB⟩ := HI.out
   have HS : Hid (FsAt w0.heap.size wr fb (4 * k + 1) s U) := hS
   have HB : Hid (Below w0.heap.size w0 wr) := hB
   have HF : Hid (FsOk s U (4 * k + 1)) := hf
   clear HI hS hf hB
   by_cases hlt : k < l.length /\ k < 60
   . have hltz : (k : Int) < (l.length : Int) := by omega
     have hkz : (k : Int) < 60 := by omega
     have hkl : k < l.length := hlt.1
     have hokk := HOK.out _ (List.getElem_mem hkl)
     have HKK : Hid (Act7Ok l[k]) := hokk
     clear hlt hokk
     go_wp2_with fail
     refine (cN _).mono ?_
     rintro e w2 ⟨rb2, rfl, hR2, hb2⟩
     have hBw : Below w.heap.size w w2 := HB0.out.trans ((HB.out.mono HB0.out.size).trans (hb2.mono (Nat.le_trans HB0.out.size HB.out.size)))
     obtain ⟨g, off, rfl, a0, a1, a2, a3, a4⟩ := act_cells7 HAT.out hBw hkl
     have cD := does7 l[k].k l[k].d l[k].n1 l[k].n2 l[k].a _ (HS.out.on hb2) (hR2.low HB.out.size) HF.out (ok_new (by omega)).rf (by omega) (by omega) HKK.out.kw HKK.out.dw HKK.out.aw HKK.out.w1 HKK.out.w2
     have HB2 : Hid (Below w0.heap.size w0 w2) := HB.out.trans (hb2.mono HB.out.size)
     unfold actC at cD
     clear hBw hb2 hR2
     go_wp2_with fail
     refine cD.mono ?_
     rintro e w3 ⟨b3, s3, U3, m3, rfl, hS3, _, hf3, _, _, ht3⟩
     have HI2 : Hid (∃ s U, FsAt w0.heap.size w3 fb (4 * (k + 1) + 1) s U /\ FsOk s U (4 * (k + 1) + 1) /\ Below w0.heap.size w0 w3) := ⟨_, _, hS3.more (by omega), hf3.more (by omega), ht3.below HB2.out (Nat.le_refl _) HB2.out.size⟩
     clear hS3 hf3 ht3 cD HS HB HF HB2
     go_wp2
     go_roundw
     case rel => exact ⟨k + 1, by omega, by omega, by go_num, HI2⟩
     case measure => simp [intOf]; omega
   . have HC : Hid (4 * k + 1 <= 241) := by show _ <= _; omega
     have cM := dump7 HS.out HF.out.wf (by have := HC.out; omega) HF.out.tree
     have HBW : Hid (Below w.heap.size w wr /\ w.heap.size <= wr.heap.size) := ⟨HB0.out.trans (HB.out.mono HB0.out.size), Nat.le_trans HB0.out.size HB.out.size⟩
     have hL0 : 0 < s.L.length := by
       obtain ⟨rn, hrn, _⟩ := HF.out.tree.root
       exact List.length_pos_of_mem hrn
     have hL1 : s.L.length <= 256 := by have := HF.out.wf.room; have := HF.out.wf.most; omega
     clear HAT HOK HB
     generalize 4 * k + 1 = c at *
     have hex : (¬ (k : Int) < (l.length : Int)) ∨ ((k : Int) < (l.length : Int) /\ ¬ (k : Int) < 60) := by omega
     clear hlt hk hk60
     rcases hex with hex | ⟨hex, hex2⟩
     all_goals
       go_wp2_with fail
       refine cM.mono ?_
       rintro e wd ⟨v, Q, rfl, hD2, hb2⟩
       obtain ⟨b, off, cap, rfl, htell⟩ := hD2.tells hL0
       have HTL : Hid (∀ k (hk : k < s.L.length), ∃ pi ci, TellAt U wd b off s.L[k] k pi ci) := htell
       have HSD : Hid (∀ q, FsAt w0.heap.size (wd.drewN q) fb c s U) := fun q => HS.out.on (on_drewN hb2 q)
       have HBD : Hid (∀ q, Below w.heap.size w (wd.drewN q)) := fun q => HBW.out.1.trans ((on_drewN hb2 q).mono HBW.out.2)
       clear htell hb2 hD2 cM
       go_wp2
       go_loopw [11] (fun iv wr2 => ∃ i q : Nat, i <= s.L.length /\ iv = .int .i64 (i : Int) /\ wr2 = wd.drewN q) (fun iv _ => s.L.length - (intOf iv).toNat)
       case atStart => exact ⟨0, 0, Nat.zero_le _, rfl, rfl⟩
       case round =>
         obtain ⟨i, q, hi, rfl, rfl⟩ := hrel
         by_cases hil : i < s.L.length
         . have hilz : (i : Int) < (s.L.length : Int) := by omega
           go_wp2
           go_loopw [12, 13] (fun nv kv wr2 => ∃ k q : Nat, k <= s.L.length /\ kv = .int .i64 (k : Int) /\ nv = .int .i64 ((cntE (s.L.take k) s.L[i].ino : Nat) : Int) /\ wr2 = wd.drewN q) (fun _ kv _ => s.L.length - (intOf kv).toNat)
           case atStart => exact ⟨0, q, Nat.zero_le _, rfl, by simp [cntE], rfl⟩
           case round =>
             obtain ⟨k, q, hk, rfl, rfl, rfl⟩ := hrel
             by_cases hkl : k < s.L.length
             . have hklz : (k : Int) < (s.L.length : Int) := by omega
               go_wp2
               go_loopw [12, 14] (fun nv jv wr2 => ∃ j q : Nat, j <= s.L[k].ds.length /\ jv = .int .i64 (j : Int) /\ nv = .int .i64 ((cntE (s.L.take k) s.L[i].ino + cd (s.L[k].ds.take j) s.L[i].ino : Nat) : Int) /\ wr2 = wd.drewN q) (fun _ jv _ => s.L[k].ds.length - (intOf jv).toNat)
               case atStart => exact ⟨0, q, Nat.zero_le _, rfl, by simp [cd], rfl⟩
               case round =>
                 obtain ⟨j, q, hj, rfl, rfl, rfl⟩ := hrel
                 obtain ⟨pI, cI, tI⟩ := HTL.out i hil
                 obtain ⟨pK, cK, tK⟩ := HTL.out k hkl
                 have i0 := tI.ino
                 have i1 := tI.kind
                 have i4 := tI.par
                 have k0 := tK.ino
                 have k8 := tK.inos
                 have hdl := HF.out.wf.ds _ (List.getElem_mem hkl)
                 by_cases hjl : j < s.L[k].ds.length
                 . have hjz : (j : Int) < (s.L[k].ds.length : Int) := by omega
                   obtain ⟨c1, o1, rfl, _, _, hc1⟩ := tK.to.place (k := j) (by unfold intsV; simpa using hjl)
                   have d1 : wd.cell? ⟨c1, o1 + j, none⟩ = some (.int .i64 s.L[k].ds[j].2) := hc1 j _ (by unfold intsV; rw [List.getElem?_map, List.getElem?_map, List.getElem?_eq_getElem hjl]; rfl)
                   have HCD : Hid _ := cd_take hjl s.L[i].ino
                   have HLE : Hid _ := cntK_le HF.out.wf.ds hL1 hkl j s.L[i].ino
                   have HPR : Hid (s.L[k].ds[j].2 = (s.L[i].ino : Int) -> s.L[i].kind = 2 -> U s.L[i].ino = (s.L[k].ino : Int)) := fun h1 h2 => entry_par HF.out (List.getElem_mem hkl) (List.getElem_mem hil) (List.getElem_mem hjl) h1 h2
                   clear hc1 tI tK
                   by_cases he : s.L[k].ds[j].2 = (s.L[i].ino : Int)
                   . rw [he] at d1
                     rw [if_pos he] at HCD
                     obtain ⟨nn, hnn0⟩ : ∃ nn : Nat, cntE (s.L.take k) s.L[i].ino + cd (s.L[k].ds.take j) s.L[i].ino = nn := ⟨_, rfl⟩
                     have HNN : Hid (cntE (s.L.take k) s.L[i].ino + cd (s.L[k].ds.take j) s.L[i].ino = nn) := hnn0
                     clear hnn0
                     have hnn : (nn : Int) <= 20000 := by have := HNN.out; have := HLE.out; omega
                     have HN2 : Hid (cntE (s.L.take k) s.L[i].ino + cd (s.L[k].ds.take (j + 1)) s.L[i].ino = nn + 1) := by have := HNN.out; have := HCD.out; show _ = _; omega
                     simp only [HNN.out]
                     by_cases hk2 : s.L[i].kind = 2
                     . have hpr := HPR.out he hk2
                       rw [hpr] at i4
                       have hk2z : ((s.L[i].kind : Nat) : Int) = 2 := by omega
                       rw [hk2z] at i1
                       clear HPR HCD hpr he hk2z
                       go_wp2
                       go_quiet (fail)
                       go_wp2
                       go_quiet (fail)
                       go_wp2
                       go_roundw
                       case rel => exact ⟨j + 1, _, by omega, by go_num, by rw [HN2.out]; go_num, rfl⟩
                       case measure => simp [intOf]; omega
                     . have hk2z : ¬ ((s.L[i].kind : Nat) : Int) = 2 := by omega
                       clear HPR HCD he i4
                       generalize ((s.L[i].kind : Nat) : Int) = zk at *
                       go_wp2
                       go_quiet (fail)
                       go_wp2
                       go_quiet (fail)
                       go_wp2
                       go_roundw
                       case rel => exact ⟨j + 1, _, by omega, by go_num, by rw [HN2.out]; go_num, rfl⟩
                       case measure => simp [intOf]; omega
                   . rw [if_neg he] at HCD
                     have HN2 : Hid (cntE (s.L.take k) s.L[i].ino + cd (s.L[k].ds.take (j + 1)) s.L[i].ino = cntE (s.L.take k) s.L[i].ino + cd (s.L[k].ds.take j) s.L[i].ino) := by have := HCD.out; show _ = _; omega
                     clear HPR HCD i1 i4
                     go_wp2
                     go_quiet (fail)
                     go_wp2
                     go_roundw
                     case rel => exact ⟨j + 1, _, by omega, by go_num, by rw [HN2.out], rfl⟩
                     case measure => simp [intOf]; omega
                 . obtain rfl : j = s.L[k].ds.length := by omega
                   have hjz : ¬ (s.L[k].ds.length : Int) < (s.L[k].ds.length : Int) := by omega
                   have HN2 : Hid (cntE (s.L.take (k + 1)) s.L[i].ino = cntE (s.L.take k) s.L[i].ino + cd (s.L[k].ds.take s.L[k].ds.length) s.L[i].ino) := by rw [List.take_length]; exact cntE_take hkl _
                   clear tI tK i1 i4
                   go_wp2
                   go_roundw
                   case rel => exact ⟨k + 1, _, by omega, by go_num, by rw [HN2.out], rfl⟩
                   case measure => simp [intOf]; omega
             . obtain rfl : k = s.L.length := by omega
               have hklz : ¬ (s.L.length : Int) < (s.L.length : Int) := by omega
               have hm := List.getElem_mem hil
               obtain ⟨pI, cI, tI⟩ := HTL.out i hil
               have i0 := tI.ino
               have i1 := tI.kind
               have i2 := tI.links
               have i3 := tI.holds
               have hlk := HF.out.tree.links _ hm
               have hal := HF.out.wf.alive _ hm
               have hone := HF.out.tree.one _ hm
               have hb1 := HF.out.wf.links _ hm
               have hb2 := HF.out.wf.holds _ hm
               have hcc := HC.out
               rw [List.take_length, <- hlk]
               have HWI : Hid (s.L[i].kind = 2 -> 0 < s.L[i].links -> ∀ q, Calls Tryz.prog 23 #[ptr fb, .int .i64 1, .int .i64 (s.L[i].ino : Nat)] (wd.drewN q) fun e w' => e = .returned (.bool true) /\ w' = wd.drewN q) := fun h1 h2 q => by
                 obtain ⟨_, _, _, hM⟩ := HSD.out q
                 have := within7 hM HF.out.wf (by omega) HF.out.tree HF.out.agree 1 (by decide) hm h1 (.inr h2)
                 rwa [within_one HF.out.wf HF.out.tree ⟨hm, h1, .inr h2⟩] at this
               have bl : (0 : Int) <= ((s.L[i].links : Nat) : Int) /\ ((s.L[i].links : Nat) : Int) <= 32 := by omega
               have bh : (0 : Int) <= ((s.L[i].holds : Nat) : Int) /\ ((s.L[i].holds : Nat) : Int) <= 1000 := by omega
               obtain ⟨bl1, bl2⟩ := bl
               obtain ⟨bh1, bh2⟩ := bh
               have al : ¬ ((s.L[i].links : Nat) : Int) + ((s.L[i].holds : Nat) : Int) < 1 := by omega
               by_cases hk2 : s.L[i].kind = 2
               . have hone2 := hone hk2
                 have hk2z : ((s.L[i].kind : Nat) : Int) = 2 := by omega
                 rw [hk2z] at i1
                 have l1 : ¬ (1 : Int) < ((s.L[i].links : Nat) : Int) := by omega
                 by_cases hl0 : 0 < s.L[i].links
                 . have cW : ∀ x, Calls Tryz.prog 23 #[ptr fb, .int .i64 1, .int .i64 (s.L[i].ino : Nat)] (wd.drewN (q + x)) fun e w' => e = .returned (.bool true) /\ ∃ n, w' = wd.drewN (q + n) := fun x => (HWI.out hk2 hl0 (q + x)).mono fun _ _ h => ⟨h.1, _, h.2⟩
                   have l0 : (0 : Int) < ((s.L[i].links : Nat) : Int) := by omega
                   clear hlk hal hone hone2 hk2 hl0 hk2z HWI tI
                   generalize ((s.L[i].links : Nat) : Int) = lk at *
                   generalize ((s.L[i].holds : Nat) : Int) = hd at *
                   generalize ((s.L[i].ino : Nat) : Int) = io at *
                   have l1b : decide ((1 : Int) < lk) = false := by simpa using l1
                   have alb : decide (lk + hd < 1) = false := by simpa using al
                   have l0b : decide ((0 : Int) < lk) = true := by simpa using l0
                   go_wp2
                   go_quiet (first | (go_at_call 23; exact cW _))
                   go_wp2
                   go_roundw
                   case rel => exact ⟨i + 1, _, by omega, by go_num, rfl⟩
                   case measure => simp [intOf]; omega
                 . have l0 : ¬ (0 : Int) < ((s.L[i].links : Nat) : Int) := by omega
                   clear hlk hal hone hone2 hk2 hl0 hk2z HWI tI
                   generalize ((s.L[i].links : Nat) : Int) = lk at *
                   generalize ((s.L[i].holds : Nat) : Int) = hd at *
                   generalize ((s.L[i].ino : Nat) : Int) = io at *
                   have l1b : decide ((1 : Int) < lk) = false := by simpa using l1
                   have alb : decide (lk + hd < 1) = false := by simpa using al
                   have l0b : decide ((0 : Int) < lk) = false := by simpa using l0
                   go_wp2
                   go_quiet (fail)
                   go_wp2
                   go_roundw
                   case rel => exact ⟨i + 1, _, by omega, by go_num, rfl⟩
                   case measure => simp [intOf]; omega
               . have hk2z : ¬ ((s.L[i].kind : Nat) : Int) = 2 := by omega
                 clear hlk hal hone hk2 HWI tI
                 generalize ((s.L[i].links : Nat) : Int) = lk at *
                 generalize ((s.L[i].holds : Nat) : Int) = hd at *
                 generalize ((s.L[i].ino : Nat) : Int) = io at *
                 generalize ((s.L[i].kind : Nat) : Int) = kd at *
                 have hkb : (kd == 2) = false := by simpa using hk2z
                 have alb : decide (lk + hd < 1) = false := by simpa using al
                 go_wp2
                 go_quiet (fail)
                 go_wp2
                 go_roundw
                 case rel => exact ⟨i + 1, _, by omega, by go_num, rfl⟩
                 case measure => simp [intOf]; omega
         . obtain rfl : i = s.L.length := by omega
           have hilz : ¬ (s.L.length : Int) < (s.L.length : Int) := by omega
           have HB3 : Hid (Below w.heap.size w (wd.drewN q)) := HBD.out q
           have hsz : w.heap.size <= (wd.drewN q).heap.size := HB3.out.size
           go_wp2_with fail
           refine (cL _).mono ?_
           rintro e w6 ⟨rfl, hb6⟩
           have hz := HQ.out w6 (HB3.out.trans (hb6.mono hsz))
           go_wp2
           exact hz
end Go.Proofs.YtckhkammedbpfaaGreat
