/- Ours. -/
import Derived.Test.YthlaoaaafafafaaGreatN4
import Derived.Test.YthlaoaaafafafaaGreatN8
import Derived.Deep.Cut
import Derived.Deep.CutRange
import Derived.Deep.DeepCutAuto
set_option maxRecDepth 100000
set_option maxHeartbeats 16000000
namespace Go.Proofs.YthlaoaaafafafaaGreat
open Go Go.RowKit Go.Maps
def isWy : Obj->Bool
 | .cells _ t _=>t == 26
 | _=>false
theorem isP_isWy {o:Obj} (h:isP o=true):isWy o=false:=by
 cases o <;> simp [isP,isWy] at h ⊢
 rcases h with ((((h | h) | h) | h) | h) | h <;> rw [h] <;> decide
theorem FsAt.turnsWy {n fb c:Nat} {w w':World} {s:SS} {U:Int->Int} {hi:Lo} (h:FsAt n w fb c s U) (ht:Turns isWy hi w w'):FsAt n w' fb c s U:=by
 obtain ⟨sb,ub,B,h⟩:=h;obtain ⟨es,clock,ho⟩:=h.up.is
 exact ⟨sb,ub,B,ht.blk h.box fun _ _=>rfl,h.store.turns ht fun o ho=>isP_isWy ho,h.up.block (ht.block ub h.up.lt (.inr fun o ho'=>by rw [ho] at ho';cases ho';rfl)),h.lo⟩
theorem turnsWy {b:Nat} {cs:List Value} {w w':World} (h:But b w w') (hB:Blk w b 26 cs):Turns isWy (.up 0) w w' :=
 ⟨h.os,h.tape,h.output,by rw [h.size];exact Nat.le_refl _,fun k _ hk=>h.block k fun e=>by
  subst e
  rcases hk with hk | hk
  . exact hk (Nat.zero_le _)
  . exact absurd (hk _ hB.row) (by simp [isWy])⟩
theorem reach_isnB {s:SS} {d:Int} (ht:Tree s) (hd:isDir s d=true) {x:Int} (h:Reach8 s d x):∃ m ∈ s.L,(m.ino:Int)=x:=by
 refine h.ind (Q:=fun x => ∃ m ∈ s.L,(m.ino:Int)=x) ?_ fun a b _ hk => ?_
 . unfold isDir at hd
   cases hx:look s d with
   | none=>rw [hx] at hd;cases hd
   | some y =>
    obtain ⟨i,m⟩:=y;obtain ⟨h1,h2⟩:=look_mem hx
    exact ⟨m,h1,h2⟩
 . obtain ⟨m,hm,_,e,he,rfl⟩:=hk;obtain ⟨m',hm',e',_⟩:=ht.there m hm e he
   exact ⟨m',hm',e'.symm⟩
def shortT (t:ByteArray):ByteArray:=if 600 < t.size then t.extract 0 600 else t
theorem shortT_size (t:ByteArray):(shortT t).size<=600:=by
 unfold shortT
 split
 . rw [ByteArray.size_extract];omega
 . omega
theorem short8T (t:ByteArray) (w:World) (ht:t.size<=9223372036854775807):Calls Tryz.prog 9 #[.string t] w fun e w'=>e=.returned (.string (shortT t))/\w'=w:=by
 unfold shortT
 by_cases h:600 < t.size
 . rw [if_pos h]
   have hz:(600:Int) < (t.size:Int):=by omega
   go_enter Tryz.func9,Tryz.ntmps9;go_wp2
   go_ret
   exact ⟨rfl,rfl⟩
 . rw [if_neg h]
   have hz:¬ (600:Int) < (t.size:Int):=by omega
   go_enter Tryz.func9,Tryz.ntmps9;go_wp2
   go_ret
   exact ⟨rfl,rfl⟩
theorem firstA {w2 w3:World} {z0 z2:Int} {z1:ByteArray} {z3:Bool} {z4:Nat} (hb3:Below w2.heap.size w2 w3):∃ nb,Value.pointer (some ⟨w3.heap.size,0,none⟩)=ptr nb/\Hid (Blk (w3.alloc (.cells #[.int .i64 z0,.string z1,.int .i64 z2,.bool z3,.int .i64 (z4:Int)] 33)) nb 33 [.int .i64 z0,.string z1,.int .i64 z2,.bool z3,.int .i64 (z4:Int)]/\Below w2.heap.size w2 (w3.alloc (.cells #[.int .i64 z0,.string z1,.int .i64 z2,.bool z3,.int .i64 (z4:Int)] 33))) :=
 ⟨w3.heap.size,rfl,Blk.new w3 33 [.int .i64 z0,.string z1,.int .i64 z2,.bool z3,.int .i64 (z4:Int)],on_trans hb3 (on_alloc _ _)⟩
theorem firstB {w2 w3:World} {z0 z2:Int} {z1:ByteArray} {z3:Bool} {z4:Nat} (hb3:Below (w2.alloc (.cells #[.int .i64 0,.string ⟨#[]⟩,.int .i64 0,.bool false,.int .i64 0] 33)).heap.size (w2.alloc (.cells #[.int .i64 0,.string ⟨#[]⟩,.int .i64 0,.bool false,.int .i64 0] 33)) w3):∃ nb,Value.pointer (some ⟨w2.heap.size,0,none⟩)=ptr nb/\Hid (Blk (((((w3.setCell ⟨w2.heap.size,0,none⟩ (.int .i64 z0)).setCell ⟨w2.heap.size,1,none⟩ (.string z1)).setCell ⟨w2.heap.size,2,none⟩ (.int .i64 z2)).setCell ⟨w2.heap.size,3,none⟩ (.bool z3)).setCell ⟨w2.heap.size,4,none⟩ (.int .i64 (z4:Int))) nb 33 [.int .i64 z0,.string z1,.int .i64 z2,.bool z3,.int .i64 (z4:Int)]/\Below w2.heap.size w2 (((((w3.setCell ⟨w2.heap.size,0,none⟩ (.int .i64 z0)).setCell ⟨w2.heap.size,1,none⟩ (.string z1)).setCell ⟨w2.heap.size,2,none⟩ (.int .i64 z2)).setCell ⟨w2.heap.size,3,none⟩ (.bool z3)).setCell ⟨w2.heap.size,4,none⟩ (.int .i64 (z4:Int)))):=by
 have hB:=(Blk.new w2 33 [.int .i64 0,.string ⟨#[]⟩,.int .i64 0,.bool false,.int .i64 0]).on hb3;have h1:=hB.put [.int .i64 z0,.string z1,.int .i64 z2,.bool z3,.int .i64 (z4:Int)] rfl;have h2:=but_putL w2.heap.size [.int .i64 z0,.string z1,.int .i64 z2,.bool z3,.int .i64 (z4:Int)] w3 0
 exact ⟨w2.heap.size,rfl,h1,below_but (on_trans (on_alloc _ _) hb3) h2 (Nat.le_refl _)⟩
theorem beneath_walk (pa:Option Addr) (ca:Nat) (l:List Act7) (t:ByteArray) (st:Int) (be fo pr:Bool) (w:World) (_hca:l.length<=ca) (_hla:l.length<=9223372036854775807) (hat:At w pa (actsV7 l)) (hok:∀ x ∈ l,Act7Ok x) (ht:t.size<=maxLen) (hst:(Lit.int .i64 st).wf=true) :
 Calls Tryz.prog 5 #[.slice pa l.length ca,.string t,.agg #[.int .i64 st,.bool be,.bool fo,.bool pr]] w fun e w'=>e=.returned (.bool true)/\Below w.heap.size w w':=by
 have hb0:=on_alloc w (.cells #[.int .i64 st,.bool be,.bool fo,.bool pr] 26);have HX:Hid _:=Blk.new w 26 [.int .i64 st,.bool be,.bool fo,.bool pr];have cT:=tree8N pa ca l _ (hat.on hb0) hok;have HB0:Hid _:=hb0;have hb0s:=hb0.size
 have hts:t.size<=9223372036854775807:=by unfold maxLen at ht;omega
 have cS:=fun w=>short8T t w hts
 have cL:=lives8;have HST:Hid ((Lit.int .i64 st).wf=true):=hst;have HTS:Hid ((shortT t).size<=600):=shortT_size t;generalize shortT t=t' at *
 have HP:Hid (∀ w',Below w.heap.size w w'->(fun e w'=>e=Ending.returned (.bool true)/\Below w.heap.size w w') (Ending.returned (.bool true)) w'):=fun w' h=>⟨rfl,h⟩
 have HW0:Hid (w.heap.size<=w.heap.size):=Nat.le_refl _
 generalize (fun e w'=>e=Ending.returned (.bool true)/\Below w.heap.size w w')=Post at *
 clear hat hok hst hb0 ht;go_enter Tryz.func5,Tryz.ntmps5;go_wp2_with fail;generalize w.alloc (.cells #[.int .i64 st,.bool be,.bool fo,.bool pr] 26)=w0 at *;refine cT.mono ?_;rintro e w1 ⟨fb,rb,s,U,rfl,hS,hR,⟨hf,hn⟩,hB⟩;have hX1:=HX.out.on hB;have HX2:Hid (Blk (w1.setCell ⟨w.heap.size,1,none⟩ (.bool true)) w.heap.size 26 [.int .i64 st,.bool true,.bool fo,.bool pr]):=hX1.set 1 _;have HF:Hid (FsOk s U 161/\Nam s):=⟨hf,hn⟩;have hb1:Below w.heap.size w w1:=on_trans HB0.out hB
 have HB2:Hid (Below w.heap.size w (w1.setCell ⟨w.heap.size,1,none⟩ (.bool true))):=below_but hb1 (but_set _ _ _ _) (Nat.le_refl _)
 have HS2:Hid (FsAt w.heap.size (w1.setCell ⟨w.heap.size,1,none⟩ (.bool true)) fb 161 s U):=(hS.turnsWy (turnsWy (but_set w1 w.heap.size 1 (.bool true)) hX1)).low (by have:=hb0s;omega)
 have f1:=hX1.free 1;have x1:=hX1.cell 1 rfl;clear cT hB hS hf hR hn HX HB0 hX1 hb1 hb0s HW0
 have HCW:Hid (∀ wx,Below (w1.setCell ⟨w.heap.size,1,none⟩ (.bool true)).heap.size (w1.setCell ⟨w.heap.size,1,none⟩ (.bool true)) wx->Calls Tryz.prog 10 #[ptr fb,.int .i64 st,.string t',.agg (howC true fo pr).toArray] wx (WalkPost (walkF s U true fo pr st t') wx)):=fun wx hb=>walk_any (FsAt.on HS2.out hb) HF.out.1.wf HF.out.1.tree (by omega) true fo pr st HST.out t' (by have:=HTS.out;omega)
 go_wp2_with fail;clear f1 x1;generalize w1.setCell ⟨w.heap.size,1,none⟩ (.bool true)=w2 at *;have HIN:Hid (InR (Reach8 s st) (walkF s U true fo pr st t')/\((walkF s U true fo pr st t').2=0->isDir s st=true)):=walkF_in HF.out.1.wf HF.out.1.tree st t';obtain ⟨z0,z1,z2,z3,z4,e1,_⟩:=walkF_is HF.out.1.wf U true fo pr st t';generalize walkF s U true fo pr st t'=R at *;obtain ⟨V,E⟩:=R
 simp only at e1
 subst e1;unfold howC at HCW;unfold fdC at HCW;have y0:=HX2.out.cell 0 rfl;have y1:=HX2.out.cell 1 rfl;have y2:=HX2.out.cell 2 rfl;have y3:=HX2.out.cell 3 rfl;have HAL:Hid (Blk (w2.alloc (.cells #[.int .i64 0,.string ⟨#[]⟩,.int .i64 0,.bool false,.int .i64 0] 33)).drew w2.heap.size 33 [.int .i64 0,.string ⟨#[]⟩,.int .i64 0,.bool false,.int .i64 0]):=⟨(Blk.new w2 33 [.int .i64 0,.string ⟨#[]⟩,.int .i64 0,.bool false,.int .i64 0]).row⟩;have hX3:=HX2.out.on (on_alloc w2 (.cells #[.int .i64 0,.string ⟨#[]⟩,.int .i64 0,.bool false,.int .i64 0] 33))
 have yA0:=hX3.cell 0 rfl;have yA1:=hX3.cell 1 rfl;have yA2:=hX3.cell 2 rfl;have yA3:=hX3.cell 3 rfl;clear hX3
 go_cut [10,11] (fun s10 s11 wx=>s11=.int .i64 E/\∃ nb,s10=ptr nb/\Hid (Blk wx nb 33 [.int .i64 z0,.string z1,.int .i64 z2,.bool z3,.int .i64 (z4:Int)]/\Below w2.heap.size w2 wx))
 case first =>
  go_region_with (first | (go_at_call 9;refine (cS _).mono ?_;rintro e w' ⟨rfl,rfl⟩) | (go_at_call 10;refine (HCW.out _ (by first | exact Below.refl _ _ | exact on_drewN (Below.refl _ _) _ | exact on_alloc _ _ | exact on_drewN (on_alloc _ _) _ | exact on_drewN (on_trans (on_drewN (Below.refl _ _) _) (on_alloc _ _)) _ | (trace_state;fail))).mono ?_;rintro e w3 ⟨rfl,hb3⟩;first | (have g0:=(Blk.on HAL.out hb3).free 0;have g1:=(Blk.on HAL.out hb3).free 1;have g2:=(Blk.on HAL.out hb3).free 2;have g3:=(Blk.on HAL.out hb3).free 3;have g4:=(Blk.on HAL.out hb3).free 4;have q0:=(Blk.on HAL.out hb3).cell 0 rfl;have q1:=(Blk.on HAL.out hb3).cell 1 rfl;have q2:=(Blk.on HAL.out hb3).cell 2 rfl;have q3:=(Blk.on HAL.out hb3).cell 3 rfl;have q4:=(Blk.on HAL.out hb3).cell 4 rfl) | skip))
  all_goals simp only [List.getElem_toArray,List.getElem_cons_succ,List.getElem_cons_zero,Act.put,List.setIfInBounds_toArray,List.set_cons_succ,List.set_cons_zero]
  all_goals go_step
  all_goals apply_assumption
  all_goals refine Met.intro ?_
  all_goals apply_assumption
  all_goals ((repeat apply Exists.intro);refine ⟨?_,rfl⟩)
  all_goals first
   | exact ⟨rfl,firstA ⟨hb3.os,hb3.tape,hb3.output,hb3.size,hb3.block⟩⟩
   | exact ⟨rfl,firstB ⟨hb3.os,hb3.tape,hb3.output,hb3.size,hb3.block⟩⟩
 case rest =>
  obtain ⟨hu11,nb,hu10,HN⟩:=hcut;subst hu11;subst hu10;have HFA:Hid (FsAt w.heap.size wc fb 161 s U):=HS2.out.on HN.out.2;have HBC:Hid (Below w.heap.size w wc):=on_trans HB2.out (HN.out.2.mono (Nat.le_refl _));have k0:=(HX2.out.on HN.out.2).cell 0 rfl;have m0:=HN.out.1.cell 0 rfl;have m1:=HN.out.1.cell 1 rfl;have m2:=HN.out.1.cell 2 rfl;have m3:=HN.out.1.cell 3 rfl;have m4:=HN.out.1.cell 4 rfl;have HN1:Hid _:=HN.out.1;clear y0 y1 y2 y3 yA0 yA1 yA2 yA3 HAL HN HCW cS
  by_cases hE:E=0
  . subst hE
    have hin:Reach8 s st z0/\(z2=0 ∨ Reach8 s st z2):=by
     rcases HIN.out.1 with ⟨h,_⟩ | ⟨_,a0,a1,a2,a3,a4,e,h1,h2⟩
     . exact absurd rfl h
     . unfold fdC at e
       simp at e
       obtain ⟨e0,_,e2,_⟩:=e;rw [e0,e2]
       exact ⟨h1,h2⟩
    have hdir:=HIN.out.2 rfl;have HRE:Hid (Reach8 s st z0/\(z2=0 ∨ Reach8 s st z2)):=hin;have HDI:Hid (isDir s st=true):=hdir
    have cR:=reach8 HFA.out HF.out.1.wf HF.out.1.tree HF.out.2 (by omega) st HST.out
    clear hin hdir HIN;go_wp2_with fail;refine cR.mono ?_;rintro e w4 ⟨v,M,rfl,ho,hb4,hM⟩
    have HM:Hid (M.length<=1000000/\∀ x,x ∈ M ↔ Reach8 s st x):=by
     rcases hM with ⟨h,_⟩ | ⟨_,h1,h2⟩
     . rw [HDI.out] at h;cases h
     . refine ⟨?_,h2⟩
       have h3:=nodup_le (b:=s.L.map fun m=>(m.ino:Int)) (h1.imp fun h=>by omega) fun x hx=>by
        obtain ⟨m,hm,e⟩:=reach_isnB HF.out.1.tree HDI.out ((h2 x).1 hx)
        exact List.mem_map.2 ⟨m,hm,e⟩
       have:=HF.out.1.wf.room;have:=HF.out.1.wf.most
       simp at h3
       omega
    obtain ⟨p1,c1,e1,a1,_⟩:=ownV_at ho
    rw [show (intsV M).length=M.length from List.length_map _] at e1
    subst e1;have HA:Hid (At w4 p1 (intsV M)):=a1.at;have cI:=in_true p1 c1 M z0 w4 HM.out.1 HA.out ((HM.out.2 z0).2 HRE.out.1);have n0:=(HN1.out.on hb4).cell 0 rfl;have n2:=(HN1.out.on hb4).cell 2 rfl;have HN4:Hid _:=HN1.out.on hb4;have HB4:Hid (Below w.heap.size w w4):=on_trans HBC.out hb4;clear cR ho hb4 hM a1 k0 m0 m1 m2 m3 m4 HN1;go_wp2_with fail;refine cI.mono ?_;rintro e w5 ⟨rfl,hb5⟩;have o2:=(HN4.out.on hb5).cell 2 rfl;have HB5:Hid (Below w.heap.size w w5):=on_trans HB4.out hb5
    have HA5:Hid (At w5 p1 (intsV M)):=AtF.on HA.out hb5;clear cI n0 n2 hb5 HN4
    by_cases hz2:z2=0
    . subst hz2;go_wp2_with fail;refine (cL _).mono ?_;rintro e wb ⟨rfl,hbb⟩;have hz:=HP.out wb (on_trans HB5.out hbb);clear hbb;go_wp2
      exact hz
    . have hzb:(z2 == 0)=false:=by simpa using hz2
      have cJ:=in_true p1 c1 M z2 w5 HM.out.1 HA5.out ((HM.out.2 z2).2 (HRE.out.2.resolve_left hz2));go_wp2_with fail;refine cJ.mono ?_;rintro e w6 ⟨rfl,hb6⟩;have HB6:Hid (Below w.heap.size w w6):=on_trans HB5.out hb6;clear cJ hb6;go_wp2_with fail;refine (cL _).mono ?_;rintro e wb ⟨rfl,hbb⟩;have hz:=HP.out wb (on_trans HB6.out hbb);clear hbb;go_wp2
      exact hz
  . have hz0:z0=0/\z1=ByteArray.empty/\z2=0/\z3=false/\z4=0:=by
     rcases HIN.out.1 with ⟨_,h⟩ | ⟨h,_⟩
     . unfold fd0 fdC at h
       simp at h
       exact ⟨h.1,h.2.1,h.2.2.1,h.2.2.2.1,by omega⟩
     . exact absurd h hE
    obtain ⟨rfl,rfl,rfl,rfl,rfl⟩:=hz0
    have hEb:(E != 0)=true:=by simpa using hE
    have heq:=eq_found 0 ByteArray.empty 0 false 0;clear HIN hE;go_wp2_with fail;refine (cL _).mono ?_;rintro e wb ⟨rfl,hbb⟩;have hz:=HP.out wb (on_trans HBC.out hbb);clear hbb;go_wp2
    exact hz
end Go.Proofs.YthlaoaaafafafaaGreat
