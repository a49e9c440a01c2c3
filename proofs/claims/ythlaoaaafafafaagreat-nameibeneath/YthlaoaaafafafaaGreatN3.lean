/- Ours. -/
import Derived.Test.YthlaoaaafafafaaGreatN2
import Derived.Deep.LoopGhost
set_option maxRecDepth 100000
set_option maxHeartbeats 16000000
namespace Go.Proofs.YthlaoaaafafafaaGreat
open Go Go.RowKit Go.Maps
structure GoInv (w0:World) (wb fb:Nat) (s:SS) (U:Int->Int) (be fo pa:Bool) (R:List Value × Int) (k:Nat) (left:List ByteArray) (dir:Int) (slash:Bool) (steps:Nat) (w:World):Prop where
 wk:WkAt w0 wb fb be fo pa dir left slash (8 - (k:Int)) steps w
 go:goF s U be fo pa k left dir slash steps=R
 few:steps+left.length<=257 * (9 - k)/\k<=8
 short:∀ x ∈ left,x.size<=256
 wf:(Lit.int .i64 dir).wf=true
section
variable {n fb wb c:Nat} {w0 w:World} {s:SS} {U:Int->Int} {be fo pa:Bool}
theorem tgt_short (hf:Wf s c) (x:Int):(tgtT s x).size<=256:=by
 unfold tgtT
 cases hx:look s x with
 | none=>simp
 | some y =>
  obtain ⟨i,m⟩:=y
  show (if m.kind=3 then m.tgt else ByteArray.empty).size<=256
  split
  . exact hf.tgt m (look_mem hx).1
  . simp
theorem pL_short {t:ByteArray} (ht:t.size<=256):∀ x ∈ P.pL t,x.size<=256:=fun x hx=>by
 unfold P.pL at hx
 split at hx
 . exact Nat.le_trans (P.parts_size t x hx) ht
 . cases hx
theorem at_drop {w:World} {b off x m cp:Nat} {l:List ByteArray} (h:At w (some ⟨b,off,none⟩) (strV l)) (hx:m < cp->x=off+m) (hc:l.length<=cp):At w (some ⟨b,x,none⟩) (strV (l.drop m)):=by
 by_cases hm:m < l.length
 . obtain rfl:=hx (by omega)
   rcases h with h | ⟨b',off',e,h1,hlt,hcl⟩
   . have:=congrArg List.length h;unfold strV at this
     simp at this
     rw [this] at hm
     cases hm
   . cases e
     refine .inr ⟨b,off+m,rfl,h1,hlt,fun j v hv => ?_⟩
     rw [Nat.add_assoc]
     refine hcl (m+j) v ?_
     rw [<- hv];unfold strV;rw [List.getElem?_map,List.getElem?_map,List.getElem?_drop]
 . rw [List.drop_eq_nil_of_le (by omega)]
   exact .inl rfl
theorem take_pE {be:Bool} {t:ByteArray} (h:takeE be t=0):P.pE t=0:=by
 unfold takeE at h
 by_cases h1:P.pE t=0
 . exact h1
 . rw [if_pos h1] at h;exact absurd h h1
theorem takeD_wf {dir:Int} {t:ByteArray} (h:(Lit.int .i64 dir).wf=true):(Lit.int .i64 (takeD dir t)).wf=true:=by
 unfold takeD
 split
 . decide
 . exact h
theorem lk_wf (h:FsAt n w fb c s U) (hf:Wf s c) (ht:Tree s) (hc:c<=900) {d:Int} (hd:(Lit.int .i64 d).wf=true) (part:ByteArray) (last:Bool):(Lit.int .i64 (lkN s U be pa d part last)).wf=true:=by
 obtain ⟨sb,ub,B,hM⟩:=h;unfold lkN
 split
 . decide
 . split
   . decide
   . split
     . decide
     . unfold lukN
       split
       . split
         . exact hd
         . decide
       . split
         . split
           . exact hM.up.wf hd
           . decide
         . split
           . rename_i he
             obtain ⟨_,_,_,kn,_,_,hy,hfd,_⟩:=entry_node hf ht (entryE_ok he).2;rw [hfd]
             exact ino_wf hf hc (look_mem hy).1
           . decide
structure InInv (w0 w:World) (wb fb:Nat) (s:SS) (U:Int->Int) (be fo pa:Bool) (R:List Value × Int) (k:Nat) (left:List ByteArray) (p:Option Addr) (cp i:Nat) (dir:Int) (slash:Bool) (steps:Nat) (wr:World):Prop where
 on:Below w0.heap.size w0 wr
 box:Blk wr wb 57 (wkC fb be fo pa dir (.slice p left.length cp) slash (8 - (k:Int)) steps)
 names:At wr p (strV left)
 go:goF s U be fo pa k (left.drop i) dir slash steps=R
 few:steps+(left.length - i)<=257 * (9 - k)
 wf:(Lit.int .i64 dir).wf=true
 res:Blk wr w.heap.size 33 [.int .i64 0,.string ⟨#[]⟩,.int .i64 0,.bool false,.int .i64 0]
theorem endV_is (s:SS) (dir:Int) (part:ByteArray) (ino:Int) (slash:Bool) (steps:Int):∃ z0 z1 z2 z3 z4,endV s dir part ino slash steps=fdC z0 z1 z2 z3 z4:=by
 unfold endV
 split
 . exact ⟨_,_,_,_,_,rfl⟩
 . split <;> exact ⟨_,_,_,_,_,rfl⟩
theorem walk8 (h:FsAt n w0 fb c s U) (hf:Wf s c) (ht:Tree s) (hc:c<=900) {R:List Value × Int} {left:List ByteArray} {dir:Int} {slash:Bool} {k steps:Nat} (hg:GoInv w0 wb fb s U be fo pa R k left dir slash steps w):Calls Tryz.prog 23 #[ptr wb] w (EndPost w0 R.1 R.2):=by
 have HFS:Hid (FsAt n w0 fb c s U/\Wf s c/\Tree s/\c<=900):=⟨h,hf,ht,hc⟩
 have HP:Hid (∀ V E w',(V,E)=R->Below w0.heap.size w0 w'->EndPost w0 R.1 R.2 (.returned (.tuple #[.agg V.toArray,.int .i64 E])) w'):=fun V E w' h1 h2=>⟨by rw [<- h1],h2⟩
 generalize EndPost w0 R.1 R.2=Post at *
 have HG:Hid (∃ left dir slash steps,GoInv w0 wb fb s U be fo pa R k left dir slash steps (w.alloc (.cells #[.int .i64 0,.string ⟨#[]⟩,.int .i64 0,.bool false,.int .i64 0] 33))/\Blk (w.alloc (.cells #[.int .i64 0,.string ⟨#[]⟩,.int .i64 0,.bool false,.int .i64 0] 33)) w.heap.size 33 [.int .i64 0,.string ⟨#[]⟩,.int .i64 0,.bool false,.int .i64 0]):=by
  obtain ⟨⟨hon,hlo,p,cp,hx,hat,hcp⟩,h2,h3,h4,h5⟩:=hg;have hb:=on_alloc w (.cells #[.int .i64 0,.string ⟨#[]⟩,.int .i64 0,.bool false,.int .i64 0] 33)
  exact ⟨left,dir,slash,steps,⟨⟨hon.trans (hb.mono hon.size),hlo,p,cp,hx.on hb,hat.on hb,hcp⟩,h2,h3,h4,h5⟩,Blk.new w _ _⟩
 have HW:Hid (w0.heap.size<=w.heap.size/\wb < w.heap.size/\w0.heap.size<=wb):=by
  obtain ⟨⟨hon,hlo,p,cp,hx,_⟩,_⟩:=hg
  exact ⟨hon.size,hx.lt,hlo⟩
 clear h hf ht hc hg;go_enter Tryz.func23,Tryz.ntmps23;go_wp2;generalize w.alloc (.cells #[.int .i64 0,.string ⟨#[]⟩,.int .i64 0,.bool false,.int .i64 0] 33)=wa at *
 go_step3
 go_wp2
 go_step3
 go_wp2
 go_loopg [17] k (fun g _ wx=>Hid (∃ left dir slash steps,GoInv w0 wb fb s U be fo pa R g left dir slash steps wx/\Blk wx w.heap.size 33 [.int .i64 0,.string ⟨#[]⟩,.int .i64 0,.bool false,.int .i64 0]))
 case atStart=>exact HG
 case round =>
  clear HG;obtain ⟨left,dir,slash,steps,hg,hres⟩:=hrel.out;obtain ⟨⟨hon,hlo,p,cp,hx,hat,hcp⟩,hgo,hfew,hsh,hdw⟩:=hg;obtain ⟨kk,hkk⟩:∃ kk,gk=kk:=⟨_,rfl⟩;subst gk
  have HCP:Hid (left.length<=cp/\kk<=8/\(∀ x ∈ left,x.size<=256)/\left.length<=2313):=⟨hcp,hfew.2,hsh,by have:=hfew.1;omega⟩
  have HI0:Hid (InInv w0 w wb fb s U be fo pa R kk left p cp 0 dir slash steps wr):=⟨hon,hx,hat,hgo,hfew.1,hdw,hres⟩;have x5:=hx.cell 5 rfl;clear hrel hres hgo hfew hsh hdw hon hlo hx hat hcp;go_wp2
  go_loopg [17] left.length (fun g s17 wx => ∃ i:Nat,i+g=left.length/\s17=.int .i64 (i:Int)/\Hid (∃ dir steps,InInv w0 w wb fb s U be fo pa R kk left p cp i dir slash steps wx))
  case atStart=>exact ⟨0,by omega,rfl,⟨dir,steps,HI0.out⟩⟩
  case round =>
   clear HI0 x5;obtain ⟨i,hig,rfl,HI⟩:=hrel;obtain ⟨dir,steps,hI⟩:=HI.out;clear HI;have HI:Hid (InInv w0 w wb fb s U be fo pa R kk left p cp i dir slash steps wr):=hI;have x0:=hI.box.cell 0 rfl;have x4:=hI.box.cell 4 rfl;have x5:=hI.box.cell 5 rfl;clear hI
   cases gk with
   | zero =>
    obtain rfl:i=left.length:=by omega
    have hnl:¬ (left.length:Int) < (left.length:Int):=by omega
    have cF:=found8 HI.out.box ByteArray.empty dir
    have HR:Hid ((fdC dir ByteArray.empty dir slash steps,0)=R):=by
     have:=HI.out.go;rw [List.drop_length,goF_nil] at this
     exact this
    unfold fdC at cF;go_wp2_with fail;refine cF.mono ?_;rintro e w3 ⟨rfl,hb3⟩;have hA3:=HI.out.res.on hb3;have HZ:Hid _:=(fd_put hA3 rfl dir ByteArray.empty dir slash steps).2;have HB3:Hid (Below w0.heap.size w0 (putL w3 w.heap.size 0 (fdC dir ByteArray.empty dir slash steps))):=below_but (HI.out.on.trans (hb3.mono HI.out.on.size)) (but_putL _ _ _ _) HW.out.1;have hz:=HP.out _ _ _ HR.out HB3.out;have g0:=hA3.free 0;have q0:=hA3.cell 0 rfl;have g1:=hA3.free 1;have q1:=hA3.cell 1 rfl
    have g2:=hA3.free 2;have q2:=hA3.cell 2 rfl;have g3:=hA3.free 3;have q3:=hA3.cell 3 rfl;have g4:=hA3.free 4;have q4:=hA3.cell 4 rfl
    simp only [putL,fdC] at HZ HB3 hz
    clear hA3 HB3;go_wp2
    try rw [Exit.noGoto_ret]
    exact bodyPost_ret (results_blkT (v1:=.int .i64 0) (cs:=[.int .i64 dir,.string ByteArray.empty,.int .i64 dir,.bool slash,.int .i64 steps]) Tryz.isAgg33 infoFound rfl _ _ rfl rfl HZ.out) rfl hz
   | succ g =>
    have hil:i < left.length:=by omega
    have hilz:(i:Int) < (left.length:Int):=by omega
    have hix:(i:Int)<=3000:=by have:=HCP.out.2.2.2;omega
    have hlx:(left.length:Int)<=3000:=by have:=HCP.out.2.2.2;omega
    obtain ⟨part,hpart⟩:∃ part,left[i]=part:=⟨_,rfl⟩
    have hdrop:left.drop i=part :: left.drop (i+1):=by rw [<- hpart];exact List.drop_eq_getElem_cons hil
    have HGO:Hid (goF s U be fo pa kk (part :: left.drop (i+1)) dir slash steps=R):=by have:=HI.out.go;rwa [hdrop] at this
    have hemp:(left.drop (i+1)).isEmpty=decide (i+1=left.length):=by
     rw [Bool.eq_iff_iff,List.isEmpty_iff,List.drop_eq_nil_iff,decide_eq_true_eq]
     omega
    have HEM:Hid _:=hemp
    have hlast:((i:Int) == (left.length:Int) - 1)=decide (i+1=left.length):=by
     rw [Bool.eq_iff_iff,beq_iff_eq,decide_eq_true_eq]
     omega
    obtain ⟨b,off,rfl,_,hlt,hcel⟩:=HI.out.names.place (k:=i) (by unfold strV;simpa using hil)
    have n0:wr.cell? ⟨b,off+i,none⟩=some (.string part):=hcel i _ (by unfold strV;rw [List.getElem?_map,List.getElem?_eq_getElem hil,hpart];rfl)
    have hps:part.size<=10000:=by
     have:=HCP.out.2.2.1 _ (List.getElem_mem hil);rw [hpart] at this
     omega
    obtain ⟨last,hla⟩:∃ last,decide (i+1=left.length)=last:=⟨_,rfl⟩;rw [hla] at hlast hemp;have HLA:Hid (decide (i+1=left.length)=last):=hla
    have cL:=look8 (HFS.out.1.on HI.out.on) HI.out.box HFS.out.2.1 HFS.out.2.2.1 (by have:=HFS.out.2.2.2;omega) HI.out.wf part hps last
    have HNW:Hid ((Lit.int .i64 (lkN s U be pa dir part last)).wf=true):=lk_wf HFS.out.1 HFS.out.2.1 HFS.out.2.2.1 HFS.out.2.2.2 HI.out.wf part last
    have HG1:Hid (lkE s be pa dir part last ≠ 0->(fd0,lkE s be pa dir part last)=R):=fun h7=>by rw [<- HGO.out,goF_err (by rw [hemp];exact h7),hemp]
    have HG2:Hid (lkE s be pa dir part last=0->∀ ino,lkN s U be pa dir part last=ino->thru s ino last fo slash=true->(kk=0->(fd0,(62:Int))=R)/\∀ k1,kk=k1+1->(takeE be (tgtT s ino) ≠ 0->(fd0,takeE be (tgtT s ino))=R)/\(takeE be (tgtT s ino)=0->goF s U be fo pa k1 (P.pL (tgtT s ino) ++ left.drop (i+1)) (takeD dir (tgtT s ino)) (takeS (left.drop (i+1)) slash (tgtT s ino)) (steps+1)=R)):=fun h1 ino h2 h3=>by
     refine ⟨fun h4 => ?_,fun k1 h4=>⟨fun h5 => ?_,fun h5 => ?_⟩⟩
     . subst h4
       rw [<- HGO.out,goF_loop (by rw [hemp];exact h1) (by rw [hemp,h2];exact h3)]
     . subst h4
       rw [<- HGO.out,goF_bad (by rw [hemp];exact h1) (by rw [hemp];exact h2) (by rw [hemp];exact h3) h5]
     . subst h4
       rw [<- HGO.out,goF_link (by rw [hemp];exact h1) (by rw [hemp];exact h2) (by rw [hemp];exact h3) h5]
    have HG3:Hid (lkE s be pa dir part last=0->∀ ino,lkN s U be pa dir part last=ino->thru s ino last fo slash=false->(last=true->(endV s dir part ino slash ((steps+1:Nat):Int),endE s part ino slash)=R)/\(last=false->goF s U be fo pa kk (left.drop (i+1)) ino slash (steps+1)=R)):=fun h1 ino h2 h3=>by
     refine ⟨fun h4 => ?_,fun h4 => ?_⟩
     . subst h4;have hnil:left.drop (i+1)=[]:=List.isEmpty_iff.1 hemp;have:=HGO.out;rw [hnil,goF_last h1 h2 h3] at this
       exact this
     . subst h4;have:=HGO.out
       rw [goF_more (fun h7=>by rw [h7] at hemp;cases hemp) h1 h2 h3] at this
       exact this
    clear hcel hpart hdrop HGO hemp hla;generalize lkE s be pa dir part last=LE at *;generalize lkN s U be pa dir part last=LN at *;go_wp2_with fail;refine cL.mono ?_;rintro e w1 ⟨rfl,hb1⟩;clear cL;have HB1:Hid (Below w0.heap.size w0 w1):=HI.out.on.trans (hb1.mono HI.out.on.size);have HX1:Hid _:=HI.out.box.on hb1;have HN1:Hid _:=HI.out.names.on hb1;have HR1:Hid _:=HI.out.res.on hb1;have HFW:Hid (steps+(left.length - i)<=257 * (9 - kk)):=HI.out.few;have HDW:Hid ((Lit.int .i64 dir).wf=true):=HI.out.wf
    clear HI x0 x4 x5 n0 hlt hb1
    by_cases hE:LE=0
    . subst hE;have HH2:Hid _:=HG2.out rfl LN rfl;have HH3:Hid _:=HG3.out rfl LN rfl;clear HG1 HG2 HG3
      have hst:(steps:Int)<=3000:=by have:=HFW.out;have:=HCP.out.2.1;omega
      have hst0:(0:Int)<=(steps:Int):=by omega
      have f8:=HX1.out.free 8;have y8:=HX1.out.cell 8 rfl;have HX2:Hid (Blk (w1.setCell ⟨wb,8,none⟩ (.int .i64 ((steps:Int)+1))) wb 57 (wkC fb be fo pa dir (.slice (some ⟨b,off,none⟩) left.length cp) slash (8 - (kk:Int)) ((steps:Int)+1))):=HX1.out.set 8 _
      have HN2:Hid _:=At.wk HN1.out HX1.out (fun _=>by simp) (but_set w1 wb 8 (.int .i64 ((steps:Int)+1)))
      have HR2:Hid _:=HR1.out.but (but_set w1 wb 8 (.int .i64 ((steps:Int)+1))) (by have:=HW.out;omega)
      have HB2:Hid _:=below_but HB1.out (but_set w1 wb 8 (.int .i64 ((steps:Int)+1))) HW.out.2.2;have z0:=HX2.out.cell 0 rfl
      have cT:Calls Tryz.prog 66 #[ptr fb,.int .i64 LN] (w1.setCell ⟨wb,8,none⟩ (.int .i64 ((steps:Int)+1))) fun e w'=>e=.returned (.tuple #[.string (tgtT s LN),.bool (tgtB s LN)])/\w'=w1.setCell ⟨wb,8,none⟩ (.int .i64 ((steps:Int)+1)):=by
       obtain ⟨_,_,_,hM⟩:=HFS.out.1.on HB2.out
       exact target8 hM LN HNW.out
      clear HX1 HN1 HR1 HB1;go_wp2_with fail;refine cT.mono ?_;rintro e w2 ⟨rfl,hw2⟩;subst w2;clear cT f8 y8 z0;generalize w1.setCell ⟨wb,8,none⟩ (.int .i64 ((steps:Int)+1))=w2 at *;have z2:=HX2.out.cell 2 rfl;have z6:=HX2.out.cell 6 rfl;have z5:=HX2.out.cell 5 rfl;have f5:=HX2.out.free 5;have f4:=HX2.out.free 4;have z4:=HX2.out.cell 4 rfl;have HTH:Hid (thru s LN last fo slash=(tgtB s LN && (!last || fo || slash))):=rfl
      cases hth:thru s LN last fo slash with
      | true =>
       have htb:tgtB s LN=true:=by have:=HTH.out;rw [hth] at this;revert this;cases tgtB s LN <;> simp
       have hor:(!last || fo || slash)=true:=by have:=HTH.out;rw [hth] at this;revert this;cases (!last || fo || slash) <;> simp
       rw [htb]
       obtain ⟨x,hsl,hxe⟩:=slice_from elemStr b off left.length cp (i+1) (by omega)
       have hsl2:∀ w,(Instr.slice 55 (.slice (some ⟨b,off,none⟩) left.length cp) (some (.int .i64 ((i:Int)+1))) none none).run Tryz.prog w=.ok (.slice (some ⟨b,x,none⟩) (left.length - (i+1)) (cp - (i+1))) w:=fun w=>by
        have:=hsl w
        rwa [show ((i+1:Nat):Int)=(i:Int)+1 by omega] at this
       have HWK:Hid (WkAt w0 wb fb be fo pa dir (left.drop (i+1)) slash (8 - (kk:Int)) ((steps:Int)+1) (w2.setCell ⟨wb,5,none⟩ (.slice (some ⟨b,x,none⟩) (left.length - (i+1)) (cp - (i+1))))) :=
        ⟨below_but HB2.out (but_set _ _ _ _) HW.out.2.2,HW.out.2.2,some ⟨b,x,none⟩,cp - (i+1),by rw [List.length_drop];exact HX2.out.set 5 _,at_drop (At.wk HN2.out HX2.out (fun _=>by simp) (but_set _ _ _ _)) hxe HCP.out.1,by rw [List.length_drop];have:=HCP.out.1;omega⟩
       have HR3:Hid _:=HR2.out.but (but_set w2 wb 5 (.slice (some ⟨b,x,none⟩) (left.length - (i+1)) (cp - (i+1)))) (by have:=HW.out;omega)
       have HTS:Hid ((tgtT s LN).size<=256):=tgt_short HFS.out.2.1 LN
       have cTh:=through8 HWK.out (by rw [List.length_drop];have:=HCP.out.2.2.2;omega) (by have:=HCP.out.2.1;omega) (tgtT s LN) (by have:=HTS.out;omega)
       have HH:Hid _:=HH2.out hth;clear HH2 HH3 hsl hxe HX2 HN2 HR2 HB2 HWK HTH hth htb;generalize tgtT s LN=tg at *
       obtain ⟨E4,hE4,HBAD,HGOOD⟩:∃ E4,(if 8 - (kk:Int)=8 then 62 else takeE be tg)=E4/\Hid (E4 ≠ 0->(fdC 0 ByteArray.empty 0 false 0,E4)=R)/\Hid (E4=0->∃ k1,kk=k1+1/\takeE be tg=0/\goF s U be fo pa k1 (P.pL tg ++ left.drop (i+1)) (takeD dir tg) (takeS (left.drop (i+1)) slash tg) (steps+1)=R):=by
        cases kk with
        | zero=>exact ⟨62,if_pos (by simp),fun _=>HH.out.1 rfl,fun h7=>absurd h7 (by decide)⟩
        | succ k1=>exact ⟨takeE be tg,if_neg (by omega),fun h7=>(HH.out.2 k1 rfl).1 h7,fun h7=>⟨k1,rfl,h7,(HH.out.2 k1 rfl).2 h7⟩⟩
       clear HH
       have hcase:last=false ∨ (last=true/\fo=true) ∨ (last=true/\fo=false/\slash=true):=by revert hor;cases last <;> cases fo <;> cases slash <;> simp
       clear hor
       rcases hcase with hc | ⟨hc,hc2⟩ | ⟨hc,hc2,hc3⟩
       all_goals
        subst hc
        try rw [hc2] at z2
        try rw [hc3] at z6
        go_wp2_with fail;refine cTh.mono ?_;rintro e w4 ⟨rfl,hb4,ho4,hwk4⟩;rw [hE4]
        have HR4:Hid _:=ho4.blk HR3.out (by have:=HW.out;omega)
        have HB4:Hid _:=hb4;have HK4:Hid _:=hwk4;clear cTh hb4 ho4 hwk4 HR3 z2 z6 z5 f5 f4 z4
        by_cases hz4:E4=0
        . have HG5:Hid (∃ k1,kk=k1+1/\∃ left dir slash steps,GoInv w0 wb fb s U be fo pa R k1 left dir slash steps w4/\Blk w4 w.heap.size 33 [.int .i64 0,.string ⟨#[]⟩,.int .i64 0,.bool false,.int .i64 0]):=by
           obtain ⟨k1,rfl,ht0,hgo⟩:=HGOOD.out hz4
           have hwk5:=HK4.out (by omega) ht0
           rw [show (8 - ((k1+1:Nat):Int)+1:Int)=8 - (k1:Int) by omega,show ((steps:Int)+1)=((steps+1:Nat):Int) by omega] at hwk5
           refine ⟨k1,rfl,_,_,_,_,⟨hwk5,hgo,⟨?_,by have:=HCP.out.2.1;omega⟩,fun y hy => ?_,takeD_wf HDW.out⟩,HR4.out⟩
           . have h8:=parts_few (take_pE ht0);have h9:=HFW.out;have h10:=HCP.out.2.1;rw [List.length_append,List.length_drop]
             omega
           . rcases List.mem_append.1 hy with h7 | h7
             . exact pL_short HTS.out y h7
             . exact HCP.out.2.2.1 y (List.mem_of_mem_drop h7)
          subst hz4;obtain ⟨k1,hk1,hg5⟩:=HG5.out;have HG6:Hid _:=hg5;clear HG5 hg5 HK4 HR4 HB4 HGOOD HBAD;go_wp2;subst kk
          go_roundg k1
          case rel=>exact HG6
          case measure=>omega
        . have hEb:(E4 != 0)=true:=by simpa using hz4
          have HR:Hid _:=HBAD.out hz4;have hA3:=HR4.out;have HZ:Hid _:=(fd_put hA3 rfl 0 ByteArray.empty 0 false 0).2;have HB3:Hid (Below w0.heap.size w0 (putL w4 w.heap.size 0 (fdC 0 ByteArray.empty 0 false 0))):=below_but HB4.out (but_putL _ _ _ _) HW.out.1;have hz:=HP.out _ _ _ HR.out HB3.out;have g0:=hA3.free 0;have q0:=hA3.cell 0 rfl;have g1:=hA3.free 1;have q1:=hA3.cell 1 rfl;have g2:=hA3.free 2;have q2:=hA3.cell 2 rfl;have g3:=hA3.free 3;have q3:=hA3.cell 3 rfl
          have g4:=hA3.free 4;have q4:=hA3.cell 4 rfl
          simp only [putL,fdC] at HZ HB3 hz
          clear hA3 HB3;go_wp2
          try rw [Exit.noGoto_ret]
          exact bodyPost_ret (results_blkT (v1:=.int .i64 E4) (cs:=[.int .i64 0,.string ByteArray.empty,.int .i64 0,.bool false,.int .i64 0]) Tryz.isAgg33 infoFound rfl _ _ rfl rfl HZ.out) rfl hz
      | false =>
       have hcase:tgtB s LN=false ∨ (tgtB s LN=true/\last=true/\fo=false/\slash=false):=by
        have:=HTH.out;rw [hth] at this
        revert this
        cases tgtB s LN <;> cases last <;> cases fo <;> cases slash <;> simp
       have HH:Hid _:=HH3.out hth;clear HH2 HH3 HTH hth;generalize tgtB s LN=tb at *;generalize tgtT s LN=tg at *
       cases hl:last with
       | true =>
        subst hl
        have cE:=end8 HFS.out.1 HB2.out HW.out.2.2 HX2.out HFS.out.2.1 (by have:=HFS.out.2.2.2;omega) part LN HNW.out
        have HR:Hid _:=HH.out.1 rfl
        rw [show ((steps+1:Nat):Int)=(steps:Int)+1 by omega] at HR
        obtain ⟨y0,y1,y2,y3,y4,ey⟩:=endV_is s dir part LN slash ((steps:Int)+1);rw [ey] at cE HR;unfold fdC at cE;generalize endE s part LN slash=eE at *;clear HH ey
        rcases hcase with hc | ⟨hc,_,hc2,hc3⟩
        all_goals
         subst hc
         try rw [hc2] at z2
         try rw [hc3] at z6
         go_wp2_with fail;refine cE.mono ?_;rintro e w5 ⟨⟨rfl,hb5⟩,ho5⟩
         have hA3:=ho5.blk HR2.out (by have:=HW.out;omega)
         have HZ:Hid _:=(fd_put hA3 rfl y0 y1 y2 y3 y4).2;have HB3:Hid (Below w0.heap.size w0 (putL w5 w.heap.size 0 (fdC y0 y1 y2 y3 y4))):=below_but hb5 (but_putL _ _ _ _) HW.out.1;have hz:=HP.out _ _ _ HR.out HB3.out;have g0:=hA3.free 0;have q0:=hA3.cell 0 rfl;have g1:=hA3.free 1;have q1:=hA3.cell 1 rfl;have g2:=hA3.free 2;have q2:=hA3.cell 2 rfl;have g3:=hA3.free 3;have q3:=hA3.cell 3 rfl;have g4:=hA3.free 4;have q4:=hA3.cell 4 rfl
         simp only [putL,fdC] at HZ HB3 hz
         clear hA3 HB3;go_wp2
         try rw [Exit.noGoto_ret]
         exact bodyPost_ret (results_blkT (v1:=.int .i64 eE) (cs:=[.int .i64 y0,.string y1,.int .i64 y2,.bool y3,.int .i64 y4]) Tryz.isAgg33 infoFound rfl _ _ rfl rfl HZ.out) rfl hz
       | false =>
        subst hl
        obtain rfl:tb=false:=by
         rcases hcase with h7 | ⟨_,h7,_⟩
         . exact h7
         . cases h7
        have HG5:Hid (InInv w0 w wb fb s U be fo pa R kk left (some ⟨b,off,none⟩) cp (i+1) LN slash (steps+1) (w2.setCell ⟨wb,4,none⟩ (.int .i64 LN))):=by
         refine ⟨below_but HB2.out (but_set _ _ _ _) HW.out.2.2,?_,At.wk HN2.out HX2.out (fun _=>by simp) (but_set _ _ _ _),HH.out.2 rfl,by have:=HFW.out;omega,HNW.out,HR2.out.but (but_set _ _ _ _) (by have:=HW.out;omega)⟩
         rw [show ((steps+1:Nat):Int)=(steps:Int)+1 by omega]
         exact HX2.out.set 4 (.int .i64 LN)
        clear HH hcase;go_wp2
        go_roundg g
        case rel=>exact ⟨i+1,by omega,by go_num,⟨_,_,HG5.out⟩⟩
        case measure=>omega
    . have hEb:(LE != 0)=true:=by simpa using hE
      have HR:Hid ((fdC 0 ByteArray.empty 0 false 0,LE)=R):=HG1.out hE;have hA3:=HR1.out;have HZ:Hid _:=(fd_put hA3 rfl 0 ByteArray.empty 0 false 0).2;have HB3:Hid (Below w0.heap.size w0 (putL w1 w.heap.size 0 (fdC 0 ByteArray.empty 0 false 0))):=below_but HB1.out (but_putL _ _ _ _) HW.out.1;have hz:=HP.out _ _ _ HR.out HB3.out;have g0:=hA3.free 0;have q0:=hA3.cell 0 rfl;have g1:=hA3.free 1;have q1:=hA3.cell 1 rfl;have g2:=hA3.free 2;have q2:=hA3.cell 2 rfl
      have g3:=hA3.free 3;have q3:=hA3.cell 3 rfl;have g4:=hA3.free 4;have q4:=hA3.cell 4 rfl
      simp only [putL,fdC] at HZ HB3 hz
      clear hA3 HB3;go_wp2
      try rw [Exit.noGoto_ret]
      exact bodyPost_ret (results_blkT (v1:=.int .i64 LE) (cs:=[.int .i64 0,.string ByteArray.empty,.int .i64 0,.bool false,.int .i64 0]) Tryz.isAgg33 infoFound rfl _ _ rfl rfl HZ.out) rfl hz
end
theorem joinL_len : ∀ ps:List (List UInt8),(∀ p ∈ ps,p ≠ [])->2 * ps.length<=(P.joinL ps).length+1
 | [],_=>by simp
 | [a],h=>by
  have:=List.length_pos_iff.2 (h a List.mem_cons_self)
  simp [P.joinL]
  omega
 | a :: b :: r,h=>by
  have h1:=List.length_pos_iff.2 (h a List.mem_cons_self)
  have h2:=joinL_len (b :: r) fun p hp=>h p (List.mem_cons_of_mem _ hp)
  rw [P.joinL_cons (by simp)]
  simp only [List.length_append,List.length_cons] at *
  omega
theorem parts_half (t:ByteArray):(P.pL t).length<=t.size / 2+1:=by
 unfold P.pL
 split
 . have hl:(P.partsOf t).length=(P.fields [] t.data.toList).length:=by rw [<- P.parts_fields];simp
   rw [hl]
   by_cases h0:P.fields [] t.data.toList=[]
   . rw [h0];simp
   . have h1:=(P.fields_sub t.data.toList [] h0).length_le
     have h2:=joinL_len (P.fields [] t.data.toList) fun p hp=>(P.fields_good t.data.toList [] (by simp) p hp).1
     have h3:t.data.toList.length=t.size:=size_list t
     simp only [List.length_append,List.nil_append] at h1
     omega
 . simp
theorem goF_is {s:SS} {c:Nat} (hf:Wf s c) (U:Int->Int) (be fo pa:Bool):∀ (k:Nat) (left:List ByteArray) (dir:Int) (slash:Bool) (steps:Nat),∃ z0 z1 z2 z3,∃ z4:Nat,(goF s U be fo pa k left dir slash steps).1=fdC z0 z1 z2 z3 z4/\z4<=steps+left.length+129 * k:=by
 have key:∀ (nx:Option (List ByteArray->Int->Bool->Nat->List Value × Int)) (m:Nat),(∀ f,nx=some f->∀ left dir slash steps,∃ z0 z1 z2 z3,∃ z4:Nat,(f left dir slash steps).1=fdC z0 z1 z2 z3 z4/\z4+129<=steps+left.length+129 * m)->∀ (left:List ByteArray) (dir:Int) (slash:Bool) (steps:Nat),∃ z0 z1 z2 z3,∃ z4:Nat,(goG s U be fo pa nx left dir slash steps).1=fdC z0 z1 z2 z3 z4/\z4<=steps+left.length+129 * m:=by
  intro nx m hnx left
  induction left with
  | nil=>intro dir slash steps;exact ⟨_,_,_,_,steps,rfl,by omega⟩
  | cons part rest ih =>
   intro dir slash steps
   unfold goG
   split
   . exact ⟨0,ByteArray.empty,0,false,0,rfl,by omega⟩
   . split
     . cases nx with
       | none=>exact ⟨0,ByteArray.empty,0,false,0,rfl,by omega⟩
       | some f =>
        simp only
        split
        . exact ⟨0,ByteArray.empty,0,false,0,rfl,by omega⟩
        . obtain ⟨z0,z1,z2,z3,z4,e,h⟩:=hnx f rfl (P.pL (tgtT s (lkN s U be pa dir part rest.isEmpty)) ++ rest) (takeD dir (tgtT s (lkN s U be pa dir part rest.isEmpty))) (takeS rest slash (tgtT s (lkN s U be pa dir part rest.isEmpty))) (steps+1);have h1:=parts_half (tgtT s (lkN s U be pa dir part rest.isEmpty));have h2:=tgt_short hf (lkN s U be pa dir part rest.isEmpty)
          refine ⟨z0,z1,z2,z3,z4,e,?_⟩
          rw [List.length_append] at h
          simp only [List.length_cons]
          omega
     . split
       . unfold endV
         split
         . exact ⟨_,_,_,_,steps+1,rfl,by simp only [List.length_cons];omega⟩
         . split
           . exact ⟨0,ByteArray.empty,0,false,0,rfl,by omega⟩
           . exact ⟨_,_,_,_,steps+1,rfl,by simp only [List.length_cons];omega⟩
       . obtain ⟨z0,z1,z2,z3,z4,e,h⟩:=ih (lkN s U be pa dir part rest.isEmpty) slash (steps+1)
         exact ⟨z0,z1,z2,z3,z4,e,by simp only [List.length_cons];omega⟩
 intro k
 induction k with
 | zero=>exact key none 0 (fun f h=>by cases h)
 | succ k ih =>
  refine key (some (goF s U be fo pa k)) (k+1) fun f h => ?_
  cases h
  intro left dir slash steps
  obtain ⟨z0,z1,z2,z3,z4,e,h⟩:=ih left dir slash steps
  exact ⟨z0,z1,z2,z3,z4,e,by omega⟩
def walkF (s:SS) (U:Int->Int) (be fo pa:Bool) (start:Int) (t:ByteArray):List Value × Int:=if takeE be t ≠ 0 then (fd0,takeE be t) else goF s U be fo pa 8 (P.pL t) (takeD start t) (P.pD t) 0
theorem walkF_is {s:SS} {c:Nat} (hf:Wf s c) (U:Int->Int) (be fo pa:Bool) (start:Int) (t:ByteArray):∃ z0 z1 z2 z3,∃ z4:Nat,(walkF s U be fo pa start t).1=fdC z0 z1 z2 z3 z4/\z4<=t.size / 2+1+1032:=by
 unfold walkF
 split
 . exact ⟨0,ByteArray.empty,0,false,0,rfl,by omega⟩
 . obtain ⟨z0,z1,z2,z3,z4,e,h⟩:=goF_is hf U be fo pa 8 (P.pL t) (takeD start t) (P.pD t) 0;have:=parts_half t
   exact ⟨z0,z1,z2,z3,z4,e,by omega⟩
def howC (be fo pa:Bool):List Value:=[.bool be,.bool fo,.bool pa]
def WalkPost (R:List Value × Int) (w:World) (e:Ending) (w':World):Prop:=e=.returned (.tuple #[.agg R.1.toArray,.int .i64 R.2])/\Below w.heap.size w w'
theorem walk_any {n fb c:Nat} {w:World} {s:SS} {U:Int->Int} (h:FsAt n w fb c s U) (hf:Wf s c) (ht:Tree s) (hc:c<=900) (be fo pa:Bool) (start:Int) (hs:(Lit.int .i64 start).wf=true) (t:ByteArray) (hts:t.size<=9223372036854775807):Calls Tryz.prog 10 #[ptr fb,.int .i64 start,.string t,.agg (howC be fo pa).toArray] w (WalkPost (walkF s U be fo pa start t) w):=by
 have hb1:=on_alloc w (.cells #[.bool be,.bool fo,.bool pa] 24);have hX:=Blk.new w 24 [.bool be,.bool fo,.bool pa];obtain ⟨w1,hw1⟩:∃ w1,w.alloc (.cells #[.bool be,.bool fo,.bool pa] 24)=w1:=⟨_,rfl⟩
 have hz1:w1.heap.size=w.heap.size+1:=by rw [<- hw1];simp
 have hb2:=on_alloc w1 (.cells #[.int .i64 0,.string ⟨#[]⟩,.int .i64 0,.bool false,.int .i64 0] 33);have hA:=Blk.new w1 33 [.int .i64 0,.string ⟨#[]⟩,.int .i64 0,.bool false,.int .i64 0];obtain ⟨w2,hw2⟩:∃ w2,w1.alloc (.cells #[.int .i64 0,.string ⟨#[]⟩,.int .i64 0,.bool false,.int .i64 0] 33)=w2:=⟨_,rfl⟩
 have hz2:w2.heap.size=w.heap.size+2:=by rw [<- hw2,World.size_alloc,hz1]
 have hb3:=on_alloc w2 (.cells (wkC fb be fo pa start (.slice none 0 0) false 0 0).toArray 57);have hK:=Blk.new w2 57 (wkC fb be fo pa start (.slice none 0 0) false 0 0)
 have hX2:=(hX.on (show Below (w.alloc (.cells [.bool be,.bool fo,.bool pa].toArray 24)).heap.size (w.alloc (.cells [.bool be,.bool fo,.bool pa].toArray 24)) w2 by show Below (w.alloc (.cells #[.bool be,.bool fo,.bool pa] 24)).heap.size (w.alloc (.cells #[.bool be,.bool fo,.bool pa] 24)) w2;rw [hw1,<- hw2];exact hb2))
 rw [hw1] at hb1;rw [hz1] at hA
 have hA:Blk w2 (w.heap.size+1) 33 [.int .i64 0,.string ⟨#[]⟩,.int .i64 0,.bool false,.int .i64 0]:=by rw [<- hw2];exact hA
 rw [hw2] at hb2;have hb12:=on_trans hb1 hb2;have hwk:WkAt w2 w2.heap.size fb be fo pa start [] false 0 0 (w2.alloc (.cells (wkC fb be fo pa start (.slice none 0 0) false 0 0).toArray 57)):=⟨hb3,Nat.le_refl _,none,0,hK,.inl rfl,Nat.le_refl _⟩
 have cT:=take8 hwk (by simp) t hts
 have HFS:Hid (FsAt n w2 fb c s U):=h.on hb12
 have HR:Hid (∃ z0 z1 z2 z3,∃ z4:Nat,(walkF s U be fo pa start t).1=fdC z0 z1 z2 z3 z4):=by
  obtain ⟨z0,z1,z2,z3,z4,e,_⟩:=walkF_is hf U be fo pa start t
  exact ⟨z0,z1,z2,z3,z4,e⟩
 have HP:Hid (∀ V E w',(V,E)=walkF s U be fo pa start t->Below w.heap.size w w'->WalkPost (walkF s U be fo pa start t) w (.returned (.tuple #[.agg V.toArray,.int .i64 E])) w'):=fun V E w' h1 h2=>⟨by rw [<- h1],h2⟩
 generalize WalkPost (walkF s U be fo pa start t) w=Post at *;have HA:Hid _:=hA;have HB12:Hid _:=hb12;have HF:Hid (Wf s c/\Tree s/\c<=900):=⟨hf,ht,hc⟩;have HZ2:Hid (w2.heap.size=w.heap.size+2):=hz2;have HWS:Hid ((Lit.int .i64 start).wf=true):=hs;have HTS:Hid (t.size<=9223372036854775807):=hts;have a0:=hX2.cell 0 rfl;have a1:=hX2.cell 1 rfl;have a2:=hX2.cell 2 rfl;clear h hf ht hc hs hts hb1 hb2 hb3 hb12 hX hX2 hA hK hwk hz1 hz2
 have HG:Hid (∀ w',WkAt w2 (w.heap.size+2) fb be fo pa (takeD start t) (P.pL t ++ []) (takeS [] false t) 0 0 w'->takeE be t=0->Calls Tryz.prog 23 #[ptr (w.heap.size+2)] w' (EndPost w2 (walkF s U be fo pa start t).1 (walkF s U be fo pa start t).2)):=fun w' hk he=>by
  refine walk8 (be:=be) (fo:=fo) (pa:=pa) HFS.out HF.out.1 HF.out.2.1 HF.out.2.2 (k:=8) (steps:=0) (left:=P.pL t) (dir:=takeD start t) (slash:=P.pD t) ⟨?_,?_,⟨?_,by omega⟩,?_,takeD_wf HWS.out⟩
  . have h7:takeS [] false t=P.pD t:=by unfold takeS;rw [if_pos rfl,Bool.false_or]
    rw [h7,List.append_nil] at hk
    exact hk
  . show goF s U be fo pa 8 (P.pL t) (takeD start t) (P.pD t) 0=walkF s U be fo pa start t
    unfold walkF
    rw [if_neg (by simp [he])]
  . have:=parts_few (take_pE he)
    omega
  . exact pL_short (P.pE_ok (take_pE he)).2.1
 have HE:Hid (takeE be t ≠ 0->(fdC 0 ByteArray.empty 0 false 0,takeE be t)=walkF s U be fo pa start t):=fun h7=>by
  unfold walkF;rw [if_pos h7]
  rfl
 have HA3:Hid (∀ w',Below w2.heap.size w2 w'->Blk w' (w.heap.size+1) 33 [.int .i64 0,.string ⟨#[]⟩,.int .i64 0,.bool false,.int .i64 0]):=fun w' hb=>HA.out.on hb
 have HB3:Hid (∀ w',Below w2.heap.size w2 w'->Below w.heap.size w w'):=fun w' hb=>on_trans HB12.out hb
 rw [HZ2.out] at cT;clear HFS HF HWS HTS HA HB12;generalize walkF s U be fo pa start t=R at *;obtain ⟨z0,z1,z2,z3,z4,hz⟩:=HR.out;obtain ⟨V,E⟩:=R
 simp only at hz HG HP HE
 subst hz;unfold howC;unfold wkC at cT;subst hw2;subst hw1;go_enter Tryz.func10,Tryz.ntmps10;go_wp2_with fail;refine cT.mono ?_;rintro e w3 ⟨rfl,hb3,_,hk3⟩;clear cT;generalize takeE be t=tE at *
 by_cases hE:tE=0
 . subst hE;have cW:=HG.out w3 (hk3 rfl) rfl;clear hk3 a0 a1 a2 HE;go_wp2_with fail;refine cW.mono ?_;rintro e w4 ⟨rfl,hb4⟩;have hA4:=HA3.out w4 hb4;have HZ:Hid _:=(fd_put hA4 rfl z0 z1 z2 z3 z4).2
   have HB4:Hid (Below w.heap.size w (putL w4 (w.heap.size+1) 0 (fdC z0 z1 z2 z3 z4))):=below_but (HB3.out w4 hb4) (but_putL _ _ _ _) (by omega)
   have hz:=HP.out _ _ _ rfl HB4.out;have g0:=hA4.free 0;have q0:=hA4.cell 0 rfl;have g1:=hA4.free 1;have q1:=hA4.cell 1 rfl;have g2:=hA4.free 2;have q2:=hA4.cell 2 rfl;have g3:=hA4.free 3;have q3:=hA4.cell 3 rfl;have g4:=hA4.free 4;have q4:=hA4.cell 4 rfl
   simp only [putL,fdC] at HZ HB4 hz
   unfold fdC;clear hA4 hb4 hb3 cW HG HA3 HB3;go_wp2
   exact bodyPost_ret (results_blkT (v1:=.int .i64 E) (cs:=[.int .i64 z0,.string z1,.int .i64 z2,.bool z3,.int .i64 z4]) Tryz.isAgg33 infoFound rfl _ _ rfl rfl HZ.out) rfl hz
 . have hEb:(tE != 0)=true:=by simpa using hE
   have hA4:=HA3.out w3 hb3;have HZ:Hid _:=(fd_put hA4 rfl 0 ByteArray.empty 0 false 0).2
   have HB4:Hid (Below w.heap.size w (putL w3 (w.heap.size+1) 0 (fdC 0 ByteArray.empty 0 false 0))):=below_but (HB3.out w3 hb3) (but_putL _ _ _ _) (by omega)
   have hz:=HP.out _ _ _ (HE.out hE) HB4.out;have g0:=hA4.free 0;have q0:=hA4.cell 0 rfl;have g1:=hA4.free 1;have q1:=hA4.cell 1 rfl;have g2:=hA4.free 2;have q2:=hA4.cell 2 rfl;have g3:=hA4.free 3;have q3:=hA4.cell 3 rfl;have g4:=hA4.free 4;have q4:=hA4.cell 4 rfl
   simp only [putL,fdC] at HZ HB4 hz
   clear hA4 hb3 hk3 a0 a1 a2 HG HA3 HB3 HE;go_wp2
   exact bodyPost_ret (results_blkT (v1:=.int .i64 tE) (cs:=[.int .i64 0,.string ByteArray.empty,.int .i64 0,.bool false,.int .i64 0]) Tryz.isAgg33 infoFound rfl _ _ rfl rfl HZ.out) rfl hz
end Go.Proofs.YthlaoaaafafafaaGreat
