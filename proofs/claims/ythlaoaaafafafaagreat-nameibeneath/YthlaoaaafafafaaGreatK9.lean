/- Ours. -/
import Derived.Test.YthlaoaaafafafaaGreatK5
set_option maxRecDepth 100000
set_option maxHeartbeats 16000000
namespace Go.Proofs.YthlaoaaafafafaaGreat
open Go Go.RowKit Go.Maps
section
variable {hi rb c:Nat} {w:World} {s:SS}
theorem rren_nn (h:RefAt6 hi w rb s) (hf:Wf s c) (ht:Tree s) (hc:c<=800) (d1 d2:Int) (n1 n2:ByteArray) (hs1:n1.size<=10000) (hs2:n2.size<=10000) (a1:dirE s d1=0) (a2:dirE s d2=0) (a3:nameE n1=0) (a4:nameE n2=0) (hh:has n1 (entsOf s d1)=true) (a5:¬ find n2 (entsOf s d2)=find n1 (entsOf s d1)) (hov:has n2 (entsOf s d2)=false) (bk:isDir s (find n1 (entsOf s d1))=false):Calls Tryz.prog 54 #[ptr rb,.int .i64 d1,.string n1,.int .i64 d2,.string n2] w (RActPost hi rb (if renDo s d1 n1 d2 n2=true then renF s d1 n1 d2 n2 else s) (renE s d1 n1 d2 n2) w):=by
 have hl:s.L.length<=1000000:=by have:=hf.room;have:=hf.most;omega
 have cD1:=rdir7 h d1 hl;have cD2:=rdir7 h d2 hl;have cN1:=refName_any n1 w hs1;have cN2:=refName_any n2 w hs2
 have HP:Hid (∀ E,renE s d1 n1 d2 n2=E->(E ≠ 0 ∨ find n2 (entsOf s d2)=find n1 (entsOf s d1))->∀ q,RActPost hi rb (if renDo s d1 n1 d2 n2=true then renF s d1 n1 d2 n2 else s) (renE s d1 n1 d2 n2) w (.returned (.int .i64 E)) (w.drewN q)):=fun E h1 h2 q=>by
  have hdo:renDo s d1 n1 d2 n2=false:=decide_eq_false fun h7=>by
   rcases h2 with h8 | h8
   . exact h8 (h1 ▸ h7.1)
   . exact h7.2 h8
  rw [hdo,h1,if_neg (by simp)]
  exact ⟨rfl,(h.drew q).1,(h.drew q).2⟩
 have HPe:Hid (renE s d1 n1 d2 n2=0->find n2 (entsOf s d2) ≠ find n1 (entsOf s d1)->∀ w',RefAt6 hi w' rb (renF s d1 n1 d2 n2)/\Turns isR (.up hi) w w'->RActPost hi rb (if renDo s d1 n1 d2 n2=true then renF s d1 n1 d2 n2 else s) (renE s d1 n1 d2 n2) w (.returned (.int .i64 0)) w'):=fun h1 h2 w' h3=>by
  have hdo:renDo s d1 n1 d2 n2=true:=decide_eq_true ⟨h1,h2⟩;rw [hdo,h1,if_pos rfl]
  exact ⟨rfl,h3.1,h3.2⟩
 have HR:Hid (renE s d1 n1 d2 n2=if dirE s d1 ≠ 0 then ((dirE s d1:Nat):Int) else if dirE s d2 ≠ 0 then ((dirE s d2:Nat):Int) else if nmE n1 n2 ≠ 0 then nmE n1 n2 else if has n1 (entsOf s d1)=false then 2
  else if find n2 (entsOf s d2)=find n1 (entsOf s d1) then 0 else hindE s d1 (find n1 (entsOf s d1)) d2 (find n2 (entsOf s d2))):=rfl
 rw [a1] at cD1
 rw [a1,if_neg (by simp)] at HR
 rw [a2] at cD2
 rw [a2,if_neg (by simp)] at HR
 rw [a3] at cN1
 have e3:nmE n1 n2=nameE n2:=by unfold nmE;rw [if_pos a3]
 rw [e3] at HR;rw [a4] at cN2
 rw [a4,if_neg (by simp)] at HR
 have cL:=rlookup7 h hf ht d1 n1 a3 hs1;obtain ⟨i2,en,hz,hek,hgo⟩:=dirE_ok a2;obtain ⟨hem,hei⟩:=look_mem hz;have ees:entsOf s d2=en.ds:=ents_look hz
 have hp1:placeE s d1 n1=0:=by unfold placeE;rw [if_pos a1,a3]
 have eE:entryE s d1 n1=if has n1 (entsOf s d1)=true then 0 else 2:=by unfold entryE;rw [if_pos hp1]
 have eN:entryN s d1 n1=find n1 (entsOf s d1):=by unfold entryN;rw [if_pos hp1]
 rw [eE,eN] at cL;rw [hh,if_pos rfl] at cL
 rw [hh,if_neg (by simp)] at HR
 obtain ⟨i,dn,j,kn,hx,eds,hy,hfd,hent⟩:=entry_node hf ht hh;obtain ⟨hdm,hdi⟩:=look_mem hx;obtain ⟨hkm,_⟩:=look_mem hy
 have HE2:Hid (∀ q,Calls Tryz.prog 71 #[ptr rb,.int .i64 d2] (w.drewN q) fun e w' => ∃ p cp q2,e=.returned (.slice p en.ds.length cp)/\w'=w.drewN q2/\Calls Tryz.prog 70 #[.slice p en.ds.length cp,.string n2] (w.drewN q2) fun e w'=>e=.returned (.int .i64 (find n2 (entsOf s d2)))/\w'=w.drewN q2):=fun q=>by
  refine (rents7 (h.drew q).1 hz hl).mono ?_
  rintro e w' ⟨v,q2,rfl,hv,rfl⟩;obtain ⟨l,R,hr⟩:=ents_row hf ht hem hv;obtain ⟨p,cp,rfl⟩:=hv.slice
  refine ⟨p,cp,q+q2,rfl,by rw [World.drewN_drewN],?_⟩
  have hb:Below (w.drewN q).heap.size (w.drewN q) (w.drewN (q+q2)):=by rw [<- World.drewN_drewN];exact on_drewN (Below.refl _ _) q2
  have:=rfind_any 0 _ l n2 (w.drewN (q+q2)) (by have:=R.few;omega) (rowS_on hr hb)
  have e9:find n2 (entsOf s d2)=find n2 l:=by rw [ees];exact R.find n2
  rw [e9]
  exact this
 have HEd:Hid (∀ q,Calls Tryz.prog 71 #[ptr rb,.int .i64 d2] (w.drewN q) fun e w' => ∃ p cp q2,e=.returned (.slice p en.ds.length cp)/\w'=w.drewN q2):=fun q=>by
  refine (rents7 (h.drew q).1 hz hl).mono ?_
  rintro e w' ⟨v,q2,rfl,hv,rfl⟩;obtain ⟨p,cp,rfl⟩:=hv.slice
  exact ⟨p,cp,q+q2,rfl,by rw [World.drewN_drewN]⟩
 have a5b:(find n2 (entsOf s d2) == find n1 (entsOf s d1))=false:=beq_eq_false_iff_ne.2 a5;rw [if_neg a5] at HR;have hlk1:1<=kn.links:=ht.entry hdm hent hkm rfl
 have HK:Hid (∀ q,Calls Tryz.prog 28 #[ptr rb,.int .i64 (find n1 (entsOf s d1))] (w.drewN q) fun e w'=>e=.returned (.int .i64 (kn.kind:Nat))/\w'=w.drewN q):=fun q=>by
  have:=rkind7 (h.drew q).1 (find n1 (entsOf s d1)) hl
  rw [show kindOf s (find n1 (entsOf s d1))=kn.kind by unfold kindOf;rw [hy]] at this
  exact this
 have HWi:Hid (kn.kind=2->∀ q,Calls Tryz.prog 103 #[ptr rb,.int .i64 (find n1 (entsOf s d1)),.int .i64 d2] (w.drewN q) fun e w'=>e=.returned (.bool (withinB s (find n1 (entsOf s d1)) d2))/\∃ q2,w'=w.drewN q2):=fun hk2 q=>by
  have:=rwithin7 (h.drew q).1 hf ht hkm hk2 (ym:=en) ⟨hem,hek,by omega⟩
  rw [<- hfd,hei] at this;refine this.mono ?_;rintro e w' ⟨h7,q2,rfl⟩
  exact ⟨h7,q+q2,by rw [World.drewN_drewN]⟩
 have hiD:isDir s (find n1 (entsOf s d1))=(kn.kind == 2):=by rw [hfd];exact isDir_mem hf hkm
 have hfound:=(ht.rel hf hem).found n2;rw [<- ees] at hfound
 have HPe2:Hid (renE s d1 n1 d2 n2=0->∀ w',RefAt6 hi w' rb (renF s d1 n1 d2 n2)/\Turns isR (.up hi) w w'->RActPost hi rb (if renDo s d1 n1 d2 n2=true then renF s d1 n1 d2 n2 else s) (renE s d1 n1 d2 n2) w (.returned (.int .i64 0)) w'):=fun h1=>HPe.out h1 a5
 clear HPe
 have hwd:kn.kind ≠ 2->withinB s (find n1 (entsOf s d1)) d2=false:=fun h7=>by
  unfold withinB;rw [hiD,beq_eq_false_iff_ne.2 h7];rfl
 have hHd:hindE s d1 (find n1 (entsOf s d1)) d2 (find n2 (entsOf s d2))=if withinB s (find n1 (entsOf s d1)) d2=true then 22 else if find n2 (entsOf s d2) ≠ 0 then unlikeE s (find n1 (entsOf s d1)) (find n2 (entsOf s d2)) else if d1 ≠ d2/\64<=(entsOf s d2).length then 28 else 0:=rfl
 rw [hHd] at HR;clear hHd
 have b1:¬ kn.kind=2:=by rw [hiD] at bk;simpa using bk
 clear bk;rw [hov] at hfound;have hzero:find n2 (entsOf s d2)=0:=hfound.2.2 rfl
 have HXn:Hid (∀ q,RenEnd hi rb (renF s d1 n1 d2 n2) w d1 n1 d2 n2 (find n1 (entsOf s d1)) kn.kind false (w.drewN q)):=fun q=>by
  have hfd':find n1 dn.ds=(kn.ino:Int):=by rw [eds];exact hfd
  have:=ren_end_none (w0:=w) (h.drew q).1 hf ht hc hdm hem hkm (by rw [eds];exact hh) hfd' hs2 (by rw [<- ees];exact hov) (h.drew q).2
  rw [hdi,hei,<- hfd] at this
  have e8:renF s d1 n1 d2 n2=(mapS (mapS s (unlinkG dn.ino kn.ino n1)) (linkG en.ino kn.ino n2)).gc:=by
   unfold renF
   rw [if_neg (by rw [hov];simp),hfd,<- hdi,<- hei]
   simp only [Int.toNat_natCast]
  rw [e8];exact this
 rw [hzero] at HE2 a5b
 have hz2:¬ (find n2 (entsOf s d2) ≠ 0):=by simpa using hzero
 rw [if_neg hz2,ees] at HR;clear hz2
 have b1z:((kn.kind:Int) == 2)=false:=beq_eq_false_iff_ne.2 (by omega)
 have HD2:Hid (kn.kind ≠ 2):=b1
 rw [hwd b1,if_neg (by simp)] at HR
 by_cases b4:d1=d2
 . have b4z:(d1 != d2)=false:=by rw [b4];simp
   have HPe:Hid _:=HPe2.out (by rw [HR.out,if_neg fun h7=>h7.1 b4])
   have HX:Hid _:=HXn.out;clear h hf ht HP HPe2 HR hx hy hz eds ees hdm hem hkm hdi hei hent hek hgo a1 a2 a3 a4 a5 eE eN hp1 e3 hh hfd hlk1 hiD hfound hwd hov hzero HEd HXn b4 b1 HWi;generalize renF s d1 n1 d2 n2=Fs at *;generalize RActPost hi rb _ _ w=Post at *;generalize find n1 (entsOf s d1)=f1 at *;generalize en.ds.length=nl at *;generalize kn.kind=kd at *;go_enter Tryz.func54,Tryz.ntmps54;go_wp2_with fail;refine cD1.mono ?_;rintro e w1 ⟨rfl,hw1⟩;subst w1;go_wp2_with fail
   refine cD2.mono ?_;rintro e w1 ⟨rfl,hw1⟩;subst w1;go_wp2_with fail;refine cN1.mono ?_;rintro e w1 ⟨rfl,hw1⟩;subst w1;go_wp2_with fail;refine cN2.mono ?_;rintro e w1 ⟨rfl,hw1⟩;subst w1;go_wp2_with fail;refine cL.mono ?_;rintro e w1 ⟨rfl,q,hw1⟩;subst w1;clear cL cD1 cD2 cN1 cN2;have cE:=HE2.out q;go_wp2_with fail;refine cE.mono ?_;rintro e w1 ⟨p,cp,q,rfl,hw1,cF⟩;subst w1;clear cE;go_wp2_with fail;refine cF.mono ?_;rintro e w1 ⟨rfl,hw1⟩;subst w1;clear cF;have cK:=HK.out q
   go_wp2_with fail;refine cK.mono ?_;rintro e w1 ⟨rfl,hw1⟩;subst w1;clear cK;have cC:=HX.out q;clear HX;unfold RenEnd at cC;go_wp2_with fail;refine cC.mono ?_;rintro e w1 ⟨⟨r,rfl⟩,cR⟩;clear cC;go_wp2_with fail;refine cR.mono ?_;rintro e w2 ⟨⟨r2,rfl⟩,hN,hO⟩;clear cR
   have cA:=hN (by trivial)
   clear hN hO;unfold RenTail at cA;go_wp2_with fail;refine cA.mono ?_;rintro e w4 ⟨⟨r4,rfl⟩,hK2,hKn⟩;clear cA;have cC:=hKn HD2.out;clear hK2 hKn;go_wp2_with fail;refine cC.mono ?_;rintro e w7 ⟨⟨r7,rfl⟩,hfin⟩;have hfin2:=HPe.out w7 hfin;clear cC hfin;go_wp2
   exact hfin2
 . have b4z:(d1 != d2)=true:=bne_iff_ne.2 b4
   by_cases b5:64<=en.ds.length
   . have HF:Hid _:=HP.out 28 (by rw [HR.out,if_pos ⟨b4,b5⟩]) (.inl (by decide))
     have b5z:(64:Int)<=(en.ds.length:Int):=by omega
     clear h hf ht HP HPe2 HR hx hy hz eds ees hdm hem hkm hdi hei hent hek hgo a1 a2 a3 a4 a5 eE eN hp1 e3 hh hfd hlk1 hiD hfound hwd hov hzero HXn b4 b5 b1 HWi HD2;generalize RActPost hi rb _ _ w=Post at *;generalize find n1 (entsOf s d1)=f1 at *;generalize en.ds.length=nl at *;generalize (kn.kind:Int)=kz at *;go_enter Tryz.func54,Tryz.ntmps54;go_wp2_with fail;refine cD1.mono ?_;rintro e w1 ⟨rfl,hw1⟩;subst w1;go_wp2_with fail;refine cD2.mono ?_;rintro e w1 ⟨rfl,hw1⟩;subst w1
     go_wp2_with fail;refine cN1.mono ?_;rintro e w1 ⟨rfl,hw1⟩;subst w1;go_wp2_with fail;refine cN2.mono ?_;rintro e w1 ⟨rfl,hw1⟩;subst w1;go_wp2_with fail;refine cL.mono ?_;rintro e w1 ⟨rfl,q,hw1⟩;subst w1;clear cL cD1 cD2 cN1 cN2;have cE:=HE2.out q;go_wp2_with fail;refine cE.mono ?_;rintro e w1 ⟨p,cp,q,rfl,hw1,cF⟩;subst w1;clear cE;go_wp2_with fail;refine cF.mono ?_;rintro e w1 ⟨rfl,hw1⟩;subst w1;clear cF;have cK:=HK.out q;go_wp2_with fail;refine cK.mono ?_
     rintro e w1 ⟨rfl,hw1⟩;subst w1;clear cK;have cE:=HEd.out q;go_wp2_with fail;refine cE.mono ?_;rintro e w1 ⟨p,cp,q,rfl,hw1⟩;subst w1;clear cE;go_wp2
     exact HF.out q
   . have b5z:¬ (64:Int)<=(en.ds.length:Int):=by omega
     have HPe:Hid _:=HPe2.out (by rw [HR.out,if_neg fun h7=>b5 h7.2])
     have HX:Hid _:=HXn.out;clear h hf ht HP HPe2 HR hx hy hz eds ees hdm hem hkm hdi hei hent hek hgo a1 a2 a3 a4 a5 eE eN hp1 e3 hh hfd hlk1 hiD hfound hwd hov hzero HXn b4 b5 b1 HWi;generalize renF s d1 n1 d2 n2=Fs at *;generalize RActPost hi rb _ _ w=Post at *;generalize find n1 (entsOf s d1)=f1 at *;generalize en.ds.length=nl at *;generalize kn.kind=kd at *;go_enter Tryz.func54,Tryz.ntmps54;go_wp2_with fail;refine cD1.mono ?_;rintro e w1 ⟨rfl,hw1⟩;subst w1;go_wp2_with fail
     refine cD2.mono ?_;rintro e w1 ⟨rfl,hw1⟩;subst w1;go_wp2_with fail;refine cN1.mono ?_;rintro e w1 ⟨rfl,hw1⟩;subst w1;go_wp2_with fail;refine cN2.mono ?_;rintro e w1 ⟨rfl,hw1⟩;subst w1;go_wp2_with fail;refine cL.mono ?_;rintro e w1 ⟨rfl,q,hw1⟩;subst w1;clear cL cD1 cD2 cN1 cN2;have cE:=HE2.out q;go_wp2_with fail;refine cE.mono ?_;rintro e w1 ⟨p,cp,q,rfl,hw1,cF⟩;subst w1;clear cE;go_wp2_with fail;refine cF.mono ?_;rintro e w1 ⟨rfl,hw1⟩;subst w1;clear cF;have cK:=HK.out q
     go_wp2_with fail;refine cK.mono ?_;rintro e w1 ⟨rfl,hw1⟩;subst w1;clear cK;have cE:=HEd.out q;go_wp2_with fail;refine cE.mono ?_;rintro e w1 ⟨p,cp,q,rfl,hw1⟩;subst w1;clear cE;have cC:=HX.out q;clear HX;unfold RenEnd at cC;go_wp2_with fail;refine cC.mono ?_;rintro e w1 ⟨⟨r,rfl⟩,cR⟩;clear cC;go_wp2_with fail;refine cR.mono ?_;rintro e w2 ⟨⟨r2,rfl⟩,hN,hO⟩;clear cR
     have cA:=hN (by trivial)
     clear hN hO;unfold RenTail at cA;go_wp2_with fail;refine cA.mono ?_;rintro e w4 ⟨⟨r4,rfl⟩,hK2,hKn⟩;clear cA;have cC:=hKn HD2.out;clear hK2 hKn;go_wp2_with fail;refine cC.mono ?_;rintro e w7 ⟨⟨r7,rfl⟩,hfin⟩;have hfin2:=HPe.out w7 hfin;clear cC hfin;go_wp2
     exact hfin2
end
end Go.Proofs.YthlaoaaafafafaaGreat
