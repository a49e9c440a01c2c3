/- Ours. -/
import Derived.Test.YthlaoaaafafafaaGreatK5
set_option maxRecDepth 100000
set_option maxHeartbeats 16000000
namespace Go.Proofs.YthlaoaaafafafaaGreat
open Go Go.RowKit Go.Maps
section
variable {hi rb c:Nat} {w:World} {s:SS}
theorem rren_od (h:RefAt6 hi w rb s) (hf:Wf s c) (ht:Tree s) (hc:c<=800) (d1 d2:Int) (n1 n2:ByteArray) (hs1:n1.size<=10000) (hs2:n2.size<=10000) (a1:dirE s d1=0) (a2:dirE s d2=0) (a3:nameE n1=0) (a4:nameE n2=0) (hh:has n1 (entsOf s d1)=true) (a5:¬ find n2 (entsOf s d2)=find n1 (entsOf s d1)) (hov:has n2 (entsOf s d2)=true) (bk:isDir s (find n1 (entsOf s d1))=true):Calls Tryz.prog 54 #[ptr rb,.int .i64 d1,.string n1,.int .i64 d2,.string n2] w (RActPost hi rb (if renDo s d1 n1 d2 n2=true then renF s d1 n1 d2 n2 else s) (renE s d1 n1 d2 n2) w):=by
 have hl:s.L.length<=1000000:=by have:=hf.room;have:=hf.most;omega
 have cD1:=rdir7 h d1 hl;have cD2:=rdir7 h d2 hl;have cN1:=refName_any n1 w hs1;have cN2:=refName_any n2 w hs2
 have HP:Hid (∀ E,renE s d1 n1 d2 n2=E->(E ≠ 0 ∨ find n2 (entsOf s d2)=find n1 (entsOf s d1))->∀ q,RActPost hi rb (if renDo s d1 n1 d2 n2=true then renF s d1 n1 d2 n2 else s) (renE s d1 n1 d2 n2) w (.returned (.int .i64 E)) (w.drewN q)):=fun E h1 h2 q=>by
  have hdo:renDo s d1 n1 d2 n2=false:=decide_eq_false fun h7=>by
   rcases h2 with h8 | h8
   . exact h8 (h1 ▸ h7.1)
   . exact h7.2 h8
  rw [hdo,h1,if_neg (by simp)]
  exact ⟨rfl,(h.drew q).1,(h.drew q).2⟩
 have HPe:Hid (renE s d1 n1 d2 n2=0->find n2 (entsOf s d2) ≠ find n1 (entsOf s d1)->∀ w',RefAt6 hi w' rb (renF s d1 n1 d2 n2)/\Turns isR (.up hi) w w'->RActPost hi rb (if renDo s d1 n1 d2 n2=true then renF s d1 n1 d2 n2 else s) (renE s d1 n1 d2 n2) w (.returned (.int .i64 0)) w'):=fun h1 h2 w' h3=>by
  have hdo:renDo s d1 n1 d2 n2=true:=decide_eq_true ⟨h1,h2⟩;rw [hdo,h1,if_pos rfl]
  exact ⟨rfl,h3.1,h3.2⟩
 have HR:Hid (renE s d1 n1 d2 n2=if dirE s d1 ≠ 0 then ((dirE s d1:Nat):Int) else if dirE s d2 ≠ 0 then ((dirE s d2:Nat):Int) else if nmE n1 n2 ≠ 0 then nmE n1 n2 else if has n1 (entsOf s d1)=false then 2
  else if find n2 (entsOf s d2)=find n1 (entsOf s d1) then 0 else hindE s d1 (find n1 (entsOf s d1)) d2 (find n2 (entsOf s d2))):=rfl
 rw [a1] at cD1
 rw [a1,if_neg (by simp)] at HR
 rw [a2] at cD2
 rw [a2,if_neg (by simp)] at HR
 rw [a3] at cN1
 have e3:nmE n1 n2=nameE n2:=by unfold nmE;rw [if_pos a3]
 rw [e3] at HR;rw [a4] at cN2
 rw [a4,if_neg (by simp)] at HR
 have cL:=rlookup7 h hf ht d1 n1 a3 hs1;obtain ⟨i2,en,hz,hek,hgo⟩:=dirE_ok a2;obtain ⟨hem,hei⟩:=look_mem hz;have ees:entsOf s d2=en.ds:=ents_look hz
 have hp1:placeE s d1 n1=0:=by unfold placeE;rw [if_pos a1,a3]
 have eE:entryE s d1 n1=if has n1 (entsOf s d1)=true then 0 else 2:=by unfold entryE;rw [if_pos hp1]
 have eN:entryN s d1 n1=find n1 (entsOf s d1):=by unfold entryN;rw [if_pos hp1]
 rw [eE,eN] at cL;rw [hh,if_pos rfl] at cL
 rw [hh,if_neg (by simp)] at HR
 obtain ⟨i,dn,j,kn,hx,eds,hy,hfd,hent⟩:=entry_node hf ht hh;obtain ⟨hdm,hdi⟩:=look_mem hx;obtain ⟨hkm,_⟩:=look_mem hy
 have HE2:Hid (∀ q,Calls Tryz.prog 71 #[ptr rb,.int .i64 d2] (w.drewN q) fun e w' => ∃ p cp q2,e=.returned (.slice p en.ds.length cp)/\w'=w.drewN q2/\Calls Tryz.prog 70 #[.slice p en.ds.length cp,.string n2] (w.drewN q2) fun e w'=>e=.returned (.int .i64 (find n2 (entsOf s d2)))/\w'=w.drewN q2):=fun q=>by
  refine (rents7 (h.drew q).1 hz hl).mono ?_
  rintro e w' ⟨v,q2,rfl,hv,rfl⟩;obtain ⟨l,R,hr⟩:=ents_row hf ht hem hv;obtain ⟨p,cp,rfl⟩:=hv.slice
  refine ⟨p,cp,q+q2,rfl,by rw [World.drewN_drewN],?_⟩
  have hb:Below (w.drewN q).heap.size (w.drewN q) (w.drewN (q+q2)):=by rw [<- World.drewN_drewN];exact on_drewN (Below.refl _ _) q2
  have:=rfind_any 0 _ l n2 (w.drewN (q+q2)) (by have:=R.few;omega) (rowS_on hr hb)
  have e9:find n2 (entsOf s d2)=find n2 l:=by rw [ees];exact R.find n2
  rw [e9]
  exact this
 have HEd:Hid (∀ q,Calls Tryz.prog 71 #[ptr rb,.int .i64 d2] (w.drewN q) fun e w' => ∃ p cp q2,e=.returned (.slice p en.ds.length cp)/\w'=w.drewN q2):=fun q=>by
  refine (rents7 (h.drew q).1 hz hl).mono ?_
  rintro e w' ⟨v,q2,rfl,hv,rfl⟩;obtain ⟨p,cp,rfl⟩:=hv.slice
  exact ⟨p,cp,q+q2,rfl,by rw [World.drewN_drewN]⟩
 have a5b:(find n2 (entsOf s d2) == find n1 (entsOf s d1))=false:=beq_eq_false_iff_ne.2 a5;rw [if_neg a5] at HR;have hlk1:1<=kn.links:=ht.entry hdm hent hkm rfl
 have HK:Hid (∀ q,Calls Tryz.prog 28 #[ptr rb,.int .i64 (find n1 (entsOf s d1))] (w.drewN q) fun e w'=>e=.returned (.int .i64 (kn.kind:Nat))/\w'=w.drewN q):=fun q=>by
  have:=rkind7 (h.drew q).1 (find n1 (entsOf s d1)) hl
  rw [show kindOf s (find n1 (entsOf s d1))=kn.kind by unfold kindOf;rw [hy]] at this
  exact this
 have HWi:Hid (kn.kind=2->∀ q,Calls Tryz.prog 103 #[ptr rb,.int .i64 (find n1 (entsOf s d1)),.int .i64 d2] (w.drewN q) fun e w'=>e=.returned (.bool (withinB s (find n1 (entsOf s d1)) d2))/\∃ q2,w'=w.drewN q2):=fun hk2 q=>by
  have:=rwithin7 (h.drew q).1 hf ht hkm hk2 (ym:=en) ⟨hem,hek,by omega⟩
  rw [<- hfd,hei] at this;refine this.mono ?_;rintro e w' ⟨h7,q2,rfl⟩
  exact ⟨h7,q+q2,by rw [World.drewN_drewN]⟩
 have hiD:isDir s (find n1 (entsOf s d1))=(kn.kind == 2):=by rw [hfd];exact isDir_mem hf hkm
 have hfound:=(ht.rel hf hem).found n2;rw [<- ees] at hfound
 have HPe2:Hid (renE s d1 n1 d2 n2=0->∀ w',RefAt6 hi w' rb (renF s d1 n1 d2 n2)/\Turns isR (.up hi) w w'->RActPost hi rb (if renDo s d1 n1 d2 n2=true then renF s d1 n1 d2 n2 else s) (renE s d1 n1 d2 n2) w (.returned (.int .i64 0)) w'):=fun h1=>HPe.out h1 a5
 clear HPe
 have hwd:kn.kind ≠ 2->withinB s (find n1 (entsOf s d1)) d2=false:=fun h7=>by
  unfold withinB;rw [hiD,beq_eq_false_iff_ne.2 h7];rfl
 have hHd:hindE s d1 (find n1 (entsOf s d1)) d2 (find n2 (entsOf s d2))=if withinB s (find n1 (entsOf s d1)) d2=true then 22 else if find n2 (entsOf s d2) ≠ 0 then unlikeE s (find n1 (entsOf s d1)) (find n2 (entsOf s d2)) else if d1 ≠ d2/\64<=(entsOf s d2).length then 28 else 0:=rfl
 rw [hHd] at HR;clear hHd
 have b1:kn.kind=2:=by rw [hiD] at bk;simpa using bk
 clear bk;rw [hov] at hfound;have hpos:0 < find n2 (entsOf s d2):=hfound.1.2 rfl
 have hnz:find n2 (entsOf s d2) ≠ 0:=by omega
 obtain ⟨i3,en3,j3,wn,hz3,ees3,hv,hfw,hent3⟩:=entry_node hf ht hov;obtain ⟨hwm,_⟩:=look_mem hv
 have hiW:isDir s (find n2 (entsOf s d2))=(wn.kind == 2):=by rw [hfw];exact isDir_mem hf hwm
 have eW:entsOf s (find n2 (entsOf s d2))=wn.ds:=ents_look hv
 have hkw:wn.ino ≠ kn.ino:=fun e=>a5 (by rw [hfd,hfw,e])
 have HKo:Hid (∀ q,Calls Tryz.prog 28 #[ptr rb,.int .i64 (find n2 (entsOf s d2))] (w.drewN q) fun e w'=>e=.returned (.int .i64 (wn.kind:Nat))/\w'=w.drewN q):=fun q=>by
  have:=rkind7 (h.drew q).1 (find n2 (entsOf s d2)) hl
  rw [show kindOf s (find n2 (entsOf s d2))=wn.kind by unfold kindOf;rw [hv]] at this
  exact this
 have HEo:Hid (∀ q,Calls Tryz.prog 71 #[ptr rb,.int .i64 (find n2 (entsOf s d2))] (w.drewN q) fun e w' => ∃ p cp q2,e=.returned (.slice p wn.ds.length cp)/\w'=w.drewN q2):=fun q=>by
  refine (rents7 (h.drew q).1 hv hl).mono ?_
  rintro e w' ⟨v,q2,rfl,hv2,rfl⟩;obtain ⟨p,cp,rfl⟩:=hv2.slice
  exact ⟨p,cp,q+q2,rfl,by rw [World.drewN_drewN]⟩
 have hUn:unlikeE s (find n1 (entsOf s d1)) (find n2 (entsOf s d2))=if kn.kind=2 then (if wn.kind=2 then (if 0 < wn.ds.length then 66 else 0) else 20) else (if wn.kind=2 then 21 else 0):=by
  unfold unlikeE;rw [hiD,hiW,eW]
  by_cases b1:kn.kind=2 <;> by_cases b2:wn.kind=2 <;> simp [b1,b2]
 rw [if_pos hnz,hUn] at HR
 have HXo:Hid (en.ino ≠ kn.ino->wn.ds=[]->∀ q,RenEnd hi rb (renF s d1 n1 d2 n2) w d1 n1 d2 n2 (find n1 (entsOf s d1)) kn.kind true (w.drewN q)):=fun hek2 hwe q=>by
  have e7:en3=en:=by rw [hz] at hz3;simp only [Option.some.injEq,Prod.mk.injEq] at hz3;exact hz3.2.symm
  subst e7
  have hfd':find n1 dn.ds=(kn.ino:Int):=by rw [eds];exact hfd
  have hfw':find n2 en3.ds=(wn.ino:Int):=by rw [ees3];exact hfw
  have:=ren_end_over (w0:=w) (h.drew q).1 hf ht hc hdm hem hkm (by rw [eds];exact hh) hfd' hs2 hek2 (by rw [ees3];exact hov) hwm hfw' hkw hwe (h.drew q).2
  rw [hdi,hei,<- hfd] at this
  have e8:renF s d1 n1 d2 n2=(mapS (mapS (mapS s (unlinkG dn.ino kn.ino n1)) (unlinkG en3.ino wn.ino n2)) (linkG en3.ino kn.ino n2)).gc:=by
   unfold renF;rw [if_pos hov,hfd,hfw,<- hdi,<- hei]
   simp only [Int.toNat_natCast]
  rw [e8];exact this
 have hwe0:kn.kind ≠ 2->wn.kind ≠ 2->wn.ds=[]:=fun _ h8=>by
  by_cases h9:wn.ds=[]
  . exact h9
  . exact absurd (ht.dirs wn hwm h9).1 h8
 have HWi0:Hid _:=HWi.out b1;clear HWi;have HWi:Hid _:=HWi0.out;clear HWi0;rw [if_pos b1] at HR;rw [b1] at HK
 cases hb:withinB s (find n1 (entsOf s d1)) d2 with
 | true =>
  have HF:Hid _:=HP.out 22 (by rw [HR.out,hb,if_pos rfl]) (.inl (by decide))
  rw [hb] at HWi;clear h hf ht HP HPe2 HR hx hy hz eds ees hdm hem hkm hdi hei hent hek hgo a1 a2 a3 a4 a5 eE eN hp1 e3 hh hfd hlk1 hiD hfound hwd hnz hz3 ees3 hv hfw hent3 hwm hiW eW hkw hUn hov HEd HKo HEo HXo hwe0 hb b1;generalize RActPost hi rb _ _ w=Post at *;generalize find n1 (entsOf s d1)=f1 at *;generalize find n2 (entsOf s d2)=f2 at *;generalize en.ds.length=nl at *;go_enter Tryz.func54,Tryz.ntmps54;go_wp2_with fail;refine cD1.mono ?_;rintro e w1 ⟨rfl,hw1⟩;subst w1;go_wp2_with fail
  refine cD2.mono ?_;rintro e w1 ⟨rfl,hw1⟩;subst w1;go_wp2_with fail;refine cN1.mono ?_;rintro e w1 ⟨rfl,hw1⟩;subst w1;go_wp2_with fail;refine cN2.mono ?_;rintro e w1 ⟨rfl,hw1⟩;subst w1;go_wp2_with fail;refine cL.mono ?_;rintro e w1 ⟨rfl,q,hw1⟩;subst w1;clear cL cD1 cD2 cN1 cN2;have cE:=HE2.out q;go_wp2_with fail;refine cE.mono ?_;rintro e w1 ⟨p,cp,q,rfl,hw1,cF⟩;subst w1;clear cE;go_wp2_with fail;refine cF.mono ?_;rintro e w1 ⟨rfl,hw1⟩;subst w1;clear cF;have cK:=HK.out q
  go_wp2_with fail;refine cK.mono ?_;rintro e w1 ⟨rfl,hw1⟩;subst w1;clear cK;have cW:=HWi.out q;go_wp2_with fail;refine cW.mono ?_;rintro e w1 ⟨rfl,q,hw1⟩;subst w1;clear cW;go_wp2
  exact HF.out q
 | false =>
  rw [hb,if_neg (by simp)] at HR
  have hek2:en.ino ≠ kn.ino:=fun e7=>by
   have h7:=(within_iff ht hf hem kn.ino).2 ⟨by rw [isDir_mem hf hkm,b1];rfl,by rw [Int.toNat_natCast,e7];exact Up.refl _ _⟩
   rw [hei,<- hfd,hb] at h7;cases h7
  rw [hb] at HWi
  by_cases b2:wn.kind=2
  . rw [b2] at HKo;rw [if_pos b2] at HR
    by_cases b3:0 < wn.ds.length
    . have HF:Hid _:=HP.out 66 (by rw [HR.out,if_pos b3]) (.inl (by decide))
      have b3z:(0:Int) < (wn.ds.length:Int):=by omega
      clear h hf ht HP HPe2 HR hx hy hz eds ees hdm hem hkm hdi hei hent hek hgo a1 a2 a3 a4 a5 eE eN hp1 e3 hh hfd hlk1 hiD hfound hwd hnz hz3 ees3 hv hfw hent3 hwm hiW eW hkw hUn hov HEd HXo hwe0 hb b1 b2 b3 hek2;generalize RActPost hi rb _ _ w=Post at *;generalize find n1 (entsOf s d1)=f1 at *;generalize find n2 (entsOf s d2)=f2 at *;generalize en.ds.length=nl at *;generalize wn.ds.length=wl at *;go_enter Tryz.func54,Tryz.ntmps54;go_wp2_with fail;refine cD1.mono ?_;rintro e w1 ⟨rfl,hw1⟩
      subst w1;go_wp2_with fail;refine cD2.mono ?_;rintro e w1 ⟨rfl,hw1⟩;subst w1;go_wp2_with fail;refine cN1.mono ?_;rintro e w1 ⟨rfl,hw1⟩;subst w1;go_wp2_with fail;refine cN2.mono ?_;rintro e w1 ⟨rfl,hw1⟩;subst w1;go_wp2_with fail;refine cL.mono ?_;rintro e w1 ⟨rfl,q,hw1⟩;subst w1;clear cL cD1 cD2 cN1 cN2;have cE:=HE2.out q;go_wp2_with fail;refine cE.mono ?_;rintro e w1 ⟨p,cp,q,rfl,hw1,cF⟩;subst w1;clear cE;go_wp2_with fail;refine cF.mono ?_;rintro e w1 ⟨rfl,hw1⟩
      subst w1;clear cF;have cK:=HK.out q;go_wp2_with fail;refine cK.mono ?_;rintro e w1 ⟨rfl,hw1⟩;subst w1;clear cK;have cW:=HWi.out q;go_wp2_with fail;refine cW.mono ?_;rintro e w1 ⟨rfl,q,hw1⟩;subst w1;clear cW;have cK:=HKo.out q;go_wp2_with fail;refine cK.mono ?_;rintro e w1 ⟨rfl,hw1⟩;subst w1;clear cK;have cE:=HEo.out q;go_wp2_with fail;refine cE.mono ?_;rintro e w1 ⟨p,cp,q,rfl,hw1⟩;subst w1;clear cE;go_wp2
      exact HF.out q
    . have b3e:wn.ds.length=0:=by omega
      have HX:Hid _:=HXo.out hek2 (List.eq_nil_of_length_eq_zero b3e)
      have HPe:Hid _:=HPe2.out (by rw [HR.out,if_neg b3])
      have HD2:Hid (kn.kind=2):=b1;rw [b3e] at HEo;clear h hf ht HP HPe2 HR hx hy hz eds ees hdm hem hkm hdi hei hent hek hgo a1 a2 a3 a4 a5 eE eN hp1 e3 hh hfd hlk1 hiD hfound hwd hnz hz3 ees3 hv hfw hent3 hwm hiW eW hkw hUn hov HEd HXo hwe0 hb b1 b2 b3 hek2 b3e;generalize renF s d1 n1 d2 n2=Fs at *;generalize RActPost hi rb _ _ w=Post at *;generalize find n1 (entsOf s d1)=f1 at *;generalize find n2 (entsOf s d2)=f2 at *;generalize en.ds.length=nl at *;generalize kn.kind=kd at *
      go_enter Tryz.func54,Tryz.ntmps54;go_wp2_with fail;refine cD1.mono ?_;rintro e w1 ⟨rfl,hw1⟩;subst w1;go_wp2_with fail;refine cD2.mono ?_;rintro e w1 ⟨rfl,hw1⟩;subst w1;go_wp2_with fail;refine cN1.mono ?_;rintro e w1 ⟨rfl,hw1⟩;subst w1;go_wp2_with fail;refine cN2.mono ?_;rintro e w1 ⟨rfl,hw1⟩;subst w1;go_wp2_with fail;refine cL.mono ?_;rintro e w1 ⟨rfl,q,hw1⟩;subst w1;clear cL cD1 cD2 cN1 cN2;have cE:=HE2.out q;go_wp2_with fail;refine cE.mono ?_;rintro e w1 ⟨p,cp,q,rfl,hw1,cF⟩
      subst w1;clear cE;go_wp2_with fail;refine cF.mono ?_;rintro e w1 ⟨rfl,hw1⟩;subst w1;clear cF;have cK:=HK.out q;go_wp2_with fail;refine cK.mono ?_;rintro e w1 ⟨rfl,hw1⟩;subst w1;clear cK;have cW:=HWi.out q;go_wp2_with fail;refine cW.mono ?_;rintro e w1 ⟨rfl,q,hw1⟩;subst w1;clear cW;have cK:=HKo.out q;go_wp2_with fail;refine cK.mono ?_;rintro e w1 ⟨rfl,hw1⟩;subst w1;clear cK;have cE:=HEo.out q;go_wp2_with fail;refine cE.mono ?_;rintro e w1 ⟨p,cp,q,rfl,hw1⟩
      subst w1;clear cE;have cC:=HX.out q;clear HX;unfold RenEnd at cC;go_wp2_with fail;refine cC.mono ?_;rintro e w1 ⟨⟨r,rfl⟩,cR⟩;clear cC;go_wp2_with fail;refine cR.mono ?_;rintro e w2 ⟨⟨r2,rfl⟩,hN,hO⟩;clear cR
      have cO:=hO (by trivial)
      clear hN hO;go_wp2_with fail;refine cO.mono ?_;rintro e w3 ⟨⟨r3,rfl⟩,cA⟩;clear cO;unfold RenTail at cA;go_wp2_with fail;refine cA.mono ?_;rintro e w4 ⟨⟨r4,rfl⟩,hK2,hKn⟩;clear cA;obtain ⟨j,cT,g,mm,cap,z0,z1,⟨z,z2⟩,z3,cC⟩:=hK2 HD2.out;clear hK2 hKn
      have hjz:(j:Int) < (mm:Int):=by omega
      have hjz2:¬ (j:Int) < 0:=by omega
      go_wp2_with fail;refine cT.mono ?_;rintro e w6 ⟨rfl,hw6⟩;subst w6;clear cT;go_wp2_with fail;refine cC.mono ?_;rintro e w7 ⟨⟨r7,rfl⟩,hfin⟩;have hfin2:=HPe.out w7 hfin;clear cC hfin;go_wp2
      exact hfin2
  . rw [if_neg b2] at HR
    have HF:Hid _:=HP.out 20 HR.out (.inl (by decide))
    have b2z:((wn.kind:Int) != 2)=true:=bne_iff_ne.2 (by omega)
    clear h hf ht HP HPe2 HR hx hy hz eds ees hdm hem hkm hdi hei hent hek hgo a1 a2 a3 a4 a5 eE eN hp1 e3 hh hfd hlk1 hiD hfound hwd hnz hz3 ees3 hv hfw hent3 hwm hiW eW hkw hUn hov HEd HXo HEo hwe0 hb b1 b2 hek2;generalize RActPost hi rb _ _ w=Post at *;generalize find n1 (entsOf s d1)=f1 at *;generalize find n2 (entsOf s d2)=f2 at *;generalize en.ds.length=nl at *;generalize (wn.kind:Int)=wk at *;go_enter Tryz.func54,Tryz.ntmps54;go_wp2_with fail;refine cD1.mono ?_;rintro e w1 ⟨rfl,hw1⟩
    subst w1;go_wp2_with fail;refine cD2.mono ?_;rintro e w1 ⟨rfl,hw1⟩;subst w1;go_wp2_with fail;refine cN1.mono ?_;rintro e w1 ⟨rfl,hw1⟩;subst w1;go_wp2_with fail;refine cN2.mono ?_;rintro e w1 ⟨rfl,hw1⟩;subst w1;go_wp2_with fail;refine cL.mono ?_;rintro e w1 ⟨rfl,q,hw1⟩;subst w1;clear cL cD1 cD2 cN1 cN2;have cE:=HE2.out q;go_wp2_with fail;refine cE.mono ?_;rintro e w1 ⟨p,cp,q,rfl,hw1,cF⟩;subst w1;clear cE;go_wp2_with fail;refine cF.mono ?_;rintro e w1 ⟨rfl,hw1⟩
    subst w1;clear cF;have cK:=HK.out q;go_wp2_with fail;refine cK.mono ?_;rintro e w1 ⟨rfl,hw1⟩;subst w1;clear cK;have cW:=HWi.out q;go_wp2_with fail;refine cW.mono ?_;rintro e w1 ⟨rfl,q,hw1⟩;subst w1;clear cW;have cK:=HKo.out q;go_wp2_with fail;refine cK.mono ?_;rintro e w1 ⟨rfl,hw1⟩;subst w1;clear cK;go_wp2
    exact HF.out q
end
end Go.Proofs.YthlaoaaafafafaaGreat
