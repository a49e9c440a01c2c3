/- Ours. -/
import Derived.Test.YthlaoaaafafafaaGreatK6
import Derived.Test.YthlaoaaafafafaaGreatK7
import Derived.Test.YthlaoaaafafafaaGreatK8
import Derived.Test.YthlaoaaafafafaaGreatK9
set_option maxRecDepth 100000
set_option maxHeartbeats 16000000
namespace Go.Proofs.YthlaoaaafafafaaGreat
open Go Go.RowKit Go.Maps
section
variable {hi rb c:Nat} {w:World} {s:SS}
theorem rrename7 (h:RefAt6 hi w rb s) (hf:Wf s c) (ht:Tree s) (hc:c<=800) (d1 d2:Int) (n1 n2:ByteArray) (hs1:n1.size<=10000) (hs2:n2.size<=10000):Calls Tryz.prog 54 #[ptr rb,.int .i64 d1,.string n1,.int .i64 d2,.string n2] w (RActPost hi rb (if renDo s d1 n1 d2 n2=true then renF s d1 n1 d2 n2 else s) (renE s d1 n1 d2 n2) w):=by
 have hl:s.L.length<=1000000:=by have:=hf.room;have:=hf.most;omega
 have cD1:=rdir7 h d1 hl;have cD2:=rdir7 h d2 hl;have cN1:=refName_any n1 w hs1;have cN2:=refName_any n2 w hs2
 have HP:Hid (∀ E,renE s d1 n1 d2 n2=E->(E ≠ 0 ∨ find n2 (entsOf s d2)=find n1 (entsOf s d1))->∀ q,RActPost hi rb (if renDo s d1 n1 d2 n2=true then renF s d1 n1 d2 n2 else s) (renE s d1 n1 d2 n2) w (.returned (.int .i64 E)) (w.drewN q)):=fun E h1 h2 q=>by
  have hdo:renDo s d1 n1 d2 n2=false:=decide_eq_false fun h7=>by
   rcases h2 with h8 | h8
   . exact h8 (h1 ▸ h7.1)
   . exact h7.2 h8
  rw [hdo,h1,if_neg (by simp)]
  exact ⟨rfl,(h.drew q).1,(h.drew q).2⟩
 have HPe:Hid (renE s d1 n1 d2 n2=0->find n2 (entsOf s d2) ≠ find n1 (entsOf s d1)->∀ w',RefAt6 hi w' rb (renF s d1 n1 d2 n2)/\Turns isR (.up hi) w w'->RActPost hi rb (if renDo s d1 n1 d2 n2=true then renF s d1 n1 d2 n2 else s) (renE s d1 n1 d2 n2) w (.returned (.int .i64 0)) w'):=fun h1 h2 w' h3=>by
  have hdo:renDo s d1 n1 d2 n2=true:=decide_eq_true ⟨h1,h2⟩;rw [hdo,h1,if_pos rfl]
  exact ⟨rfl,h3.1,h3.2⟩
 have HR:Hid (renE s d1 n1 d2 n2=if dirE s d1 ≠ 0 then ((dirE s d1:Nat):Int) else if dirE s d2 ≠ 0 then ((dirE s d2:Nat):Int) else if nmE n1 n2 ≠ 0 then nmE n1 n2 else if has n1 (entsOf s d1)=false then 2
  else if find n2 (entsOf s d2)=find n1 (entsOf s d1) then 0 else hindE s d1 (find n1 (entsOf s d1)) d2 (find n2 (entsOf s d2))):=rfl
 by_cases a1:dirE s d1=0
 . rw [a1] at cD1
   rw [a1,if_neg (by simp)] at HR
   by_cases a2:dirE s d2=0
   . rw [a2] at cD2
     rw [a2,if_neg (by simp)] at HR
     by_cases a3:nameE n1=0
     . rw [a3] at cN1
       have e3:nmE n1 n2=nameE n2:=by unfold nmE;rw [if_pos a3]
       rw [e3] at HR
       by_cases a4:nameE n2=0
       . rw [a4] at cN2
         rw [a4,if_neg (by simp)] at HR
         have cL:=rlookup7 h hf ht d1 n1 a3 hs1;obtain ⟨i2,en,hz,hek,hgo⟩:=dirE_ok a2;obtain ⟨hem,hei⟩:=look_mem hz;have ees:entsOf s d2=en.ds:=ents_look hz
         have hp1:placeE s d1 n1=0:=by unfold placeE;rw [if_pos a1,a3]
         have eE:entryE s d1 n1=if has n1 (entsOf s d1)=true then 0 else 2:=by unfold entryE;rw [if_pos hp1]
         have eN:entryN s d1 n1=find n1 (entsOf s d1):=by unfold entryN;rw [if_pos hp1]
         rw [eE,eN] at cL
         cases hh:has n1 (entsOf s d1) with
         | true =>
          rw [hh,if_pos rfl] at cL
          rw [hh,if_neg (by simp)] at HR
          obtain ⟨i,dn,j,kn,hx,eds,hy,hfd,hent⟩:=entry_node hf ht hh;obtain ⟨hdm,hdi⟩:=look_mem hx;obtain ⟨hkm,_⟩:=look_mem hy
          have HE2:Hid (∀ q,Calls Tryz.prog 71 #[ptr rb,.int .i64 d2] (w.drewN q) fun e w' => ∃ p cp q2,e=.returned (.slice p en.ds.length cp)/\w'=w.drewN q2/\Calls Tryz.prog 70 #[.slice p en.ds.length cp,.string n2] (w.drewN q2) fun e w'=>e=.returned (.int .i64 (find n2 (entsOf s d2)))/\w'=w.drewN q2):=fun q=>by
           refine (rents7 (h.drew q).1 hz hl).mono ?_
           rintro e w' ⟨v,q2,rfl,hv,rfl⟩;obtain ⟨l,R,hr⟩:=ents_row hf ht hem hv;obtain ⟨p,cp,rfl⟩:=hv.slice
           refine ⟨p,cp,q+q2,rfl,by rw [World.drewN_drewN],?_⟩
           have hb:Below (w.drewN q).heap.size (w.drewN q) (w.drewN (q+q2)):=by rw [<- World.drewN_drewN];exact on_drewN (Below.refl _ _) q2
           have:=rfind_any 0 _ l n2 (w.drewN (q+q2)) (by have:=R.few;omega) (rowS_on hr hb)
           have e9:find n2 (entsOf s d2)=find n2 l:=by rw [ees];exact R.find n2
           rw [e9]
           exact this
          have HEd:Hid (∀ q,Calls Tryz.prog 71 #[ptr rb,.int .i64 d2] (w.drewN q) fun e w' => ∃ p cp q2,e=.returned (.slice p en.ds.length cp)/\w'=w.drewN q2):=fun q=>by
           refine (rents7 (h.drew q).1 hz hl).mono ?_
           rintro e w' ⟨v,q2,rfl,hv,rfl⟩;obtain ⟨p,cp,rfl⟩:=hv.slice
           exact ⟨p,cp,q+q2,rfl,by rw [World.drewN_drewN]⟩
          by_cases a5:find n2 (entsOf s d2)=find n1 (entsOf s d1)
          . have HF:Hid _:=HP.out 0 (by rw [HR.out,if_pos a5]) (.inr a5)
            have a5b:(find n2 (entsOf s d2) == find n1 (entsOf s d1))=true:=beq_iff_eq.2 a5;clear h hf ht HP HPe HR hx hy hz eds ees hdm hem hkm hdi hei hent hek hgo a1 a2 a3 a4 a5 eE eN hp1 e3 hh hfd HEd;generalize RActPost hi rb _ _ w=Post at *;generalize find n1 (entsOf s d1)=f1 at *;generalize find n2 (entsOf s d2)=f2 at *;generalize en.ds.length=nl at *;go_enter Tryz.func54,Tryz.ntmps54;go_wp2_with fail;refine cD1.mono ?_;rintro e w1 ⟨rfl,hw1⟩;subst w1;go_wp2_with fail
            refine cD2.mono ?_;rintro e w1 ⟨rfl,hw1⟩;subst w1;go_wp2_with fail;refine cN1.mono ?_;rintro e w1 ⟨rfl,hw1⟩;subst w1;go_wp2_with fail;refine cN2.mono ?_;rintro e w1 ⟨rfl,hw1⟩;subst w1;go_wp2_with fail;refine cL.mono ?_;rintro e w1 ⟨rfl,q,hw1⟩;subst w1;clear cL cD1 cD2 cN1 cN2;have cE:=HE2.out q;go_wp2_with fail;refine cE.mono ?_;rintro e w1 ⟨p,cp,q,rfl,hw1,cF⟩;subst w1;clear cE;go_wp2_with fail;refine cF.mono ?_;rintro e w1 ⟨rfl,hw1⟩;subst w1;clear cF
            go_wp2
            exact HF.out q
          . cases hov:has n2 (entsOf s d2) with
            | true =>
             cases bk:isDir s (find n1 (entsOf s d1)) with
             | true=>exact rren_od h hf ht hc d1 d2 n1 n2 hs1 hs2 a1 a2 a3 a4 hh a5 hov bk
             | false=>exact rren_on h hf ht hc d1 d2 n1 n2 hs1 hs2 a1 a2 a3 a4 hh a5 hov bk
            | false =>
             cases bk:isDir s (find n1 (entsOf s d1)) with
             | true=>exact rren_nd h hf ht hc d1 d2 n1 n2 hs1 hs2 a1 a2 a3 a4 hh a5 hov bk
             | false=>exact rren_nn h hf ht hc d1 d2 n1 n2 hs1 hs2 a1 a2 a3 a4 hh a5 hov bk
         | false =>
          rw [hh,if_neg (by simp)] at cL
          have HF:Hid _:=HP.out 2 (by rw [HR.out,hh,if_pos rfl]) (.inl (by decide))
          clear h hf ht HP HPe HR hz ees hem hei hek hgo a1 a2 a3 a4 eE eN hp1 e3 hh;generalize RActPost hi rb _ _ w=Post at *;generalize find n1 (entsOf s d1)=f1 at *;go_enter Tryz.func54,Tryz.ntmps54;go_wp2_with fail;refine cD1.mono ?_;rintro e w1 ⟨rfl,hw1⟩;subst w1;go_wp2_with fail;refine cD2.mono ?_;rintro e w1 ⟨rfl,hw1⟩;subst w1;go_wp2_with fail;refine cN1.mono ?_;rintro e w1 ⟨rfl,hw1⟩;subst w1;go_wp2_with fail;refine cN2.mono ?_;rintro e w1 ⟨rfl,hw1⟩;subst w1;go_wp2_with fail
          refine cL.mono ?_;rintro e w1 ⟨rfl,q,hw1⟩;subst w1;clear cL cD1 cD2 cN1 cN2;go_wp2
          exact HF.out q
       . have HF:Hid _:=HP.out _ (by rw [HR.out,if_pos a4]) (.inl a4)
         clear h hf ht HP HPe HR a1 a2 a3 e3;generalize RActPost hi rb _ _ w=Post at *;generalize nameE n2=E at *;go_enter Tryz.func54,Tryz.ntmps54;go_wp2_with fail;refine cD1.mono ?_;rintro e w1 ⟨rfl,hw1⟩;subst w1;go_wp2_with fail;refine cD2.mono ?_;rintro e w1 ⟨rfl,hw1⟩;subst w1;go_wp2_with fail;refine cN1.mono ?_;rintro e w1 ⟨rfl,hw1⟩;subst w1;go_wp2_with fail;refine cN2.mono ?_;rintro e w1 ⟨rfl,hw1⟩;subst w1;go_wp2
         exact HF.out 0
     . have e3:nmE n1 n2=nameE n1:=by unfold nmE;rw [if_neg a3]
       have HF:Hid _:=HP.out _ (by rw [HR.out,e3,if_pos a3]) (.inl a3)
       clear h hf ht HP HPe HR a1 a2 e3;generalize RActPost hi rb _ _ w=Post at *;generalize nameE n1=E at *;go_enter Tryz.func54,Tryz.ntmps54;go_wp2_with fail;refine cD1.mono ?_;rintro e w1 ⟨rfl,hw1⟩;subst w1;go_wp2_with fail;refine cD2.mono ?_;rintro e w1 ⟨rfl,hw1⟩;subst w1;go_wp2_with fail;refine cN1.mono ?_;rintro e w1 ⟨rfl,hw1⟩;subst w1;go_wp2
       exact HF.out 0
   . have a2z:((dirE s d2:Nat):Int) ≠ 0:=by omega
     have HF:Hid _:=HP.out _ (by rw [HR.out,if_pos a2]) (.inl a2z)
     clear h hf ht HP HPe HR a1 a2;generalize RActPost hi rb _ _ w=Post at *;generalize ((dirE s d2:Nat):Int)=E at *;go_enter Tryz.func54,Tryz.ntmps54;go_wp2_with fail;refine cD1.mono ?_;rintro e w1 ⟨rfl,hw1⟩;subst w1;go_wp2_with fail;refine cD2.mono ?_;rintro e w1 ⟨rfl,hw1⟩;subst w1;go_wp2
     exact HF.out 0
 . have a1z:((dirE s d1:Nat):Int) ≠ 0:=by omega
   have HF:Hid _:=HP.out _ (by rw [HR.out,if_pos a1]) (.inl a1z)
   clear h hf ht HP HPe HR a1;generalize RActPost hi rb _ _ w=Post at *;generalize ((dirE s d1:Nat):Int)=E at *;go_enter Tryz.func54,Tryz.ntmps54;go_wp2_with fail;refine cD1.mono ?_;rintro e w1 ⟨rfl,hw1⟩;subst w1;go_wp2
   exact HF.out 0
end
end Go.Proofs.YthlaoaaafafafaaGreat
