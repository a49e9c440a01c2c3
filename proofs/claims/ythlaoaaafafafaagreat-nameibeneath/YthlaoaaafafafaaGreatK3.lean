/- Ours. -/
import Derived.Test.YthlaoaaafafafaaGreatK2
set_option maxRecDepth 100000
set_option maxHeartbeats 16000000
namespace Go.Proofs.YthlaoaaafafafaaGreat
open Go Go.RowKit Go.Maps
def RActPost (hi rb:Nat) (s:SS) (E:Int) (w:World) (e:Ending) (w':World):Prop:=e=.returned (.int .i64 E)/\RefAt6 hi w' rb s/\Turns isR (.up hi) w w'
theorem RefAt6.drew {hi rb:Nat} {w:World} {s:SS} (h:RefAt6 hi w rb s) (q:Nat):RefAt6 hi (w.drewN q) rb s/\Turns isR (.up hi) w (w.drewN q):=⟨h.on (on_drewN (Below.refl _ _) q),.on (on_drewN (Below.refl _ _) q)⟩
theorem isDir_kind (s:SS) (k:Int):isDir s k=(kindOf s k == 2):=by
 unfold isDir kindOf
 cases look s k <;> rfl
section
variable {hi rb c:Nat} {w:World} {s:SS}
theorem runlink7 (h:RefAt6 hi w rb s) (hf:Wf s c) (ht:Tree s) (hc:c<=900) (d:Int) (nm:ByteArray) (hsz:nm.size<=10000):Calls Tryz.prog 50 #[ptr rb,.int .i64 d,.string nm] w (RActPost hi rb (if unlinkE s d nm=0 then rdropP s d nm (find nm (entsOf s d)) else s) (unlinkE s d nm) w):=by
 have hl:s.L.length<=1000000:=by have:=hf.room;have:=hf.most;omega
 have cN:=rnamed7 h hf ht d nm hsz
 by_cases h0:entryE s d nm=0
 . obtain ⟨hp,hh⟩:=entryE_ok h0;obtain ⟨i,dn,j,kn,hx,eds,hy,hfd,hent⟩:=entry_node hf ht hh;have eN:entryN s d nm=find nm (entsOf s d):=if_pos hp
   have HK:Hid (∀ q,Calls Tryz.prog 28 #[ptr rb,.int .i64 (find nm (entsOf s d))] (w.drewN q) fun e w'=>e=.returned (.int .i64 (kindOf s (find nm (entsOf s d)):Nat))/\w'=w.drewN q):=fun q=>rkind7 (h.drew q).1 _ hl
   rw [h0,eN] at cN
   by_cases hk:kindOf s (find nm (entsOf s d))=2
   . have e1:unlinkE s d nm=1:=by unfold unlinkE;rw [if_neg (by simpa using h0),isDir_kind,hk];rfl
     have HP:Hid (∀ q,RActPost hi rb (if unlinkE s d nm=0 then rdropP s d nm (find nm (entsOf s d)) else s) (unlinkE s d nm) w (.returned (.int .i64 1)) (w.drewN q)):=fun q=>by
      rw [e1]
      exact ⟨rfl,(h.drew q).1,(h.drew q).2⟩
     rw [hk] at HK;clear h hf ht hx hy hfd eds hent hh hp h0 eN e1 hk;generalize RActPost hi rb _ _ w=Post at *;generalize find nm (entsOf s d)=k at *;go_enter Tryz.func50,Tryz.ntmps50;go_wp2_with fail;refine cN.mono ?_;rintro e w1 ⟨rfl,q,hw1⟩;subst w1;have cK:=HK.out q;go_wp2_with fail;refine cK.mono ?_;rintro e w1 ⟨rfl,hw1⟩;subst w1;go_wp2
     exact HP.out q
   . have e1:unlinkE s d nm=0:=by
      unfold unlinkE
      rw [if_neg (by simpa using h0),isDir_kind,if_neg]
      simpa using hk
     have hm:=(look_mem hx).1
     have HD:Hid (∀ q,Calls Tryz.prog 97 #[ptr rb,.int .i64 d,.string nm] (w.drewN q) fun e w'=>(∃ r,e=.returned r)/\RActPost hi rb (if unlinkE s d nm=0 then rdropP s d nm (find nm (entsOf s d)) else s) (unlinkE s d nm) w (.returned (.int .i64 0)) w'):=fun q=>by
      rw [<- eds] at hy ⊢
      refine (rdrop7 (h.drew q).1 hf hc hx (ht.rel hf hm) nm hy).mono ?_
      rintro e w' ⟨rfl,h1,h2⟩;rw [e1]
      exact ⟨⟨_,rfl⟩,rfl,h1,(h.drew q).2.trans h2⟩
     have hkz:¬ ((kindOf s (find nm (entsOf s d)):Nat):Int)=2:=by omega
     clear h hf ht hx hy hfd eds hent hh hp h0 eN e1 hk hm;generalize RActPost hi rb _ _ w=Post at *;generalize ((kindOf s (find nm (entsOf s d)):Nat):Int)=kz at *;generalize find nm (entsOf s d)=k at *;go_enter Tryz.func50,Tryz.ntmps50;go_wp2_with fail;refine cN.mono ?_;rintro e w1 ⟨rfl,q,hw1⟩;subst w1;have cK:=HK.out q;go_wp2_with fail;refine cK.mono ?_;rintro e w1 ⟨rfl,hw1⟩;subst w1;have cD:=HD.out q;go_wp2_with fail;refine cD.mono ?_;rintro e w1 ⟨⟨r,rfl⟩,hfin⟩
     go_wp2
     exact hfin
 . have e1:unlinkE s d nm=entryE s d nm:=if_pos h0
   have HP:Hid (∀ q,RActPost hi rb (if unlinkE s d nm=0 then rdropP s d nm (find nm (entsOf s d)) else s) (unlinkE s d nm) w (.returned (.int .i64 (entryE s d nm))) (w.drewN q)):=fun q=>by
    rw [e1,if_neg h0]
    exact ⟨rfl,(h.drew q).1,(h.drew q).2⟩
   clear h hf ht e1;generalize RActPost hi rb _ _ w=Post at *;generalize entryE s d nm=E at *;generalize entryN s d nm=N at *;go_enter Tryz.func50,Tryz.ntmps50;go_wp2_with fail;refine cN.mono ?_;rintro e w1 ⟨rfl,q,hw1⟩;subst w1;go_wp2
   exact HP.out q
theorem rrmdir7 (h:RefAt6 hi w rb s) (hf:Wf s c) (ht:Tree s) (hc:c<=900) (d:Int) (nm:ByteArray) (hsz:nm.size<=10000):Calls Tryz.prog 52 #[ptr rb,.int .i64 d,.string nm] w (RActPost hi rb (if rmdirE s d nm=0 then rdropP s d nm (find nm (entsOf s d)) else s) (rmdirE s d nm) w):=by
 have hl:s.L.length<=1000000:=by have:=hf.room;have:=hf.most;omega
 have cN:=rnamed7 h hf ht d nm hsz
 by_cases h0:entryE s d nm=0
 . obtain ⟨hp,hh⟩:=entryE_ok h0;obtain ⟨i,dn,j,kn,hx,eds,hy,hfd,hent⟩:=entry_node hf ht hh;have eN:entryN s d nm=find nm (entsOf s d):=if_pos hp
   have HK:Hid (∀ q,Calls Tryz.prog 28 #[ptr rb,.int .i64 (find nm (entsOf s d))] (w.drewN q) fun e w'=>e=.returned (.int .i64 (kindOf s (find nm (entsOf s d)):Nat))/\w'=w.drewN q):=fun q=>rkind7 (h.drew q).1 _ hl
   rw [h0,eN] at cN
   by_cases hk:kindOf s (find nm (entsOf s d))=2
   . have eK:entsOf s (find nm (entsOf s d))=kn.ds:=ents_look hy
     have HE:Hid (∀ q,Calls Tryz.prog 71 #[ptr rb,.int .i64 (find nm (entsOf s d))] (w.drewN q) fun e w' => ∃ p cp q2,e=.returned (.slice p kn.ds.length cp)/\w'=w.drewN q2):=fun q=>by
      refine (rents7 (h.drew q).1 hy hl).mono ?_
      rintro e w' ⟨v,q2,rfl,hv,rfl⟩;obtain ⟨p,cp,rfl⟩:=hv.slice
      exact ⟨p,cp,q+q2,rfl,by rw [World.drewN_drewN]⟩
     rw [hk] at HK;have hm:=(look_mem hx).1
     by_cases hne:0 < kn.ds.length
     . have e1:rmdirE s d nm=66:=by unfold rmdirE;rw [if_neg (by simpa using h0),isDir_kind,hk,if_neg (by simp),eK,if_pos hne]
       have HP:Hid (∀ q,RActPost hi rb (if rmdirE s d nm=0 then rdropP s d nm (find nm (entsOf s d)) else s) (rmdirE s d nm) w (.returned (.int .i64 66)) (w.drewN q)):=fun q=>by
        rw [e1]
        exact ⟨rfl,(h.drew q).1,(h.drew q).2⟩
       have hnz:(0:Int) < (kn.ds.length:Int):=by omega
       clear h hf ht hx hy hfd eds hent hh hp h0 eN e1 hk hm eK;generalize RActPost hi rb _ _ w=Post at *;generalize find nm (entsOf s d)=k at *;generalize kn.ds.length=nl at *;go_enter Tryz.func52,Tryz.ntmps52;go_wp2_with fail;refine cN.mono ?_;rintro e w1 ⟨rfl,q,hw1⟩;subst w1;have cK:=HK.out q;go_wp2_with fail;refine cK.mono ?_;rintro e w1 ⟨rfl,hw1⟩;subst w1;have cE:=HE.out q;go_wp2_with fail;refine cE.mono ?_;rintro e w1 ⟨p,cp,q2,rfl,hw1⟩;subst w1;go_wp2
       exact HP.out q2
     . have e1:rmdirE s d nm=0:=by unfold rmdirE;rw [if_neg (by simpa using h0),isDir_kind,hk,if_neg (by simp),eK,if_neg hne]
       have hz:kn.ds.length=0:=by omega
       rw [hz] at HE
       have HD:Hid (∀ q,Calls Tryz.prog 97 #[ptr rb,.int .i64 d,.string nm] (w.drewN q) fun e w'=>(∃ r,e=.returned r)/\RActPost hi rb (if rmdirE s d nm=0 then rdropP s d nm (find nm (entsOf s d)) else s) (rmdirE s d nm) w (.returned (.int .i64 0)) w'):=fun q=>by
        rw [<- eds] at hy ⊢
        refine (rdrop7 (h.drew q).1 hf hc hx (ht.rel hf hm) nm hy).mono ?_
        rintro e w' ⟨rfl,h1,h2⟩;rw [e1]
        exact ⟨⟨_,rfl⟩,rfl,h1,(h.drew q).2.trans h2⟩
       clear h hf ht hx hy hfd eds hent hh hp h0 eN e1 hk hm eK hne hz;generalize RActPost hi rb _ _ w=Post at *;generalize find nm (entsOf s d)=k at *;go_enter Tryz.func52,Tryz.ntmps52;go_wp2_with fail;refine cN.mono ?_;rintro e w1 ⟨rfl,q,hw1⟩;subst w1;have cK:=HK.out q;go_wp2_with fail;refine cK.mono ?_;rintro e w1 ⟨rfl,hw1⟩;subst w1;have cE:=HE.out q;go_wp2_with fail;refine cE.mono ?_;rintro e w1 ⟨p,cp,q2,rfl,hw1⟩;subst w1;have cD:=HD.out q2;go_wp2_with fail
       refine cD.mono ?_;rintro e w1 ⟨⟨r,rfl⟩,hfin⟩;go_wp2
       exact hfin
   . have e1:rmdirE s d nm=20:=by
      unfold rmdirE
      rw [if_neg (by simpa using h0),isDir_kind,if_pos]
      simpa using hk
     have HP:Hid (∀ q,RActPost hi rb (if rmdirE s d nm=0 then rdropP s d nm (find nm (entsOf s d)) else s) (rmdirE s d nm) w (.returned (.int .i64 20)) (w.drewN q)):=fun q=>by
      rw [e1]
      exact ⟨rfl,(h.drew q).1,(h.drew q).2⟩
     have hkz:¬ ((kindOf s (find nm (entsOf s d)):Nat):Int)=2:=by omega
     clear h hf ht hx hy hfd eds hent hh hp h0 eN e1 hk;generalize RActPost hi rb _ _ w=Post at *;generalize ((kindOf s (find nm (entsOf s d)):Nat):Int)=kz at *;generalize find nm (entsOf s d)=k at *;go_enter Tryz.func52,Tryz.ntmps52;go_wp2_with fail;refine cN.mono ?_;rintro e w1 ⟨rfl,q,hw1⟩;subst w1;have cK:=HK.out q;go_wp2_with fail;refine cK.mono ?_;rintro e w1 ⟨rfl,hw1⟩;subst w1;go_wp2
     exact HP.out q
 . have e1:rmdirE s d nm=entryE s d nm:=if_pos h0
   have HP:Hid (∀ q,RActPost hi rb (if rmdirE s d nm=0 then rdropP s d nm (find nm (entsOf s d)) else s) (rmdirE s d nm) w (.returned (.int .i64 (entryE s d nm))) (w.drewN q)):=fun q=>by
    rw [e1,if_neg h0]
    exact ⟨rfl,(h.drew q).1,(h.drew q).2⟩
   clear h hf ht e1;generalize RActPost hi rb _ _ w=Post at *;generalize entryE s d nm=E at *;generalize entryN s d nm=N at *;go_enter Tryz.func52,Tryz.ntmps52;go_wp2_with fail;refine cN.mono ?_;rintro e w1 ⟨rfl,q,hw1⟩;subst w1;go_wp2
   exact HP.out q
end
theorem look_root {s:SS} {c:Nat} (hf:Wf s c) (ht:Tree s):∃ rn,look s 1=some (0,rn)/\1<=rn.holds:=by
 obtain ⟨rn,hrn,er,_,_,hh,_⟩:=ht.root;obtain ⟨i,hi⟩:=look_of hf hrn;rw [er] at hi
 refine ⟨rn,?_,hh⟩
 obtain ⟨hlt,e,_⟩:=look_some hi
 have h0:i=0:=by
  cases i with
  | zero=>rfl
  | succ i =>
   have h1:=List.pairwise_iff_getElem.1 hf.sorted 0 (i+1) (by omega) hlt (by omega)
   have h2:=(hf.num _ (List.getElem_mem (show 0 < s.L.length by omega))).1
   rw [<- e,er] at h1
   omega
 rw [h0] at hi
 exact hi
theorem place_two {s:SS} {d:Int} {nm:ByteArray} (h:placeE s d nm=2) (h0:dirE s d=0):nm.toList.isEmpty=true:=by
 unfold placeE at h;rw [if_pos h0] at h;unfold nameE at h
 split at h
 . rename_i h1
   have:nm.toList=[]:=List.eq_nil_of_length_eq_zero (by rw [ByteArray.toList_eq,size_list];exact h1)
   rw [this];rfl
 . split at h
   . cases h
   . split at h <;> cases h
theorem name_some {nm:ByteArray} (h:nameE nm=0):nm.toList.isEmpty=false:=by
 cases hh:nm.toList with
 | nil =>
  have:nm.size=0:=by rw [<- size_list,<- ByteArray.toList_eq,hh];rfl
  unfold nameE at h;rw [if_pos this] at h;cases h
 | cons a r=>rfl
section
variable {hi rb c:Nat} {w:World} {s:SS}
theorem rrelease7 (h:RefAt6 hi w rb s) (hf:Wf s c) (ht:Tree s) (hc:c<=900) (x:Int):Calls Tryz.prog 58 #[ptr rb,.int .i64 x] w (RActPost hi rb (if relE s x=0 then lessS s x false else s) (relE s x:Nat) w):=by
 have cC:=rlessH h hf (by omega) x
 have HQ:Hid (relE s x ≠ 0->relE s x=lessE s x false->lessS s x false=s):=fun h1 h2=>by
  rw [h2] at h1;unfold lessE at h1;unfold lessS
  cases hx:look s x with
  | none=>rfl
  | some y =>
   rw [hx] at h1
   by_cases h3:y.2.cnt false=0
   . show (if y.2.cnt false=0 then s else _)=s
     rw [if_pos h3]
   . exact absurd (if_neg h3) h1
 have HP:Hid (relE s x=lessE s x false->∀ w',RPost hi rb (lessS s x false) (lessE s x false) w (.returned (.int .i64 (lessE s x false:Nat))) w'->RActPost hi rb (if relE s x=0 then lessS s x false else s) (relE s x:Nat) w (.returned (.int .i64 (lessE s x false:Nat))) w'):=fun h1 w' ⟨_,h2,h3⟩=>by
  refine ⟨by rw [h1],?_,h3⟩
  by_cases h4:relE s x=0
  . rw [if_pos h4];exact h2
  . rw [if_neg h4];rw [HQ.out h4 h1] at h2;exact h2
 by_cases h1:x=1
 . subst h1;obtain ⟨rn,hr,hh⟩:=look_root hf ht
   have eH:holdsOf s 1=rn.holds:=by unfold holdsOf;rw [hr]
   obtain ⟨hlt,en,_,_⟩:=look_some hr;have h':=h;obtain ⟨rv,Q,eQ,hM⟩:=h';have hQ:=ix_map eQ
   obtain ⟨g,cap,rfl,_,_,_,hcl⟩:=hM.place (k:=0) (by omega)
   have x0:=hM.box.cell 0 rfl
   have x3:=hcl 3 (by omega) _ rfl
   rw [show (Q[0]'(by omega)).n.holds=rn.holds by rw [map_get eQ (by omega) hlt,en]] at x3
   rw [Nat.zero_mul,Nat.zero_add] at x3
   have hz:(0:Int) < (Q.length:Int):=by omega
   by_cases h2:rn.holds=1
   . have e1:relE s 1=22:=by unfold relE;rw [eH,if_pos ⟨rfl,h2⟩]
     have HF:Hid (RActPost hi rb (if relE s 1=0 then lessS s 1 false else s) (relE s 1:Nat) w (.returned (.int .i64 22)) w):=by
      rw [e1];exact ⟨rfl,h,.refl _ _ _⟩
     rw [h2] at x3;clear h hf ht hM hcl eQ cC HP HQ hr eH en e1;generalize RActPost hi rb _ _ w=Post at *;go_enter Tryz.func58,Tryz.ntmps58;go_wp2
     exact HF.out
   . have e1:relE s 1=lessE s 1 false:=by unfold relE;rw [eH,if_neg fun h7=>h2 h7.2]
     have h2z:¬ (rn.holds:Int) < 2:=by omega
     have HF:Hid _:=HP.out e1;clear h hf ht hM hcl eQ HP HQ hr eH en e1;generalize RActPost hi rb _ _ w=Post at *;generalize (rn.holds:Int)=hz2 at *;go_enter Tryz.func58,Tryz.ntmps58;go_wp2_with fail;refine cC.mono ?_;rintro e w1 ⟨rfl,h8⟩;have hfin:=HF.out w1 ⟨rfl,h8⟩;clear h8 HF;go_wp2
     exact hfin
 . have e1:relE s x=lessE s x false:=by unfold relE;rw [if_neg fun h7=>h1 h7.1]
   have HF:Hid _:=HP.out e1;clear h hf ht HP HQ e1;generalize RActPost hi rb _ _ w=Post at *;go_enter Tryz.func58,Tryz.ntmps58;go_wp2_with fail;refine cC.mono ?_;rintro e w1 ⟨rfl,h8⟩;have hfin:=HF.out w1 ⟨rfl,h8⟩;clear h8 HF;go_wp2
   exact hfin
theorem rlink7 (h:RefAt6 hi w rb s) (hf:Wf s c) (ht:Tree s) (hc:c<=900) (d:Int) (nm:ByteArray) (hsz:nm.size<=10000) (k:Int):Calls Tryz.prog 48 #[ptr rb,.int .i64 d,.string nm,.int .i64 k] w (RActPost hi rb (if linkE s d nm k=0 then linkP s d nm k else s) (linkE s d nm k) w):=by
 have hl:s.L.length<=1000000:=by have:=hf.room;have:=hf.most;omega
 have cN:=rnamed7 h hf ht d nm hsz
 have HD:Hid (∀ q,Calls Tryz.prog 25 #[ptr rb,.int .i64 d] (w.drewN q) fun e w'=>e=.returned (.int .i64 (dirE s d:Nat))/\w'=w.drewN q):=fun q=>rdir7 (h.drew q).1 d hl
 have HA:Hid (∀ q,Calls Tryz.prog 29 #[ptr rb,.int .i64 k] (w.drewN q) fun e w'=>e=.returned (.int .i64 (ixZ s.L k))/\w'=w.drewN q):=fun q=>rat_any (h.drew q).1 k hl
 have HP:Hid (∀ E,linkE s d nm k=E->E ≠ 0->∀ q,RActPost hi rb (if linkE s d nm k=0 then linkP s d nm k else s) (linkE s d nm k) w (.returned (.int .i64 E)) (w.drewN q)):=fun E h1 h2 q=>by
  rw [h1,if_neg h2]
  exact ⟨rfl,(h.drew q).1,(h.drew q).2⟩
 by_cases h0:placeE s d nm=0
 . obtain ⟨hd0,hname⟩:=placeE_ok h0;have hem:=name_some hname;obtain ⟨i,dn,hx,hdk,hgo⟩:=dirE_ok hd0;have hdm:=(look_mem hx).1;have eds:entsOf s d=dn.ds:=ents_look hx
   have eN:entryN s d nm=find nm dn.ds:=by unfold entryN;rw [if_pos h0,eds]
   have eE:entryE s d nm=if has nm dn.ds=true then 0 else 2:=by unfold entryE;rw [if_pos h0,eds]
   have hfound:=(ht.rel hf hdm).found nm
   have HE:Hid (∀ q,Calls Tryz.prog 71 #[ptr rb,.int .i64 d] (w.drewN q) fun e w' => ∃ p cp q2,e=.returned (.slice p dn.ds.length cp)/\w'=w.drewN q2):=fun q=>by
    refine (rents7 (h.drew q).1 hx hl).mono ?_
    rintro e w' ⟨v,q2,rfl,hv,rfl⟩;obtain ⟨p,cp,rfl⟩:=hv.slice
    exact ⟨p,cp,q+q2,rfl,by rw [World.drewN_drewN]⟩
   rw [hd0] at HD;rw [eN,eE] at cN
   have HL:Hid (linkE s d nm k=if statE s k ≠ 0 then 2 else if kindOf s k=2 then 1 else if has nm (entsOf s d)=true then 17 else if 32<=linksOf s k then 31 else if 64<=(entsOf s d).length then 28 else 0):=by
    show linkE s d nm k=_
    unfold linkE
    rw [if_neg (by simpa using h0)]
   cases hy:look s k with
   | none =>
    have hst:statE s k ≠ 0:=by unfold statE;rw [hy];simp
    have HF:Hid _:=HP.out 2 (by rw [HL.out,if_pos hst]) (by decide)
    rw [ixZ_look_none hy] at HA
    by_cases hh:has nm dn.ds=true
    . rw [hh,if_pos rfl] at cN;have hpos:0 < find nm dn.ds:=hfound.1.2 hh;clear h hf ht HP HL hfound eN eE hx hdm eds hdk hgo hd0 h0 hname hst hy HE hh;generalize RActPost hi rb _ _ w=Post at *;generalize find nm dn.ds=fz at *;go_enter Tryz.func48,Tryz.ntmps48;go_wp2_with fail;refine cN.mono ?_;rintro e w1 ⟨rfl,q,hw1⟩;subst w1;have cA:=HA.out q;go_wp2_with fail;refine cA.mono ?_;rintro e w1 ⟨rfl,hw1⟩;subst w1;go_wp2
      exact HF.out q
    . rw [if_neg hh] at cN
      have hzero:find nm dn.ds=0:=hfound.2.2 (by simpa using hh)
      rw [hzero] at cN;clear hzero;clear h hf ht HP HL hfound eN eE hx hdm eds hdk hgo hd0 h0 hname hst hy HE hh;generalize RActPost hi rb _ _ w=Post at *;go_enter Tryz.func48,Tryz.ntmps48;go_wp2_with fail;refine cN.mono ?_;rintro e w1 ⟨rfl,q,hw1⟩;subst w1;have cD:=HD.out q;go_wp2_with fail;refine cD.mono ?_;rintro e w1 ⟨rfl,hw1⟩;subst w1;have cA:=HA.out q;go_wp2_with fail;refine cA.mono ?_;rintro e w1 ⟨rfl,hw1⟩;subst w1;go_wp2
      exact HF.out q
   | some y =>
    obtain ⟨j,kn⟩:=y;obtain ⟨hj,en,_,_⟩:=look_some hy
    have hst:statE s k=0:=by unfold statE;rw [hy]
    have ek:kindOf s k=kn.kind:=by unfold kindOf;rw [hy]
    have elk:linksOf s k=kn.links:=by unfold linksOf;rw [hy]
    rw [ixZ_look_some hy] at HA
    rw [hst,if_neg (by simp),ek,elk,eds] at HL
    have hX:=fun q=>radd7 (h.drew q).1 hf hc hx (ht.rel hf hdm) nm hsz k
    obtain ⟨g,cap,HC⟩:∃ g cap,Hid (∀ q,(w.drewN q).cell? ⟨rb,0,none⟩=some (.slice (some ⟨g,0,none⟩) s.L.length cap)/\(w.drewN q).cell? ⟨g,j * 9+1,none⟩=some (.int .i64 (kn.kind:Nat))/\(w.drewN q).cell? ⟨g,j * 9+2,none⟩=some (.int .i64 (kn.links:Nat))):=by
     obtain ⟨rv,Q,eQ,hM⟩:=h;have hQ:=ix_map eQ
     obtain ⟨g,cap,rfl,_,_,_,hcl⟩:=hM.place (k:=j) (by omega)
     have x0:=hM.box.cell 0 rfl
     have x1:=hcl 1 (by omega) _ rfl
     have x2:=hcl 2 (by omega) _ rfl
     rw [show (Q[j]'(by omega)).n.kind=kn.kind by rw [map_get eQ (by omega) hj,en]] at x1
     rw [show (Q[j]'(by omega)).n.links=kn.links by rw [map_get eQ (by omega) hj,en]] at x2
     rw [hQ] at x0
     exact ⟨g,cap,fun q=>⟨x0,x1,x2⟩⟩
    have hjz:(j:Int) < (s.L.length:Int):=by omega
    have hjz2:¬ (j:Int) < 0:=by omega
    have HX:Hid (linkE s d nm k=0->∀ q,Calls Tryz.prog 94 #[ptr rb,.int .i64 d,.string nm,.int .i64 k] (w.drewN q) fun e w'=>(∃ r,e=.returned r)/\RActPost hi rb (if linkE s d nm k=0 then linkP s d nm k else s) (linkE s d nm k) w (.returned (.int .i64 0)) w'):=fun h1 q=>(hX q).mono fun e w' ⟨h2,h3,h4⟩=>⟨⟨_,h2⟩,by rw [h1,if_pos rfl];exact ⟨rfl,h3,(h.drew q).2.trans h4⟩⟩
    clear hX
    by_cases hk:kn.kind=2
    . have HF:Hid _:=HP.out 1 (by rw [HL.out,if_pos hk]) (by decide)
      rw [hk] at HC
      by_cases hh:has nm dn.ds=true
      . rw [hh,if_pos rfl] at cN;have hpos:0 < find nm dn.ds:=hfound.1.2 hh;clear h hf ht HP HL hfound eN eE hx hdm eds hdk hgo hd0 h0 hname hst hy en ek elk HE HX hk hh;generalize RActPost hi rb _ _ w=Post at *;generalize kn.links=lk at *;generalize find nm dn.ds=fz at *;go_enter Tryz.func48,Tryz.ntmps48;go_wp2_with fail;refine cN.mono ?_;rintro e w1 ⟨rfl,q,hw1⟩;subst w1;have cA:=HA.out q;go_wp2_with fail;refine cA.mono ?_;rintro e w1 ⟨rfl,hw1⟩;subst w1;obtain ⟨x0,x1,x2⟩:=HC.out q
        go_wp2
        exact HF.out q
      . rw [if_neg hh] at cN
        have hzero:find nm dn.ds=0:=hfound.2.2 (by simpa using hh)
        rw [hzero] at cN;clear hzero;clear h hf ht HP HL hfound eN eE hx hdm eds hdk hgo hd0 h0 hname hst hy en ek elk HE HX hk hh;generalize RActPost hi rb _ _ w=Post at *;generalize kn.links=lk at *;go_enter Tryz.func48,Tryz.ntmps48;go_wp2_with fail;refine cN.mono ?_;rintro e w1 ⟨rfl,q,hw1⟩;subst w1;have cD:=HD.out q;go_wp2_with fail;refine cD.mono ?_;rintro e w1 ⟨rfl,hw1⟩;subst w1;have cA:=HA.out q;go_wp2_with fail;refine cA.mono ?_;rintro e w1 ⟨rfl,hw1⟩;subst w1
        obtain ⟨x0,x1,x2⟩:=HC.out q;go_wp2
        exact HF.out q
    . have hkz:¬ (kn.kind:Int)=2:=by omega
      rw [if_neg hk] at HL
      by_cases hh:has nm dn.ds=true
      . have HF:Hid _:=HP.out 17 (by rw [HL.out,if_pos hh]) (by decide)
        rw [hh,if_pos rfl] at cN;have hpos:0 < find nm dn.ds:=hfound.1.2 hh;clear h hf ht HP HL hfound eN eE hx hdm eds hdk hgo hd0 h0 hname hst hy en ek elk HE HX hk hh;generalize RActPost hi rb _ _ w=Post at *;generalize (kn.kind:Int)=kz at *;generalize kn.links=lk at *;generalize find nm dn.ds=fz at *;go_enter Tryz.func48,Tryz.ntmps48;go_wp2_with fail;refine cN.mono ?_;rintro e w1 ⟨rfl,q,hw1⟩;subst w1;have cA:=HA.out q;go_wp2_with fail;refine cA.mono ?_;rintro e w1 ⟨rfl,hw1⟩
        subst w1;obtain ⟨x0,x1,x2⟩:=HC.out q;go_wp2
        exact HF.out q
      . rw [if_neg hh] at cN HL
        have hzero:find nm dn.ds=0:=hfound.2.2 (by simpa using hh)
        rw [hzero] at cN
        by_cases h32:32<=kn.links
        . have HF:Hid _:=HP.out 31 (by rw [HL.out,if_pos h32]) (by decide)
          have h32z:(32:Int)<=(kn.links:Int):=by omega
          clear h hf ht HP HL hfound eN eE hx hdm eds hdk hgo hd0 h0 hname hst hy en ek elk HE HX hk hh hzero h32;generalize RActPost hi rb _ _ w=Post at *;generalize (kn.kind:Int)=kz at *;generalize (kn.links:Int)=lk at *;go_enter Tryz.func48,Tryz.ntmps48;go_wp2_with fail;refine cN.mono ?_;rintro e w1 ⟨rfl,q,hw1⟩;subst w1;have cD:=HD.out q;go_wp2_with fail;refine cD.mono ?_;rintro e w1 ⟨rfl,hw1⟩;subst w1;have cA:=HA.out q;go_wp2_with fail;refine cA.mono ?_;rintro e w1 ⟨rfl,hw1⟩
          subst w1;obtain ⟨x0,x1,x2⟩:=HC.out q;go_wp2
          exact HF.out q
        . rw [if_neg h32] at HL
          have h32z:¬ (32:Int)<=(kn.links:Int):=by omega
          by_cases h64:64<=dn.ds.length
          . have HF:Hid _:=HP.out 28 (by rw [HL.out,if_pos h64]) (by decide)
            have h64z:(64:Int)<=(dn.ds.length:Int):=by omega
            clear h hf ht HP HL hfound eN eE hx hdm eds hdk hgo hd0 h0 hname hst hy en ek elk HX hk hh hzero h32 h64;generalize RActPost hi rb _ _ w=Post at *;generalize (kn.kind:Int)=kz at *;generalize (kn.links:Int)=lk at *;generalize dn.ds.length=nl at *;go_enter Tryz.func48,Tryz.ntmps48;go_wp2_with fail;refine cN.mono ?_;rintro e w1 ⟨rfl,q,hw1⟩;subst w1;have cD:=HD.out q;go_wp2_with fail;refine cD.mono ?_;rintro e w1 ⟨rfl,hw1⟩;subst w1;have cA:=HA.out q;go_wp2_with fail
            refine cA.mono ?_;rintro e w1 ⟨rfl,hw1⟩;subst w1;obtain ⟨x0,x1,x2⟩:=HC.out q;have cE:=HE.out q;go_wp2_with fail;refine cE.mono ?_;rintro e w1 ⟨p,cp,q2,rfl,hw1⟩;subst w1;go_wp2
            exact HF.out q2
          . rw [if_neg h64] at HL
            have h64z:¬ (64:Int)<=(dn.ds.length:Int):=by omega
            have HX:=HX.out HL.out;have HX:Hid _:=HX;clear h hf ht HP HL hfound eN eE hx hdm eds hdk hgo hd0 h0 hname hst hy en ek elk hk hh hzero h32 h64;generalize RActPost hi rb _ _ w=Post at *;generalize (kn.kind:Int)=kz at *;generalize (kn.links:Int)=lk at *;generalize dn.ds.length=nl at *;go_enter Tryz.func48,Tryz.ntmps48;go_wp2_with fail;refine cN.mono ?_;rintro e w1 ⟨rfl,q,hw1⟩;subst w1;have cD:=HD.out q;go_wp2_with fail;refine cD.mono ?_;rintro e w1 ⟨rfl,hw1⟩
            subst w1;have cA:=HA.out q;go_wp2_with fail;refine cA.mono ?_;rintro e w1 ⟨rfl,hw1⟩;subst w1;obtain ⟨x0,x1,x2⟩:=HC.out q;have cE:=HE.out q;go_wp2_with fail;refine cE.mono ?_;rintro e w1 ⟨p,cp,q2,rfl,hw1⟩;subst w1;have cX:=HX.out q2;go_wp2_with fail;refine cX.mono ?_;rintro e w1 ⟨⟨r,rfl⟩,hfin⟩;go_wp2
            exact hfin
 . have e1:linkE s d nm k=placeE s d nm:=if_pos h0;have eN:entryN s d nm=0:=if_neg h0;have eE:entryE s d nm=placeE s d nm:=if_neg h0;have HF:Hid _:=HP.out _ e1 h0;rw [eN,eE] at cN
   by_cases h2:placeE s d nm=2
   . by_cases h3:dirE s d=0
     . have hem:=place_two h2 h3;rw [h3] at HD;rw [h2] at cN HF;clear h hf ht HP e1 eN eE h0 HA h2 h3;generalize RActPost hi rb _ _ w=Post at *;go_enter Tryz.func48,Tryz.ntmps48;go_wp2_with fail;refine cN.mono ?_;rintro e w1 ⟨rfl,q,hw1⟩;subst w1;have cD:=HD.out q;go_wp2_with fail;refine cD.mono ?_;rintro e w1 ⟨rfl,hw1⟩;subst w1;go_wp2
       exact HF.out q
     . have h3z:((dirE s d:Nat):Int) ≠ 0:=by omega
       rw [h2] at cN HF;clear h hf ht HP e1 eN eE h0 HA h2 h3;generalize RActPost hi rb _ _ w=Post at *;generalize ((dirE s d:Nat):Int)=dz at *;go_enter Tryz.func48,Tryz.ntmps48;go_wp2_with fail;refine cN.mono ?_;rintro e w1 ⟨rfl,q,hw1⟩;subst w1;have cD:=HD.out q;go_wp2_with fail;refine cD.mono ?_;rintro e w1 ⟨rfl,hw1⟩;subst w1;go_wp2
       exact HF.out q
   . clear h hf ht HP e1 eN eE HA HD;generalize RActPost hi rb _ _ w=Post at *;generalize placeE s d nm=E at *;go_enter Tryz.func48,Tryz.ntmps48;go_wp2_with fail;refine cN.mono ?_;rintro e w1 ⟨rfl,q,hw1⟩;subst w1;go_wp2
     exact HF.out q
end
end Go.Proofs.YthlaoaaafafafaaGreat
