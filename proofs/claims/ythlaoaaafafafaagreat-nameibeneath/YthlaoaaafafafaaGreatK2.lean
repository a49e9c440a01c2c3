/- Ours. -/
import Derived.Test.YthlaoaaafafafaaGreatC5b
import Derived.Test.YthlaoaaafafafaaGreatK1
set_option maxRecDepth 100000
set_option maxHeartbeats 16000000
namespace Go.Proofs.YthlaoaaafafafaaGreat
open Go Go.RowKit Go.Maps
theorem rdir7 {hi rb:Nat} {w:World} {s:SS} (h:RefAt6 hi w rb s) (x:Int) (hl:s.L.length<=1000000):Calls Tryz.prog 25 #[ptr rb,.int .i64 x] w fun e w'=>e=.returned (.int .i64 (dirE s x:Nat))/\w'=w:=by
 have c:=rat_any h x hl;unfold dirE
 cases hx:look s x with
 | none =>
  rw [ixZ_look_none hx] at c;clear h hx;go_enter Tryz.func25,Tryz.ntmps25;go_wp2_with fail;refine c.mono ?_;rintro e w1 ⟨rfl,hw1⟩;subst w1;go_wp2
  go_ret
  exact ⟨rfl,rfl⟩
 | some y =>
  obtain ⟨i,n⟩:=y;obtain ⟨hi',rfl,_,_⟩:=look_some hx;rw [ixZ_look_some hx] at c;obtain ⟨rv,Q,eQ,h⟩:=h;have hQ:=ix_map eQ
  obtain ⟨g,cap,rfl,_,_,_,hc⟩:=h.place (k:=i) (by omega)
  have x0:=h.box.cell 0 rfl
  have c1:=hc 1 (by omega) _ rfl
  have c2:=hc 2 (by omega) _ rfl
  rw [show (Q[i]'(by omega)).n.kind=s.L[i].kind by rw [map_get eQ (by omega) hi']] at c1
  rw [show (Q[i]'(by omega)).n.links=s.L[i].links by rw [map_get eQ (by omega) hi']] at c2
  rw [hQ] at x0
  have hiz:(i:Int) < (s.L.length:Int):=by omega
  have hiz2:¬ (i:Int) < 0:=by omega
  clear h hc hx eQ hQ
  show Calls _ _ _ _ fun e w'=>e=.returned (.int .i64 ((if s.L[i].kind=2 then (if x ≠ 1/\s.L[i].links=0 then 2 else 0) else 20:Nat):Int))/\w'=w
  generalize s.L[i].kind=k at *;generalize s.L[i].links=lk at *
  by_cases hk:k=2
  . subst hk;rw [if_pos rfl]
    by_cases h1:x=1
    . subst h1
      rw [if_neg (by simp)]
      go_enter Tryz.func25,Tryz.ntmps25;go_wp2_with fail;refine c.mono ?_;rintro e w1 ⟨rfl,hw1⟩;subst w1;go_wp2
      go_ret
      exact ⟨rfl,rfl⟩
    . by_cases h2:lk=0
      . subst h2;rw [if_pos ⟨h1,rfl⟩];go_enter Tryz.func25,Tryz.ntmps25;go_wp2_with fail;refine c.mono ?_;rintro e w1 ⟨rfl,hw1⟩;subst w1;go_wp2
        go_ret
        exact ⟨rfl,rfl⟩
      . rw [if_neg fun h7=>h2 h7.2]
        have h2z:((lk:Int) == 0)=false:=beq_eq_false_iff_ne.2 (by omega)
        have h1z:(x != 1)=true:=bne_iff_ne.2 h1;generalize (lk:Int)=lz at *;go_enter Tryz.func25,Tryz.ntmps25;go_wp2_with fail;refine c.mono ?_;rintro e w1 ⟨rfl,hw1⟩;subst w1;go_wp2
        go_ret
        exact ⟨rfl,rfl⟩
  . rw [if_neg hk]
    have hkz:¬ (k:Int)=2:=by omega
    generalize (k:Int)=kz at *;go_enter Tryz.func25,Tryz.ntmps25;go_wp2_with fail;refine c.mono ?_;rintro e w1 ⟨rfl,hw1⟩;subst w1;go_wp2
    go_ret
    exact ⟨rfl,rfl⟩
theorem rkind7 {hi rb:Nat} {w:World} {s:SS} (h:RefAt6 hi w rb s) (x:Int) (hl:s.L.length<=1000000):Calls Tryz.prog 28 #[ptr rb,.int .i64 x] w fun e w'=>e=.returned (.int .i64 (kindOf s x:Nat))/\w'=w:=by
 have c:=rat_any h x hl;unfold kindOf
 cases hx:look s x with
 | none =>
  rw [ixZ_look_none hx] at c;clear h hx;go_enter Tryz.func28,Tryz.ntmps28;go_wp2_with fail;refine c.mono ?_;rintro e w1 ⟨rfl,hw1⟩;subst w1;go_wp2
  go_ret
  exact ⟨rfl,rfl⟩
 | some y =>
  obtain ⟨i,n⟩:=y;obtain ⟨hi',rfl,_,_⟩:=look_some hx;rw [ixZ_look_some hx] at c;obtain ⟨rv,Q,eQ,h⟩:=h;have hQ:=ix_map eQ
  obtain ⟨g,cap,rfl,_,_,_,hc⟩:=h.place (k:=i) (by omega)
  have x0:=h.box.cell 0 rfl
  have c1:=hc 1 (by omega) _ rfl
  rw [show (Q[i]'(by omega)).n.kind=s.L[i].kind by rw [map_get eQ (by omega) hi']] at c1
  rw [hQ] at x0
  have hiz:(i:Int) < (s.L.length:Int):=by omega
  have hiz2:¬ (i:Int) < 0:=by omega
  have hiz3:(0:Int)<=(i:Int):=by omega
  clear h hc hx eQ hQ
  show Calls _ _ _ _ fun e w'=>e=.returned (.int .i64 (s.L[i].kind:Nat))/\w'=w
  generalize s.L[i].kind=k at *;go_enter Tryz.func28,Tryz.ntmps28;go_wp2_with fail;refine c.mono ?_;rintro e w1 ⟨rfl,hw1⟩;subst w1;go_wp2
  go_ret
  exact ⟨rfl,rfl⟩
def REntPost (w:World) (ds:List IEnt) (e:Ending) (w':World):Prop:=∃ v q,e=.returned v/\EntM w v ds/\w'=w.drewN q
theorem rents7 {hi rb:Nat} {w:World} {s:SS} (h:RefAt6 hi w rb s) {x:Int} {i:Nat} {n:Nd} (hx:look s x=some (i,n)) (hl:s.L.length<=1000000):Calls Tryz.prog 71 #[ptr rb,.int .i64 x] w (REntPost w n.ds):=by
 have c:=fun q=>rat_any (h.on (on_drewN (Below.refl _ _) q)) x hl
 obtain ⟨hi',rfl,_,_⟩:=look_some hx;rw [ixZ_look_some hx] at c;obtain ⟨rv,Q,eQ,h⟩:=h;have hQ:=ix_map eQ
 obtain ⟨g,cap,rfl,_,_,_,hc⟩:=h.place (k:=i) (by omega)
 have x0:=h.box.cell 0 rfl
 have c8:=hc 8 (by omega) _ rfl
 have he:=(h.node _ (List.getElem_mem (show i < Q.length by omega))).ents
 rw [show (Q[i]'(by omega)).n.ds=s.L[i].ds by rw [map_get eQ (by omega) hi']] at he
 have HE:Hid (EntM w (Q[i]'(by omega)).vL s.L[i].ds):=he
 rw [hQ] at x0
 have hiz:(i:Int) < (s.L.length:Int):=by omega
 have hiz2:¬ (i:Int) < 0:=by omega
 clear h hc hx eQ he
 generalize (Q[i]'(by omega)).vL=vL at *
 generalize s.L[i].ds=ds at *;clear hQ;go_enter Tryz.func71,Tryz.ntmps71;go_wp2
 go_quiet (first | (go_at_call 29;refine Calls.quiet_of_same (c _)))
 go_wp2
 go_ret
 exact ⟨_,_,rfl,HE.out,rfl⟩
theorem DRelE.to {ds l:List IEnt} (h:DRelE ds ds) (p:ds.Perm l):DRelE ds l:=⟨p,h.sorted,fun e he=>h.pos e (p.mem_iff.2 he),by rw [<- p.length_eq];exact h.few⟩
theorem nameE_dots {nm:ByteArray} (h:nameE nm=0):(nm.toList == [46])=false/\(nm.toList == [46,46])=false:=by
 unfold nameE at h
 split at h
 . cases h
 . split at h
   . cases h
   . split at h
     . cases h
     . rename_i h7
       simp only [Bool.or_eq_true,not_or,Bool.not_eq_true] at h7
       exact ⟨h7.1.1,h7.1.2⟩
def entryN (s:SS) (x:Int) (nm:ByteArray):Int:=if placeE s x nm=0 then find nm (entsOf s x) else 0
def RNumPost (N E:Int) (w:World) (e:Ending) (w':World):Prop:=e=.returned (.tuple #[.int .i64 N,.int .i64 E])/\∃ q,w'=w.drewN q
theorem ents_row {w:World} {v:Value} {s:SS} {c:Nat} (hf:Wf s c) (ht:Tree s) {n:Nd} (hn:n ∈ s.L) (h:EntM w v n.ds):∃ l,DRelE n.ds l/\RowR 0 w v l:=by
 obtain ⟨l,hp,hr⟩:=h
 exact ⟨l,(ht.rel hf hn).to hp,hr⟩
theorem rlookup7 {hi rb c:Nat} {w:World} {s:SS} (h:RefAt6 hi w rb s) (hf:Wf s c) (ht:Tree s) (d:Int) (nm:ByteArray) (hnm:nameE nm=0) (hsz:nm.size<=10000):Calls Tryz.prog 26 #[ptr rb,.int .i64 d,.string nm] w (RNumPost (entryN s d nm) (entryE s d nm) w):=by
 have hl:s.L.length<=1000000:=by have:=hf.room;have:=hf.most;omega
 have cD:=rdir7 h d hl;obtain ⟨dot1,dot2⟩:=nameE_dots hnm
 by_cases h0:dirE s d=0
 . obtain ⟨i,n,hx,_,_⟩:=dirE_ok h0;have cE:=rents7 h hx hl;have cN:=refName_any nm w hsz;rw [h0] at cD;rw [hnm] at cN;have hn:=(look_mem hx).1
   have hp:placeE s d nm=0:=by unfold placeE;rw [if_pos h0,hnm]
   have HF:Hid (∀ v q,EntM w v n.ds->Calls Tryz.prog 70 #[v,.string nm] (w.drewN q) fun e w'=>e=.returned (.int .i64 (find nm n.ds))/\w'=w.drewN q):=fun v q hv=>by
    obtain ⟨l,R,hr⟩:=ents_row hf ht hn hv
    have:=rfind_any 0 v l nm (w.drewN q) (by have:=R.few;omega) (rowS_on hr (on_drewN (Below.refl _ _) q))
    rw [<- R.find] at this
    exact this
   have hfound:=(ht.rel hf hn).found nm
   have e1:entryN s d nm=find nm n.ds:=by unfold entryN;rw [if_pos hp,ents_look hx]
   have e2:entryE s d nm=if has nm n.ds=true then 0 else 2:=by unfold entryE;rw [if_pos hp,ents_look hx]
   rw [e1,e2]
   cases hh:has nm n.ds with
   | true =>
    rw [hh] at hfound;have hpos:0 < find nm n.ds:=hfound.1.2 rfl;rw [if_pos rfl];clear hfound h hf ht hx hn e1 e2 hh hp h0;generalize find nm n.ds=fz at *;generalize n.ds=ds at *;go_enter Tryz.func26,Tryz.ntmps26;go_wp2_with fail;refine cD.mono ?_;rintro e w1 ⟨rfl,hw1⟩;subst w1;go_wp2_with fail;refine cN.mono ?_;rintro e w1 ⟨rfl,hw1⟩;subst w1;go_wp2_with fail;refine cE.mono ?_;rintro e w1 ⟨v,q,rfl,hv,rfl⟩;have cF:=HF.out v q hv;go_wp2_with fail;refine cF.mono ?_
    rintro e w1 ⟨rfl,hw1⟩;subst w1;go_wp2
    go_ret2
    exact ⟨rfl,_,rfl⟩
   | false =>
    rw [hh] at hfound;have hzero:find nm n.ds=0:=hfound.2.2 rfl
    rw [if_neg (by simp)]
    rw [hzero] at HF ⊢;clear hfound h hf ht hx hn e1 e2 hh hp h0 hzero;generalize n.ds=ds at *;go_enter Tryz.func26,Tryz.ntmps26;go_wp2_with fail;refine cD.mono ?_;rintro e w1 ⟨rfl,hw1⟩;subst w1;go_wp2_with fail;refine cN.mono ?_;rintro e w1 ⟨rfl,hw1⟩;subst w1;go_wp2_with fail;refine cE.mono ?_;rintro e w1 ⟨v,q,rfl,hv,rfl⟩;have cF:=HF.out v q hv;go_wp2_with fail;refine cF.mono ?_;rintro e w1 ⟨rfl,hw1⟩;subst w1;go_wp2
    go_ret2
    exact ⟨rfl,_,rfl⟩
 . have hp:placeE s d nm=(dirE s d:Nat):=by unfold placeE;rw [if_neg h0]
   have hpn:¬ ((dirE s d:Nat):Int)=0:=by omega
   have e1:entryN s d nm=0:=by unfold entryN;rw [hp,if_neg hpn]
   have e2:entryE s d nm=(dirE s d:Nat):=by unfold entryE;rw [hp,if_neg hpn]
   rw [e1,e2];clear h hf ht e1 e2 hp h0;generalize ((dirE s d:Nat):Int)=dz at *;go_enter Tryz.func26,Tryz.ntmps26;go_wp2_with fail;refine cD.mono ?_;rintro e w1 ⟨rfl,hw1⟩;subst w1;go_wp2
   go_ret2
   exact ⟨rfl,0,(World.drewN_zero _).symm⟩
theorem rnamed7 {hi rb c:Nat} {w:World} {s:SS} (h:RefAt6 hi w rb s) (hf:Wf s c) (ht:Tree s) (d:Int) (nm:ByteArray) (hsz:nm.size<=10000):Calls Tryz.prog 93 #[ptr rb,.int .i64 d,.string nm] w (RNumPost (entryN s d nm) (entryE s d nm) w):=by
 have hl:s.L.length<=1000000:=by have:=hf.room;have:=hf.most;omega
 have cD:=rdir7 h d hl;have cN:=refName_any nm w hsz
 by_cases h0:dirE s d=0
 . rw [h0] at cD
   by_cases hnm:nameE nm=0
   . have cL:=rlookup7 h hf ht d nm hnm hsz;rw [hnm] at cN;clear h hf ht h0 hnm;generalize entryN s d nm=N at *;generalize entryE s d nm=E at *;go_enter Tryz.func93,Tryz.ntmps93;go_wp2_with fail;refine cD.mono ?_;rintro e w1 ⟨rfl,hw1⟩;subst w1;go_wp2_with fail;refine cN.mono ?_;rintro e w1 ⟨rfl,hw1⟩;subst w1;go_wp2_with fail;refine cL.mono ?_;rintro e w1 ⟨rfl,q,hw1⟩;subst w1;go_wp2
     go_ret2
     exact ⟨rfl,_,rfl⟩
   . have hp:placeE s d nm=nameE nm:=by unfold placeE;rw [if_pos h0]
     have e1:entryN s d nm=0:=by unfold entryN;rw [hp,if_neg hnm]
     have e2:entryE s d nm=nameE nm:=by unfold entryE;rw [hp,if_neg hnm]
     rw [e1,e2];clear h hf ht h0 hp e1 e2;generalize nameE nm=E at *;go_enter Tryz.func93,Tryz.ntmps93;go_wp2_with fail;refine cD.mono ?_;rintro e w1 ⟨rfl,hw1⟩;subst w1;go_wp2_with fail;refine cN.mono ?_;rintro e w1 ⟨rfl,hw1⟩;subst w1;go_wp2
     go_ret2
     exact ⟨rfl,0,(World.drewN_zero _).symm⟩
 . have hp:placeE s d nm=(dirE s d:Nat):=by unfold placeE;rw [if_neg h0]
   have hpn:¬ ((dirE s d:Nat):Int)=0:=by omega
   have e1:entryN s d nm=0:=by unfold entryN;rw [hp,if_neg hpn]
   have e2:entryE s d nm=(dirE s d:Nat):=by unfold entryE;rw [hp,if_neg hpn]
   rw [e1,e2];clear h hf ht e1 e2 hp h0;generalize ((dirE s d:Nat):Int)=dz at *;go_enter Tryz.func93,Tryz.ntmps93;go_wp2_with fail;refine cD.mono ?_;rintro e w1 ⟨rfl,hw1⟩;subst w1;go_wp2
   go_ret2
   exact ⟨rfl,0,(World.drewN_zero _).symm⟩
theorem ref_ents {hi rb g i cap:Nat} {w:World} {Q:List RN} {s:SS} (h:RefM hi w rb (.slice (some ⟨g,0,none⟩) Q.length cap) Q s.next s.most s.tot) (eQ:Q.map RN.n=s.L) (hi':i < s.L.length) (hg:g ≠ rb) (hlo:hi<=g) {v:Value} {ds:List IEnt} (he:EntM w v ds) :
 RefAt6 hi (w.setCell ⟨g,i * 9+8,none⟩ v) rb (s.set i (s.L[i].withD ds))/\Turns isR (.up hi) w (w.setCell ⟨g,i * 9+8,none⟩ v):=by
 have hQ:=ix_map eQ
 have hiQ:i < Q.length:=by omega
 have hb:=but_set w g (i * 9+8) v;obtain ⟨ht,hbox⟩:=rn_but h hb hg hlo;have e3:Q[i].n=s.L[i]:=map_get eQ hiQ hi'
 have hn:=(h.node Q[i] (List.getElem_mem hiQ)).turns ht fun _ _ _ h _=>h
 refine ⟨⟨_,Q.set i ⟨s.L[i].withD ds,Q[i].vB,Q[i].vH,v⟩,map_set_n eQ _ _,h.turned _ ?_ hbox ht ⟨?_,?_⟩⟩,ht⟩
 . have r1:=rowS_set (k:=i * 9+8) h.row v
   rw [rcells_set hiQ (by omega) v ⟨s.L[i].withD ds,Q[i].vB,Q[i].vH,v⟩ ?_] at r1
   . exact r1
   . simp only [RN.cells,e3]
     rfl
 . obtain ⟨B,H,h1,h2,h3⟩:=hn.file;rw [e3] at h1
   exact ⟨B,H,h1,h2,h3⟩
 . exact he.turns ht fun _ _ _ h _=>h
theorem par_same (s:SS) (x v:Int):SameB s (s.upd x fun n=>n.withP v):=by
 rw [upd_is]
 have:=same_maps (s:=s) (f:=id) (g:=updG x fun n=>n.withP v) fun n _=>by
  unfold updG
  split <;> rfl
 rwa [List.map_id] at this
theorem Wf.par {s:SS} {c:Nat} (hf:Wf s c) (x v:Int):Wf (s.upd x fun n=>n.withP v) c:=hf.bare (par_same s x v)
def REndPost (hi rb:Nat) (s:SS) (w:World) (e:Ending) (w':World):Prop:=e=.returned (.tuple #[])/\RefAt6 hi w' rb s/\Turns isR (.up hi) w w'
theorem radd7 {hi rb c:Nat} {w:World} {s:SS} (h:RefAt6 hi w rb s) (hf:Wf s c) (hc:c<=900) {d:Int} {i:Nat} {n:Nd} (hx:look s d=some (i,n)) (R:DRelE n.ds n.ds) (nm:ByteArray) (hsz:nm.size<=10000) (k:Int):Calls Tryz.prog 94 #[ptr rb,.int .i64 d,.string nm,.int .i64 k] w (REndPost hi rb (moreS (addEnt s d nm k) k true) w):=by
 have hl:s.L.length<=1000000:=by have:=hf.room;have:=hf.most;omega
 have c1:=rat_any h d hl;obtain ⟨hi',en,_,_⟩:=look_some hx;rw [ixZ_look_some hx] at c1
 have hf2:Wf (addEnt s d nm k) (c+1):=hf.ents d _ fun i2 n2 h7=>addS_len (hf.ds _ (look_mem h7).1)
 have eA:s.set i (n.withD (addS nm k n.ds))=addEnt s d nm k:=(upd_some (g:=fun n=>n.withD (addS nm k n.ds)) hf hx).symm
 obtain ⟨rv,Q,eQ,hM⟩:=h;have hQ:=ix_map eQ
 obtain ⟨g,cap,rfl,hlo,_,hgr,hcl⟩:=hM.place (k:=i) (by omega)
 have x0:=hM.box.cell 0 rfl
 have x8:=hcl 8 (by omega) _ rfl
 have he:=(hM.node _ (List.getElem_mem (show i < Q.length by omega))).ents
 rw [show (Q[i]'(by omega)).n.ds=n.ds by rw [map_get eQ (by omega) hi',en]] at he
 obtain ⟨l,hp,hrow⟩:=he
 have c2:=radd_any _ l nm k w hsz (by rw [<- hp.length_eq];have:=R.few;omega) hrow
 have HZ:Hid (∀ v' w2,RowR 0 w2 v' (rAdd nm k l)->Below w.heap.size w w2->w2.cell? ⟨rb,0,none⟩=some (.slice (some ⟨g,0,none⟩) s.L.length cap)/\(∃ z,w2.cell? ⟨g,i * 9+8,none⟩=some z)/\w2.frozen? ⟨g,i * 9+8,none⟩=false ∧
  Calls Tryz.prog 56 #[ptr rb,.int .i64 k,.bool true,.int .i64 1] (w2.setCell ⟨g,i * 9+8,none⟩ v') fun e w3=>(∃ r,e=.returned r)/\REndPost hi rb (moreS (addEnt s d nm k) k true) w (.returned (.tuple #[])) w3):=fun v' w2 hr hb=>by
  have hM2:=hM.on hb
  obtain ⟨g2,cap2,e2,_,_,_,hcl2⟩:=hM2.place (k:=i) (by omega)
  cases e2
  obtain ⟨cs,hBk,_⟩:=rowS_blk hM2.row;obtain ⟨h3,h4⟩:=ref_ents (i:=i) hM2 eQ hi' hgr hlo (v:=v') (ds:=addS nm k n.ds) ⟨rAdd nm k l,((R.to hp).add (nm:=nm) (ino:=k)).perm,hr⟩;rw [<- en,eA] at h3
  refine ⟨by rw [<- hQ];exact hM2.box.cell 0 rfl,⟨_,hcl2 8 (by omega) _ rfl⟩,hBk.free _,(rmoreL h3 hf2 (by omega) k).mono ?_⟩
  rintro e w3 ⟨rfl,h5,h6⟩
  exact ⟨⟨_,rfl⟩,rfl,h5,((Turns.on hb).trans h4).trans h6⟩
 rw [hQ] at x0
 have hiz:(i:Int) < (s.L.length:Int):=by omega
 have hiz2:¬ (i:Int) < 0:=by omega
 clear hM hcl eQ hrow hp;generalize REndPost hi rb (moreS (addEnt s d nm k) k true) w=Post at *
 generalize (Q[i]'(by omega)).vL=vL at *
 clear hQ eA hf2 hf hx R en;go_enter Tryz.func94,Tryz.ntmps94;go_wp2_with fail;refine c1.mono ?_;rintro e w1 ⟨rfl,hw1⟩;subst w1;go_wp2_with fail;refine c2.mono ?_;rintro e w2 ⟨v',rfl,hr,hb⟩;obtain ⟨y0,⟨z,y1⟩,y2,c3⟩:=HZ.out v' w2 hr hb;obtain ⟨p',cap',rfl⟩:=row_slice hr;clear HZ c1 c2 x0 x8 hr;generalize (rAdd nm k l).length=nl at *;go_wp2_with fail;refine c3.mono ?_;rintro e w3 ⟨⟨r,rfl⟩,hfin⟩;clear c3;go_wp2
 go_end0
 exact hfin
def rdropP (s:SS) (d:Int) (nm:ByteArray) (k:Int):SS:=lessS ((remEnt s d nm).upd k fun n=>n.withP 0) k true
theorem ref_par_at {hi rb c:Nat} {w:World} {s:SS} (h:RefAt6 hi w rb s) (hf:Wf s c) {k:Int} {j:Nat} {n:Nd} (hx:look s k=some (j,n)) (v:Int) :
 ∃ g m cap,w.cell? ⟨rb,0,none⟩=some (.slice (some ⟨g,0,none⟩) m cap)/\j < m/\(∃ z,w.cell? ⟨g,j * 9+4,none⟩=some z)/\w.frozen? ⟨g,j * 9+4,none⟩=false/\RefAt6 hi (w.setCell ⟨g,j * 9+4,none⟩ (.int .i64 v)) rb (s.upd k fun n=>n.withP v)/\Turns isR (.up hi) w (w.setCell ⟨g,j * 9+4,none⟩ (.int .i64 v)):=by
 obtain ⟨hj,en,_,_⟩:=look_some hx
 have eA:s.set j (n.withP v)=s.upd k fun n=>n.withP v:=(upd_some (g:=fun n=>n.withP v) hf hx).symm
 obtain ⟨rv,Q,eQ,hM⟩:=h;have hQ:=ix_map eQ
 obtain ⟨g,cap,rfl,hlo,_,hgr,hcl⟩:=hM.place (k:=j) (by omega)
 obtain ⟨cs,hBk,_⟩:=rowS_blk hM.row;obtain ⟨h3,h4⟩:=ref_par (i:=j) hM eQ hj hgr hlo v;rw [<- en,eA] at h3
 exact ⟨g,Q.length,cap,hM.box.cell 0 rfl,by omega,⟨_,hcl 4 (by omega) _ rfl⟩,hBk.free _,h3,h4⟩
theorem rdrop7 {hi rb c:Nat} {w:World} {s:SS} (h:RefAt6 hi w rb s) (hf:Wf s c) (hc:c<=900) {d:Int} {i:Nat} {n:Nd} (hx:look s d=some (i,n)) (R:DRelE n.ds n.ds) (nm:ByteArray) {j:Nat} {kn:Nd} (hy:look s (find nm n.ds)=some (j,kn)):Calls Tryz.prog 97 #[ptr rb,.int .i64 d,.string nm] w (REndPost hi rb (rdropP s d nm (find nm n.ds)) w):=by
 have hl:s.L.length<=1000000:=by have:=hf.room;have:=hf.most;omega
 have c1:=rat_any h d hl;obtain ⟨hi',en,_,_⟩:=look_some hx;rw [ixZ_look_some hx] at c1
 have hf2:Wf (remEnt s d nm) (c+1):=hf.ents d _ fun i2 n2 h7=>remS_len (hf.ds _ (look_mem h7).1)
 have hf3:=hf2.par (find nm n.ds) 0
 have eA:s.set i (n.withD (remS nm n.ds))=remEnt s d nm:=(upd_some (g:=fun n=>n.withD (remS nm n.ds)) hf hx).symm
 have hl2:=look_upd (x:=d) (g:=fun n=>n.withD (remS nm n.ds)) hf (fun _=>rfl) hy
 have hlen2:(remEnt s d nm).L.length<=1000000:=by have:=hf2.room;have:=hf2.most;omega
 obtain ⟨rv,Q,eQ,hM⟩:=h;have hQ:=ix_map eQ
 obtain ⟨g,cap,rfl,hlo,_,hgr,hcl⟩:=hM.place (k:=i) (by omega)
 have x0:=hM.box.cell 0 rfl
 have x8:=hcl 8 (by omega) _ rfl
 have he:=(hM.node _ (List.getElem_mem (show i < Q.length by omega))).ents
 rw [show (Q[i]'(by omega)).n.ds=n.ds by rw [map_get eQ (by omega) hi',en]] at he
 obtain ⟨l,hp,hrow⟩:=he
 have c2:=rrem_any _ l nm w (by rw [<- hp.length_eq];have:=R.few;omega) hrow
 rw [(R.to hp).last,<- (R.to hp).find] at c2
 have HZ:Hid (∀ v' w2,RowR 0 w2 v' (rRem nm l)->Below w.heap.size w w2->w2.cell? ⟨rb,0,none⟩=some (.slice (some ⟨g,0,none⟩) s.L.length cap)/\(∃ z,w2.cell? ⟨g,i * 9+8,none⟩=some z)/\w2.frozen? ⟨g,i * 9+8,none⟩=false ∧
  (Calls Tryz.prog 29 #[ptr rb,.int .i64 (find nm n.ds)] (w2.setCell ⟨g,i * 9+8,none⟩ v') fun e w3=>e=.returned (.int .i64 (j:Int))/\w3=w2.setCell ⟨g,i * 9+8,none⟩ v') ∧
  ∃ g2 m2 cap2,(w2.setCell ⟨g,i * 9+8,none⟩ v').cell? ⟨rb,0,none⟩=some (.slice (some ⟨g2,0,none⟩) m2 cap2)/\j < m2/\(∃ z,(w2.setCell ⟨g,i * 9+8,none⟩ v').cell? ⟨g2,j * 9+4,none⟩=some z)/\(w2.setCell ⟨g,i * 9+8,none⟩ v').frozen? ⟨g2,j * 9+4,none⟩=false ∧
  Calls Tryz.prog 56 #[ptr rb,.int .i64 (find nm n.ds),.bool true,.int .i64 (-1)] ((w2.setCell ⟨g,i * 9+8,none⟩ v').setCell ⟨g2,j * 9+4,none⟩ (.int .i64 0)) fun e w3=>(∃ r,e=.returned r)/\REndPost hi rb (rdropP s d nm (find nm n.ds)) w (.returned (.tuple #[])) w3):=fun v' w2 hr hb=>by
  have hM2:=hM.on hb
  obtain ⟨g2,cap2,e2,_,_,_,hcl2⟩:=hM2.place (k:=i) (by omega)
  cases e2
  obtain ⟨cs,hBk,_⟩:=rowS_blk hM2.row;obtain ⟨h3,h4⟩:=ref_ents (i:=i) hM2 eQ hi' hgr hlo (v:=v') (ds:=remS nm n.ds) ⟨rRem nm l,((R.to hp).rem (nm:=nm)).perm,hr⟩;rw [<- en,eA] at h3;have cA:=rat_any h3 (find nm n.ds) hlen2
  rw [show ixZ (remEnt s d nm).L (find nm n.ds)=(j:Int) from ixZ_look_some hl2] at cA
  obtain ⟨g3,m3,cap3,q0,q1,q2,q3,h5,h6⟩:=ref_par_at h3 hf2 hl2 0
  refine ⟨by rw [<- hQ];exact hM2.box.cell 0 rfl,⟨_,hcl2 8 (by omega) _ rfl⟩,hBk.free _,cA,g3,m3,cap3,q0,q1,q2,q3,(rlessL h5 hf3 (by omega) _).mono ?_⟩
  rintro e w3 ⟨rfl,h7,h8⟩
  exact ⟨⟨_,rfl⟩,rfl,h7,(((Turns.on hb).trans h4).trans h6).trans h8⟩
 rw [hQ] at x0
 have hiz:(i:Int) < (s.L.length:Int):=by omega
 have hiz2:¬ (i:Int) < 0:=by omega
 have hjz2:¬ (j:Int) < 0:=by omega
 clear hM hcl eQ hrow hp;generalize REndPost hi rb (rdropP s d nm (find nm n.ds)) w=Post at *
 generalize (Q[i]'(by omega)).vL=vL at *
 generalize find nm n.ds=k at *;generalize rRemE nm l=re at *;clear hQ eA hf2 hf3 hf hx hy R en hl2 hlen2;go_enter Tryz.func97,Tryz.ntmps97;go_wp2_with fail;refine c1.mono ?_;rintro e w1 ⟨rfl,hw1⟩;subst w1;go_wp2_with fail;refine c2.mono ?_;rintro e w2 ⟨v',rfl,hr,hb⟩;obtain ⟨y0,⟨z,y1⟩,y2,c3,g2,m2,cap2,y3,y4,⟨z2,y5⟩,y6,c4⟩:=HZ.out v' w2 hr hb;obtain ⟨p',cap',rfl⟩:=row_slice hr;clear HZ c1 c2 x0 x8 hr;generalize (rRem nm l).length=nl at *
 have hjz:(j:Int) < (m2:Int):=by omega
 go_wp2_with fail;refine c3.mono ?_;rintro e w3 ⟨rfl,hw3⟩;subst w3;clear c3 y0 y1 y2;generalize w2.setCell ⟨g,i * 9+8,none⟩ (.slice p' nl cap')=w3 at *;go_wp2_with fail;refine c4.mono ?_;rintro e w4 ⟨⟨r,rfl⟩,hfin⟩;clear c4;go_wp2
 go_end0
 exact hfin
end Go.Proofs.YthlaoaaafafafaaGreat
