/- Ours. -/
import Derived.Test.YthlaoaaafafafaaGreatK3
set_option maxRecDepth 100000
set_option maxHeartbeats 16000000
namespace Go.Proofs.YthlaoaaafafafaaGreat
open Go Go.RowKit Go.Maps
theorem rents7q {hi rb:Nat} {w:World} {s:SS} (h:RefAt6 hi w rb s) {x:Int} {i:Nat} {n:Nd} (hx:look s x=some (i,n)) (hl:s.L.length<=1000000):∃ p cp,∀ q,Calls Tryz.prog 71 #[ptr rb,.int .i64 x] (w.drewN q) fun e w'=>e=.returned (.slice p n.ds.length cp)/\∃ m,w'=w.drewN m:=by
 have c:=fun q=>rat_any (h.on (on_drewN (Below.refl _ _) q)) x hl
 obtain ⟨hi',rfl,_,_⟩:=look_some hx;rw [ixZ_look_some hx] at c;obtain ⟨rv,Q,eQ,h⟩:=h;have hQ:=ix_map eQ
 obtain ⟨g,cap,rfl,_,_,_,hc⟩:=h.place (k:=i) (by omega)
 have x0':=h.box.cell 0 rfl
 have c8':=hc 8 (by omega) _ rfl
 have he:=(h.node _ (List.getElem_mem (show i < Q.length by omega))).ents
 rw [show (Q[i]'(by omega)).n.ds=s.L[i].ds by rw [map_get eQ (by omega) hi']] at he
 obtain ⟨p,cp,ev⟩:=he.slice;rw [ev] at c8';rw [hQ] at x0'
 have hiz:(i:Int) < (s.L.length:Int):=by omega
 have hiz2:¬ (i:Int) < 0:=by omega
 refine ⟨p,cp,fun q => ?_⟩
 have x0:(w.drewN q).cell? ⟨rb,0,none⟩=some (.slice (some ⟨g,0,none⟩) s.L.length cap):=x0';have c8:(w.drewN q).cell? ⟨g,i * 9+8,none⟩=some (.slice p s.L[i].ds.length cp):=c8'
 have c2:∀ m,Calls Tryz.prog 29 #[ptr rb,.int .i64 x] ((w.drewN q).drewN m) fun e w'=>e=.returned (.int .i64 (i:Int))/\w'=(w.drewN q).drewN m:=fun m=>by
  rw [World.drewN_drewN];exact c (q+m)
 clear h hc hx eQ he ev c x0' c8';generalize s.L[i].ds.length=nl at *;clear hQ
 have HW:Hid (∀ m,∃ m',(w.drewN q).drewN m=w.drewN m'):=fun m=>⟨q+m,World.drewN_drewN ..⟩
 generalize w.drewN q=W at *;go_enter Tryz.func71,Tryz.ntmps71;go_wp2
 go_quiet (first | (go_at_call 29;refine Calls.quiet_of_same (c2 _)))
 go_wp2
 go_ret
 exact ⟨rfl,HW.out _⟩
theorem rcreate_is {s:SS} {c:Nat} (hf:Wf s c) {d:Int} {nm:ByteArray} {kind:Int} {t:ByteArray} (he:createE s d nm kind t=0):(if kind=2 then (createP s d nm kind t).upd s.next fun n=>n.withP d else createP s d nm kind t)=createF s d nm kind t:=by
 have hch:=(create_chain hf he).2;obtain ⟨h1,_,h3,_⟩:=createE_ok he;obtain ⟨i,dn,hx,_,_⟩:=dirE_ok (placeE_ok h1).1
 have hd:d=((d.toNat:Nat):Int):=by have:=(look_mem hx).2;omega
 obtain ⟨dk,rfl⟩:∃ dk:Nat,d=(dk:Int):=⟨_,hd⟩;have hw:=wrongK_ok h3
 have hn:∀ n ∈ (s.add (freshN s.next kind t)).L,n.ino=s.next->n.kind=kind.toNat/\n.par=0:=fun n hn e=>by
  rcases List.mem_append.1 hn with h7 | h7
  . have:=(hf.num n h7).2;omega
  . rw [List.mem_singleton.1 h7];exact ⟨rfl,rfl⟩
 have key:(if kind=2 then (createP s dk nm kind t).upd s.next fun n=>n.withP dk else createP s dk nm kind t)=mapS (s.add (freshN s.next kind t)) fun n=>(if kind=2 then updG s.next (fun n=>n.withP dk) else id) (updG s.next (fun n=>n.cntd false (n.cnt false - 1)) (updG s.next (fun n=>n.cntd true (n.cnt true+1)) (updG dk (fun n=>n.withD (addS nm s.next n.ds)) n))):=by
  split
  . rw [hch,upd_is]
    show mapS (mapS _ _) _=_
    rw [mapS_mapS]
  . rw [hch];rfl
 rw [key];unfold createF
 show _=mapS (s.add (freshN s.next kind t)) _
 refine mapS_congr fun n hm => ?_
 rw [updG_ds dk (addS nm s.next),updG_more,updG_less]
 by_cases e:n.ino=s.next
 . obtain ⟨h7,h8⟩:=hn n hm e
   by_cases hk:kind=2
   . rw [if_pos hk]
     have h9:n.kind=2:=by rw [h7,hk];rfl
     simp [updG,unholdG,linkG,Nd.withP,e,h9,Int.toNat_natCast]
   . rw [if_neg hk]
     have h9:n.kind ≠ 2:=by omega
     simp [unholdG,linkG,e,h9,Int.toNat_natCast]
 . have e2:¬ (n.ino:Int)=(s.next:Int):=by omega
   by_cases hk:kind=2
   . rw [if_pos hk]
     simp [updG,unholdG,linkG,e,e2,Int.toNat_natCast]
   . rw [if_neg hk]
     simp [unholdG,linkG,e,Int.toNat_natCast]
section
variable {hi rb c:Nat} {w:World} {s:SS}
def RCreatePost (hi rb:Nat) (s:SS) (d:Int) (nm:ByteArray) (kind:Int) (t:ByteArray) (w:World) (e:Ending) (w':World):Prop :=
 e=.returned (.tuple #[.int .i64 (if createE s d nm kind t=0 then (s.next:Int) else 0),.int .i64 (createE s d nm kind t)])/\RefAt6 hi w' rb (if createE s d nm kind t=0 then createF s d nm kind t else s)/\Turns isR (.up hi) w w'
theorem rfree (h:RefAt6 hi w rb s) (kind:Int) (t:ByteArray) (hsz:t.size<=1000000) {w1:World} (hb:Below w.heap.size w w1):Calls Tryz.prog 43 #[ptr w1.heap.size,.int .i64 kind,.string t] (w1.alloc (.cells #[.slice none 0 0,.int .i64 1,.int .i64 1,.int .i64 0] 77)) fun e w2=>(∃ N,e=.returned (.tuple #[.int .i64 N,.int .i64 (wrongK kind t:Nat)]))/\RefAt6 hi w2 rb s/\Turns isR (.up hi) w w2:=by
 have hb2:=on_trans hb (on_alloc w1 (.cells #[.slice none 0 0,.int .i64 1,.int .i64 1,.int .i64 0] 77));have hR:RefAt6 w.heap.size (w1.alloc (.cells #[.slice none 0 0,.int .i64 1,.int .i64 1,.int .i64 0] 77)) w1.heap.size (newS 1 0):=refM_new ⟨_,.inl rfl,Blk.new w1 _ [_,_,_,_]⟩ hb.size
 refine (rmake_any hR (wf_new (by omega) (by omega)) (by omega) kind t hsz).mono ?_
 rintro e w2 ⟨rfl,_,h2⟩
 have he:makeE (newS 1 0) kind t=wrongK kind t:=by
  unfold makeE
  by_cases h7:wrongK kind t=0
  . rw [h7,if_neg (by simp),if_neg (by show ¬ (1:Nat)<=0;omega)]
  . rw [if_pos h7]
 have hb3:Below w.heap.size w w2:=h2.below hb2 (Nat.le_refl _) hb2.size
 exact ⟨⟨_,by rw [he]⟩,h.on hb3,.on hb3⟩
theorem rcreate_end (h:RefAt6 hi w rb s) (hf:Wf s c) (ht:Tree s) (hc:c<=800) {d:Int} {nm:ByteArray} {kind:Int} {t:ByteArray} (hsz:nm.size<=10000) (hst:t.size<=1000000) (he:createE s d nm kind t=0) {w0:World} (h0:Turns isR (.up hi) w0 w) :
 Calls Tryz.prog 43 #[ptr rb,.int .i64 kind,.string t] w fun e w3=>(∃ E,e=.returned (.tuple #[.int .i64 s.next,.int .i64 E])) ∧
  Calls Tryz.prog 94 #[ptr rb,.int .i64 d,.string nm,.int .i64 s.next] w3 fun e w4=>(∃ r,e=.returned r) ∧
  Calls Tryz.prog 56 #[ptr rb,.int .i64 s.next,.bool false,.int .i64 (-1)] w4 fun e w5=>(∃ r,e=.returned r) ∧
  (kind=2->∃ j:Nat,(Calls Tryz.prog 29 #[ptr rb,.int .i64 s.next] w5 fun e w6=>e=.returned (.int .i64 (j:Int))/\w6=w5)/\∃ g m cap,w5.cell? ⟨rb,0,none⟩=some (.slice (some ⟨g,0,none⟩) m cap)/\j < m/\(∃ z,w5.cell? ⟨g,j * 9+4,none⟩=some z)/\w5.frozen? ⟨g,j * 9+4,none⟩=false/\RCreatePost hi rb s d nm kind t w0 (.returned (.tuple #[.int .i64 s.next,.int .i64 0])) (w5.setCell ⟨g,j * 9+4,none⟩ (.int .i64 d))) ∧
  (kind ≠ 2->RCreatePost hi rb s d nm kind t w0 (.returned (.tuple #[.int .i64 s.next,.int .i64 0])) w5):=by
 have hCh:=create_chain hf he;have hIs:=rcreate_is hf he;obtain ⟨h1,h2,h3,h4,h5⟩:=createE_ok he;obtain ⟨hd0,hname⟩:=placeE_ok h1;obtain ⟨i,dn,hx,hdk,hgo⟩:=dirE_ok hd0;have hdm:=(look_mem hx).1
 have em:makeE s kind t=0:=by unfold makeE;rw [if_neg (by simpa using h3),if_neg h5]
 have e1:makeS s kind t=s.add (freshN s.next kind t):=by unfold makeS;rw [em];rfl
 have eN:makeN s kind t=s.next:=by unfold makeN;rw [em];rfl
 have hf1:Wf (s.add (freshN s.next kind t)) (c+1):=by rw [<- e1];exact hf.make kind t
 have hf2:Wf (addEnt (s.add (freshN s.next kind t)) d nm s.next) (c+2):=hf1.ents d _ fun i2 n2 h7=>addS_len (hf1.ds _ (look_mem h7).1)
 have hf3:Wf (moreS (addEnt (s.add (freshN s.next kind t)) d nm s.next) s.next true) (c+3):=hf2.more1 _ _;have hx1:=look_add (freshN s.next kind t) hx
 refine (rmake_any h hf (by omega) kind t hst).mono ?_
 rintro e w3 ⟨rfl,h7,h8⟩;rw [e1] at h7
 refine ⟨⟨_,by rw [eN]⟩,(radd7 h7 hf1 (by omega) hx1 (ht.rel hf hdm) nm hsz s.next).mono ?_⟩
 rintro e w4 ⟨rfl,h9,h10⟩
 refine ⟨⟨_,rfl⟩,(rlessH h9 hf3 (by omega) s.next).mono ?_⟩
 rintro e w5 ⟨rfl,h11,h12⟩;have hT:=((h0.trans h8).trans h10).trans h12;have hS:RefAt6 hi w5 rb (createP s d nm kind t):=h11
 refine ⟨⟨_,rfl⟩,fun hk => ?_,fun hk => ?_⟩
 . rw [if_pos hk] at hIs
   have hmem:∃ m ∈ (createP s d nm kind t).L,m.ino=s.next:=by
    rw [hCh.2]
    refine ⟨_,List.mem_map_of_mem (a:=freshN s.next kind t) (by simp [SS.add]),?_⟩
    rw [updG_less,updG_more]
    show (updG d _ (freshN s.next kind t)).ino=s.next
    unfold updG
    split <;> rfl
   obtain ⟨m,hm,em⟩:=hmem;obtain ⟨j,hj⟩:=look_of hCh.1 hm;rw [em] at hj;obtain ⟨g,mm,cap,q0,q1,q2,q3,h13,h14⟩:=ref_par_at hS hCh.1 hj d
   have hl:(createP s d nm kind t).L.length<=1000000:=by have:=hCh.1.room;have:=hCh.1.most;omega
   have cA:=rat_any hS s.next hl;rw [ixZ_look_some hj] at cA;rw [hIs] at h13
   refine ⟨j,cA,g,mm,cap,q0,q1,q2,q3,?_,?_,hT.trans h14⟩
   . rw [he];rfl
   . rw [he,if_pos rfl];exact h13
 . rw [if_neg hk] at hIs;rw [hIs] at hS
   refine ⟨by rw [he];rfl,by rw [he,if_pos rfl];exact hS,hT⟩
theorem rcreate7 (h:RefAt6 hi w rb s) (hf:Wf s c) (ht:Tree s) (hc:c<=800) (d:Int) (nm:ByteArray) (hsz:nm.size<=10000) (kind:Int) (t:ByteArray) (hst:t.size<=1000000):Calls Tryz.prog 46 #[ptr rb,.int .i64 d,.string nm,.int .i64 kind,.string t] w (RCreatePost hi rb s d nm kind t w):=by
 have hl:s.L.length<=1000000:=by have:=hf.room;have:=hf.most;omega
 have cN:=rnamed7 h hf ht d nm hsz
 have HD:Hid (∀ q,Calls Tryz.prog 25 #[ptr rb,.int .i64 d] (w.drewN q) fun e w'=>e=.returned (.int .i64 (dirE s d:Nat))/\w'=w.drewN q):=fun q=>rdir7 (h.drew q).1 d hl
 have HP:Hid (∀ E,createE s d nm kind t=E->E ≠ 0->∀ W,RefAt6 hi W rb s->Turns isR (.up hi) w W->RCreatePost hi rb s d nm kind t w (.returned (.tuple #[.int .i64 0,.int .i64 E])) W):=fun E h1 h2 W h3 h4=>by
  refine ⟨by rw [h1,if_neg h2],by rw [h1,if_neg h2];exact h3,h4⟩
 have HQd:Hid (∀ q,RefAt6 hi (w.drewN q) rb s/\Turns isR (.up hi) w (w.drewN q)):=fun q=>h.drew q
 by_cases h0:placeE s d nm=0
 . obtain ⟨hd0,hname⟩:=placeE_ok h0;have hem:=name_some hname;obtain ⟨i,dn,hx,hdk,hgo⟩:=dirE_ok hd0;have hdm:=(look_mem hx).1;have eds:entsOf s d=dn.ds:=ents_look hx
   have eN:entryN s d nm=find nm dn.ds:=by unfold entryN;rw [if_pos h0,eds]
   have eE:entryE s d nm=if has nm dn.ds=true then 0 else 2:=by unfold entryE;rw [if_pos h0,eds]
   have hfound:=(ht.rel hf hdm).found nm;rw [hd0] at HD;rw [eN,eE] at cN
   have HL:Hid (createE s d nm kind t=if has nm (entsOf s d)=true then (17:Int) else if wrongK kind t ≠ 0 then ((wrongK kind t:Nat):Int) else if 64<=(entsOf s d).length then 28 else if s.most<=s.L.length then 28 else 0):=by
    show createE s d nm kind t=_
    unfold createE
    rw [if_neg (by simpa using h0)]
   rw [eds] at HL
   by_cases hh:has nm dn.ds=true
   . have HF:Hid (∀ q,RCreatePost hi rb s d nm kind t w (.returned (.tuple #[.int .i64 0,.int .i64 17])) (w.drewN q)):=fun q=>HP.out 17 (by rw [HL.out,if_pos hh]) (by decide) _ (h.drew q).1 (h.drew q).2
     rw [hh,if_pos rfl] at cN;have hpos:0 < find nm dn.ds:=hfound.1.2 hh;clear h hf ht HP HL hfound eN eE hx hdm eds hdk hgo hd0 h0 hname hh HD HQd;generalize RCreatePost hi rb s d nm kind t w=Post at *;generalize find nm dn.ds=fz at *;go_enter Tryz.func46,Tryz.ntmps46;go_wp2_with fail;refine cN.mono ?_;rintro e w1 ⟨rfl,q,hw1⟩;subst w1;go_wp2
     exact HF.out q
   . rw [if_neg hh] at cN HL
     have hzero:find nm dn.ds=0:=hfound.2.2 (by simpa using hh)
     rw [hzero] at cN
     have HW:Hid (∀ q,Calls Tryz.prog 42 #[.int .i64 1,.int .i64 0] (w.drewN q) fun e w'=>e=.returned (.tuple #[.agg #[.slice none 0 0,.int .i64 1,.int .i64 1,.int .i64 0],.bool (newOk 1 0)])/\Below (w.drewN q).heap.size (w.drewN q) w'):=fun q=>rnew_any 1 0 _
     have HFr:Hid (∀ q w1,Below (w.drewN q).heap.size (w.drewN q) w1->Calls Tryz.prog 43 #[ptr w1.heap.size,.int .i64 kind,.string t] (w1.alloc (.cells #[.slice none 0 0,.int .i64 1,.int .i64 1,.int .i64 0] 77)) fun e w2=>(∃ N,e=.returned (.tuple #[.int .i64 N,.int .i64 (wrongK kind t:Nat)]))/\RefAt6 hi w2 rb s/\Turns isR (.up hi) w w2):=fun q w1 hb=>by
      refine (rfree (h.drew q).1 kind t hst hb).mono ?_
      rintro e w2 ⟨h1,h2,h3⟩
      exact ⟨h1,h2,(h.drew q).2.trans h3⟩
     by_cases hw:wrongK kind t=0
     . rw [hw,if_neg (by simp)] at HL
       rw [hw] at HFr
       have HQ:Hid (∀ w2,RefAt6 hi w2 rb s->∃ p0 cap0 p cp,w2.cell? ⟨rb,0,none⟩=some (.slice p0 s.L.length cap0)/\w2.cell? ⟨rb,2,none⟩=some (.int .i64 s.most)/\∀ q,Calls Tryz.prog 71 #[ptr rb,.int .i64 d] (w2.drewN q) fun e w'=>e=.returned (.slice p dn.ds.length cp)/\∃ m,w'=w2.drewN m):=fun w2 hR=>by
        obtain ⟨p,cp,hE⟩:=rents7q hR hx hl;obtain ⟨rv,Q,eQ,hM⟩:=hR;obtain ⟨p0,cap0,rfl⟩:=hM.slice;have x0:=hM.box.cell 0 rfl;rw [ix_map eQ] at x0
        exact ⟨p0,cap0,p,cp,x0,hM.box.cell 2 rfl,hE⟩
       by_cases h64:64<=dn.ds.length
       . have HF:Hid (∀ w2,RefAt6 hi w2 rb s->Turns isR (.up hi) w w2->∀ q,RCreatePost hi rb s d nm kind t w (.returned (.tuple #[.int .i64 0,.int .i64 28])) (w2.drewN q)):=fun w2 h1 h2 q=>HP.out 28 (by rw [HL.out,if_pos h64]) (by decide) _ (h1.drew q).1 (h2.trans (h1.drew q).2)
         have h64z:(64:Int)<=(dn.ds.length:Int):=by omega
         clear h hf ht HP HL hfound eN eE hx hdm eds hdk hgo hd0 h0 hname hh hzero HQd hw h64;generalize RCreatePost hi rb s d nm kind t w=Post at *;generalize dn.ds.length=nl at *;go_enter Tryz.func46,Tryz.ntmps46;go_wp2_with fail;refine cN.mono ?_;rintro e w1 ⟨rfl,q,hw1⟩;subst w1;have cD:=HD.out q;go_wp2_with fail;refine cD.mono ?_;rintro e w1 ⟨rfl,hw1⟩;subst w1;have cW:=HW.out q;go_wp2_with fail;refine cW.mono ?_;rintro e w1 ⟨rfl,hb1⟩;have cF:=HFr.out q w1 hb1;clear cN cD cW
         go_wp2_with fail;refine cF.mono ?_;rintro e w2 ⟨⟨N2,rfl⟩,hR2,hT2⟩;clear cF;obtain ⟨p0,cap0,p,cp,y0,y2,cE⟩:=HQ.out w2 hR2;go_wp2
         go_quiet (first | (go_at_call 71;exact cE _))
         clear y0 y2;go_wp2
         exact HF.out w2 hR2 hT2 _
       . rw [if_neg h64] at HL
         have h64z:¬ (64:Int)<=(dn.ds.length:Int):=by omega
         by_cases hm:s.most<=s.L.length
         . have HF:Hid (∀ w2,RefAt6 hi w2 rb s->Turns isR (.up hi) w w2->∀ q,RCreatePost hi rb s d nm kind t w (.returned (.tuple #[.int .i64 0,.int .i64 28])) (w2.drewN q)):=fun w2 h1 h2 q=>HP.out 28 (by rw [HL.out,if_pos hm]) (by decide) _ (h1.drew q).1 (h2.trans (h1.drew q).2)
           have hmz:(s.most:Int)<=(s.L.length:Int):=by omega
           clear h hf ht HP HL hfound eN eE hx hdm eds hdk hgo hd0 h0 hname hh hzero HQd hw h64 hm;generalize RCreatePost hi rb s d nm kind t w=Post at *;generalize dn.ds.length=nl at *;go_enter Tryz.func46,Tryz.ntmps46;go_wp2_with fail;refine cN.mono ?_;rintro e w1 ⟨rfl,q,hw1⟩;subst w1;have cD:=HD.out q;go_wp2_with fail;refine cD.mono ?_;rintro e w1 ⟨rfl,hw1⟩;subst w1;have cW:=HW.out q;go_wp2_with fail;refine cW.mono ?_;rintro e w1 ⟨rfl,hb1⟩;have cF:=HFr.out q w1 hb1
           clear cN cD cW;go_wp2_with fail;refine cF.mono ?_;rintro e w2 ⟨⟨N2,rfl⟩,hR2,hT2⟩;clear cF;obtain ⟨p0,cap0,p,cp,y0,y2,cE⟩:=HQ.out w2 hR2;go_wp2
           go_quiet (first | (go_at_call 71;exact cE _))
           clear y0 y2;go_wp2
           exact HF.out w2 hR2 hT2 _
         . rw [if_neg hm] at HL
           have hmz:¬ (s.most:Int)<=(s.L.length:Int):=by omega
           have HM:Hid (∀ w2,RefAt6 hi w2 rb s->Turns isR (.up hi) w w2->∀ q,_):=fun w2 h1 h2 q=>rcreate_end (h1.drew q).1 hf ht hc hsz hst HL.out (h2.trans (h1.drew q).2)
           clear h hf ht HP HL hfound eN eE hx hdm eds hdk hgo hd0 h0 hname hh hzero HQd hw h64 hm;generalize RCreatePost hi rb s d nm kind t w=Post at *;generalize dn.ds.length=nl at *
           by_cases hk2:kind=2
           . subst hk2;go_enter Tryz.func46,Tryz.ntmps46;go_wp2_with fail;refine cN.mono ?_;rintro e w1 ⟨rfl,q,hw1⟩;subst w1;have cD:=HD.out q;go_wp2_with fail;refine cD.mono ?_;rintro e w1 ⟨rfl,hw1⟩;subst w1;have cW:=HW.out q;go_wp2_with fail;refine cW.mono ?_;rintro e w1 ⟨rfl,hb1⟩;have cF:=HFr.out q w1 hb1;clear cN cD cW;go_wp2_with fail;refine cF.mono ?_;rintro e w2 ⟨⟨N2,rfl⟩,hR2,hT2⟩;clear cF;obtain ⟨p0,cap0,p,cp,y0,y2,cE⟩:=HQ.out w2 hR2;go_wp2
             go_quiet (first | (go_at_call 71;exact cE _))
             clear y0 y2;have cM:=HM.out w2 hR2 hT2;go_wp2_with fail;refine (cM _).mono ?_;rintro e w3 ⟨⟨E3,rfl⟩,cA⟩;clear cM;go_wp2_with fail;refine cA.mono ?_;rintro e w4 ⟨⟨r4,rfl⟩,cC⟩;clear cA;go_wp2_with fail;refine cC.mono ?_;rintro e w5 ⟨⟨r5,rfl⟩,hfin⟩;clear cC;obtain ⟨j,cT,g,mm,cap,z0,z1,⟨z,z2⟩,z3,hfin⟩:=hfin.1 trivial
             have hjz:(j:Int) < (mm:Int):=by omega
             have hjz2:¬ (j:Int) < 0:=by omega
             go_wp2_with fail;refine cT.mono ?_;rintro e w6 ⟨rfl,hw6⟩;subst w6;go_wp2
             exact hfin
           . have hk2b:(kind == 2)=false:=beq_eq_false_iff_ne.2 hk2;go_enter Tryz.func46,Tryz.ntmps46;go_wp2_with fail;refine cN.mono ?_;rintro e w1 ⟨rfl,q,hw1⟩;subst w1;have cD:=HD.out q;go_wp2_with fail;refine cD.mono ?_;rintro e w1 ⟨rfl,hw1⟩;subst w1;have cW:=HW.out q;go_wp2_with fail;refine cW.mono ?_;rintro e w1 ⟨rfl,hb1⟩;have cF:=HFr.out q w1 hb1;clear cN cD cW;go_wp2_with fail;refine cF.mono ?_;rintro e w2 ⟨⟨N2,rfl⟩,hR2,hT2⟩;clear cF;obtain ⟨p0,cap0,p,cp,y0,y2,cE⟩:=HQ.out w2 hR2
             go_wp2
             go_quiet (first | (go_at_call 71;exact cE _))
             clear y0 y2;have cM:=HM.out w2 hR2 hT2;go_wp2_with fail;refine (cM _).mono ?_;rintro e w3 ⟨⟨E3,rfl⟩,cA⟩;clear cM;go_wp2_with fail;refine cA.mono ?_;rintro e w4 ⟨⟨r4,rfl⟩,cC⟩;clear cA;go_wp2_with fail;refine cC.mono ?_;rintro e w5 ⟨⟨r5,rfl⟩,hfin⟩;clear cC;have hfin:=hfin.2 hk2;go_wp2
             exact hfin
     . have HF:Hid (∀ w2,RefAt6 hi w2 rb s->Turns isR (.up hi) w w2->RCreatePost hi rb s d nm kind t w (.returned (.tuple #[.int .i64 0,.int .i64 (wrongK kind t:Nat)])) w2):=fun w2 h1 h2=>HP.out _ (by rw [HL.out,if_pos hw]) (by omega) _ h1 h2
       have hwz:((wrongK kind t:Nat):Int) ≠ 0:=by omega
       clear h hf ht HP HL hfound eN eE hx hdm eds hdk hgo hd0 h0 hname hh hzero HQd hw;generalize RCreatePost hi rb s d nm kind t w=Post at *;generalize ((wrongK kind t:Nat):Int)=wz at *;go_enter Tryz.func46,Tryz.ntmps46;go_wp2_with fail;refine cN.mono ?_;rintro e w1 ⟨rfl,q,hw1⟩;subst w1;have cD:=HD.out q;go_wp2_with fail;refine cD.mono ?_;rintro e w1 ⟨rfl,hw1⟩;subst w1;have cW:=HW.out q;go_wp2_with fail;refine cW.mono ?_;rintro e w1 ⟨rfl,hb1⟩;have cF:=HFr.out q w1 hb1
       clear cN cD cW;go_wp2_with fail;refine cF.mono ?_;rintro e w2 ⟨⟨N2,rfl⟩,hR2,hT2⟩;clear cF;go_wp2
       exact HF.out w2 hR2 hT2
 . have e1:createE s d nm kind t=placeE s d nm:=if_pos h0;have eN:entryN s d nm=0:=if_neg h0;have eE:entryE s d nm=placeE s d nm:=if_neg h0
   have HF:Hid (∀ q,RCreatePost hi rb s d nm kind t w (.returned (.tuple #[.int .i64 0,.int .i64 (placeE s d nm)])) (w.drewN q)):=fun q=>HP.out _ e1 h0 _ (h.drew q).1 (h.drew q).2
   rw [eN,eE] at cN
   by_cases h2:placeE s d nm=2
   . by_cases h3:dirE s d=0
     . have hem:=place_two h2 h3;rw [h3] at HD;rw [h2] at cN HF;clear h hf ht HP e1 eN eE h0 h2 h3 HQd;generalize RCreatePost hi rb s d nm kind t w=Post at *;go_enter Tryz.func46,Tryz.ntmps46;go_wp2_with fail;refine cN.mono ?_;rintro e w1 ⟨rfl,q,hw1⟩;subst w1;have cD:=HD.out q;go_wp2_with fail;refine cD.mono ?_;rintro e w1 ⟨rfl,hw1⟩;subst w1;go_wp2
       exact HF.out q
     . have h3z:((dirE s d:Nat):Int) ≠ 0:=by omega
       rw [h2] at cN HF;clear h hf ht HP e1 eN eE h0 h2 h3 HQd;generalize RCreatePost hi rb s d nm kind t w=Post at *;generalize ((dirE s d:Nat):Int)=dz at *;go_enter Tryz.func46,Tryz.ntmps46;go_wp2_with fail;refine cN.mono ?_;rintro e w1 ⟨rfl,q,hw1⟩;subst w1;have cD:=HD.out q;go_wp2_with fail;refine cD.mono ?_;rintro e w1 ⟨rfl,hw1⟩;subst w1;go_wp2
       exact HF.out q
   . clear h hf ht HP e1 eN eE HD HQd;generalize RCreatePost hi rb s d nm kind t w=Post at *;generalize placeE s d nm=E at *;go_enter Tryz.func46,Tryz.ntmps46;go_wp2_with fail;refine cN.mono ?_;rintro e w1 ⟨rfl,q,hw1⟩;subst w1;go_wp2
     exact HF.out q
end
section
variable {hi rb c:Nat} {w:World} {s:SS}
def DirOk (s:SS) (m:Nd):Prop:=m ∈ s.L/\m.kind=2/\(m.ino=1 ∨ 1<=m.links)
theorem dir_up (hf:Wf s c) (ht:Tree s) {m:Nd} (h:DirOk s m):∃ q,DirOk s q/\m.par=(q.ino:Int)/\(m.ino=1->q.ino=1)/\(m.ino ≠ 1->up1 s.L m.ino=some q.ino):=by
 obtain ⟨hm,hk,hg⟩:=h;obtain ⟨rn,hrn,er,hrk,_,_,hrp⟩:=ht.root
 by_cases e:m.ino=1
 . have e2:m=rn:=hf.one hm hrn (by omega)
   exact ⟨m,⟨hm,hk,hg⟩,by rw [e,e2,hrp];rfl,fun _=>e,fun h7=>absurd e h7⟩
 . have hl:1<=m.links:=by omega
   obtain ⟨q,hq,h1,h2,h3,_⟩:=ht.parent hf hm hk hl
   refine ⟨q,⟨hq,h2,?_⟩,h1,fun h7=>absurd h7 e,fun _=>by rw [up1_of hf hm hk hl,h1,Int.toNat_natCast]⟩
   rcases (ht.dirs q hq h3).2 with h4 | h4 | h4
   . exact .inl h4
   . exact .inr h4
   . have:=(hf.num q hq).1;omega
theorem rwithin7 (h:RefAt6 hi w rb s) (hf:Wf s c) (ht:Tree s) {km ym:Nd} (hkm:km ∈ s.L) (hkk:km.kind=2) (hym:DirOk s ym):Calls Tryz.prog 103 #[ptr rb,.int .i64 (km.ino:Int),.int .i64 (ym.ino:Int)] w fun e w'=>e=.returned (.bool (withinB s km.ino ym.ino))/\∃ q,w'=w.drewN q:=by
 have hl:s.L.length<=1000000:=by have:=hf.room;have:=hf.most;omega
 have hiff:=within_iff ht hf hym.1 km.ino;rw [isDir_mem hf hkm,hkk,Int.toNat_natCast] at hiff;obtain ⟨r,hr,hrb⟩:=ht.brank hf;obtain ⟨b,eb⟩:∃ b,withinB s km.ino ym.ino=b:=⟨_,rfl⟩;rw [eb] at hiff ⊢
 have HI:Hid (b=true ↔ Up s.L ym.ino km.ino):=⟨fun h=>(hiff.1 h).2,fun h=>hiff.2 ⟨rfl,h⟩⟩
 have HK:Hid (∀ (m:Nd) q,m ∈ s.L->m.kind=2->Calls Tryz.prog 28 #[ptr rb,.int .i64 (m.ino:Int)] (w.drewN q) fun e w'=>e=.returned (.int .i64 2)/\w'=w.drewN q):=fun m q hm hk=>by
  have:=rkind7 (h.drew q).1 m.ino hl;obtain ⟨i,hi2⟩:=look_of hf hm
  rw [show kindOf s m.ino=2 by unfold kindOf;rw [hi2];exact hk] at this
  exact this
 obtain ⟨g,cap,HC⟩:∃ g cap,Hid (∀ m,DirOk s m->∃ j q,j < s.L.length/\DirOk s q/\(∀ k,(w.drewN k).cell? ⟨rb,0,none⟩=some (.slice (some ⟨g,0,none⟩) s.L.length cap)/\(w.drewN k).cell? ⟨g,j * 9+4,none⟩=some (.int .i64 (q.ino:Int))/\Calls Tryz.prog 29 #[ptr rb,.int .i64 (m.ino:Int)] (w.drewN k) fun e w'=>e=.returned (.int .i64 (j:Int))/\w'=w.drewN k)/\(m.ino=1->q.ino=1)/\(m.ino ≠ 1->up1 s.L m.ino=some q.ino)):=by
  have h':=h;obtain ⟨rv,Q,eQ,hM⟩:=h';have hQ:=ix_map eQ
  have hpos:0 < s.L.length:=by
   have:=List.length_pos_of_mem hkm;omega
  obtain ⟨g,cap,rfl,_⟩:=hM.place (k:=0) (by omega)
  refine ⟨g,cap,fun m hm => ?_⟩
  obtain ⟨j,hj⟩:=look_of hf hm.1;obtain ⟨hj1,en,_,_⟩:=look_some hj;obtain ⟨q,hq,h1,h2,h3⟩:=dir_up hf ht hm
  obtain ⟨g2,cap2,e2,_,_,_,hcl⟩:=hM.place (k:=j) (by omega)
  cases e2
  have x0:=hM.box.cell 0 rfl
  have x4:=hcl 4 (by omega) _ rfl
  rw [show (Q[j]'(by omega)).n.par=m.par by rw [map_get eQ (by omega) hj1,en],h1] at x4
  rw [hQ] at x0
  refine ⟨j,q,hj1,hq,fun k=>⟨x0,x4,?_⟩,h2,h3⟩
  have:=rat_any (h.drew k).1 m.ino hl;rw [ixZ_look_some hj] at this
  exact this
 have HRk:Hid (∀ x p,up1 s.L x=some p->r p < r x):=hr;have HRb:Hid (r ym.ino < s.L.length):=hrb ym hym.1
 have HRt:Hid (∀ a,Up s.L 1 a->a=1):=fun a=>up_root ht hf
 have HKm:Hid (km ∈ s.L/\km.kind=2):=⟨hkm,hkk⟩;have HY:Hid (DirOk s ym):=hym
 have x0:w.cell? ⟨rb,0,none⟩=some (.slice (some ⟨g,0,none⟩) s.L.length cap):=by
  obtain ⟨_,_,_,_,h1,_⟩:=HC.out ym hym
  exact (h1 0).1
 clear h hf ht hiff hr hrb hym hkm hkk eb;go_enter Tryz.func103,Tryz.ntmps103;go_wp2
 go_loopw [7,2] (fun iv yv wr => ∃ (k q:Nat) (m:Nd),k<=s.L.length+1/\iv=.int .i64 (k:Int)/\yv=.int .i64 (m.ino:Int)/\wr=w.drewN q/\Hid (DirOk s m/\(b=true ↔ Up s.L m.ino km.ino)/\(r m.ino+k<=r ym.ino ∨ m.ino=1/\km.ino ≠ 1))) (fun iv _ _=>s.L.length+1 - (intOf iv).toNat)
 case atStart=>exact ⟨0,0,ym,by omega,rfl,rfl,rfl,HY.out,HI.out,.inl (by omega)⟩
 case round =>
  obtain ⟨k,q,m,hk,rfl,rfl,rfl,HM⟩:=hrel;have x0q:(w.drewN q).cell? ⟨rb,0,none⟩=some (.slice (some ⟨g,0,none⟩) s.L.length cap):=x0;clear HI HY x0
  by_cases hkl:k<=s.L.length
  . have hkz:(k:Int)<=(s.L.length:Int):=by omega
    have cK1:=HK.out m q HM.out.1.1 HM.out.1.2.1;have cK2:=HK.out km q HKm.out.1 HKm.out.2;obtain ⟨j,p,hj,hp,hcl,hroot,hup⟩:=HC.out m HM.out.1
    by_cases e1:m.ino=km.ino
    . have e1z:((m.ino:Int) == (km.ino:Int))=true:=beq_iff_eq.2 (by omega)
      have HB:Hid (b=true):=HM.out.2.1.2 (by rw [e1];exact Up.refl _ _)
      clear HM hcl hroot hup HC HK HRk HRb HRt HKm hp e1;generalize (m.ino:Int)=mz at *;generalize (km.ino:Int)=kz at *;go_wp2_with fail;refine cK1.mono ?_;rintro e w1 ⟨rfl,hw1⟩;subst w1;go_wp2_with fail;refine cK2.mono ?_;rintro e w1 ⟨rfl,hw1⟩;subst w1;go_wp2
      go_ret
      exact ⟨by rw [HB.out];rfl,q,rfl⟩
    . have e1z:((m.ino:Int) == (km.ino:Int))=false:=beq_eq_false_iff_ne.2 (by omega)
      have hjz:(j:Int) < (s.L.length:Int):=by omega
      have hjz2:¬ (j:Int) < 0:=by omega
      have HQ:Hid (DirOk s p/\(b=true ↔ Up s.L p.ino km.ino)/\(r p.ino+(k+1)<=r ym.ino ∨ p.ino=1/\km.ino ≠ 1)):=by
       refine ⟨hp,?_,?_⟩
       . refine HM.out.2.1.trans ?_
         by_cases e2:m.ino=1
         . rw [hroot e2,e2]
         . have hu:=hup e2
           refine ⟨fun h7 => ?_,fun h7=>Up.step hu h7⟩
           rcases h7.inv with h8 | ⟨p2,h8,h9⟩
           . exact absurd h8 e1
           . rw [hu] at h8;cases h8;exact h9
       . by_cases e2:m.ino=1
         . exact .inr ⟨hroot e2,by omega⟩
         . have:=HRk.out _ _ (hup e2)
           rcases HM.out.2.2 with h7 | h7
           . exact .inl (by omega)
           . exact absurd h7.1 e2
      have x4:=fun n=>(hcl n).2.1
      have cA:=fun n=>(hcl n).2.2
      have x4q:(w.drewN q).cell? ⟨g,j * 9+4,none⟩=some (.int .i64 (p.ino:Int)):=x4 q
      have cA2:∀ n,Calls Tryz.prog 29 #[ptr rb,.int .i64 (m.ino:Int)] ((w.drewN q).drewN n) fun e w'=>e=.returned (.int .i64 (j:Int))/\w'=(w.drewN q).drewN n:=fun n=>by
       rw [World.drewN_drewN];exact cA (q+n)
      have HWn:Hid (∀ n,∃ n',(w.drewN q).drewN n=w.drewN n'):=fun n=>⟨q+n,World.drewN_drewN ..⟩
      clear HM hcl hroot hup HC HK HRk HRb HRt HKm hp e1 x4 cA;generalize (m.ino:Int)=mz at *;generalize (km.ino:Int)=kz at *;generalize hpz:(p.ino:Int)=pz at *;generalize w.drewN q=W at *;go_wp2_with fail;refine cK1.mono ?_;rintro e w1 ⟨rfl,hw1⟩;subst w1;go_wp2_with fail;refine cK2.mono ?_;rintro e w1 ⟨rfl,hw1⟩;subst w1;clear cK1 cK2;go_wp2
      go_quiet (first | (go_at_call 29;refine Calls.quiet_of_same (cA2 _)))
      clear cA2;go_wp2;go_roundw
      case rel =>
       obtain ⟨n',hn'⟩:=HWn.out _
       exact ⟨k+1,n',p,by omega,by go_num,by rw [hpz],hn',HQ.out⟩
      case measure=>simp [intOf];omega
  . have hkz:¬ (k:Int)<=(s.L.length:Int):=by omega
    have HB:Hid (b=false):=by
     cases hb:b with
     | false=>rfl
     | true =>
      have hu:=HM.out.2.1.1 hb;have h5:=HRb.out
      rcases HM.out.2.2 with h7 | h7
      . omega
      . rw [h7.1] at hu
        exact absurd (HRt.out _ hu) h7.2
    clear HM HC HK HRk HRb HRt HKm;generalize (m.ino:Int)=mz at *;generalize (km.ino:Int)=kz at *;go_wp2
    go_ret
    exact ⟨by rw [HB.out];rfl,q,rfl⟩
end
theorem DRelE.self {S l:List IEnt} (h:DRelE S l):DRelE S S:=⟨.refl _,h.sorted,fun e he=>h.pos e (h.perm.mem_iff.1 he),by rw [h.perm.length_eq];exact h.few⟩
theorem updG_par (k:Nat) (v:Int) (n:Nd):updG (k:Int) (fun n=>n.withP v) n={ n with par:=if n.ino=k then v else n.par }:=by
 unfold updG
 by_cases e:n.ino=k
 . rw [if_pos (by omega),if_pos e];rfl
 . rw [if_neg (by omega),if_neg e]
theorem gc_map {X:SS} {f:Nd->Nd} (h:∀ n ∈ X.L,n.dead=true->(f n).dead=true):(mapS X.gc f).gc=(mapS X f).gc:=by
 have key:∀ L:List Nd,(∀ n ∈ L,n.dead=true->(f n).dead=true)->(((L.filter fun n => !n.dead).map f).filter fun n => !n.dead)=(L.map f).filter fun n => !n.dead:=fun L=>by
  induction L with
  | nil=>intro _;rfl
  | cons a r ih =>
   intro h
   have h2:=ih fun n hn=>h n (List.mem_cons_of_mem _ hn)
   cases hd:a.dead with
   | true =>
    have h3:=h a List.mem_cons_self hd
    simp only [List.filter_cons,hd,List.map_cons,h3]
    exact h2
   | false =>
    simp only [List.filter_cons,hd,List.map_cons,Bool.not_false,if_true]
    cases (f a).dead <;> simp [h2]
 unfold mapS SS.gc
 simp only
 rw [key X.L h]
section
variable {s : SS} {c:Nat}
theorem Wf.rdrop (hf:Wf s c) (d:Int) (nm:ByteArray) (k:Int):Wf (rdropP s d nm k) (c+2):=((hf.ents d (remS nm) fun _ _ h7=>remS_len (hf.ds _ (look_mem h7).1)).par k 0).less1 _ _
theorem rdrop_is (hf:Wf s c) {dn kn:Nd} (_hd:dn ∈ s.L) (hk:kn ∈ s.L) (hl:1<=kn.links) (nm:ByteArray):rdropP s dn.ino nm kn.ino=(mapS s (unlinkG dn.ino kn.ino nm)).gc:=by
 have hf2:Wf (remEnt s dn.ino nm) (c+1):=hf.ents dn.ino (remS nm) fun _ _ h7=>remS_len (hf.ds _ (look_mem h7).1)
 have hf3:=hf2.par kn.ino 0;obtain ⟨j,hy⟩:=look_of hf hk
 have hl2:=look_upd (x:=(dn.ino:Int)) (g:=fun n=>n.withD (remS nm n.ds)) hf (fun _=>rfl) hy
 have hl3:=look_upd (x:=(kn.ino:Int)) (g:=fun n=>n.withP 0) hf2 (fun _=>rfl) hl2
 have el:lessE ((remEnt s dn.ino nm).upd kn.ino fun n=>n.withP 0) kn.ino true=0:=by
  unfold lessE;rw [hl3]
  show (if Nd.cnt _ true=0 then _ else _)=_
  rw [if_neg]
  split <;> split <;> (show ¬ kn.links=0;omega)
 unfold rdropP;rw [less_gc hf3 el];unfold remEnt;rw [upd_is,upd_is,upd_is]
 show (mapS (mapS (mapS s _) _) _).gc=_
 rw [mapS_mapS,mapS_mapS]
 congr 1
 refine mapS_congr fun n hn => ?_
 rw [updG_ds dn.ino (remS nm),updG_par,updG_less]
 simp [unlinkG]
def holdG (k:Nat) (n:Nd):Nd:={ n with holds:=if n.ino=k then n.holds+1 else n.holds }
theorem hold_is (hf:Wf s c) {kn:Nd} (hk:kn ∈ s.L):moreS s kn.ino false=mapS s (holdG kn.ino):=by
 obtain ⟨j,hy⟩:=look_of hf hk
 have he:moreE s kn.ino false=0:=by unfold moreE;rw [hy];exact if_neg (by simp)
 rw [more_upd hf he,upd_is]
 show mapS s _=_
 refine mapS_congr fun n _ => ?_
 rw [updG_more]
 simp [holdG]
theorem unhold_is (hf:Wf s c) {kn:Nd} (hk:kn ∈ s.L) (hh:1<=kn.holds):lessS s kn.ino false=(mapS s (unholdG kn.ino)).gc:=by
 obtain ⟨j,hy⟩:=look_of hf hk
 have he:lessE s kn.ino false=0:=by
  unfold lessE;rw [hy];exact if_neg (by show ¬ kn.holds=0;omega)
 rw [less_gc hf he,upd_is]
 show (mapS s _).gc=_
 congr 1
 refine mapS_congr fun n _ => ?_
 rw [updG_less]
 simp [unholdG]
theorem link_is (hf:Wf s c) {en kn:Nd} (_he:en ∈ s.L) (hk:kn ∈ s.L) (hl:kn.links < 32) (nm:ByteArray):(if kn.kind=2 then (moreS (addEnt s en.ino nm kn.ino) kn.ino true).upd kn.ino fun n=>n.withP en.ino else moreS (addEnt s en.ino nm kn.ino) kn.ino true)=mapS s (linkG en.ino kn.ino nm):=by
 have hf2:Wf (addEnt s en.ino nm kn.ino) (c+1):=hf.ents en.ino (addS nm kn.ino) fun _ _ h7=>addS_len (hf.ds _ (look_mem h7).1)
 obtain ⟨j,hy⟩:=look_of hf hk
 have hl2:=look_upd (x:=(en.ino:Int)) (g:=fun n=>n.withD (addS nm kn.ino n.ds)) hf (fun _=>rfl) hy
 have em:moreE (addEnt s en.ino nm kn.ino) kn.ino true=0:=more_ok hl2 (by split <;> exact hl)
 have e1:moreS (addEnt s en.ino nm kn.ino) kn.ino true=mapS s fun n=>updG kn.ino (fun n=>n.cntd true (n.cnt true+1)) (updG en.ino (fun n=>n.withD (addS nm kn.ino n.ds)) n):=by
  rw [more_upd hf2 em];unfold addEnt;rw [upd_is,upd_is]
  show mapS (mapS s _) _=_
  rw [mapS_mapS]
 rw [e1]
 split
 . rename_i h2
   rw [upd_is]
   show mapS (mapS s _) _=_
   rw [mapS_mapS]
   refine mapS_congr fun n hn => ?_
   rw [updG_ds en.ino (addS nm kn.ino),updG_more,updG_par]
   by_cases e:n.ino=kn.ino
   . have hnk:n.kind=2:=by rw [hf.one hn hk e];exact h2
     simp [linkG,hnk]
   . simp [linkG,e]
 . rename_i h2
   refine mapS_congr fun n hn => ?_
   rw [updG_ds en.ino (addS nm kn.ino),updG_more]
   by_cases e:n.ino=kn.ino
   . have hnk:n.kind ≠ 2:=by rw [hf.one hn hk e];exact h2
     simp [linkG,hnk]
   . simp [linkG,e]
end
end Go.Proofs.YthlaoaaafafafaaGreat
