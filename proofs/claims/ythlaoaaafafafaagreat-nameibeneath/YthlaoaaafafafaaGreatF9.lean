/- Ours. -/
import Derived.Test.YthlaoaaafafafaaGreatF8
import Derived.Test.YthlaoaaafafafaaGreatD3
set_option maxRecDepth 100000
set_option maxHeartbeats 16000000
namespace Go.Proofs.YthlaoaaafafafaaGreat
open Go Go.RowKit Go.Maps
def updG (x:Int) (g:Nd->Nd) (n:Nd):Nd:=if (n.ino:Int)=x then g n else n
theorem updG_ds (k:Nat) (f:List IEnt->List IEnt) (n:Nd):updG (k:Int) (fun n=>n.withD (f n.ds)) n={ n with ds:=if n.ino=k then f n.ds else n.ds }:=by
 unfold updG
 by_cases e:n.ino=k
 . rw [if_pos (by omega),if_pos e];rfl
 . rw [if_neg (by omega),if_neg e]
theorem updG_more (k:Nat) (l:Bool) (n:Nd):updG (k:Int) (fun n=>n.cntd l (n.cnt l+1)) n={ n with links:=if n.ino=k/\l=true then n.links+1 else n.links,holds:=if n.ino=k/\l=false then n.holds+1 else n.holds }:=by
 unfold updG
 by_cases e:n.ino=k
 . rw [if_pos (by omega)]
   cases l <;> simp [e,Nd.cntd,Nd.cnt]
 . rw [if_neg (by omega),if_neg fun h=>e h.1,if_neg fun h=>e h.1]
theorem updG_less (k:Nat) (l:Bool) (n:Nd):updG (k:Int) (fun n=>n.cntd l (n.cnt l - 1)) n={ n with links:=if n.ino=k/\l=true then n.links - 1 else n.links,holds:=if n.ino=k/\l=false then n.holds - 1 else n.holds }:=by
 unfold updG
 by_cases e:n.ino=k
 . rw [if_pos (by omega)]
   cases l <;> simp [e,Nd.cntd,Nd.cnt]
 . rw [if_neg (by omega),if_neg fun h=>e h.1,if_neg fun h=>e h.1]
theorem upd_is (s:SS) (x:Int) (g:Nd->Nd):s.upd x g={ s with L:=s.L.map (updG x g) }:=rfl
theorem Wf.bare {s s':SS} {c:Nat} (hf:Wf s c) (h:SameB s s'):Wf s' c:=by
 have hl:s'.L.length=s.L.length:=by have:=congrArg List.length h.list;simpa using this.symm
 have key:∀ (P:Nd->Prop),(∀ n m:Nd,m.ino=n.ino->m.kind=n.kind->m.links=n.links->m.holds=n.holds->m.f=n.f->m.tgt=n.tgt->m.ds=n.ds->P m->P n)->(∀ n ∈ s.L,P n)->∀ n ∈ s'.L,P n:=fun P hP h1 n hn=>by
  obtain ⟨m,hm,e1,e2,e3,e4,e5,e6,e7⟩:=h.mem hn
  exact hP n m e1 e2 e3 e4 e5 e6 e7 (h1 m hm)
 refine ⟨?_,?_,by rw [<- h.next];exact hf.next,by rw [<- h.most];exact hf.most,by rw [<- h.most,hl];exact hf.room,by rw [<- h.tot];exact hf.tot,?_,?_,?_,?_,?_,?_,?_,?_,?_⟩
 . have e:s'.L.map Nd.ino=s.L.map Nd.ino:=by
    have:=congrArg (List.map Nd.ino) h.list;rw [List.map_map,List.map_map] at this
    exact this.symm
   rw [sorted_inos,e,<- sorted_inos];exact hf.sorted
 . rw [<- h.next];exact key _ (fun n m e1 _ _ _ _ _ _ hp=>by rw [<- e1];exact hp) hf.num
 . rw [<- h.tot,<- sumB_bare,<- h.list,sumB_bare];exact hf.sum
 . exact key _ (fun n m _ _ e3 _ _ _ _ hp=>by rw [<- e3];exact hp) hf.links
 . exact key _ (fun n m _ _ _ e4 _ _ _ hp=>by rw [<- e4];exact hp) hf.holds
 . exact key _ (fun n m _ _ e3 e4 _ _ _ hp=>by rw [<- e3,<- e4];exact hp) hf.alive
 . exact key _ (fun n m _ e2 _ _ _ _ _ hp=>by rw [<- e2];exact hp) hf.kind
 . exact key _ (fun n m _ _ _ _ _ e6 _ hp=>by rw [<- e6];exact hp) hf.tgt
 . exact key _ (fun n m _ e2 _ _ _ e6 _ hp=>by rw [<- e2,<- e6];exact hp) hf.tgt3
 . exact key _ (fun n m _ _ _ _ _ _ e7 hp=>by rw [<- e7];exact hp) hf.ds
 . exact key _ (fun n m _ _ _ _ e5 _ _ hp=>by rw [<- e5];exact hp) hf.file
theorem createE_ok {s:SS} {d:Int} {nm:ByteArray} {kind:Int} {t:ByteArray} (h:createE s d nm kind t=0):placeE s d nm=0/\has nm (entsOf s d)=false/\wrongK kind t=0/\¬ 64<=(entsOf s d).length/\¬ s.most<=s.L.length:=by
 unfold createE at h
 by_cases h1:placeE s d nm=0
 . rw [if_neg (by simpa using h1)] at h
   cases h2:has nm (entsOf s d) with
   | true=>rw [h2,if_pos rfl] at h;cases h
   | false =>
    rw [h2,if_neg (by simp)] at h
    by_cases h3:wrongK kind t=0
    . rw [if_neg (by simpa using h3)] at h
      by_cases h4:64<=(entsOf s d).length
      . rw [if_pos h4] at h;cases h
      . rw [if_neg h4] at h
        by_cases h5:s.most<=s.L.length
        . rw [if_pos h5] at h;cases h
        . exact ⟨h1,rfl,h3,h4,h5⟩
    . rw [if_pos h3] at h;omega
 . rw [if_pos h1] at h;exact absurd h h1
def unholdG (k:Nat) (n:Nd):Nd:={ n with holds:=if n.ino=k then n.holds - 1 else n.holds }
def createF (s:SS) (d:Int) (nm:ByteArray) (kind:Int) (t:ByteArray):SS :=
 { s.add (freshN s.next kind t) with L:=(s.add (freshN s.next kind t)).L.map fun n=>unholdG s.next (linkG d.toNat s.next nm n) }
theorem create_chain {s:SS} {c:Nat} (hf:Wf s c) {d:Int} {nm:ByteArray} {kind:Int} {t:ByteArray} (he:createE s d nm kind t=0) :
 Wf (createP s d nm kind t) (c+4)/\createP s d nm kind t={ s.add (freshN s.next kind t) with L:=(s.add (freshN s.next kind t)).L.map fun n=>updG s.next (fun n=>n.cntd false (n.cnt false - 1)) (updG s.next (fun n=>n.cntd true (n.cnt true+1)) (updG d (fun n=>n.withD (addS nm s.next n.ds)) n)) }:=by
 obtain ⟨h1,h2,h3,h4,h5⟩:=createE_ok he
 have e1:makeS s kind t=s.add (freshN s.next kind t):=by
  have:makeE s kind t=0:=by unfold makeE;rw [if_neg (by simpa using h3),if_neg h5]
  unfold makeS;rw [this];rfl
 have hf1:Wf (s.add (freshN s.next kind t)) (c+1):=by rw [<- e1];exact hf.make kind t
 have hf2:Wf (addEnt (s.add (freshN s.next kind t)) d nm s.next) (c+2):=hf1.ents d _ fun i2 n2 h7=>addS_len (hf1.ds _ (look_mem h7).1)
 have hf3:Wf (moreS (addEnt (s.add (freshN s.next kind t)) d nm s.next) s.next true) (c+3):=hf2.more1 _ _;have hf4:Wf (createP s d nm kind t) (c+4):=hf3.less1 _ _
 have hN:freshN s.next kind t ∈ (s.add (freshN s.next kind t)).L:=by simp [SS.add]
 obtain ⟨i,hi⟩:=look_of hf1 hN;have hi':look (s.add (freshN s.next kind t)) s.next=some (i,freshN s.next kind t):=hi
 have hl2:=look_upd (x:=d) (g:=fun n=>n.withD (addS nm s.next n.ds)) hf1 (fun _=>rfl) hi'
 have em:moreE (addEnt (s.add (freshN s.next kind t)) d nm s.next) s.next true=0:=by
  refine more_ok hl2 ?_
  split <;> (show (0:Nat) < 32;omega)
 have e2:=more_upd hf2 em
 have hl3:=look_upd (x:=(s.next:Int)) (g:=fun n=>n.cntd true (n.cnt true+1)) hf2 (fun n=>(cntd_ino n _ _).1) hl2
 have el:lessE (moreS (addEnt (s.add (freshN s.next kind t)) d nm s.next) s.next true) s.next false=0:=by
  rw [e2];unfold lessE;rw [hl3]
  show (if Nd.cnt _ false=0 then _ else _)=_
  rw [if_neg]
  split <;> split <;> (show ¬ (1:Nat)=0;omega)
 have e3:=less_gc hf3 el
 refine ⟨hf4,?_⟩
 unfold createP;rw [e3,e2,gc_id]
 . unfold addEnt
   simp only [upd_is,List.map_map]
   rfl
 . have:Wf (lessS (moreS (addEnt (s.add (freshN s.next kind t)) d nm s.next) s.next true) s.next false) (c+4):=hf4
   intro m hm
   rw [e2] at hf3;obtain ⟨m0,hm0,rfl⟩:=List.mem_map.1 hm;have ha:=hf3.alive m0 hm0
   split
   . rename_i hino
     have hlk:look (((addEnt (s.add (freshN s.next kind t)) d nm s.next)).upd s.next fun n=>n.cntd true (n.cnt true+1)) s.next=_:=hl3
     have e5:=look_is hf3 hlk hm0 hino;rw [e5]
     split <;> split <;> first | (show 1<=(0+1)+(1 - 1);omega) | (rename_i h7;exact absurd rfl h7)
   . exact ha
theorem same_maps {s:SS} {f g:Nd->Nd} (h:∀ n ∈ s.L,bareN (f n)=bareN (g n)):SameB { s with L:=s.L.map f } { s with L:=s.L.map g }:=by
 refine ⟨rfl,rfl,rfl,?_⟩
 simp only [List.map_map]
 exact List.map_congr_left h
theorem create_same {s:SS} {c:Nat} (hf:Wf s c) {d:Int} {nm:ByteArray} {kind:Int} {t:ByteArray} (he:createE s d nm kind t=0):SameB (createP s d nm kind t) (createF s d nm kind t):=by
 rw [(create_chain hf he).2];obtain ⟨h1,_⟩:=createE_ok he;obtain ⟨i,dn,hx,_,_⟩:=dirE_ok (placeE_ok h1).1
 have hd:d=((d.toNat:Nat):Int):=by have:=(look_mem hx).2;omega
 refine same_maps (s:=s.add (freshN s.next kind t)) fun n _ => ?_
 obtain ⟨dk,rfl⟩:∃ dk:Nat,d=(dk:Int):=⟨_,hd⟩;rw [updG_ds dk (addS nm s.next),updG_more,updG_less]
 simp [bareN,unholdG,linkG,Int.toNat_natCast]
theorem create_tree {s:SS} {c:Nat} (hf:Wf s c) (ht:Tree s) {d:Int} {nm:ByteArray} {kind:Int} {t:ByteArray} (he:createE s d nm kind t=0) {U:Int->Int} (ha:Agree s U) :
 Wf (createF s d nm kind t) (c+4)/\Tree (createF s d nm kind t)/\Agree (createF s d nm kind t) (if kind=2 then updU U s.next d else U):=by
 obtain ⟨h1,h2,h3,h4,h5⟩:=createE_ok he;obtain ⟨hd0,hname⟩:=placeE_ok h1;obtain ⟨i,dn,hx,hdk,hgo⟩:=dirE_ok hd0;obtain ⟨hdm,hdi⟩:=look_mem hx
 have hdn:d.toNat=dn.ino:=by omega
 have eds:entsOf s d=dn.ds:=ents_look hx;rw [eds] at h2 h4
 have e1:makeS s kind t=s.add (freshN s.next kind t):=by
  have:makeE s kind t=0:=by unfold makeE;rw [if_neg (by simpa using h3),if_neg h5]
  unfold makeS;rw [this];rfl
 have hf1:Wf (s.add (freshN s.next kind t)) (c+1):=by rw [<- e1];exact hf.make kind t
 have ht1:Tree (s.add (freshN s.next kind t)):=tree_add hf ht rfl rfl rfl rfl
 have hN:freshN s.next kind t ∈ (s.add (freshN s.next kind t)).L:=by simp [SS.add]
 have hD:dn ∈ (s.add (freshN s.next kind t)).L:=by simp [SS.add,hdm]
 have hnx:=hf.next;obtain ⟨rn,hrn,er,_⟩:=ht.root;have hr2:=(hf.num rn hrn).2
 have hadd:addE nm ((freshN s.next kind t).ino:Nat) dn.ds=0:=by
  unfold addE
  show (if nameE nm ≠ 0 then _ else if (s.next:Int) < 1 then _ else _)=_
  rw [hname,if_neg (by simp),if_neg (by omega),h2,if_neg (by simp),if_neg h4]
 have ht2:=tree_link (nm:=nm) hf1 ht1 hD hN hdk (by omega) hadd (fun _=>⟨rfl,(by show s.next ≠ 1;omega),fun hu=>by
  rcases Up.last ht1 hf1 hu with h7 | ⟨m,hm,h7,h8⟩
  . have:=(hf.num dn hdm).2;have h7':dn.ino=s.next:=h7
    omega
  . have h9:m=freshN s.next kind t:=hf1.one hm hN h7;rw [h9] at h8
    exact h8 rfl⟩) (.inl rfl)
 have hLd:(freshN s.next kind t).ino=s.next:=rfl;rw [hLd] at ht2
 have ht3:=tree_same ht2 (unholdG s.next) (fun n=>⟨rfl,rfl,rfl,rfl,rfl⟩) fun n hn h7=>by
  obtain ⟨m,hm,rfl⟩:=List.mem_map.1 hn;have h7':m.ino=1:=h7
  have hmr:m=rn:=hf1.one hm (by simp [SS.add,hrn]) (by omega)
  show 1<=if m.ino=s.next then _ else _
  rw [if_neg (by omega),hmr]
  obtain ⟨rn',hrn',er',_,_,hh,_⟩:=ht.root
  have:rn'=rn:=hf.one hrn' hrn (by omega)
  rw [<- this]
  exact hh
 have hL:createF s d nm kind t={ s.add (freshN s.next kind t) with L:=((s.add (freshN s.next kind t)).L.map (linkG dn.ino s.next nm)).map (unholdG s.next) }:=by
  unfold createF;rw [List.map_map,hdn]
  rfl
 refine ⟨(create_chain hf he).1.bare (create_same hf he),by rw [hL];exact ht3,?_⟩
 intro m hm hk hg
 rw [hL] at hm;obtain ⟨m1,hm1,rfl⟩:=List.mem_map.1 hm;obtain ⟨m0,hm0,rfl⟩:=List.mem_map.1 hm1;have hk0:m0.kind=2:=hk
 show _=if m0.ino=s.next/\m0.kind=2 then (dn.ino:Int) else m0.par
 by_cases e:m0.ino=s.next
 . rw [if_pos (c:=m0.ino=s.next/\m0.kind=2) ⟨e,hk0⟩];have e2:m0=freshN s.next kind t:=hf1.one hm0 hN e
   have hkind:kind=2:=by
    rw [e2] at hk0;have hw:=wrongK_ok h3;have:kind.toNat=2:=hk0
    omega
   rw [if_pos hkind]
   show updU U s.next d m0.ino=_
   unfold updU
   rw [if_pos (by omega)]
   exact hdi.symm
 . rw [if_neg (c:=m0.ino=s.next/\m0.kind=2) fun h7=>e h7.1]
   have hm0':m0 ∈ s.L:=by
    rcases List.mem_append.1 hm0 with h7 | h7
    . exact h7
    . rw [List.mem_singleton.1 h7] at e;exact absurd rfl e
   have hg0:m0.ino=1 ∨ 1<=m0.links:=by
    rcases hg with h7 | h7
    . exact .inl h7
    . refine .inr ?_
      have:1<=if m0.ino=s.next then m0.links+1 else m0.links:=h7
      rwa [if_neg e] at this
   have:=ha m0 hm0' hk0 hg0
   show (if kind=2 then updU U s.next d else U) m0.ino=_
   split
   . unfold updU
     rw [if_neg (by omega)];exact this
   . exact this
def nmA : ByteArray:=⟨#[97]⟩
theorem nameA : nameE nmA=0:=by decide +kernel
theorem createA : createE (newF 4 4) 1 nmA 2 ByteArray.empty=0:=by
 have h1:dirE (newF 4 4) 1=0:=rfl
 have h2:placeE (newF 4 4) 1 nmA=0:=by unfold placeE;rw [h1,if_pos rfl];exact nameA
 have h3:entsOf (newF 4 4) 1=[]:=rfl;unfold createE;rw [h2,h3]
 decide +kernel
def livF : SS:=createF (newF 4 4) 1 nmA 2 ByteArray.empty
def Nd.withP (n:Nd) (p:Int):Nd:={ n with par:=p }
theorem ref_par {hi rb g i cap:Nat} {w:World} {Q:List RN} {s:SS} (h:RefM hi w rb (.slice (some ⟨g,0,none⟩) Q.length cap) Q s.next s.most s.tot) (eQ:Q.map RN.n=s.L) (hi':i < s.L.length) (hg:g ≠ rb) (hlo:hi<=g) (v:Int) :
 RefAt6 hi (w.setCell ⟨g,i * 9+4,none⟩ (.int .i64 v)) rb (s.set i (s.L[i].withP v))/\Turns isR (.up hi) w (w.setCell ⟨g,i * 9+4,none⟩ (.int .i64 v)):=by
 have hQ:=ix_map eQ
 have hiQ:i < Q.length:=by omega
 have hb:=but_set w g (i * 9+4) (.int .i64 v);obtain ⟨ht,hbox⟩:=rn_but h hb hg hlo;have e3:Q[i].n=s.L[i]:=map_get eQ hiQ hi'
 have hn:=(h.node Q[i] (List.getElem_mem hiQ)).turns ht fun _ _ _ h _=>h
 refine ⟨⟨_,Q.set i ⟨s.L[i].withP v,Q[i].vB,Q[i].vH,Q[i].vL⟩,map_set_n eQ _ _,h.turned _ ?_ hbox ht ⟨?_,?_⟩⟩,ht⟩
 . have r1:=rowS_set (k:=i * 9+4) h.row (.int .i64 v)
   rw [rcells_set hiQ (by omega) (.int .i64 v) ⟨s.L[i].withP v,Q[i].vB,Q[i].vH,Q[i].vL⟩ ?_] at r1
   . exact r1
   . simp only [RN.cells,e3]
     rfl
 . obtain ⟨B,H,h1,h2,h3⟩:=hn.file;rw [e3] at h1
   exact ⟨B,H,h1,h2,h3⟩
 . have:=hn.ents;rw [e3] at this
   exact this
def RNewPost (a b:Nat) (w:World) (e:Ending) (w':World):Prop:=∃ rb,e=.returned (.tuple #[ptr rb,.bool true])/\RefAt6 w.heap.size w' rb (newF a b)/\Below w.heap.size w w'
theorem rnew7 (a b:Nat) (w:World) (h:1<=a/\a<=256/\b<=4096):Calls Tryz.prog 20 #[.int .i64 a,.int .i64 b] w (RNewPost a b w):=by
 have c1:=rnew_any a b w
 rw [show newOk (a:Int) (b:Int)=true by simp [newOk];omega] at c1
 have HA:Hid (∀ w1,Below w.heap.size w w1->∀ o,Below w.heap.size w ((w1.alloc o).alloc (.cells #[.slice none 0 0,.int .i64 1,.int .i64 (a:Int),.int .i64 (b:Int)] 79))/\Calls Tryz.prog 43 #[ptr (w1.alloc o).heap.size,.int .i64 2,.string ⟨#[]⟩] ((w1.alloc o).alloc (.cells #[.slice none 0 0,.int .i64 1,.int .i64 (a:Int),.int .i64 (b:Int)] 79)) fun e w2=>(∃ r,e=.returned r)/\∃ g m cap,w2.cell? ⟨(w1.alloc o).heap.size,0,none⟩=some (.slice (some ⟨g,0,none⟩) m cap)/\0 < m/\(∃ z,w2.cell? ⟨g,4,none⟩=some z)/\w2.frozen? ⟨g,4,none⟩=false/\RNewPost a b w (.returned (.tuple #[ptr (w1.alloc o).heap.size,.bool true])) (w2.setCell ⟨g,4,none⟩ (.int .i64 1))):=fun w1 hb o=>by
  have hbo:=on_trans hb (on_alloc w1 o);have hb2:=on_trans hbo (on_alloc (w1.alloc o) (.cells #[.slice none 0 0,.int .i64 1,.int .i64 (a:Int),.int .i64 (b:Int)] 79))
  refine ⟨hb2,?_⟩
  have hR:RefAt6 w.heap.size ((w1.alloc o).alloc (.cells #[.slice none 0 0,.int .i64 1,.int .i64 (a:Int),.int .i64 (b:Int)] 79)) (w1.alloc o).heap.size (newS a b):=refM_new ⟨_,.inr rfl,Blk.new (w1.alloc o) _ [_,_,_,_]⟩ hbo.size
  refine (rmake_any hR (wf_new h.2.1 h.2.2) (by omega) 2 ByteArray.empty (by decide)).mono ?_
  rintro e w2 ⟨rfl,h1,h2⟩
  refine ⟨⟨_,rfl⟩,?_⟩
  have he:makeE (newS a b) 2 ByteArray.empty=0:=by
   unfold makeE
   rw [if_neg (by decide),if_neg (by show ¬ a<=0;omega)]
  have e1:makeS (newS a b) 2 ByteArray.empty=(newS a b).add (freshN 1 2 ByteArray.empty):=by unfold makeS;rw [he];rfl
  rw [e1] at h1;obtain ⟨rv,Q,eQ,hM⟩:=h1;have hQ:=ix_map eQ;have hl:Q.length=1:=hQ
  obtain ⟨g,cap,rfl,hlo,_,hgr,hc⟩:=hM.place (k:=0) (by omega)
  obtain ⟨cs,hBk,_⟩:=rowS_blk hM.row
  obtain ⟨h3,h4⟩:=ref_par (i:=0) hM eQ (by show 0 < 1;omega) hgr hlo 1
  refine ⟨g,Q.length,cap,hM.box.cell 0 rfl,by omega,⟨_,hc 4 (by omega) _ rfl⟩,hBk.free 4,_,rfl,h3,?_⟩
  exact (h2.trans h4).below hb2 (Nat.le_refl _) hb2.size
 generalize RNewPost a b w=Post at *;clear h;go_enter Tryz.func20,Tryz.ntmps20;go_wp2_with fail;refine c1.mono ?_;rintro e w1 ⟨rfl,hb⟩;obtain ⟨_,c2⟩:=HA.out w1 hb (.cells #[.slice none 0 0,.int .i64 1,.int .i64 (a:Int),.int .i64 (b:Int)] 77);clear HA
 simp only [World.size_alloc] at c2
 go_wp2_with fail;refine c2.mono ?_;rintro e w2 ⟨⟨r,rfl⟩,g,m,cap,y0,hm,⟨z,y1⟩,y2,hfin⟩
 have hmz:(0:Int) < (m:Int):=by omega
 clear c2 c1;go_wp2
 exact hfin
end Go.Proofs.YthlaoaaafafafaaGreat
