/- Ours. -/
import Derived.Test.YthlaoaaafafafaaGreatF9
set_option maxRecDepth 100000
set_option maxHeartbeats 16000000

namespace Go.Proofs.YthlaoaaafafafaaGreat
open Go Go.RowKit Go.Maps
structure FsOk (s:SS) (U:Int->Int) (c:Nat):Prop where
 wf:Wf s c
 tree:Tree s
 agree:Agree s U
theorem FsOk.more {s:SS} {U:Int->Int} {c d:Nat} (h:FsOk s U c) (hd:c<=d):FsOk s U d:=⟨h.wf.more hd,h.tree,h.agree⟩
theorem FsOk.upd {s:SS} {U:Int->Int} {c d:Nat} (h:FsOk s U c) (x:Int) (g:Nd->Nd) (hg:∀ n,(g n).ino=n.ino/\(g n).kind=n.kind/\(g n).links=n.links/\(g n).ds=n.ds/\(g n).par=n.par) (h0:∀ n ∈ s.L,n.ino=1->(n.ino:Int)=x->1<=(g n).holds) (hw:Wf (s.upd x g) d):FsOk (s.upd x g) U d:=by
 have hG:∀ n,(updG x g n).ino=n.ino/\(updG x g n).kind=n.kind/\(updG x g n).links=n.links/\(updG x g n).ds=n.ds/\(updG x g n).par=n.par:=fun n=>by
  unfold updG
  split
  . exact hg n
  . exact ⟨rfl,rfl,rfl,rfl,rfl⟩
 refine ⟨hw,?_,fun m hm hk hl => ?_⟩
 . rw [upd_is]
   refine tree_same h.tree _ hG fun n hn e => ?_
   unfold updG
   split
   . rename_i e2;exact h0 n hn e e2
   . obtain ⟨rn,hrn,er,_,_,hh,_⟩:=h.tree.root
     rw [h.wf.one hn hrn (by omega)];exact hh
 . rw [upd_is] at hm;obtain ⟨m0,hm0,rfl⟩:=List.mem_map.1 hm;obtain ⟨e1,e2,e3,_,e5⟩:=hG m0;rw [e1,e5]
   exact h.agree m0 hm0 (by rw [<- e2];exact hk) (by rw [e1,e3] at hl;exact hl)
theorem FsOk.gc {s:SS} {U U':Int->Int} {d:Nat} (hk:Wk s) (ht:Tree s) (ha:Agree s U) (hw:Wf s.gc d) (hU:∀ m ∈ s.L,m.kind=2->(m.ino=1 ∨ 1<=m.links)->U' m.ino=U m.ino):FsOk s.gc U' d:=by
 refine ⟨hw,tree_gc (fun a ha b hb e=>hk.one ha hb e) hk.num ht,fun m hm hkk hl => ?_⟩
 have hm0:m ∈ s.L:=(List.mem_filter.1 hm).1;rw [hU m hm0 hkk hl]
 exact ha m hm0 hkk hl
theorem hold_ok {s:SS} {U:Int->Int} {c:Nat} (h:FsOk s U c) (x:Int):FsOk (moreS s x false) U (c+1):=by
 have hw:=h.wf.more1 x false
 by_cases he:moreE s x false=0
 . rw [more_upd h.wf he] at hw ⊢
   exact h.upd x _ (fun n=>⟨rfl,rfl,rfl,rfl,rfl⟩) (fun n _ _ _=>by show 1<=n.holds+1;omega) hw
 . have:moreS s x false=s:=by
    unfold moreE at he;unfold moreS
    cases hx:look s x with
    | none=>rfl
    | some y =>
     rw [hx] at he
     exact absurd (if_neg (by simp)) he
   rw [this];exact h.more (by omega)
theorem release_ok {s:SS} {U:Int->Int} {c:Nat} (h:FsOk s U c) (x:Int) (he:relE s x=0):FsOk (lessS s x false) (fogU (lessS s x false) U x) (c+1):=by
 have hne:¬ (x=1/\holdsOf s x=1):=fun h7=>by unfold relE at he;rw [if_pos h7] at he;cases he
 have hl:lessE s x false=0:=by unfold relE at he;rwa [if_neg hne] at he
 have hw:=h.wf.less1 x false;have e1:=less_gc h.wf hl
 have hlx:∃ i n,look s x=some (i,n)/\n.holds ≠ 0:=by
  unfold lessE at hl
  cases hx:look s x with
  | none=>rw [hx] at hl;cases hl
  | some y =>
   refine ⟨y.1,y.2,rfl,fun h0 => ?_⟩
   rw [hx] at hl
   simp only [show y.2.cnt false=0 from h0,if_true] at hl
   cases hl
 obtain ⟨i,nx,hx,hh⟩:=hlx
 have hG:∀ n,(updG x (fun n=>n.cntd false (n.cnt false - 1)) n).ino=n.ino/\(updG x (fun n=>n.cntd false (n.cnt false - 1)) n).kind=n.kind/\(updG x (fun n=>n.cntd false (n.cnt false - 1)) n).links=n.links/\(updG x (fun n=>n.cntd false (n.cnt false - 1)) n).ds=n.ds/\(updG x (fun n=>n.cntd false (n.cnt false - 1)) n).par=n.par:=fun n=>by
  unfold updG
  split <;> exact ⟨rfl,rfl,rfl,rfl,rfl⟩
 have hfog:∀ y:Int,y ≠ x ∨ isDir (lessS s x false) x=true->fogU (lessS s x false) U x y=U y:=fun y hy=>by
  unfold fogU
  rcases hy with hy | hy
  . split
    . rfl
    . unfold updU;rw [if_neg hy]
  . rw [hy,if_pos rfl]
 rw [e1] at hw hfog ⊢;rw [upd_is] at hw hfog ⊢
 have hk:Wk { s with L:=s.L.map (updG x fun n=>n.cntd false (n.cnt false - 1)) }:=h.wf.wk.map _ (fun n=>(hG n).1) fun n hn=>by rw [(hG n).2.2.2.1];exact h.wf.ds n hn
 have ht:Tree { s with L:=s.L.map (updG x fun n=>n.cntd false (n.cnt false - 1)) }:=by
  refine tree_same h.tree _ hG fun n hn e => ?_
  unfold updG;obtain ⟨rn,hrn,er,_,_,hrh,_⟩:=h.tree.root
  have hnr:n=rn:=h.wf.one hn hrn (by omega)
  split
  . rename_i e2
    show 1<=n.holds - 1
    have hx1:x=1:=by omega
    have:holdsOf s x=n.holds:=by
     unfold holdsOf;rw [hx]
     show nx.holds=n.holds
     rw [look_is h.wf hx hn e2]
    rw [hnr] at this ⊢
    omega
  . rw [hnr];exact hrh
 have ha:Agree { s with L:=s.L.map (updG x fun n=>n.cntd false (n.cnt false - 1)) } U:=fun m hm hkk hl=>by
  obtain ⟨m0,hm0,rfl⟩:=List.mem_map.1 hm;obtain ⟨e1,e2,e3,_,e5⟩:=hG m0;rw [e1,e5]
  exact h.agree m0 hm0 (by rw [<- e2];exact hkk) (by rw [e1,e3] at hl;exact hl)
 refine FsOk.gc hk ht ha hw fun m hm hkk hl=>hfog _ ?_
 by_cases e:(m.ino:Int)=x
 . refine .inr ?_
   -- it is still there
   have hal:1<=m.links+m.holds:=by
    rcases hl with h7 | h7
    . obtain ⟨rn,hrn,er,_,_,hrh,_⟩:=ht.root
      rw [hk.one hm hrn (by omega)];omega
    . omega
   have hmg:m ∈ (SS.gc { s with L:=s.L.map (updG x fun n=>n.cntd false (n.cnt false - 1)) }).L:=List.mem_filter.2 ⟨hm,by simp only [Nd.dead,Bool.not_eq_true',beq_eq_false_iff_ne,ne_eq];omega⟩
   obtain ⟨j,hj⟩:=look_of hw hmg;rw [e] at hj;unfold isDir;rw [hj]
   show (m.kind == 2)=true
   rw [hkk];rfl
 . exact .inl e
theorem write_ok {s:SS} {U:Int->Int} {c:Nat} (h:FsOk s U c) (x off:Int) (D:List UInt8):FsOk (writeS s x off D) U (c+1):=by
 have hw:=h.wf.write1 x off D;unfold writeS at hw ⊢
 cases hx:look s x with
 | none=>exact h.more (by omega)
 | some y =>
  obtain ⟨i,n⟩:=y;rw [hx] at hw
  by_cases hk:n.kind=1
  . simp only [if_pos hk] at hw ⊢
    rw [<- upd_some (g:=fun m=>m.withF (n.f.wrote off D s.bl)) h.wf hx] at hw ⊢
    exact h.upd x _ (fun n=>⟨rfl,rfl,rfl,rfl,rfl⟩) (fun m hm e1 e2=>by
     have:=look_is h.wf hx hm e2;obtain ⟨rn,hrn,er,ek,_⟩:=h.tree.root;rw [this] at e1
     have:n=rn:=h.wf.one (look_mem hx).1 hrn (by omega)
     rw [this] at hk;omega) hw
  . simp only [if_neg hk];exact h.more (by omega)
theorem trunc_ok {s:SS} {U:Int->Int} {c:Nat} (h:FsOk s U c) (x m:Int):FsOk (truncS s x m) U (c+1):=by
 have hw:=h.wf.trunc1 x m;unfold truncS at hw ⊢
 cases hx:look s x with
 | none=>exact h.more (by omega)
 | some y =>
  obtain ⟨i,n⟩:=y;rw [hx] at hw
  by_cases hk:n.kind=1
  . simp only [if_pos hk] at hw ⊢
    rw [<- upd_some (g:=fun q=>q.withF (n.f.cut m)) h.wf hx] at hw ⊢
    exact h.upd x _ (fun n=>⟨rfl,rfl,rfl,rfl,rfl⟩) (fun q hm e1 e2=>by
     have:=look_is h.wf hx hm e2;obtain ⟨rn,hrn,er,ek,_⟩:=h.tree.root;rw [this] at e1
     have:n=rn:=h.wf.one (look_mem hx).1 hrn (by omega)
     rw [this] at hk;omega) hw
  . simp only [if_neg hk];exact h.more (by omega)
def mapS (s:SS) (g:Nd->Nd):SS:={ s with L:=s.L.map g }
theorem mapS_mapS (s:SS) (f g:Nd->Nd):mapS (mapS s f) g=mapS s fun n=>g (f n):=by
 unfold mapS
 simp only [List.map_map]
 rfl
theorem mapS_congr {s:SS} {f g:Nd->Nd} (h:∀ n ∈ s.L,f n=g n):mapS s f=mapS s g:=by
 unfold mapS;rw [List.map_congr_left h]
theorem same_gc {s:SS} {f g:Nd->Nd} (h:∀ n ∈ s.L,bareN (f n)=bareN (g n)):SameB (mapS s f).gc (mapS s g).gc:=by
 refine ⟨rfl,rfl,rfl,?_⟩
 show ((s.L.map f).filter fun n => !n.dead).map bareN=((s.L.map g).filter fun n => !n.dead).map bareN
 have key:∀ L:List Nd,(∀ n ∈ L,bareN (f n)=bareN (g n))->((L.map f).filter fun n => !n.dead).map bareN=((L.map g).filter fun n => !n.dead).map bareN:=fun L=>by
  induction L with
  | nil=>intro _;rfl
  | cons a r ih =>
   intro h
   have h1:=h a List.mem_cons_self
   have h2:=ih fun n hn=>h n (List.mem_cons_of_mem _ hn)
   have hd:(f a).dead=(g a).dead:=by
    have e1:(bareN (f a)).dead=(f a).dead:=rfl;have e2:(bareN (g a)).dead=(g a).dead:=rfl;rw [<- e1,h1,e2]
   simp only [List.map_cons,List.filter_cons,hd]
   split
   . simp only [List.map_cons,h1,h2]
   . exact h2
 exact key s.L h
theorem linkE_ok {s:SS} {d:Int} {nm:ByteArray} {k:Int} (h:linkE s d nm k=0):placeE s d nm=0/\statE s k=0/\kindOf s k ≠ 2/\has nm (entsOf s d)=false/\¬ 32<=linksOf s k/\¬ 64<=(entsOf s d).length:=by
 unfold linkE at h
 by_cases h1:placeE s d nm=0
 . rw [if_neg (by simpa using h1)] at h
   by_cases h2:statE s k=0
   . rw [if_neg (by simpa using h2)] at h
     by_cases h3:kindOf s k=2
     . rw [if_pos h3] at h;cases h
     . rw [if_neg h3] at h
       cases h4:has nm (entsOf s d) with
       | true=>rw [h4,if_pos rfl] at h;cases h
       | false =>
        rw [h4,if_neg (by simp)] at h
        by_cases h5:32<=linksOf s k
        . rw [if_pos h5] at h;cases h
        . rw [if_neg h5] at h
          by_cases h6:64<=(entsOf s d).length
          . rw [if_pos h6] at h;cases h
          . exact ⟨h1,h2,h3,rfl,h5,h6⟩
   . rw [if_pos h2] at h;cases h
 . rw [if_pos h1] at h;exact absurd h h1
theorem link_ok {s:SS} {U:Int->Int} {c:Nat} (h:FsOk s U c) {d:Int} {nm:ByteArray} {k:Int} (he:linkE s d nm k=0):FsOk (linkP s d nm k) U (c+2):=by
 obtain ⟨h1,h2,h3,h4,h5,h6⟩:=linkE_ok he;obtain ⟨hd0,hname⟩:=placeE_ok h1;obtain ⟨i,dn,hx,hdk,hgo⟩:=dirE_ok hd0;obtain ⟨hdm,hdi⟩:=look_mem hx;obtain ⟨j,kn,hy⟩:=stat_ok h2;obtain ⟨hkm,hki⟩:=look_mem hy;have eds:entsOf s d=dn.ds:=ents_look hx;rw [eds] at h4 h6
 have hkk:kn.kind ≠ 2:=by unfold kindOf at h3;rw [hy] at h3;exact h3
 have hlk:kn.links < 32:=by unfold linksOf at h5;rw [hy] at h5;simpa using h5
 have hk1:=(h.wf.num kn hkm).1
 have hf2:Wf (addEnt s d nm k) (c+1):=h.wf.ents d _ fun i2 n2 h7=>addS_len (h.wf.ds _ (look_mem h7).1)
 have hf3:Wf (linkP s d nm k) (c+2):=hf2.more1 _ _
 have hl2:=look_upd (x:=d) (g:=fun n=>n.withD (addS nm k n.ds)) h.wf (fun _=>rfl) hy
 have em:moreE (addEnt s d nm k) k true=0:=more_ok hl2 (by split <;> exact hlk)
 have eP:linkP s d nm k=mapS s (linkG dn.ino kn.ino nm):=by
  unfold linkP;rw [more_upd hf2 em];unfold addEnt;rw [upd_is,upd_is]
  show mapS (mapS s (updG d fun n=>n.withD (addS nm k n.ds))) (updG k fun n=>n.cntd true (n.cnt true+1))=_
  rw [mapS_mapS]
  refine mapS_congr fun n hn => ?_
  rw [<- hdi,<- hki,updG_ds dn.ino (addS nm kn.ino),updG_more];unfold linkG
  by_cases e:n.ino=kn.ino
  . have:n=kn:=h.wf.one hn hkm e
    have hnk:n.kind ≠ 2:=by rw [this];exact hkk
    simp [hnk]
  . simp [e]
 have hadd:addE nm kn.ino dn.ds=0:=by
  unfold addE
  rw [hname,if_neg (by simp),if_neg (by omega),h4,if_neg (by simp),if_neg h6]
 rw [eP] at hf3 ⊢
 refine ⟨hf3,tree_link h.wf h.tree hdm hkm hdk (by omega) hadd (fun h7=>absurd h7 hkk) (.inl rfl),fun m hm hk2 hl => ?_⟩
 obtain ⟨m0,hm0,rfl⟩:=List.mem_map.1 hm;have hk0:m0.kind=2:=hk2
 have hne:m0.ino ≠ kn.ino:=fun e=>hkk (by rw [<- h.wf.one hm0 hkm e];exact hk0)
 have e1:(linkG dn.ino kn.ino nm m0).par=m0.par:=if_neg fun h7=>hne h7.1
 have e2:(linkG dn.ino kn.ino nm m0).links=m0.links:=if_neg hne;rw [e1];rw [e2] at hl
 exact h.agree m0 hm0 hk0 hl
def dropF (s:SS) (d:Int) (nm:ByteArray):SS:=(mapS s (unlinkG d.toNat (find nm (entsOf s d)).toNat nm)).gc
def renF (s:SS) (d1:Int) (n1:ByteArray) (d2:Int) (n2:ByteArray):SS :=
 if has n2 (entsOf s d2)=true then (mapS (mapS (mapS s (unlinkG d1.toNat (find n1 (entsOf s d1)).toNat n1)) (unlinkG d2.toNat (find n2 (entsOf s d2)).toNat n2)) (linkG d2.toNat (find n1 (entsOf s d1)).toNat n2)).gc
 else (mapS (mapS s (unlinkG d1.toNat (find n1 (entsOf s d1)).toNat n1)) (linkG d2.toNat (find n1 (entsOf s d1)).toNat n2)).gc
theorem drop_ok {s:SS} {U:Int->Int} {c:Nat} (h:FsOk s U c) {d:Int} {nm:ByteArray} (hh:has nm (entsOf s d)=true) (he:entsOf s (find nm (entsOf s d))=[]) :
 SameB (dropP s d nm (find nm (entsOf s d))) (dropF s d nm)/\FsOk (dropF s d nm) (fogU (dropP s d nm (find nm (entsOf s d))) U (find nm (entsOf s d))) (c+2):=by
 obtain ⟨i,dn,j,kn,hx,eds,hy,hfd,hent⟩:=entry_node h.wf h.tree hh;obtain ⟨hdm,hdi⟩:=look_mem hx
 have eF:dropF s d nm=(mapS s (unlinkG dn.ino kn.ino nm)).gc:=by
  unfold dropF;rw [hfd,<- hdi]
  simp only [Int.toNat_natCast]
 rw [eF];obtain ⟨hkm,_⟩:=look_mem hy;rw [hfd] at hy he ⊢;rw [<- eds] at hh hfd
 have hke:kn.ds=[]:=by rw [<- he];exact (ents_look hy).symm
 have hlk:1<=kn.links:=h.tree.entry hdm hent hkm rfl
 have hf2:Wf (remEnt s d nm) (c+1):=h.wf.ents d _ fun i2 n2 h7=>remS_len (h.wf.ds _ (look_mem h7).1)
 have hf3:Wf (dropP s d nm kn.ino) (c+2):=hf2.less1 _ _
 have hl2:=look_upd (x:=d) (g:=fun n=>n.withD (remS nm n.ds)) h.wf (fun _=>rfl) hy
 have el:lessE (remEnt s d nm) kn.ino true=0:=by
  unfold lessE remEnt;rw [hl2]
  show (if Nd.cnt _ true=0 then _ else _)=_
  rw [if_neg]
  split <;> (show ¬ kn.links=0;omega)
 have eP:dropP s d nm kn.ino=(mapS s fun n=>updG kn.ino (fun n=>n.cntd true (n.cnt true - 1)) (updG d (fun n=>n.withD (remS nm n.ds)) n)).gc:=by
  unfold dropP;rw [less_gc hf2 el];unfold remEnt;rw [upd_is,upd_is]
  show (mapS (mapS s _) _).gc=_
  rw [mapS_mapS]
 have hsame:SameB (dropP s d nm kn.ino) (mapS s (unlinkG dn.ino kn.ino nm)).gc:=by
  rw [eP]
  refine same_gc fun n _ => ?_
  rw [<- hdi,updG_ds dn.ino (remS nm),updG_less]
  simp [bareN,unlinkG]
 have hk:Wk (mapS s (unlinkG dn.ino kn.ino nm)):=h.wf.wk.map _ (fun _=>rfl) fun n hn=>by
  show (if _ then _ else _:List IEnt).length<=64
  split
  . exact remS_len (h.wf.ds n hn)
  . exact h.wf.ds n hn
 have ht:Tree (mapS s (unlinkG dn.ino kn.ino nm)):=tree_unlink h.wf h.tree hdm hkm hh hfd (.inl ⟨rfl,hke⟩)
 have hno:∀ m0 ∈ s.L,m0.kind=2->((unlinkG dn.ino kn.ino nm m0).ino=1 ∨ 1<=(unlinkG dn.ino kn.ino nm m0).links)->m0.ino ≠ kn.ino/\(m0.ino=1 ∨ 1<=m0.links)/\(unlinkG dn.ino kn.ino nm m0).par=m0.par:=fun m0 hm0 hk0 hl=>by
  have hne:m0.ino ≠ kn.ino:=fun e=>by
   have e2:m0=kn:=h.wf.one hm0 hkm e;have e3:(unlinkG dn.ino kn.ino nm m0).links=m0.links - 1:=if_pos e;have h1:=h.tree.one m0 hm0 hk0;rw [e3] at hl
   rcases hl with h7 | h7
   . have h8:m0.ino=1:=h7;obtain ⟨rn,hrn,er,_,e0,_⟩:=h.tree.root
     have:m0=rn:=h.wf.one hm0 hrn (by omega)
     rw [e2] at this;rw [this] at hlk
     omega
   . omega
  have e3:(unlinkG dn.ino kn.ino nm m0).links=m0.links:=if_neg hne;rw [e3] at hl
  exact ⟨hne,hl,if_neg hne⟩
 refine ⟨hsame,FsOk.gc (U:=U) hk ht (fun m hm hkk hl => ?_) (hf3.bare hsame) fun m hm hkk hl => ?_⟩
 . obtain ⟨m0,hm0,rfl⟩:=List.mem_map.1 hm;obtain ⟨_,h2,h3⟩:=hno m0 hm0 hkk hl;rw [h3]
   exact h.agree m0 hm0 hkk h2
 . obtain ⟨m0,hm0,rfl⟩:=List.mem_map.1 hm;obtain ⟨h1,_,_⟩:=hno m0 hm0 hkk hl
   show fogU _ U _ m0.ino=_
   unfold fogU
   split
   . rfl
   . unfold updU
     rw [if_neg (by omega)]
     rfl
theorem rem_split {S:List IEnt} {nm:ByteArray} (hs:Sorted S) (h:has nm S=true):∃ A x C,S=A ++ x :: C/\remS nm S=A ++ C/\x.1=nm/\x.2=find nm S/\A.length=under nm S:=by
 obtain ⟨hlt,h1,h2⟩:=has_place hs h
 refine ⟨S.take (under nm S),S[under nm S],S.drop (under nm S+1),?_,?_,h1,h2.symm,?_⟩
 . rw [<- List.drop_eq_getElem_cons hlt,List.take_append_drop]
 . unfold remS;rw [h,if_pos rfl]
 . rw [List.length_take];omega
theorem has_rem_ne {S:List IEnt} {n1 n2:ByteArray} (hs:Sorted S) (h:has n1 S=true) (hne:n1 ≠ n2):has n2 (remS n1 S)=has n2 S/\find n2 (remS n1 S)=find n2 S:=by
 obtain ⟨A,x,C,e1,e2,e3,_⟩:=rem_split hs h
 have hx:same n2 x=false:=by
  cases hb:same n2 x with
  | false=>rfl
  | true=>exact absurd (e3.symm.trans (same_iff.1 hb)) hne
 rw [e2]
 constructor
 . conv=>rhs;rw [e1]
   unfold has
   simp [hx]
 . conv=>rhs;rw [e1]
   unfold find;rw [List.find?_append,List.find?_append,List.find?_cons,hx]
theorem has_rem {S:List IEnt} {nm:ByteArray} (hs:Sorted S) (h:has nm S=true):has nm (remS nm S)=false:=by
 obtain ⟨A,x,C,e1,e2,e3,_⟩:=rem_split hs h;rw [e2]
 cases hb:has nm (A ++ C) with
 | false=>rfl
 | true =>
  exfalso
  unfold has at hb;obtain ⟨y,hy,h2⟩:=List.any_eq_true.1 hb;have h3:=same_iff.1 h2;rw [e1] at hs;obtain ⟨_,h4,h5⟩:=List.pairwise_append.1 hs
  rcases List.mem_append.1 hy with h6 | h6
  . have:=h5 y h6 x List.mem_cons_self;rw [h3,e3,lt_irrefl] at this;cases this
  . have:=(List.pairwise_cons.1 h4).1 y h6;rw [h3,e3,lt_irrefl] at this;cases this
theorem rem_short {S:List IEnt} {nm:ByteArray} (hs:Sorted S) (h:has nm S=true):(remS nm S).length+1=S.length:=by
 obtain ⟨A,x,C,e1,e2,_⟩:=rem_split hs h;rw [e2]
 conv=>rhs;rw [e1]
 simp only [List.length_append,List.length_cons]
 omega
theorem set_is {S:List IEnt} {nm:ByteArray} {k:Int} (hs:Sorted S) (h:has nm S=true) (hk:1<=k) (ha:addE nm k (remS nm S)=0):setD nm k S=addS nm k (remS nm S):=by
 obtain ⟨A,x,C,e1,e2,e3,_,e5⟩:=rem_split hs h
 have hu:under nm (A ++ C)=A.length:=by
  have h1:under nm S=under nm (A ++ C):=by
   conv=>lhs;rw [e1]
   unfold under;rw [List.countP_append,List.countP_append,List.countP_cons,e3,lt_irrefl]
   simp
  omega
 unfold setD addS
 have hse:setE nm k S=0:=by unfold setE;rw [if_neg (by omega),h,if_pos rfl]
 rw [if_pos hse,if_pos ha,e2,hu,List.take_left,List.drop_left,<- e5]
 conv=>lhs;rw [e1]
 rw [List.set_append_right _ _ (Nat.le_refl _),Nat.sub_self]
 rfl
theorem renE_ok {s:SS} {d1:Int} {n1:ByteArray} {d2:Int} {n2:ByteArray} (h:renDo s d1 n1 d2 n2=true):dirE s d1=0/\dirE s d2=0/\nameE n2=0/\has n1 (entsOf s d1)=true/\find n2 (entsOf s d2) ≠ find n1 (entsOf s d1)/\withinB s (find n1 (entsOf s d1)) d2=false ∧
 (find n2 (entsOf s d2) ≠ 0->unlikeE s (find n1 (entsOf s d1)) (find n2 (entsOf s d2))=0)/\(find n2 (entsOf s d2)=0->d1=d2 ∨ (entsOf s d2).length < 64):=by
 obtain ⟨h,hne⟩:=of_decide_eq_true h;unfold renE at h
 by_cases h1:dirE s d1=0
 . rw [if_neg (by simpa using h1)] at h
   by_cases h2:dirE s d2=0
   . rw [if_neg (by simpa using h2)] at h
     by_cases h3:nmE n1 n2=0
     . rw [if_neg (by simpa using h3)] at h
       cases h4:has n1 (entsOf s d1) with
       | false=>rw [h4,if_pos rfl] at h;cases h
       | true =>
        rw [h4,if_neg (by simp),if_neg hne] at h
        have hn2:nameE n2=0:=by
         unfold nmE at h3
         split at h3
         . exact h3
         . rename_i h7;exact absurd h3 h7
        unfold hindE at h
        cases h5:withinB s (find n1 (entsOf s d1)) d2 with
        | true=>rw [h5,if_pos rfl] at h;cases h
        | false =>
         rw [h5,if_neg (by simp)] at h
         refine ⟨h1,h2,hn2,rfl,hne,rfl,fun h6 => ?_,fun h6 => ?_⟩
         . rwa [if_pos h6] at h
         . rw [if_neg (by simpa using h6)] at h
           by_cases h7:d1 ≠ d2/\64<=(entsOf s d2).length
           . rw [if_pos h7] at h;cases h
           . by_cases h8:d1=d2
             . exact .inl h8
             . exact .inr (by have:¬ 64<=(entsOf s d2).length:=fun h9=>h7 ⟨h8,h9⟩;omega)
     . rw [if_pos h3] at h;exact absurd h h3
   . rw [if_pos h2] at h;omega
 . rw [if_pos h1] at h;omega
theorem unlike_empty {s:SS} {c:Nat} (_hf:Wf s c) (ht:Tree s) {k was:Int} (h:unlikeE s k was=0):entsOf s was=[]:=by
 cases hx:look s was with
 | none=>unfold entsOf;rw [hx]
 | some y =>
  obtain ⟨i,wn⟩:=y;have e:=ents_look hx;rw [e]
  by_cases hk:wn.kind=2
  . have hd:isDir s was=true:=by unfold isDir;rw [hx];show (wn.kind == 2)=true;rw [hk];rfl
    unfold unlikeE at h;rw [hd] at h
    by_cases h1:isDir s k=true
    . rw [if_pos h1,if_pos rfl] at h
      by_cases h2:0 < (entsOf s was).length
      . rw [if_pos h2] at h;cases h
      . rw [e] at h2;exact List.eq_nil_of_length_eq_zero (by omega)
    . rw [if_neg h1,if_pos rfl] at h;cases h
  . by_cases h1:wn.ds=[]
    . exact h1
    . exact absurd (ht.dirs wn (look_mem hx).1 h1).1 hk
section
variable {s : SS} {c:Nat} {dn en kn wn:Nd} {n1 n2:ByteArray}
theorem ren_first (ht:Tree s) (hdm:dn ∈ s.L) (hem:en ∈ s.L) (hf:Wf s c) (hh:has n1 dn.ds=true) (hne:en.ino=dn.ino->n1 ≠ n2) (k:Nat) :
 has n2 (unlinkG dn.ino k n1 en).ds=has n2 en.ds/\find n2 (unlinkG dn.ino k n1 en).ds=find n2 en.ds/\Sorted (unlinkG dn.ino k n1 en).ds/\(unlinkG dn.ino k n1 en).ds.length<=en.ds.length/\(dn.ino=en.ino->(unlinkG dn.ino k n1 en).ds.length+1=en.ds.length):=by
 have hs:=ht.sorted en hem
 by_cases e:en.ino=dn.ino
 . have e2:en=dn:=hf.one hem hdm e;have e3:(unlinkG dn.ino k n1 en).ds=remS n1 en.ds:=if_pos e;rw [<- e2] at hh;have h1:=has_rem_ne hs hh (hne e);have h2:=rem_short hs hh;rw [e3]
   exact ⟨h1.1,h1.2,sorted_rem (ht.rel hf hem),by omega,fun _=>h2⟩
 . have e3:(unlinkG dn.ino k n1 en).ds=en.ds:=if_neg e;rw [e3]
   exact ⟨rfl,rfl,hs,Nat.le_refl _,fun h=>absurd h.symm e⟩
theorem unlink_wk {d k:Nat} {nm:ByteArray} (hk:Wk s):Wk (mapS s (unlinkG d k nm)):=hk.map _ (fun _=>rfl) fun n hn=>by
 show (if _ then _ else _:List IEnt).length<=64
 split
 . exact remS_len (hk.ds n hn)
 . exact hk.ds n hn
theorem link_wk {d k:Nat} {nm:ByteArray} (hk:Wk s):Wk (mapS s (linkG d k nm)):=hk.map _ (fun _=>rfl) fun n hn=>by
 show (if _ then _ else _:List IEnt).length<=64
 split
 . exact addS_len (hk.ds n hn)
 . exact hk.ds n hn
theorem ren_link {X:Int} (hk:Wk s) (ht:TreeX s X) (hem:en ∈ s.L) (hkm:kn ∈ s.L) (hX:X=kn.ino) (hek:en.kind=2) (hgo:en.ino=1 ∨ 1<=en.links) (hnm:nameE n2=0) (h2:has n2 en.ds=false) (hl:en.ds.length < 64) (hdir:kn.kind=2->kn.links=0/\kn.ino ≠ 1/\¬ Up s.L en.ino kn.ino):Wk (mapS s (linkG en.ino kn.ino n2))/\Tree (mapS s (linkG en.ino kn.ino n2))/\addE n2 kn.ino en.ds=0:=by
 have hadd:addE n2 kn.ino en.ds=0:=by
  have:=hk.num kn hkm;unfold addE
  rw [hnm,if_neg (by simp),if_neg (by omega),h2,if_neg (by simp),if_neg (by omega)]
 exact ⟨link_wk hk,tree_linkK hk ht hem hkm hek hgo hadd hdir (.inr hX),hadd⟩
theorem ren_facts (hf:Wf s c) (ht:Tree s) (hdm:dn ∈ s.L) (hem:en ∈ s.L) (hkm:kn ∈ s.L) (hh:has n1 dn.ds=true) (hfd:find n1 dn.ds=(kn.ino:Int)) (hek:en.kind=2) (hup:kn.kind=2->¬ Up s.L en.ino kn.ino) :
 1<=kn.links/\en.ino ≠ kn.ino/\kn.ino ≠ 1/\Wk (mapS s (unlinkG dn.ino kn.ino n1))/\TreeX (mapS s (unlinkG dn.ino kn.ino n1)) kn.ino/\(∀ x a,Up (mapS s (unlinkG dn.ino kn.ino n1)).L x a->Up s.L x a):=by
 have hent:=find_mem (ht.sorted dn hdm) hh;rw [hfd] at hent;have hlk:1<=kn.links:=ht.entry hdm hent hkm rfl
 refine ⟨hlk,fun e => ?_,fun e => ?_,unlink_wk hf.wk,tree_unlinkK hf.wk ht hdm hkm hh hfd (.inr ⟨rfl,rfl⟩),fun x a hu => ?_⟩
 . have e2:en=kn:=hf.one hem hkm e;rw [e2] at hek
   exact hup hek (by rw [e];exact Up.refl _ _)
 . obtain ⟨rn,hrn,er,_,e0,_⟩:=ht.root
   have:kn=rn:=hf.one hkm hrn (by omega)
   rw [this] at hlk;omega
 . exact Up.mono (fun x p h7=>up1_unlinkK hf.wk ht hkm hlk h7) hu
theorem ren_none (hf:Wf s c) (ht:Tree s) (hdm:dn ∈ s.L) (hem:en ∈ s.L) (hkm:kn ∈ s.L) (hh:has n1 dn.ds=true) (hfd:find n1 dn.ds=(kn.ino:Int)) (hek:en.kind=2) (hgo:en.ino=1 ∨ 1<=en.links) (hnm:nameE n2=0) (hup:kn.kind=2->¬ Up s.L en.ino kn.ino)
 (h2:has n2 en.ds=false) (hroom:dn.ino=en.ino ∨ en.ds.length < 64):Wk (mapS (mapS s (unlinkG dn.ino kn.ino n1)) (linkG en.ino kn.ino n2))/\Tree (mapS (mapS s (unlinkG dn.ino kn.ino n1)) (linkG en.ino kn.ino n2)):=by
 obtain ⟨hlk,hne,hk1,hk,ht1,hU⟩:=ren_facts hf ht hdm hem hkm hh hfd hek hup
 have hn:en.ino=dn.ino->n1 ≠ n2:=fun e e2=>by
  rw [<- e2,hf.one hem hdm e,hh] at h2;cases h2
 obtain ⟨f1,_,_,f4,f5⟩:=ren_first ht hdm hem hf hh hn kn.ino;have e1:(unlinkG dn.ino kn.ino n1 en).links=en.links:=if_neg hne;have e2:(unlinkG dn.ino kn.ino n1 kn).links=kn.links - 1:=if_pos rfl;have h64:=hf.ds en hem
 have hsmall:(unlinkG dn.ino kn.ino n1 en).ds.length < 64:=by
  rcases hroom with h7 | h7
  . have:=f5 h7;omega
  . omega
 have:=ren_link (en:=unlinkG dn.ino kn.ino n1 en) (kn:=unlinkG dn.ino kn.ino n1 kn) (n2:=n2) hk ht1 (List.mem_map_of_mem hem) (List.mem_map_of_mem hkm) rfl hek (by rw [e1];exact hgo) hnm (by rw [f1];exact h2) hsmall fun h7=>⟨by
  have:=ht.one kn hkm h7
  omega,hk1,fun hu=>hup h7 (hU _ _ hu)⟩
 exact ⟨this.1,this.2.1⟩
theorem ren_over (hf:Wf s c) (ht:Tree s) (hdm:dn ∈ s.L) (hem:en ∈ s.L) (hkm:kn ∈ s.L) (hh:has n1 dn.ds=true) (hfd:find n1 dn.ds=(kn.ino:Int)) (hek:en.kind=2) (hgo:en.ino=1 ∨ 1<=en.links) (hnm:nameE n2=0) (hup:kn.kind=2->¬ Up s.L en.ino kn.ino)
 (h2:has n2 en.ds=true) (hwm:wn ∈ s.L) (hfw:find n2 en.ds=(wn.ino:Int)) (hkw:wn.ino ≠ kn.ino) (hwe:wn.ds=[]):Wk (mapS (mapS (mapS s (unlinkG dn.ino kn.ino n1)) (unlinkG en.ino wn.ino n2)) (linkG en.ino kn.ino n2))/\Tree (mapS (mapS (mapS s (unlinkG dn.ino kn.ino n1)) (unlinkG en.ino wn.ino n2)) (linkG en.ino kn.ino n2)) ∧
 setD n2 kn.ino (unlinkG dn.ino kn.ino n1 en).ds=addS n2 kn.ino (remS n2 (unlinkG dn.ino kn.ino n1 en).ds):=by
 obtain ⟨hlk,hne,hk1,hk,ht1,hU⟩:=ren_facts hf ht hdm hem hkm hh hfd hek hup
 have hn:en.ino=dn.ino->n1 ≠ n2:=fun e e2=>by
  rw [<- e2,hf.one hem hdm e,hfd] at hfw;omega
 obtain ⟨f1,f2,f3,f4,f5⟩:=ren_first ht hdm hem hf hh hn kn.ino
 have hew:en.ino ≠ wn.ino:=fun e=>by
  rw [hf.one hem hwm e,hwe] at h2;cases h2
 have hem1:unlinkG dn.ino kn.ino n1 en ∈ (mapS s (unlinkG dn.ino kn.ino n1)).L:=List.mem_map_of_mem hem;have hkm1:unlinkG dn.ino kn.ino n1 kn ∈ (mapS s (unlinkG dn.ino kn.ino n1)).L:=List.mem_map_of_mem hkm;have hwm1:unlinkG dn.ino kn.ino n1 wn ∈ (mapS s (unlinkG dn.ino kn.ino n1)).L:=List.mem_map_of_mem hwm
 have hwe1:(unlinkG dn.ino kn.ino n1 wn).ds=[]:=by
  show (if _ then _ else _:List IEnt)=[]
  rw [hwe]
  split <;> rfl
 have ht2:=tree_unlinkK (dn:=unlinkG dn.ino kn.ino n1 en) (kn:=unlinkG dn.ino kn.ino n1 wn) (nm:=n2) (X':=kn.ino) hk ht1 hem1 hwm1 (by rw [f1];exact h2) (by rw [f2];exact hfw) (.inl ⟨rfl,hwe1⟩)
 have hlw:1<=(unlinkG dn.ino kn.ino n1 wn).links:=by
  have hent:=find_mem (ht.sorted en hem) h2;rw [hfw] at hent;have h7:(unlinkG dn.ino kn.ino n1 wn).links=wn.links:=if_neg hkw;rw [h7]
  exact ht.entry hem hent hwm rfl
 have e1:(unlinkG en.ino wn.ino n2 (unlinkG dn.ino kn.ino n1 en)).links=en.links:=(if_neg hew).trans (if_neg hne)
 have e2:(unlinkG en.ino wn.ino n2 (unlinkG dn.ino kn.ino n1 kn)).links=kn.links - 1:=(if_neg fun h=>hkw h.symm).trans (if_pos rfl)
 have e3:(unlinkG en.ino wn.ino n2 (unlinkG dn.ino kn.ino n1 en)).ds=remS n2 (unlinkG dn.ino kn.ino n1 en).ds:=if_pos rfl;have h64:=hf.ds en hem;have hs:=rem_short f3 (f1.trans h2)
 have:=ren_link (en:=unlinkG en.ino wn.ino n2 (unlinkG dn.ino kn.ino n1 en)) (kn:=unlinkG en.ino wn.ino n2 (unlinkG dn.ino kn.ino n1 kn)) (n2:=n2) (s:=mapS (mapS s (unlinkG dn.ino kn.ino n1)) (unlinkG en.ino wn.ino n2)) (unlink_wk hk) ht2 (List.mem_map_of_mem hem1) (List.mem_map_of_mem hkm1) rfl hek (by rw [e1];exact hgo) hnm (by rw [e3];exact has_rem f3 (f1.trans h2)) (by rw [e3];omega) fun h7=>⟨by
  have:=ht.one kn hkm h7
  omega,hk1,fun hu=>hup h7 (hU _ _ (Up.mono (fun x p h8=>up1_unlinkK (dn:=unlinkG dn.ino kn.ino n1 en) (kn:=unlinkG dn.ino kn.ino n1 wn) (nm:=n2) hk ht1 hwm1 hlw h8) hu))⟩
 refine ⟨this.1,this.2.1,set_is f3 (f1.trans h2) (by have:=(hf.num kn hkm).1;omega) ?_⟩
 have h9:=this.2.2;rw [e3] at h9
 exact h9
end
theorem isDir_mem {s:SS} {c:Nat} (hf:Wf s c) {n:Nd} (hn:n ∈ s.L):isDir s n.ino=(n.kind == 2):=by
 obtain ⟨i,hi⟩:=look_of hf hn;unfold isDir;rw [hi]
theorem gc_mem {s:SS} {n:Nd} (hn:n ∈ s.L) (h:1<=n.links+n.holds):n ∈ s.gc.L:=List.mem_filter.2 ⟨hn,by simp only [Nd.dead,Bool.not_eq_true',beq_eq_false_iff_ne,ne_eq];omega⟩
theorem isDir_gc {s P:SS} {c:Nat} (hf:Wf P c) (hs:SameB P s.gc) {n:Nd} (hn:n ∈ s.L) (h:1<=n.links+n.holds):isDir P n.ino=(n.kind == 2):=by
 obtain ⟨m,hm,e1,e2,_⟩:=hs.mem (gc_mem hn h);rw [<- e1,isDir_mem hf hm,e2]
theorem renU_other {s':SS} {U:Int->Int} {d2 k was y:Int} {there:Bool} (hy:y ≠ k) (hw:there=true->y ≠ was):renU s' U d2 k was there y=U y:=by
 have hfog:(if there=true then fogU s' U was else U) y=U y:=by
  cases there with
  | false=>rfl
  | true =>
   show fogU s' U was y=U y
   unfold fogU
   split
   . rfl
   . unfold updU;rw [if_neg (hw rfl)]
 unfold renU
 split
 . show updU _ _ _ y=_
   unfold updU;rw [if_neg hy]
   exact hfog
 . exact hfog
theorem rename_none {s:SS} {U:Int->Int} {c:Nat} (h:FsOk s U c) {d1 d2:Int} {n1 n2:ByteArray} (hdo:renDo s d1 n1 d2 n2=true) (hth:has n2 (entsOf s d2)=false) :
 SameB (renP s d1 n1 d2 n2 (find n1 (entsOf s d1)) (find n2 (entsOf s d2)) false) (renF s d1 n1 d2 n2)/\FsOk (renF s d1 n1 d2 n2) (renU (renP s d1 n1 d2 n2 (find n1 (entsOf s d1)) (find n2 (entsOf s d2)) false) U d2 (find n1 (entsOf s d1)) (find n2 (entsOf s d2)) false) (c+3):=by
 obtain ⟨h1,h2,hnm,hh,hne,hwi,hun,hroom⟩:=renE_ok hdo;obtain ⟨i,dn,j,kn,hx,eds,hy,hfd,hent⟩:=entry_node h.wf h.tree hh;obtain ⟨i2,en,hz,hek,hgo⟩:=dirE_ok h2;obtain ⟨hdm,hdi⟩:=look_mem hx;obtain ⟨hkm,_⟩:=look_mem hy;obtain ⟨hem,hei⟩:=look_mem hz;have ees:entsOf s d2=en.ds:=ents_look hz
 have eF:renF s d1 n1 d2 n2=(mapS (mapS s (unlinkG dn.ino kn.ino n1)) (linkG en.ino kn.ino n2)).gc:=by
  unfold renF
  rw [if_neg (by rw [hth];simp),hfd,<- hdi,<- hei]
  simp only [Int.toNat_natCast]
 rw [eF];rw [hfd] at hwi hy hne ⊢;rw [<- eds] at hh hfd;rw [ees] at hth hroom
 have hup:kn.kind=2->¬ Up s.L en.ino kn.ino:=fun hk hu=>by
  have:=(within_iff h.tree h.wf hem kn.ino).2 ⟨by rw [isDir_mem h.wf hkm,hk];rfl,by rw [Int.toNat_natCast];exact hu⟩
  rw [hei,hwi] at this;cases this
 have hf0:find n2 (entsOf s d2)=0:=by
  rw [ees]
  exact ((h.tree.rel h.wf hem).found n2).2.2 hth
 have hroom':dn.ino=en.ino ∨ en.ds.length < 64:=by
  rw [ees] at hf0
  rcases hroom hf0 with h7 | h7
  . exact .inl (by omega)
  . exact .inr h7
 obtain ⟨hlk,hek',hk1,_⟩:=ren_facts h.wf h.tree hdm hem hkm hh hfd hek hup
 obtain ⟨hwk,ht⟩:=ren_none h.wf h.tree hdm hem hkm hh hfd hek (by omega) hnm hup hth hroom'
 have hf2:Wf (remEnt s d1 n1) (c+1):=h.wf.ents d1 _ fun i2 n2 h7=>remS_len (h.wf.ds _ (look_mem h7).1)
 have hf3:Wf (addEnt (remEnt s d1 n1) d2 n2 kn.ino) (c+2):=hf2.ents d2 _ fun i2 n2 h7=>addS_len (hf2.ds _ (look_mem h7).1)
 have eP:addEnt (remEnt s d1 n1) d2 n2 kn.ino=(mapS s fun n=>updG d2 (fun n=>n.withD (addS n2 kn.ino n.ds)) (updG d1 (fun n=>n.withD (remS n1 n.ds)) n)).gc:=by
  have e1:addEnt (remEnt s d1 n1) d2 n2 kn.ino=mapS s fun n=>updG d2 (fun n=>n.withD (addS n2 kn.ino n.ds)) (updG d1 (fun n=>n.withD (remS n1 n.ds)) n):=by
   unfold addEnt remEnt;rw [upd_is,upd_is]
   show mapS (mapS s _) _=_
   rw [mapS_mapS]
  rw [<- e1,gc_id hf3.alive]
 have hsame:SameB (addEnt (remEnt s d1 n1) d2 n2 kn.ino) (mapS (mapS s (unlinkG dn.ino kn.ino n1)) (linkG en.ino kn.ino n2)).gc:=by
  rw [eP,mapS_mapS]
  refine same_gc fun n hn => ?_
  rw [<- hdi,<- hei,updG_ds dn.ino (remS n1),updG_ds en.ino (addS n2 kn.ino)]
  have hl:n.links=if n.ino=kn.ino then (if n.ino=kn.ino then n.links - 1 else n.links)+1 else (if n.ino=kn.ino then n.links - 1 else n.links):=by
   by_cases e:n.ino=kn.ino
   . rw [if_pos e,if_pos e,h.wf.one hn hkm e];omega
   . rw [if_neg e,if_neg e]
  unfold bareN linkG unlinkG
  simp only
  rw [<- hl]
 have hren:renP s d1 n1 d2 n2 kn.ino (find n2 (entsOf s d2)) false=addEnt (remEnt s d1 n1) d2 n2 kn.ino:=rfl;rw [hren]
 refine ⟨hsame,FsOk.gc (U:=renU (addEnt (remEnt s d1 n1) d2 n2 kn.ino) U d2 kn.ino (find n2 (entsOf s d2)) false) hwk ht (fun m hm hkk hl => ?_) ((hf3.bare hsame).more (by omega)) fun _ _ _ _=>rfl⟩
 obtain ⟨m1,hm1,rfl⟩:=List.mem_map.1 hm;obtain ⟨m0,hm0,rfl⟩:=List.mem_map.1 hm1;have hk0:m0.kind=2:=hkk
 by_cases e:m0.ino=kn.ino
 . have e2:m0=kn:=h.wf.one hm0 hkm e;have el:(linkG en.ino kn.ino n2 (unlinkG dn.ino kn.ino n1 m0)).links=(unlinkG dn.ino kn.ino n1 m0).links+1:=if_pos e
   have hd:isDir (addEnt (remEnt s d1 n1) d2 n2 kn.ino) kn.ino=true:=by
    have:=isDir_gc hf3 hsame hm (by rw [el];omega)
    have e3:(linkG en.ino kn.ino n2 (unlinkG dn.ino kn.ino n1 m0)).ino=kn.ino:=e;rw [e3] at this;rw [this]
    show (m0.kind == 2)=true
    rw [hk0];rfl
   have ep:(linkG en.ino kn.ino n2 (unlinkG dn.ino kn.ino n1 m0)).par=(en.ino:Int):=if_pos ⟨e,hk0⟩;rw [ep];unfold renU;rw [if_pos hd]
   show updU _ _ _ (m0.ino:Int)=_
   unfold updU
   rw [if_pos (by omega)]
   exact hei.symm
 . have el:(linkG en.ino kn.ino n2 (unlinkG dn.ino kn.ino n1 m0)).links=m0.links:=(if_neg e).trans (if_neg e)
   have ep:(linkG en.ino kn.ino n2 (unlinkG dn.ino kn.ino n1 m0)).par=m0.par:=(if_neg fun h7=>e h7.1).trans (if_neg e)
   rw [ep];rw [el] at hl;rw [<- h.agree m0 hm0 hk0 hl]
   exact renU_other (by show (m0.ino:Int) ≠ _;omega) (fun h7=>by cases h7)
theorem rename_over {s:SS} {U:Int->Int} {c:Nat} (h:FsOk s U c) {d1 d2:Int} {n1 n2:ByteArray} (hdo:renDo s d1 n1 d2 n2=true) (hth:has n2 (entsOf s d2)=true) :
 SameB (renP s d1 n1 d2 n2 (find n1 (entsOf s d1)) (find n2 (entsOf s d2)) true) (renF s d1 n1 d2 n2)/\FsOk (renF s d1 n1 d2 n2) (renU (renP s d1 n1 d2 n2 (find n1 (entsOf s d1)) (find n2 (entsOf s d2)) true) U d2 (find n1 (entsOf s d1)) (find n2 (entsOf s d2)) true) (c+3):=by
 obtain ⟨h1,h2,hnm,hh,hne,hwi,hun,_⟩:=renE_ok hdo;obtain ⟨i,dn,j,kn,hx,eds,hy,hfd,hent⟩:=entry_node h.wf h.tree hh;obtain ⟨i3,en3,j3,wn,hz3,ees,hv,hfw,hent3⟩:=entry_node h.wf h.tree hth;obtain ⟨i2,en,hz,hek,hgo⟩:=dirE_ok h2;obtain ⟨hdm,hdi⟩:=look_mem hx;obtain ⟨hkm,_⟩:=look_mem hy;obtain ⟨hwm,_⟩:=look_mem hv;obtain ⟨hem,hei⟩:=look_mem hz
 have e0:en3=en:=by rw [hz] at hz3;simp only [Option.some.injEq,Prod.mk.injEq] at hz3;exact hz3.2.symm
 subst e0
 have eF:renF s d1 n1 d2 n2=(mapS (mapS (mapS s (unlinkG dn.ino kn.ino n1)) (unlinkG en3.ino wn.ino n2)) (linkG en3.ino kn.ino n2)).gc:=by
  unfold renF;rw [if_pos hth,hfd,hfw,<- hdi,<- hei]
  simp only [Int.toNat_natCast]
 rw [eF];rw [hfd] at hwi hy hne hun ⊢;rw [hfw] at hv hne hun ⊢;rw [<- eds] at hh hfd;rw [<- ees] at hth hfw
 have hwe:wn.ds=[]:=by
  have h7:=unlike_empty h.wf h.tree (hun (by have:=(h.wf.num wn hwm).1;omega))
  rw [ents_look hv] at h7
  exact h7
 have hkw:wn.ino ≠ kn.ino:=fun e=>hne (by rw [e])
 have hlw:1<=wn.links:=h.tree.entry hem hent3 hwm rfl
 have hup:kn.kind=2->¬ Up s.L en3.ino kn.ino:=fun hk hu=>by
  have:=(within_iff h.tree h.wf hem kn.ino).2 ⟨by rw [isDir_mem h.wf hkm,hk];rfl,by rw [Int.toNat_natCast];exact hu⟩
  rw [hei,hwi] at this;cases this
 obtain ⟨hlk,hek',hk1,_⟩:=ren_facts h.wf h.tree hdm hem hkm hh hfd hek hup
 obtain ⟨hwk,ht,hset⟩:=ren_over h.wf h.tree hdm hem hkm hh hfd hek (by omega) hnm hup hth hwm hfw hkw hwe
 have hf2:Wf (remEnt s d1 n1) (c+1):=h.wf.ents d1 _ fun i2 n2 h7=>remS_len (h.wf.ds _ (look_mem h7).1)
 have hf3:Wf (putEnt (remEnt s d1 n1) d2 n2 kn.ino) (c+2):=hf2.ents d2 _ fun i2 n2 h7=>setD_len (hf2.ds _ (look_mem h7).1)
 have hf4:Wf (lessS (putEnt (remEnt s d1 n1) d2 n2 kn.ino) wn.ino true) (c+3):=hf3.less1 _ _
 have hl2:=look_upd (x:=d1) (g:=fun n=>n.withD (remS n1 n.ds)) h.wf (fun _=>rfl) hv
 have hl3:=look_upd (x:=d2) (g:=fun n=>n.withD (setD n2 kn.ino n.ds)) hf2 (fun _=>rfl) hl2
 have el:lessE (putEnt (remEnt s d1 n1) d2 n2 kn.ino) wn.ino true=0:=by
  unfold lessE putEnt;rw [hl3]
  show (if Nd.cnt _ true=0 then _ else _)=_
  rw [if_neg]
  split <;> split <;> (show ¬ wn.links=0;omega)
 have eP:lessS (putEnt (remEnt s d1 n1) d2 n2 kn.ino) wn.ino true=(mapS s fun n=>updG wn.ino (fun n=>n.cntd true (n.cnt true - 1)) (updG d2 (fun n=>n.withD (setD n2 kn.ino n.ds)) (updG d1 (fun n=>n.withD (remS n1 n.ds)) n))).gc:=by
  rw [less_gc hf3 el];unfold putEnt remEnt;rw [upd_is,upd_is,upd_is]
  show (mapS (mapS (mapS s _) _) _).gc=_
  rw [mapS_mapS,mapS_mapS]
 have hsame:SameB (lessS (putEnt (remEnt s d1 n1) d2 n2 kn.ino) wn.ino true) (mapS (mapS (mapS s (unlinkG dn.ino kn.ino n1)) (unlinkG en3.ino wn.ino n2)) (linkG en3.ino kn.ino n2)).gc:=by
  rw [eP,mapS_mapS,mapS_mapS]
  refine same_gc fun n hn => ?_
  rw [<- hdi,<- hei,updG_ds dn.ino (remS n1),updG_ds en3.ino (setD n2 kn.ino),updG_less]
  have hl:(if n.ino=wn.ino then n.links - 1 else n.links)=(linkG en3.ino kn.ino n2 (unlinkG en3.ino wn.ino n2 (unlinkG dn.ino kn.ino n1 n))).links:=by
   show _=if n.ino=kn.ino then (if n.ino=wn.ino then (if n.ino=kn.ino then n.links - 1 else n.links) - 1 else (if n.ino=kn.ino then n.links - 1 else n.links))+1 else (if n.ino=wn.ino then (if n.ino=kn.ino then n.links - 1 else n.links) - 1 else (if n.ino=kn.ino then n.links - 1 else n.links))
   by_cases e:n.ino=kn.ino
   . have e2:¬ n.ino=wn.ino:=fun e3=>hkw (by omega)
     rw [if_neg e2,if_pos e,if_neg e2,if_pos e,h.wf.one hn hkm e];omega
   . rw [if_neg e,if_neg e]
  have hd:(if n.ino=en3.ino then setD n2 kn.ino (if n.ino=dn.ino then remS n1 n.ds else n.ds) else (if n.ino=dn.ino then remS n1 n.ds else n.ds))=(linkG en3.ino kn.ino n2 (unlinkG en3.ino wn.ino n2 (unlinkG dn.ino kn.ino n1 n))).ds:=by
   show _=if n.ino=en3.ino then addS n2 kn.ino (if n.ino=en3.ino then remS n2 (if n.ino=dn.ino then remS n1 n.ds else n.ds) else (if n.ino=dn.ino then remS n1 n.ds else n.ds)) else (if n.ino=en3.ino then remS n2 (if n.ino=dn.ino then remS n1 n.ds else n.ds) else (if n.ino=dn.ino then remS n1 n.ds else n.ds))
   by_cases e:n.ino=en3.ino
   . rw [if_pos e,if_pos e,if_pos e];rw [h.wf.one hn hem e]
     exact hset
   . rw [if_neg e,if_neg e,if_neg e]
  unfold bareN;rw [<- hl,<- hd]
  simp only [and_true,and_false,if_false,Bool.true_eq_false]
  rfl
 have hren:renP s d1 n1 d2 n2 kn.ino wn.ino true=lessS (putEnt (remEnt s d1 n1) d2 n2 kn.ino) wn.ino true:=rfl;rw [hren]
 refine ⟨hsame,FsOk.gc (U:=renU (lessS (putEnt (remEnt s d1 n1) d2 n2 kn.ino) wn.ino true) U d2 kn.ino wn.ino true) hwk ht (fun m hm hkk hl => ?_) (hf4.bare hsame) fun _ _ _ _=>rfl⟩
 obtain ⟨m2,hm2,rfl⟩:=List.mem_map.1 hm;obtain ⟨m1,hm1,rfl⟩:=List.mem_map.1 hm2;obtain ⟨m0,hm0,rfl⟩:=List.mem_map.1 hm1;have hk0:m0.kind=2:=hkk
 by_cases e:m0.ino=kn.ino
 . have el:(linkG en3.ino kn.ino n2 (unlinkG en3.ino wn.ino n2 (unlinkG dn.ino kn.ino n1 m0))).links=(unlinkG en3.ino wn.ino n2 (unlinkG dn.ino kn.ino n1 m0)).links+1:=if_pos e
   have hd:isDir (lessS (putEnt (remEnt s d1 n1) d2 n2 kn.ino) wn.ino true) kn.ino=true:=by
    have:=isDir_gc hf4 hsame hm (by rw [el];omega)
    have e3:(linkG en3.ino kn.ino n2 (unlinkG en3.ino wn.ino n2 (unlinkG dn.ino kn.ino n1 m0))).ino=kn.ino:=e;rw [e3] at this;rw [this]
    show (m0.kind == 2)=true
    rw [hk0];rfl
   have ep:(linkG en3.ino kn.ino n2 (unlinkG en3.ino wn.ino n2 (unlinkG dn.ino kn.ino n1 m0))).par=(en3.ino:Int):=if_pos ⟨e,hk0⟩;rw [ep];unfold renU;rw [if_pos hd]
   show updU _ _ _ (m0.ino:Int)=_
   unfold updU
   rw [if_pos (by omega)]
   exact hei.symm
 . by_cases e2:m0.ino=wn.ino
   . exfalso
     have el:(linkG en3.ino kn.ino n2 (unlinkG en3.ino wn.ino n2 (unlinkG dn.ino kn.ino n1 m0))).links=m0.links - 1:=(if_neg e).trans ((if_pos e2).trans (congrArg (· - 1) (if_neg e)));have e3:=h.tree.one m0 hm0 hk0;rw [el] at hl
     rcases hl with h7 | h7
     . have h8:m0.ino=1:=h7;obtain ⟨rn,hrn,er,_,e0,_⟩:=h.tree.root
       have h9:wn=rn:=h.wf.one hwm hrn (by omega)
       rw [h9] at hlw
       omega
     . omega
   . have el:(linkG en3.ino kn.ino n2 (unlinkG en3.ino wn.ino n2 (unlinkG dn.ino kn.ino n1 m0))).links=m0.links:=(if_neg e).trans ((if_neg e2).trans (if_neg e))
     have ep:(linkG en3.ino kn.ino n2 (unlinkG en3.ino wn.ino n2 (unlinkG dn.ino kn.ino n1 m0))).par=m0.par:=(if_neg fun h7=>e h7.1).trans ((if_neg e2).trans (if_neg e))
     rw [ep];rw [el] at hl;rw [<- h.agree m0 hm0 hk0 hl]
     exact renU_other (by show (m0.ino:Int) ≠ _;omega) (fun _=>by show (m0.ino:Int) ≠ _;omega)
theorem rename_ok {s:SS} {U:Int->Int} {c:Nat} (h:FsOk s U c) {d1 d2:Int} {n1 n2:ByteArray} (hdo:renDo s d1 n1 d2 n2=true) :
 SameB (renP s d1 n1 d2 n2 (find n1 (entsOf s d1)) (find n2 (entsOf s d2)) (has n2 (entsOf s d2))) (renF s d1 n1 d2 n2)/\FsOk (renF s d1 n1 d2 n2) (renU (renP s d1 n1 d2 n2 (find n1 (entsOf s d1)) (find n2 (entsOf s d2)) (has n2 (entsOf s d2))) U d2 (find n1 (entsOf s d1)) (find n2 (entsOf s d2)) (has n2 (entsOf s d2))) (c+3):=by
 cases hth:has n2 (entsOf s d2) with
 | false=>exact rename_none h hdo hth
 | true=>exact rename_over h hdo hth
end Go.Proofs.YthlaoaaafafafaaGreat
