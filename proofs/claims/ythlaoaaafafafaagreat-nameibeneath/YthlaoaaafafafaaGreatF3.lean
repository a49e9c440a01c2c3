/- Ours. -/
import Derived.Test.YthlaoaaafafafaaGreatF2
set_option maxRecDepth 100000
set_option maxHeartbeats 16000000
namespace Go.Proofs.YthlaoaaafafafaaGreat
open Go Go.RowKit Go.Maps
def linksOf (s:SS) (x:Int):Nat:=match look s x with | none=>0 | some (_,n)=>n.links
def holdsOf (s:SS) (x:Int):Nat:=match look s x with | none=>0 | some (_,n)=>n.holds
theorem statS_is (s:SS) (x:Int):∃ a b:Int,statS s x=[.int .i64 (kindOf s x:Nat),.int .i64 a,.int .i64 (linksOf s x:Nat),.int .i64 (holdsOf s x:Nat),.int .i64 b]:=by
 unfold statS kindOf linksOf holdsOf
 cases look s x with
 | none=>exact ⟨0,0,rfl⟩
 | some y=>exact ⟨_,_,rfl⟩
def ActPost (n fb c:Nat) (s:SS) (U:Int->Int) (E:Int) (w:World) (e:Ending) (w':World):Prop:=e=.returned (.int .i64 E)/\FsAt n w' fb c s U/\Turns isP (.up n) w w'
def linkE (s:SS) (d:Int) (nm:ByteArray) (k:Int):Int:=if placeE s d nm ≠ 0 then placeE s d nm else if statE s k ≠ 0 then 2 else if kindOf s k=2 then 1 else if has nm (entsOf s d)=true then 17 else if 32<=linksOf s k then 31 else if 64<=(entsOf s d).length then 28 else 0
def linkP (s:SS) (d:Int) (nm:ByteArray) (k:Int):SS:=moreS (addEnt s d nm k) k true
theorem stat_ok {s:SS} {x:Int} (h:statE s x=0):∃ i n,look s x=some (i,n):=by
 unfold statE at h
 cases hx:look s x with
 | none=>rw [hx] at h;cases h
 | some y=>exact ⟨y.1,y.2,rfl⟩
theorem look_upd {s:SS} {c:Nat} {x y:Int} {i:Nat} {n:Nd} {g:Nd->Nd} (_hf:Wf s c) (hg:∀ n,(g n).ino=n.ino) (h:look s y=some (i,n)):look (s.upd x g) y=some (i,if (n.ino:Int)=x then g n else n):=by
 obtain ⟨hi,rfl,h1,h2⟩:=look_some h
 have hl:i < (s.upd x g).L.length:=by simp [SS.upd];exact hi
 have hino:∀ j (hj:j < s.L.length),((s.upd x g).L[j]'(by simp [SS.upd];exact hj)).ino=s.L[j].ino:=fun j hj=>by
  simp only [SS.upd,List.getElem_map]
  split
  . exact hg _
  . rfl
 obtain ⟨h3,h4,h5⟩:=List.findIdx?_eq_some_iff_getElem.1 h2
 have e:ix (s.upd x g).L y=some i:=by
  refine List.findIdx?_eq_some_iff_getElem.2 ⟨hl,?_,fun j hj => ?_⟩
  . rw [hino i hi];simpa using h4
  . rw [hino j (by omega)];simpa using h5 j hj
 unfold look;rw [e]
 simp only [SS.upd,List.getElem?_map,List.getElem?_eq_getElem hi,Option.map_some]
theorem more_ok {s:SS} {x:Int} {i:Nat} {n:Nd} (h:look s x=some (i,n)) (hl:n.links < 32):moreE s x true=0:=by
 unfold moreE;rw [h]
 show (if _ then _ else _)=_
 rw [if_neg (by omega)]
section
variable {n fb sb ub c:Nat} {w:World} {s:SS} {B:Nat->Nat} {U:Int->Int}
theorem link7 (h0:FsAt n w fb c s U) (hf:Wf s c) (ht:Tree s) (hc:c<=800) (d:Int) (hd:(Lit.int .i64 d).wf=true) (nm:ByteArray) (hn:nm.size<=10000) (k:Int) (hk:(Lit.int .i64 k).wf=true) :
 Calls Tryz.prog 47 #[ptr fb,.int .i64 d,.string nm,.int .i64 k] w (ActPost n fb c (if linkE s d nm k=0 then linkP s d nm k else s) U (linkE s d nm k) w):=by
 obtain ⟨sb,ub,B,h⟩:=h0
 have c1:=place7 h hf (by omega) d hd nm hn
 have HK:Hid (∀ r w1,linkE s d nm k=r->r ≠ 0->Below w.heap.size w w1->ActPost n fb c (if linkE s d nm k=0 then linkP s d nm k else s) U (linkE s d nm k) w (.returned (.int .i64 r)) w1):=fun r w1 h1 h2 hb =>
  ⟨by rw [h1],by rw [h1,if_neg h2];exact (h.on hb).at,.on hb⟩
 have HE:Hid (linkE s d nm k=if placeE s d nm ≠ 0 then placeE s d nm else if statE s k ≠ 0 then 2 else if kindOf s k=2 then 1 else if has nm (entsOf s d)=true then 17 else if 32<=linksOf s k then 31 else if 64<=(entsOf s d).length then 28 else 0):=rfl
 by_cases hp:placeE s d nm=0
 . rw [hp,if_neg (by simp)] at HE
   rw [hp,if_pos rfl] at c1;obtain ⟨i,dn,v,hx,hdk,hl,eds,edv,hd0,hturn⟩:=h.into hf (placeE_ok hp).1;have hm:=(look_mem hx).1;have hname:=(placeE_ok hp).2;rw [edv] at c1;rw [<- eds] at HE;have hfew:=hf.ds _ hm
   have HX:Hid (∀ w1,Below w.heap.size w w1->w1.cell? ⟨fb,0,none⟩=some (ptr sb)):=fun w1 hb=>(h.on hb).box.cell 0 rfl
   have HF:Hid (∀ w1,Below w.heap.size w w1->Calls Tryz.prog 73 #[ptr (B dn.ino),.string nm] w1 fun e w'=>e=.returned (.tuple #[.int .i64 (find nm dn.ds),.bool (has nm dn.ds)])/\Below w1.heap.size w1 w'):=fun w1 hb=>find_any 0 _ v dn.ds nm w1 (by omega) (ht.sorted _ hm) (hd0.on hb)
   have HFu:Hid (∀ w1,Below w.heap.size w w1->Calls Tryz.prog 75 #[ptr (B dn.ino)] w1 fun e w'=>e=.returned (.bool (decide (64<=dn.ds.length)))/\w'=w1):=fun w1 hb=>full_any _ v dn.ds (hd0.on hb)
   have HS:Hid (∀ w1,Below w.heap.size w w1->Calls Tryz.prog 86 #[ptr sb,.int .i64 k] w1 fun e w'=>e=.returned (.tuple #[.agg (statS s k).toArray,.int .i64 (statE s k:Nat)])/\Below w1.heap.size w1 w'):=fun w1 hb=>stat_any (h.on hb).store.at hf (by omega) k hk
   obtain ⟨za,zb,est⟩:=statS_is s k;rw [est] at HS
   have hal:Hid (∀ w1:World,Below w.heap.size w w1->Below w.heap.size w (w1.alloc (.cells #[.int .i64 (kindOf s k:Nat),.int .i64 za,.int .i64 (linksOf s k:Nat),.int .i64 (holdsOf s k:Nat),.int .i64 zb] 131))):=fun w1 hb=>on_trans hb (on_alloc w1 _)
   -- what is done in the end
   have HGo:Hid (linkE s d nm k=0->statE s k=0->¬ kindOf s k=2->has nm dn.ds=false->¬ 32<=linksOf s k->¬ 64<=dn.ds.length->∀ w1,Below w.heap.size w w1->Calls Tryz.prog 76 #[ptr (B dn.ino),.string nm,.int .i64 k] w1 fun e w2=>(∃ r,e=.returned r)/\w2.cell? ⟨fb,0,none⟩=some (ptr sb)/\Calls Tryz.prog 77 #[ptr sb,.int .i64 k] w2 fun e w3=>e=.returned (.int .i64 0)/\ActPost n fb c (if linkE s d nm k=0 then linkP s d nm k else s) U (linkE s d nm k) w (.returned (.int .i64 0)) w3):=fun h1 h2 h3 h4 h5 h6 w1 hb=>by
    obtain ⟨j,kn,hy⟩:=stat_ok h2;obtain ⟨hkm,hki⟩:=look_mem hy;have hk1:=(hf.num kn hkm).1
    have hadd:addE nm k dn.ds=0:=by
     unfold addE
     rw [hname,if_neg (by simp),if_neg (by omega),h4,if_neg (by simp),if_neg h6]
    obtain ⟨i2,dn2,v2,hx2,_,_,_,_,hd2,hturn2⟩:=(h.on hb).into hf (placeE_ok hp).1;rw [hx] at hx2
    cases hx2
    refine (add_any 0 _ v2 dn.ds nm k w1 hn hfew (ht.sorted _ hm) (Nat.zero_le _) hd2).mono ?_
    rintro e w2 ⟨rfl,v3,hd3,hg3⟩;obtain ⟨h7,h8⟩:=hturn2 w2 v3 _ hd3 hg3
    have e3:s.set i (dn.withD (addS nm k dn.ds))=addEnt s d nm k:=(upd_some (g:=fun n=>n.withD (addS nm k n.ds)) hf hx).symm
    rw [e3] at h7
    refine ⟨⟨_,rfl⟩,h7.box.cell 0 rfl,?_⟩
    have hf2:Wf (addEnt s d nm k) (c+1):=hf.ents d _ fun i2 n2 h7=>addS_len (hf.ds _ (look_mem h7).1)
    refine (link_any h7.store.at hf2 (by omega) k hk).mono ?_
    rintro e w3 ⟨rfl,h9,h10⟩
    have hlk:kn.links < 32:=by unfold linksOf at h5;rw [hy] at h5;simpa using h5
    have e4:moreE (addEnt s d nm k) k true=0:=by
     have hl2:=look_upd (x:=d) (g:=fun n=>n.withD (addS nm k n.ds)) hf (fun _=>rfl) hy
     refine more_ok hl2 ?_
     split <;> exact hlk
    obtain ⟨B9,h9⟩:=h9.boxes;have h11:=(h7.turned h9 h10).at
    refine ⟨by rw [e4];rfl,by rw [h1],by rw [h1,if_pos rfl];exact h11,((Turns.on hb).trans h8).trans (FsM.less h10)⟩
   have HL:Hid (∀ q:Prop,(((64<=dn.ds.length):Prop)->q)->True):=fun _ _=>trivial
   clear HL
   generalize ActPost n fb c (if linkE s d nm k=0 then linkP s d nm k else s) U (linkE s d nm k) w=Post at *
   generalize linkE s d nm k=le at *;generalize find nm dn.ds=fd at *;generalize B dn.ino=db at *;clear h hf ht hx hd0 hturn hm est eds edv hname hp;go_enter Tryz.func47,Tryz.ntmps47;go_wp2_with fail;refine c1.mono ?_;rintro e w1 ⟨rfl,hb⟩;have x0:=HX.out w1 hb;have c2:=HS.out w1 hb;go_wp2_with fail;refine c2.mono ?_;rintro e w2 ⟨rfl,hb2⟩;have hb3:=hal.out w2 (on_trans hb hb2);have c3:=HF.out _ hb3;clear c1 c2 x0 HF HS
   by_cases hs:statE s k=0
   . rw [hs,if_neg (by simp)] at HE
     rw [hs]
     by_cases hk2:kindOf s k=2
     . rw [if_pos hk2] at HE;have HEE:Hid (le=1):=HE.out
       have hkz:((kindOf s k:Nat):Int)=2:=by omega
       clear HGo HE hk2 hs;generalize ((kindOf s k:Nat):Int)=zk at *;generalize ((linksOf s k:Nat):Int)=zl at *;generalize ((holdsOf s k:Nat):Int)=zh at *;subst hkz;go_wp2_with fail;refine c3.mono ?_;rintro e w4 ⟨rfl,hb4⟩;have hS:=(Blk.new w2 131 [.int .i64 2,.int .i64 za,.int .i64 zl,.int .i64 zh,.int .i64 zb]).on hb4;have y0:=hS.cell 0 rfl;have y2:=hS.cell 2 rfl;clear hS;go_wp2
       exact HK.out _ _ HEE.out (by decide) (on_trans hb3 hb4)
     . rw [if_neg hk2] at HE
       have hkz:¬ ((kindOf s k:Nat):Int)=2:=by omega
       have hkb:(((kindOf s k:Nat):Int) == 2)=false:=by simpa using hkz
       cases hh:has nm dn.ds with
       | true =>
        rw [hh,if_pos rfl] at HE;rw [hh] at c3;have HEE:Hid (le=17):=HE.out;clear HGo HE hk2 hs hh;generalize ((kindOf s k:Nat):Int)=zk at *;generalize ((linksOf s k:Nat):Int)=zl at *;generalize ((holdsOf s k:Nat):Int)=zh at *;go_wp2_with fail;refine c3.mono ?_;rintro e w4 ⟨rfl,hb4⟩;have hS:=(Blk.new w2 131 [.int .i64 zk,.int .i64 za,.int .i64 zl,.int .i64 zh,.int .i64 zb]).on hb4;have y0:=hS.cell 0 rfl;have y2:=hS.cell 2 rfl;clear hS;go_wp2
        exact HK.out _ _ HEE.out (by decide) (on_trans hb3 hb4)
       | false =>
        rw [hh,if_neg (by simp)] at HE
        rw [hh] at c3
        by_cases h32:32<=linksOf s k
        . rw [if_pos h32] at HE;have HEE:Hid (le=31):=HE.out
          have h3z:(32:Int)<=((linksOf s k:Nat):Int):=by omega
          clear HGo HE hk2 hs hh;generalize ((kindOf s k:Nat):Int)=zk at *;generalize ((linksOf s k:Nat):Int)=zl at *;generalize ((holdsOf s k:Nat):Int)=zh at *;go_wp2_with fail;refine c3.mono ?_;rintro e w4 ⟨rfl,hb4⟩;have hS:=(Blk.new w2 131 [.int .i64 zk,.int .i64 za,.int .i64 zl,.int .i64 zh,.int .i64 zb]).on hb4;have y0:=hS.cell 0 rfl;have y2:=hS.cell 2 rfl;clear hS;go_wp2
          exact HK.out _ _ HEE.out (by decide) (on_trans hb3 hb4)
        . rw [if_neg h32] at HE
          have h3z:¬ (32:Int)<=((linksOf s k:Nat):Int):=by omega
          by_cases hfu:64<=dn.ds.length
          . rw [if_pos hfu] at HE;rw [decide_eq_true hfu] at HFu;have HEE:Hid (le=28):=HE.out;clear HGo HE hk2 hs hh h32;generalize ((kindOf s k:Nat):Int)=zk at *;generalize ((linksOf s k:Nat):Int)=zl at *;generalize ((holdsOf s k:Nat):Int)=zh at *;go_wp2_with fail;refine c3.mono ?_;rintro e w4 ⟨rfl,hb4⟩;have hS:=(Blk.new w2 131 [.int .i64 zk,.int .i64 za,.int .i64 zl,.int .i64 zh,.int .i64 zb]).on hb4;have y0:=hS.cell 0 rfl;have y2:=hS.cell 2 rfl;clear hS
            have c4:=HFu.out _ (on_trans hb3 hb4);go_wp2_with fail;refine c4.mono ?_;rintro e w5 ⟨rfl,hw5⟩;subst w5;go_wp2
            exact HK.out _ _ HEE.out (by decide) (on_trans hb3 hb4)
          . rw [if_neg hfu] at HE;rw [decide_eq_false hfu] at HFu;have HG2:Hid _:=HGo.out HE.out hs hk2 hh h32 hfu;clear HGo HE hk2 hs hh h32;generalize ((kindOf s k:Nat):Int)=zk at *;generalize ((linksOf s k:Nat):Int)=zl at *;generalize ((holdsOf s k:Nat):Int)=zh at *;go_wp2_with fail;refine c3.mono ?_;rintro e w4 ⟨rfl,hb4⟩;have hS:=(Blk.new w2 131 [.int .i64 zk,.int .i64 za,.int .i64 zl,.int .i64 zh,.int .i64 zb]).on hb4;have y0:=hS.cell 0 rfl;have y2:=hS.cell 2 rfl
            clear hS;have c4:=HFu.out _ (on_trans hb3 hb4);have c5:=HG2.out _ (on_trans hb3 hb4);go_wp2_with fail;refine c4.mono ?_;rintro e w5 ⟨rfl,hw5⟩;subst w5;go_wp2_with fail;refine c5.mono ?_;rintro e w6 ⟨⟨r,rfl⟩,x6,c6⟩;go_wp2_with fail;refine c6.mono ?_;rintro e w7 ⟨rfl,hfin⟩;go_wp2
            exact hfin
   . have hs2:statE s k=2:=by unfold statE at hs ⊢;split at hs <;> simp_all
     rw [if_pos hs] at HE;rw [hs2];have HEE:Hid (le=2):=HE.out;clear HGo HE hs hs2;generalize ((kindOf s k:Nat):Int)=zk at *;generalize ((linksOf s k:Nat):Int)=zl at *;generalize ((holdsOf s k:Nat):Int)=zh at *;go_wp2_with fail;refine c3.mono ?_;rintro e w4 ⟨rfl,hb4⟩;have hS:=(Blk.new w2 131 [.int .i64 zk,.int .i64 za,.int .i64 zl,.int .i64 zh,.int .i64 zb]).on hb4;have y0:=hS.cell 0 rfl;have y2:=hS.cell 2 rfl;clear hS;go_wp2
     exact HK.out _ _ HEE.out (by decide) (on_trans hb3 hb4)
 . rw [if_neg hp] at c1;rw [if_pos hp] at HE;have HEE:Hid (linkE s d nm k=placeE s d nm):=HE.out;have HP0:Hid (placeE s d nm ≠ 0):=hp
   have hq:(placeE s d nm != 0)=true:=by simpa using hp
   generalize ActPost n fb c (if linkE s d nm k=0 then linkP s d nm k else s) U (linkE s d nm k) w=Post at *
   generalize placeE s d nm=pe at *;clear h hf ht HE hp;go_enter Tryz.func47,Tryz.ntmps47;go_wp2_with fail;refine c1.mono ?_;rintro e w1 ⟨rfl,hb⟩;go_wp2
   exact HK.out _ _ HEE.out HP0.out hb
end
def unlinkE (s:SS) (d:Int) (nm:ByteArray):Int:=if entryE s d nm ≠ 0 then entryE s d nm else if isDir s (find nm (entsOf s d))=true then 1 else 0
def rmdirE (s:SS) (d:Int) (nm:ByteArray):Int:=if entryE s d nm ≠ 0 then entryE s d nm else if isDir s (find nm (entsOf s d))=false then 20 else if 0 < (entsOf s (find nm (entsOf s d))).length then 66 else 0
def dropP (s:SS) (d:Int) (nm:ByteArray) (k:Int):SS:=lessS (remEnt s d nm) k true
theorem ino_wf {s:SS} {c:Nat} (hf:Wf s c) (hc:c<=900) {m:Nd} (hm:m ∈ s.L):(Lit.int .i64 (m.ino:Int)).wf=true:=by
 have h1:=hf.num m hm;have h2:=hf.next
 exact ky_wf (k:=m.ino) (by omega)
theorem ents_look {s:SS} {x:Int} {i:Nat} {n:Nd} (h:look s x=some (i,n)):entsOf s x=n.ds:=by unfold entsOf;rw [h]
theorem entry_node {s:SS} {c:Nat} (hf:Wf s c) (ht:Tree s) {d:Int} {nm:ByteArray} (h:has nm (entsOf s d)=true):∃ i dn j kn,look s d=some (i,dn)/\dn.ds=entsOf s d/\look s (find nm (entsOf s d))=some (j,kn)/\find nm (entsOf s d)=(kn.ino:Int)/\(nm,(kn.ino:Int)) ∈ dn.ds:=by
 cases hx:look s d with
 | none=>unfold entsOf at h;rw [hx] at h;cases h
 | some y =>
  obtain ⟨i,dn⟩:=y
  have e:entsOf s d=dn.ds:=by unfold entsOf;rw [hx]
  rw [e] at h ⊢;have hm:=(look_mem hx).1;have hent:=find_mem (ht.sorted dn hm) h;obtain ⟨kn,hk,h1,_⟩:=ht.there dn hm _ hent;have h1':find nm dn.ds=(kn.ino:Int):=h1;obtain ⟨j,hj⟩:=look_of hf hk;rw [h1'] at hent ⊢
  exact ⟨i,dn,j,kn,rfl,rfl,hj,rfl,hent⟩
section
variable {n fb sb ub c:Nat} {w:World} {s:SS} {B:Nat->Nat} {U:Int->Int}
theorem drop_end (h:FsM n w fb sb ub c s B U) (hf:Wf s c) (ht:Tree s) (hc:c<=800) {d:Int} {nm:ByteArray} (h0:dirE s d=0) (hh:has nm (entsOf s d)=true):∃ db,dirV B s d=ptr db/\Calls Tryz.prog 95 #[ptr db,.string nm] w fun e w2=>(∃ r,e=.returned r)/\Calls Tryz.prog 96 #[ptr fb,.int .i64 (find nm (entsOf s d))] w2 fun e w3=>e=.returned (.tuple #[])/\FsAt n w3 fb c (dropP s d nm (find nm (entsOf s d))) (fogU (dropP s d nm (find nm (entsOf s d))) U (find nm (entsOf s d)))/\Turns isP (.up n) w w3:=by
 obtain ⟨i,dn,v,hx,hk,hl,eds,edv,hd0,hturn⟩:=h.into hf h0;have hm:=(look_mem hx).1;have hfew:=hf.ds _ hm;obtain ⟨_,_,j,kn,_,_,hj,hkn,_⟩:=entry_node hf ht hh
 have hkw:=ino_wf hf (by omega) (look_mem hj).1
 refine ⟨_,edv,(remove_any 0 _ v dn.ds nm w hfew (ht.sorted _ hm) hd0).mono ?_⟩
 rintro e w2 ⟨rfl,v',h1,h2⟩;obtain ⟨h3,h4⟩:=hturn w2 v' _ h1 h2
 have e3:s.set i (dn.withD (remS nm dn.ds))=remEnt s d nm:=(upd_some (g:=fun n=>n.withD (remS nm n.ds)) hf hx).symm
 rw [e3] at h3
 have hf2:Wf (remEnt s d nm) (c+1):=hf.ents d _ fun i2 n2 h7=>remS_len (hf.ds _ (look_mem h7).1)
 refine ⟨⟨_,rfl⟩,?_⟩
 rw [hkn] at *
 refine (unlink7 h3.at hf2 (by omega) _ hkw).mono ?_
 rintro e w3 ⟨h5,h6,h7⟩
 exact ⟨h5,h6,h4.trans h7⟩
theorem unlinkE7 (h0:FsAt n w fb c s U) (hf:Wf s c) (ht:Tree s) (hc:c<=800) (d:Int) (hd:(Lit.int .i64 d).wf=true) (nm:ByteArray) (hn:nm.size<=10000) :
 Calls Tryz.prog 49 #[ptr fb,.int .i64 d,.string nm] w (ActPost n fb c (if unlinkE s d nm=0 then dropP s d nm (find nm (entsOf s d)) else s) (if unlinkE s d nm=0 then fogU (dropP s d nm (find nm (entsOf s d))) U (find nm (entsOf s d)) else U) (unlinkE s d nm) w):=by
 obtain ⟨sb,ub,B,h⟩:=h0
 have c1:=entry7 h hf ht (by omega) d hd nm hn
 have HK:Hid (∀ r w1,unlinkE s d nm=r->r ≠ 0->Below w.heap.size w w1->ActPost n fb c (if unlinkE s d nm=0 then dropP s d nm (find nm (entsOf s d)) else s) (if unlinkE s d nm=0 then fogU (dropP s d nm (find nm (entsOf s d))) U (find nm (entsOf s d)) else U) (unlinkE s d nm) w (.returned (.int .i64 r)) w1):=fun r w1 h1 h2 hb =>
  ⟨by rw [h1],by rw [h1,if_neg h2,if_neg h2];exact (h.on hb).at,.on hb⟩
 have HE:Hid (unlinkE s d nm=if entryE s d nm ≠ 0 then entryE s d nm else if isDir s (find nm (entsOf s d))=true then 1 else 0):=rfl
 by_cases hp:entryE s d nm=0
 . rw [hp,if_neg (by simp)] at HE
   rw [hp,if_pos rfl,if_pos rfl] at c1;obtain ⟨hp1,hh⟩:=entryE_ok hp;have hp2:=(placeE_ok hp1).1;obtain ⟨_,_,j,kn,_,_,hj,hkn,_⟩:=entry_node hf ht hh
   have hkw:=ino_wf hf (by omega) (look_mem hj).1
   rw [<- hkn] at hkw;obtain ⟨db,edb,_⟩:=drop_end h hf ht hc hp2 hh;rw [edb] at c1
   have HX:Hid (∀ w1,Below w.heap.size w w1->w1.cell? ⟨fb,0,none⟩=some (ptr sb)):=fun w1 hb=>(h.on hb).box.cell 0 rfl
   have HD:Hid (∀ w1,Below w.heap.size w w1->Calls Tryz.prog 87 #[ptr sb,.int .i64 (find nm (entsOf s d))] w1 fun e w'=>e=.returned (dirV B s (find nm (entsOf s d)))/\w'=w1):=fun w1 hb=>dir_at (h.on hb).store _ hkw
   have HGo:Hid (unlinkE s d nm=0->∀ w1,Below w.heap.size w w1->Calls Tryz.prog 95 #[ptr db,.string nm] w1 fun e w2=>(∃ r,e=.returned r)/\Calls Tryz.prog 96 #[ptr fb,.int .i64 (find nm (entsOf s d))] w2 fun e w3=>e=.returned (.tuple #[])/\ActPost n fb c (if unlinkE s d nm=0 then dropP s d nm (find nm (entsOf s d)) else s) (if unlinkE s d nm=0 then fogU (dropP s d nm (find nm (entsOf s d))) U (find nm (entsOf s d)) else U) (unlinkE s d nm) w (.returned (.int .i64 0)) w3):=fun h1 w1 hb=>by
    obtain ⟨db',e1,c2⟩:=drop_end (h.on hb) hf ht hc hp2 hh;rw [edb] at e1
    cases e1
    refine c2.mono ?_;rintro e w2 ⟨h2,c3⟩
    refine ⟨h2,c3.mono ?_⟩
    rintro e w3 ⟨h3,h4,h5⟩
    exact ⟨h3,by rw [h1],by rw [h1,if_pos rfl,if_pos rfl];exact h4,(Turns.on hb).trans h5⟩
   unfold dirV at HD
   generalize ActPost n fb c (if unlinkE s d nm=0 then dropP s d nm (find nm (entsOf s d)) else s) (if unlinkE s d nm=0 then fogU (dropP s d nm (find nm (entsOf s d))) U (find nm (entsOf s d)) else U) (unlinkE s d nm) w=Post at *
   generalize unlinkE s d nm=ue at *;clear h hf ht hkn hj hp hp1 hp2 hh edb hkw;generalize find nm (entsOf s d)=fk at *
   cases hi:isDir s fk with
   | true =>
    rw [hi,if_pos rfl] at HE HD;have HEE:Hid (ue=1):=HE.out;generalize B fk.toNat=kb at *;clear HE HGo hi;go_enter Tryz.func49,Tryz.ntmps49;go_wp2_with fail;refine c1.mono ?_;rintro e w1 ⟨rfl,hb⟩;have x0:=HX.out w1 hb;have c2:=HD.out w1 hb;go_wp2_with fail;refine c2.mono ?_;rintro e w2 ⟨rfl,hw2⟩;subst w2;go_wp2
    exact HK.out _ _ HEE.out (by decide) hb
   | false =>
    rw [hi,if_neg (by simp)] at HE HD
    have HG2:Hid _:=HGo.out HE.out;clear HE HGo hi;go_enter Tryz.func49,Tryz.ntmps49;go_wp2_with fail;refine c1.mono ?_;rintro e w1 ⟨rfl,hb⟩;have x0:=HX.out w1 hb;have c2:=HD.out w1 hb;have c3:=HG2.out w1 hb;go_wp2_with fail;refine c2.mono ?_;rintro e w2 ⟨rfl,hw2⟩;subst w2;go_wp2_with fail;refine c3.mono ?_;rintro e w3 ⟨⟨r,rfl⟩,c4⟩;go_wp2_with fail;refine c4.mono ?_;rintro e w4 ⟨rfl,hfin⟩;go_wp2
    exact hfin
 . rw [if_neg hp,if_neg hp] at c1;rw [if_pos hp] at HE;have HEE:Hid (unlinkE s d nm=entryE s d nm):=HE.out;have HP0:Hid (entryE s d nm ≠ 0):=hp
   have hq:(entryE s d nm != 0)=true:=by simpa using hp
   generalize ActPost n fb c (if unlinkE s d nm=0 then dropP s d nm (find nm (entsOf s d)) else s) (if unlinkE s d nm=0 then fogU (dropP s d nm (find nm (entsOf s d))) U (find nm (entsOf s d)) else U) (unlinkE s d nm) w=Post at *
   generalize entryE s d nm=pe at *;clear h hf ht HE hp;go_enter Tryz.func49,Tryz.ntmps49;go_wp2_with fail;refine c1.mono ?_;rintro e w1 ⟨rfl,hb⟩;go_wp2
   exact HK.out _ _ HEE.out HP0.out hb
theorem rmdir7 (h0:FsAt n w fb c s U) (hf:Wf s c) (ht:Tree s) (hc:c<=800) (d:Int) (hd:(Lit.int .i64 d).wf=true) (nm:ByteArray) (hn:nm.size<=10000) :
 Calls Tryz.prog 51 #[ptr fb,.int .i64 d,.string nm] w (ActPost n fb c (if rmdirE s d nm=0 then dropP s d nm (find nm (entsOf s d)) else s) (if rmdirE s d nm=0 then fogU (dropP s d nm (find nm (entsOf s d))) U (find nm (entsOf s d)) else U) (rmdirE s d nm) w):=by
 obtain ⟨sb,ub,B,h⟩:=h0
 have c1:=entry7 h hf ht (by omega) d hd nm hn
 have HK:Hid (∀ r w1,rmdirE s d nm=r->r ≠ 0->Below w.heap.size w w1->ActPost n fb c (if rmdirE s d nm=0 then dropP s d nm (find nm (entsOf s d)) else s) (if rmdirE s d nm=0 then fogU (dropP s d nm (find nm (entsOf s d))) U (find nm (entsOf s d)) else U) (rmdirE s d nm) w (.returned (.int .i64 r)) w1):=fun r w1 h1 h2 hb =>
  ⟨by rw [h1],by rw [h1,if_neg h2,if_neg h2];exact (h.on hb).at,.on hb⟩
 have HE:Hid (rmdirE s d nm=if entryE s d nm ≠ 0 then entryE s d nm else if isDir s (find nm (entsOf s d))=false then 20 else if 0 < (entsOf s (find nm (entsOf s d))).length then 66 else 0):=rfl
 by_cases hp:entryE s d nm=0
 . rw [hp,if_neg (by simp)] at HE
   rw [hp,if_pos rfl,if_pos rfl] at c1;obtain ⟨hp1,hh⟩:=entryE_ok hp;have hp2:=(placeE_ok hp1).1;obtain ⟨_,_,j,kn,_,_,hj,hkn,_⟩:=entry_node hf ht hh
   have hkw:=ino_wf hf (by omega) (look_mem hj).1
   rw [<- hkn] at hkw;obtain ⟨db,edb,_⟩:=drop_end h hf ht hc hp2 hh;rw [edb] at c1
   have HX:Hid (∀ w1,Below w.heap.size w w1->w1.cell? ⟨fb,0,none⟩=some (ptr sb)):=fun w1 hb=>(h.on hb).box.cell 0 rfl
   have HD:Hid (∀ w1,Below w.heap.size w w1->Calls Tryz.prog 87 #[ptr sb,.int .i64 (find nm (entsOf s d))] w1 fun e w'=>e=.returned (dirV B s (find nm (entsOf s d)))/\w'=w1):=fun w1 hb=>dir_at (h.on hb).store _ hkw
   have HLn:Hid (isDir s (find nm (entsOf s d))=true->∀ w1,Below w.heap.size w w1->Calls Tryz.prog 98 #[ptr (B (find nm (entsOf s d)).toNat)] w1 fun e w'=>e=.returned (.int .i64 ((entsOf s (find nm (entsOf s d))).length:Int))/\w'=w1):=fun h1 w1 hb=>by
    have hk2:kn.kind=2:=by unfold isDir at h1;rw [hj] at h1;simpa using h1
    obtain ⟨v,h2,_⟩:=(h.on hb).store.dir hf hj hk2;have e1:entsOf s (find nm (entsOf s d))=kn.ds:=ents_look hj;rw [e1,hkn,Int.toNat_natCast]
    exact len_any 0 _ v kn.ds w1 h2
   have HGo:Hid (rmdirE s d nm=0->∀ w1,Below w.heap.size w w1->Calls Tryz.prog 95 #[ptr db,.string nm] w1 fun e w2=>(∃ r,e=.returned r)/\Calls Tryz.prog 96 #[ptr fb,.int .i64 (find nm (entsOf s d))] w2 fun e w3=>e=.returned (.tuple #[])/\ActPost n fb c (if rmdirE s d nm=0 then dropP s d nm (find nm (entsOf s d)) else s) (if rmdirE s d nm=0 then fogU (dropP s d nm (find nm (entsOf s d))) U (find nm (entsOf s d)) else U) (rmdirE s d nm) w (.returned (.int .i64 0)) w3):=fun h1 w1 hb=>by
    obtain ⟨db',e1,c2⟩:=drop_end (h.on hb) hf ht hc hp2 hh;rw [edb] at e1
    cases e1
    refine c2.mono ?_;rintro e w2 ⟨h2,c3⟩
    refine ⟨h2,c3.mono ?_⟩
    rintro e w3 ⟨h3,h4,h5⟩
    exact ⟨h3,by rw [h1],by rw [h1,if_pos rfl,if_pos rfl];exact h4,(Turns.on hb).trans h5⟩
   unfold dirV at HD
   generalize ActPost n fb c (if rmdirE s d nm=0 then dropP s d nm (find nm (entsOf s d)) else s) (if rmdirE s d nm=0 then fogU (dropP s d nm (find nm (entsOf s d))) U (find nm (entsOf s d)) else U) (rmdirE s d nm) w=Post at *
   generalize rmdirE s d nm=ue at *;clear h hf ht hkn hj hp hp1 hp2 hh edb hkw;generalize find nm (entsOf s d)=fk at *
   cases hi:isDir s fk with
   | false =>
    rw [hi,if_pos rfl] at HE
    rw [hi,if_neg (by simp)] at HD
    have HEE:Hid (ue=20):=HE.out;clear HE HGo HLn hi;go_enter Tryz.func51,Tryz.ntmps51;go_wp2_with fail;refine c1.mono ?_;rintro e w1 ⟨rfl,hb⟩;have x0:=HX.out w1 hb;have c2:=HD.out w1 hb;go_wp2_with fail;refine c2.mono ?_;rintro e w2 ⟨rfl,hw2⟩;subst w2;go_wp2
    exact HK.out _ _ HEE.out (by decide) hb
   | true =>
    rw [hi,if_neg (by simp)] at HE
    rw [hi,if_pos rfl] at HD;have HL2:Hid _:=HLn.out hi;clear HLn hi;generalize B fk.toNat=kb at *
    by_cases hl:0 < (entsOf s fk).length
    . rw [if_pos hl] at HE;have HEE:Hid (ue=66):=HE.out
      have hlz:(0:Int) < ((entsOf s fk).length:Int):=by omega
      clear HE HGo;generalize (entsOf s fk).length=ln at *;go_enter Tryz.func51,Tryz.ntmps51;go_wp2_with fail;refine c1.mono ?_;rintro e w1 ⟨rfl,hb⟩;have x0:=HX.out w1 hb;have c2:=HD.out w1 hb;have c5:=HL2.out w1 hb;go_wp2_with fail;refine c2.mono ?_;rintro e w2 ⟨rfl,hw2⟩;subst w2;go_wp2_with fail;refine c5.mono ?_;rintro e w2 ⟨rfl,hw2⟩;subst w2;go_wp2
      exact HK.out _ _ HEE.out (by decide) hb
    . rw [if_neg hl] at HE;have HG2:Hid _:=HGo.out HE.out
      have hlz:(entsOf s fk).length=0:=by omega
      rw [hlz] at HL2;clear HE HGo hl hlz;go_enter Tryz.func51,Tryz.ntmps51;go_wp2_with fail;refine c1.mono ?_;rintro e w1 ⟨rfl,hb⟩;have x0:=HX.out w1 hb;have c2:=HD.out w1 hb;have c3:=HG2.out w1 hb;have c5:=HL2.out w1 hb;go_wp2_with fail;refine c2.mono ?_;rintro e w2 ⟨rfl,hw2⟩;subst w2;go_wp2_with fail;refine c5.mono ?_;rintro e w2 ⟨rfl,hw2⟩;subst w2;go_wp2_with fail;refine c3.mono ?_;rintro e w3 ⟨⟨r,rfl⟩,c4⟩;go_wp2_with fail;refine c4.mono ?_;rintro e w4 ⟨rfl,hfin⟩
      go_wp2
      exact hfin
 . rw [if_neg hp,if_neg hp] at c1;rw [if_pos hp] at HE;have HEE:Hid (rmdirE s d nm=entryE s d nm):=HE.out;have HP0:Hid (entryE s d nm ≠ 0):=hp
   have hq:(entryE s d nm != 0)=true:=by simpa using hp
   generalize ActPost n fb c (if rmdirE s d nm=0 then dropP s d nm (find nm (entsOf s d)) else s) (if rmdirE s d nm=0 then fogU (dropP s d nm (find nm (entsOf s d))) U (find nm (entsOf s d)) else U) (rmdirE s d nm) w=Post at *
   generalize entryE s d nm=pe at *;clear h hf ht HE hp;go_enter Tryz.func51,Tryz.ntmps51;go_wp2_with fail;refine c1.mono ?_;rintro e w1 ⟨rfl,hb⟩;go_wp2
   exact HK.out _ _ HEE.out HP0.out hb
end
section
variable {n fb sb ub c:Nat} {w:World} {s:SS} {B:Nat->Nat} {U:Int->Int}
theorem FsM.count (h:FsM n w fb sb ub c s B U) {s':SS} {E:Nat} {e:Ending} {w':World} (hp:CountPost (Lo.but n ub) sb s' E w e w'):ActPost n fb c s' U (E:Nat) w e w':=by
 obtain ⟨h1,h2,h3⟩:=hp;obtain ⟨B',h2⟩:=h2.boxes
 exact ⟨h1,(h.turned h2 h3).at,FsM.less h3⟩
theorem hold7 (h0:FsAt n w fb c s U) (hf:Wf s c) (hc:c<=800) (x:Int) (hw:(Lit.int .i64 x).wf=true):Calls Tryz.prog 55 #[ptr fb,.int .i64 x] w (ActPost n fb c (moreS s x false) U (moreE s x false:Nat) w):=by
 obtain ⟨sb,ub,B,h⟩:=h0;have c1:=inodes_any h
 have c2:=(hold_any h.store.at hf (by omega) x hw).mono fun e w' hp=>h.count hp
 have HP:Hid (∀ e w',ActPost n fb c (moreS s x false) U (moreE s x false:Nat) w e w'->∃ r,e=.returned r/\ActPost n fb c (moreS s x false) U (moreE s x false:Nat) w (.returned r) w'):=fun e w' hp=>⟨_,hp.1,rfl,hp.2⟩
 generalize ActPost n fb c (moreS s x false) U (moreE s x false:Nat) w=Post at *;clear h hf;go_enter Tryz.func55,Tryz.ntmps55;go_wp2_with fail;refine c1.mono ?_;rintro e w1 ⟨rfl,hw1⟩;subst w1;go_wp2_with fail;refine c2.mono ?_
 intro e w2 hp
 obtain ⟨r,rfl,hr⟩:=HP.out e w2 hp;go_wp2
 exact hr
theorem write7 (h0:FsAt n w fb c s U) (hf:Wf s c) (x off:Int) (hw:(Lit.int .i64 x).wf=true) (hoff:(Lit.int .i64 off).wf=true) (p:Option Addr) (cap:Nat) (D:List UInt8) (hD:D.length<=1000000) (hcap:D.length<=cap) (hat:At w p (bytesV D)) (ho:Off (.up n) w p) :
 Calls Tryz.prog 59 #[ptr fb,.int .i64 x,.int .i64 off,.slice p D.length cap] w (ActPost n fb c (writeS s x off D) U (writeE s x off D:Nat) w):=by
 obtain ⟨sb,ub,B,h⟩:=h0;have c1:=inodes_any h
 have c2:=(write_any6 h.store.at hf x off hw hoff p cap D hD hcap hat (fun b off e=>(ho b off e).imp (fun h7 h8=>h7 h8.1) id)).mono fun e w' hp=>h.count hp
 have HP:Hid (∀ e w',ActPost n fb c (writeS s x off D) U (writeE s x off D:Nat) w e w'->∃ r,e=.returned r/\ActPost n fb c (writeS s x off D) U (writeE s x off D:Nat) w (.returned r) w'):=fun e w' hp=>⟨_,hp.1,rfl,hp.2⟩
 generalize ActPost n fb c (writeS s x off D) U (writeE s x off D:Nat) w=Post at *;generalize D.length=dl at *;clear h hf hat ho;go_enter Tryz.func59,Tryz.ntmps59;go_wp2_with fail;refine c1.mono ?_;rintro e w1 ⟨rfl,hw1⟩;subst w1;go_wp2_with fail;refine c2.mono ?_
 intro e w2 hp
 obtain ⟨r,rfl,hr⟩:=HP.out e w2 hp;go_wp2
 exact hr
theorem trunc7 (h0:FsAt n w fb c s U) (hf:Wf s c) (x m:Int) (hw:(Lit.int .i64 x).wf=true) :
 Calls Tryz.prog 61 #[ptr fb,.int .i64 x,.int .i64 m] w (ActPost n fb c (truncS s x m) U (truncE s x m:Nat) w):=by
 obtain ⟨sb,ub,B,h⟩:=h0;have c1:=inodes_any h
 have c2:=(trunc_any6 h.store.at hf x m hw).mono fun e w' hp=>h.count hp
 have HP:Hid (∀ e w',ActPost n fb c (truncS s x m) U (truncE s x m:Nat) w e w'->∃ r,e=.returned r/\ActPost n fb c (truncS s x m) U (truncE s x m:Nat) w (.returned r) w'):=fun e w' hp=>⟨_,hp.1,rfl,hp.2⟩
 generalize ActPost n fb c (truncS s x m) U (truncE s x m:Nat) w=Post at *;clear h hf;go_enter Tryz.func61,Tryz.ntmps61;go_wp2_with fail;refine c1.mono ?_;rintro e w1 ⟨rfl,hw1⟩;subst w1;go_wp2_with fail;refine c2.mono ?_
 intro e w2 hp
 obtain ⟨r,rfl,hr⟩:=HP.out e w2 hp;go_wp2
 exact hr
def relE (s:SS) (x:Int):Nat:=if x=1/\holdsOf s x=1 then 22 else lessE s x false
theorem release7 (h0:FsAt n w fb c s U) (hf:Wf s c) (hc:c<=800) (x:Int) (hw:(Lit.int .i64 x).wf=true):Calls Tryz.prog 57 #[ptr fb,.int .i64 x] w (ActPost n fb c (if relE s x=0 then lessS s x false else s) (if relE s x=0 then fogU (lessS s x false) U x else U) (relE s x:Nat) w):=by
 obtain ⟨sb,ub,B,h⟩:=h0;have c1:=inodes_any h
 have c2:=stat_any h.store.at hf (by omega) x hw
 obtain ⟨za,zb,est⟩:=statS_is s x;rw [est] at c2
 have hal:Hid (∀ w1:World,Below w.heap.size w w1->Below w.heap.size w (w1.alloc (.cells #[.int .i64 (kindOf s x:Nat),.int .i64 za,.int .i64 (linksOf s x:Nat),.int .i64 (holdsOf s x:Nat),.int .i64 zb] 131))):=fun w1 hb=>on_trans hb (on_alloc w1 _)
 have HR:Hid (∀ w1,Below w.heap.size w w1->¬ (x=1/\holdsOf s x=1)->Calls Tryz.prog 78 #[ptr sb,.int .i64 x] w1 fun e w2=>e=.returned (.int .i64 (lessE s x false:Nat))/\(lessE s x false ≠ 0->ActPost n fb c (if relE s x=0 then lessS s x false else s) (if relE s x=0 then fogU (lessS s x false) U x else U) (relE s x:Nat) w (.returned (.int .i64 (lessE s x false:Nat))) w2) ∧
  (lessE s x false=0->Calls Tryz.prog 105 #[ptr fb,.int .i64 x] w2 fun e w3=>e=.returned (.tuple #[])/\ActPost n fb c (if relE s x=0 then lessS s x false else s) (if relE s x=0 then fogU (lessS s x false) U x else U) (relE s x:Nat) w (.returned (.int .i64 0)) w3)):=fun w1 hb hne=>by
  have er:relE s x=lessE s x false:=if_neg hne
  refine (release_any (h.on hb).store.at hf (by omega) x hw).mono ?_
  rintro e w2 ⟨rfl,h1,h2⟩;obtain ⟨B',h1⟩:=h1.boxes;have h3:=(h.on hb).turned h1 h2
  refine ⟨rfl,fun h4=>⟨by rw [er],?_,(Turns.on hb).trans (FsM.less h2)⟩,fun h4=>(forget7 h3 x hw).mono ?_⟩
  . have e1:lessS s x false=s:=by
     unfold lessE at h4;unfold lessS
     cases hx:look s x with
     | none=>rfl
     | some y =>
      obtain ⟨i,nd⟩:=y;rw [hx] at h4
      show (if _ then _ else _)=_
      by_cases h5:nd.cnt false=0
      . rw [if_pos h5]
      . simp only [if_neg h5] at h4;exact absurd rfl h4
    rw [er,if_neg h4,if_neg h4];rw [e1] at h3
    exact h3.at
  . rintro e w3 ⟨rfl,h5,h6⟩
    refine ⟨rfl,by rw [er,h4];rfl,by rw [er,h4,if_pos rfl,if_pos rfl];exact h5,((Turns.on hb).trans (FsM.less h2)).trans h6⟩
 have HK:Hid ((x=1/\holdsOf s x=1)->∀ w1,Below w.heap.size w w1->ActPost n fb c (if relE s x=0 then lessS s x false else s) (if relE s x=0 then fogU (lessS s x false) U x else U) (relE s x:Nat) w (.returned (.int .i64 22)) w1):=fun h1 w1 hb=>by
  have er:relE s x=22:=if_pos h1
  exact ⟨by rw [er];rfl,by rw [er];exact (h.on hb).at,.on hb⟩
 generalize ActPost n fb c (if relE s x=0 then lessS s x false else s) (if relE s x=0 then fogU (lessS s x false) U x else U) (relE s x:Nat) w=Post at *
 clear h hf est
 by_cases hq:x=1/\holdsOf s x=1
 . have HK2:Hid _:=HK.out hq;obtain ⟨rfl,hh⟩:=hq
   have hhz:((holdsOf s 1:Nat):Int)=1:=by omega
   clear HR HK hh;generalize ((kindOf s 1:Nat):Int)=zk at *;generalize ((linksOf s 1:Nat):Int)=zl at *;generalize ((holdsOf s 1:Nat):Int)=zh at *;generalize ((statE s 1:Nat):Int)=ze at *;subst hhz;go_enter Tryz.func57,Tryz.ntmps57;go_wp2_with fail;refine c1.mono ?_;rintro e w1 ⟨rfl,hw1⟩;subst w1;go_wp2_with fail;refine c2.mono ?_;rintro e w1 ⟨rfl,hb⟩;have hb2:=hal.out w1 hb;go_wp2
   exact HK2.out _ hb2
 . have HR2:Hid (∀ w1,Below w.heap.size w w1->_):=fun w1 hb=>HR.out w1 hb hq
   have hor:¬ x=1 ∨ (x=1/\¬ ((holdsOf s x:Nat):Int)=1):=by omega
   clear HR HK hq;generalize ((kindOf s x:Nat):Int)=zk at *;generalize ((linksOf s x:Nat):Int)=zl at *;generalize ((holdsOf s x:Nat):Int)=zh at *;generalize ((statE s x:Nat):Int)=ze at *
   by_cases hl:lessE s x false=0
   . rw [hl] at HR2
     rcases hor with hx | ⟨rfl,hx⟩
     . go_enter Tryz.func57,Tryz.ntmps57;go_wp2_with fail;refine c1.mono ?_;rintro e w1 ⟨rfl,hw1⟩;subst w1;go_wp2_with fail;refine c2.mono ?_;rintro e w1 ⟨rfl,hb⟩;have hb2:=hal.out w1 hb;have c3:=HR2.out _ hb2;go_wp2_with fail;refine c3.mono ?_;rintro e w2 ⟨rfl,_,h2⟩;have c4:=h2 trivial;clear h2;go_wp2_with fail;refine c4.mono ?_;rintro e w3 ⟨rfl,hfin⟩;go_wp2
       exact hfin
     . have hxb:(zh == 1)=false:=by simpa using hx
       go_enter Tryz.func57,Tryz.ntmps57;go_wp2_with fail;refine c1.mono ?_;rintro e w1 ⟨rfl,hw1⟩;subst w1;go_wp2_with fail;refine c2.mono ?_;rintro e w1 ⟨rfl,hb⟩;have hb2:=hal.out w1 hb;have c3:=HR2.out _ hb2;go_wp2_with fail;refine c3.mono ?_;rintro e w2 ⟨rfl,_,h2⟩;have c4:=h2 trivial;clear h2;go_wp2_with fail;refine c4.mono ?_;rintro e w3 ⟨rfl,hfin⟩;go_wp2
       exact hfin
   . have hlz:¬ ((lessE s x false:Nat):Int)=0:=by omega
     have HL0:Hid (lessE s x false ≠ 0):=hl
     have hlb:(((lessE s x false:Nat):Int) == 0)=false:=by simpa using hlz
     rcases hor with hx | ⟨rfl,hx⟩
     . go_enter Tryz.func57,Tryz.ntmps57;go_wp2_with fail;refine c1.mono ?_;rintro e w1 ⟨rfl,hw1⟩;subst w1;go_wp2_with fail;refine c2.mono ?_;rintro e w1 ⟨rfl,hb⟩;have hb2:=hal.out w1 hb;have c3:=HR2.out _ hb2;go_wp2_with fail;refine c3.mono ?_;rintro e w2 ⟨rfl,h1,_⟩;have hfin:=h1 HL0.out;clear h1;generalize ((lessE s x false:Nat):Int)=le at *;go_wp2
       exact hfin
     . have hxb:(zh == 1)=false:=by simpa using hx
       go_enter Tryz.func57,Tryz.ntmps57;go_wp2_with fail;refine c1.mono ?_;rintro e w1 ⟨rfl,hw1⟩;subst w1;go_wp2_with fail;refine c2.mono ?_;rintro e w1 ⟨rfl,hb⟩;have hb2:=hal.out w1 hb;have c3:=HR2.out _ hb2;go_wp2_with fail;refine c3.mono ?_;rintro e w2 ⟨rfl,h1,_⟩;have hfin:=h1 HL0.out;clear h1;generalize ((lessE s 1 false:Nat):Int)=le at *;go_wp2
       exact hfin
end
end Go.Proofs.YthlaoaaafafafaaGreat
