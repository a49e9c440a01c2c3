/- Ours. -/
import Derived.Test.YthlaoaaafafafaaGreatF1
set_option maxRecDepth 100000
set_option maxHeartbeats 16000000
namespace Go.Proofs.YthlaoaaafafafaaGreat
open Go Go.RowKit Go.Maps
def dirV (B:Nat->Nat) (s:SS) (x:Int):Value:=if isDir s x=true then .pointer (some ⟨B x.toNat,0,none⟩) else .pointer none
theorem dir_at {hi:Lo} {sb:Nat} {w:World} {s:SS} {B:Nat->Nat} (h:StoreB hi w sb s B) (x:Int) (hw:(Lit.int .i64 x).wf=true):Calls Tryz.prog 87 #[ptr sb,.int .i64 x] w fun e w'=>e=.returned (dirV B s x)/\w'=w:=by
 obtain ⟨mb,D,Fs,h,hB⟩:=h;unfold dirV isDir
 cases hx:look s x with
 | none =>
  have c:=find_no h x hw (look_none hx).2;clear h hx hB
  show Calls _ _ _ _ fun e w'=>e=.returned (.pointer none)/\w'=w
  go_enter Tryz.func87,Tryz.ntmps87;go_wp2_with fail;refine c.mono ?_;rintro e w' ⟨rfl,rfl⟩;go_wp2
  go_ret
  exact ⟨rfl,rfl⟩
 | some y =>
  obtain ⟨i,n⟩:=y;obtain ⟨hi',rfl,hxe,_⟩:=look_some hx;have hm:=List.getElem_mem hi';have c:=find_yes h hm;obtain ⟨fp,dp,hBk,hbd⟩:=h.node _ hm;have y4:=hBk.cell 4 rfl;rw [hxe] at c
  have HP:Hid (dp=if (s.L[i].kind == 2)=true then .pointer (some ⟨B x.toNat,0,none⟩) else .pointer none):=by
   rcases hbd with ⟨h1,h2,_⟩ | ⟨h1,_,_,db,h4,_⟩ | h7
   . rw [h1];exact h2
   . rw [show (s.L[i].kind == 2)=true by rw [h1];rfl,if_pos rfl]
     obtain ⟨cs,h5,h6⟩:=hB _ hm h1
     have ecs:cs=ndC s.L[i] fp dp:=by
      have:=h5.row.symm.trans hBk.row
      simpa using this
     rw [ecs] at h6
     have:dp=.pointer (some ⟨B s.L[i].ino,0,none⟩):=by simpa [ndC] using h6
     rw [this,<- hxe,Int.toNat_natCast]
     exact rfl
   . rw [if_neg (by simpa using h7.2.1)];exact h7.2.2.2.1
  show Calls _ _ _ _ fun e w'=>e=.returned (if (s.L[i].kind == 2)=true then .pointer (some ⟨B x.toNat,0,none⟩) else .pointer none)/\w'=w
  rw [<- HP.out];generalize gOf D s.L[i].ino=g at *;clear h hBk hm hx hxe HP hbd hB;go_enter Tryz.func87,Tryz.ntmps87;go_wp2_with fail;refine c.mono ?_;rintro e w' ⟨rfl,rfl⟩;go_wp2
  go_ret
  exact ⟨rfl,rfl⟩
section
variable {n fb sb ub c:Nat} {w:World} {s:SS} {B:Nat->Nat} {U:Int->Int}
theorem inodes_any (h:FsM n w fb sb ub c s B U):Calls Tryz.prog 36 #[ptr fb] w fun e w'=>e=.returned (ptr sb)/\w'=w:=by
 have x0:=h.box.cell 0 rfl;clear h;go_enter Tryz.func36,Tryz.ntmps36;go_wp2
 go_ret
 exact ⟨rfl,rfl⟩
def dirE (s:SS) (x:Int):Nat:=match look s x with | none=>2 | some (_,n)=>if n.kind=2 then (if x ≠ 1/\n.links=0 then 2 else 0) else 20
def entsOf (s:SS) (x:Int):List IEnt:=match look s x with | none=>[] | some (_,n)=>n.ds
def kindOf (s:SS) (x:Int):Nat:=match look s x with | none=>0 | some (_,n)=>n.kind
theorem dirE_ok {s:SS} {x:Int} (h:dirE s x=0):∃ i n,look s x=some (i,n)/\n.kind=2/\(x=1 ∨ 1<=n.links):=by
 unfold dirE at h
 cases hx:look s x with
 | none=>rw [hx] at h;cases h
 | some y =>
  obtain ⟨i,n⟩:=y;rw [hx] at h
  by_cases hk:n.kind=2
  . simp only [if_pos hk] at h
    by_cases h1:x ≠ 1/\n.links=0
    . rw [if_pos h1] at h;cases h
    . exact ⟨i,n,rfl,hk,by omega⟩
  . simp only [if_neg hk] at h;cases h
theorem into_any (h:FsM n w fb sb ub c s B U) (hf:Wf s c) (hc:c<=1000000) (x:Int) (hw:(Lit.int .i64 x).wf=true):Calls Tryz.prog 80 #[ptr fb,.int .i64 x] w fun e w'=>e=.returned (.tuple #[if dirE s x=0 then dirV B s x else .pointer none,.int .i64 (dirE s x:Nat)])/\Below w.heap.size w w':=by
 have c1:=inodes_any h;have c2:=stat_any h.store.at hf hc x hw
 have HD:Hid (∀ w1,Below w.heap.size w w1->Calls Tryz.prog 87 #[ptr sb,.int .i64 x] w1 fun e w'=>e=.returned (dirV B s x)/\w'=w1):=fun w1 hb=>dir_at (h.store.on hb) x hw
 obtain ⟨dv,hdv⟩:∃ dv,dirV B s x=dv:=⟨_,rfl⟩;rw [hdv] at HD ⊢;unfold dirE
 cases hx:look s x with
 | none =>
  have e1:statS s x=stat0:=by unfold statS;rw [hx]
  have e2:statE s x=2:=by unfold statE;rw [hx]
  rw [e1,e2] at c2
  show Calls _ _ _ _ fun e w'=>e=.returned (.tuple #[.pointer none,.int .i64 2])/\_
  simp only [stat0] at c2
  clear h hf hx e1 e2 hdv HD;go_enter Tryz.func80,Tryz.ntmps80;go_wp2_with fail;refine c1.mono ?_;rintro e w1 ⟨rfl,hw1⟩;subst w1;go_wp2_with fail;refine c2.mono ?_;rintro e w1 ⟨rfl,hb⟩;have hb2:=on_trans hb (on_alloc w1 (.cells #[.int .i64 0,.int .i64 0,.int .i64 0,.int .i64 0,.int .i64 0] 131));go_wp2
  go_ret2
  exact ⟨rfl,hb2⟩
 | some y =>
  obtain ⟨i,nd⟩:=y
  have e1:statS s x=statC nd:=by unfold statS;rw [hx]
  have e2:statE s x=0:=by unfold statE;rw [hx]
  rw [e1,e2] at c2
  simp only [statC] at c2
  have HP:Hid ((if nd.kind=2 then (if x ≠ 1/\nd.links=0 then 2 else 0) else 20:Nat)=if nd.kind=2 then (if x ≠ 1/\nd.links=0 then 2 else 0) else 20):=rfl
  show Calls _ _ _ _ fun e w'=>e=.returned (.tuple #[if (if nd.kind=2 then (if x ≠ 1/\nd.links=0 then 2 else 0) else 20:Nat)=0 then dv else .pointer none,.int .i64 ((if nd.kind=2 then (if x ≠ 1/\nd.links=0 then 2 else 0) else 20:Nat):Int)])/\_
  have hal:∀ w1:World,Below w.heap.size w w1->Below w.heap.size w (w1.alloc (.cells #[.int .i64 nd.kind,.int .i64 nd.size,.int .i64 nd.links,.int .i64 nd.holds,.int .i64 nd.f.blocks] 131)):=fun w1 hb=>on_trans hb (on_alloc w1 _)
  have HAL:Hid _:=hal;clear hal
  by_cases hk:nd.kind=2
  . rw [if_pos hk]
    have hkz:(nd.kind:Int)=2:=by omega
    by_cases h1:x ≠ 1/\nd.links=0
    . rw [if_pos h1]
      have hlz:(nd.links:Int)=0:=by omega
      have hxn:¬ x=1:=h1.1
      show Calls _ _ _ _ fun e w'=>e=.returned (.tuple #[.pointer none,.int .i64 2])/\_
      clear h hf hx e1 e2 hdv HD h1 hk HP;generalize (nd.kind:Int)=zk at *;generalize (nd.size:Int)=zs at *;generalize (nd.links:Int)=zl at *;generalize (nd.holds:Int)=zh at *;generalize (nd.f.blocks:Int)=zb at *;subst hkz hlz;go_enter Tryz.func80,Tryz.ntmps80;go_wp2_with fail;refine c1.mono ?_;rintro e w1 ⟨rfl,hw1⟩;subst w1;go_wp2_with fail;refine c2.mono ?_;rintro e w1 ⟨rfl,hb⟩;have hb2:=HAL.out w1 hb;go_wp2
      go_ret2
      exact ⟨rfl,hb2⟩
    . rw [if_neg h1]
      show Calls _ _ _ _ fun e w'=>e=.returned (.tuple #[dv,.int .i64 0])/\_
      have hor:x=1 ∨ (¬ x=1/\¬ (nd.links:Int)=0):=by omega
      clear h hf hx e1 e2 hdv h1 hk HP;generalize (nd.kind:Int)=zk at *;generalize (nd.size:Int)=zs at *;generalize (nd.links:Int)=zl at *;generalize (nd.holds:Int)=zh at *;generalize (nd.f.blocks:Int)=zb at *;subst hkz
      rcases hor with rfl | ⟨hx1,hl1⟩
      . go_enter Tryz.func80,Tryz.ntmps80;go_wp2_with fail;refine c1.mono ?_;rintro e w1 ⟨rfl,hw1⟩;subst w1;go_wp2_with fail;refine c2.mono ?_;rintro e w1 ⟨rfl,hb⟩;have hb2:=HAL.out w1 hb;have cD:=HD.out _ hb2;go_wp2_with fail;refine cD.mono ?_;rintro e w2 ⟨rfl,hw2⟩;subst w2;go_wp2
        go_ret2
        exact ⟨rfl,hb2⟩
      . have hlb:(zl == 0)=false:=by simpa using hl1
        go_enter Tryz.func80,Tryz.ntmps80;go_wp2_with fail;refine c1.mono ?_;rintro e w1 ⟨rfl,hw1⟩;subst w1;go_wp2_with fail;refine c2.mono ?_;rintro e w1 ⟨rfl,hb⟩;have hb2:=HAL.out w1 hb;have cD:=HD.out _ hb2;go_wp2_with fail;refine cD.mono ?_;rintro e w2 ⟨rfl,hw2⟩;subst w2;go_wp2
        go_ret2
        exact ⟨rfl,hb2⟩
  . rw [if_neg hk]
    have hkz:¬ (nd.kind:Int)=2:=by omega
    show Calls _ _ _ _ fun e w'=>e=.returned (.tuple #[.pointer none,.int .i64 20])/\_
    clear h hf hx e1 e2 hdv HD hk HP;generalize (nd.kind:Int)=zk at *;generalize (nd.size:Int)=zs at *;generalize (nd.links:Int)=zl at *;generalize (nd.holds:Int)=zh at *;generalize (nd.f.blocks:Int)=zb at *;go_enter Tryz.func80,Tryz.ntmps80;go_wp2_with fail;refine c1.mono ?_;rintro e w1 ⟨rfl,hw1⟩;subst w1;go_wp2_with fail;refine c2.mono ?_;rintro e w1 ⟨rfl,hb⟩;have hb2:=HAL.out w1 hb;go_wp2
    go_ret2
    exact ⟨rfl,hb2⟩
end
def placeE (s:SS) (x:Int) (nm:ByteArray):Int:=if dirE s x=0 then nameE nm else (dirE s x:Nat)
def entryE (s:SS) (x:Int) (nm:ByteArray):Int:=if placeE s x nm=0 then (if has nm (entsOf s x)=true then 0 else 2) else placeE s x nm
theorem placeE_ok {s:SS} {x:Int} {nm:ByteArray} (h:placeE s x nm=0):dirE s x=0/\nameE nm=0:=by
 unfold placeE at h
 by_cases h0:dirE s x=0
 . rw [if_pos h0] at h;exact ⟨h0,h⟩
 . rw [if_neg h0] at h;omega
theorem entryE_ok {s:SS} {x:Int} {nm:ByteArray} (h:entryE s x nm=0):placeE s x nm=0/\has nm (entsOf s x)=true:=by
 unfold entryE at h
 by_cases h0:placeE s x nm=0
 . rw [if_pos h0] at h
   by_cases h1:has nm (entsOf s x)=true
   . exact ⟨h0,h1⟩
   . rw [if_neg h1] at h;omega
 . rw [if_neg h0] at h;exact absurd h h0
section
variable {n fb sb ub c:Nat} {w:World} {s:SS} {B:Nat->Nat} {U:Int->Int}
theorem place7 (h:FsM n w fb sb ub c s B U) (hf:Wf s c) (hc:c<=1000000) (x:Int) (hw:(Lit.int .i64 x).wf=true) (nm:ByteArray) (hn:nm.size<=10000):Calls Tryz.prog 72 #[ptr fb,.int .i64 x,.string nm] w fun e w'=>e=.returned (.tuple #[if placeE s x nm=0 then dirV B s x else .pointer none,.int .i64 (placeE s x nm)])/\Below w.heap.size w w':=by
 have c1:=into_any h hf hc x hw
 have HN:Hid (∀ w1,Calls Tryz.prog 100 #[.string nm] w1 fun e w'=>e=.returned (.int .i64 (nameE nm))/\Below w1.heap.size w1 w'):=fun w1=>name_any nm w1 hn
 unfold placeE;clear h hf;generalize dirV B s x=dv at *;generalize nameE nm=ne at *
 by_cases h0:dirE s x=0
 . rw [h0] at c1 ⊢;rw [if_pos rfl] at c1 ⊢
   by_cases h1:ne=0
   . subst h1;rw [if_pos rfl];clear h0;go_enter Tryz.func72,Tryz.ntmps72;go_wp2_with fail;refine c1.mono ?_;rintro e w1 ⟨rfl,hb⟩;have c2:=HN.out w1;go_wp2_with fail;refine c2.mono ?_;rintro e w2 ⟨rfl,hb2⟩;go_wp2
     go_ret2
     exact ⟨rfl,on_trans hb hb2⟩
   . rw [if_neg h1]
     have hq:(ne != 0)=true:=by simpa using h1
     clear h0 h1;go_enter Tryz.func72,Tryz.ntmps72;go_wp2_with fail;refine c1.mono ?_;rintro e w1 ⟨rfl,hb⟩;have c2:=HN.out w1;go_wp2_with fail;refine c2.mono ?_;rintro e w2 ⟨rfl,hb2⟩;go_wp2
     go_ret2
     exact ⟨rfl,on_trans hb hb2⟩
 . have h0':¬ ((dirE s x:Nat):Int)=0:=by omega
   rw [if_neg h0] at c1;rw [if_neg h0,if_neg h0'];generalize ((dirE s x:Nat):Int)=de at *
   have hq:(de != 0)=true:=by simpa using h0'
   clear h0 h0' HN;go_enter Tryz.func72,Tryz.ntmps72;go_wp2_with fail;refine c1.mono ?_;rintro e w1 ⟨rfl,hb⟩;go_wp2
   go_ret2
   exact ⟨rfl,hb⟩
theorem FsM.into {cw:Nat} (h:FsM n w fb sb ub c s B U) (hf:Wf s cw) {x:Int} (h0:dirE s x=0):∃ i nd v,look s x=some (i,nd)/\nd.kind=2/\(x=1 ∨ 1<=nd.links)/\nd.ds=entsOf s x/\dirV B s x=ptr (B nd.ino)/\DirAt 0 w (B nd.ino) v nd.ds ∧
 ∀ w' v' ds',DirAt 0 w' (B nd.ino) v' ds'->Goes (ownF (B nd.ino) v) (ownF (B nd.ino) v') w w'->FsM n w' fb sb ub c (s.set i (nd.withD ds')) B U/\Turns isP (.up n) w w':=by
 obtain ⟨i,nd,hx,hk,hl⟩:=dirE_ok h0;obtain ⟨v,h1,h2⟩:=h.store.dir hf hx hk
 refine ⟨i,nd,v,hx,hk,hl,by unfold entsOf;rw [hx],?_,h1,fun w' v' ds' h3 h4 => ?_⟩
 . unfold dirV isDir;rw [hx];have e:=(look_mem hx).2
   show (if (nd.kind == 2)=true then _ else _)=_
   rw [if_pos (by rw [hk];rfl),<- e,Int.toNat_natCast]
 . obtain ⟨h5,h6⟩:=h2 w' v' ds' h3 h4
   exact ⟨h.turned h5 h6,FsM.less h6⟩
theorem full_any (d:Nat) (v:Value) (S:List Ent) (h:DirAt 0 w d v S):Calls Tryz.prog 75 #[ptr d] w fun e w'=>e=.returned (.bool (decide (64<=S.length)))/\w'=w:=by
 have c1:=len_any 0 d v S w h
 have e:decide (64<=S.length)=decide ((64:Int)<=(S.length:Int)):=by
  rw [decide_eq_decide];omega
 rw [e];clear h e;go_enter Tryz.func75,Tryz.ntmps75;go_wp2_with fail;refine c1.mono ?_;rintro e w1 ⟨rfl,hw1⟩;subst w1;go_wp2
 go_ret
 exact ⟨rfl,rfl⟩
theorem entry7 (h:FsM n w fb sb ub c s B U) (hf:Wf s c) (ht:Tree s) (hc:c<=1000000) (x:Int) (hw:(Lit.int .i64 x).wf=true) (nm:ByteArray) (hn:nm.size<=10000):Calls Tryz.prog 82 #[ptr fb,.int .i64 x,.string nm] w fun e w'=>e=.returned (.tuple #[if entryE s x nm=0 then dirV B s x else .pointer none,.int .i64 (if entryE s x nm=0 then find nm (entsOf s x) else 0),.int .i64 (entryE s x nm)])/\Below w.heap.size w w':=by
 have c1:=place7 h hf hc x hw nm hn;unfold entryE
 by_cases h0:placeE s x nm=0
 . obtain ⟨i,nd,v,hx,hk,hl,eds,edv,hd,_⟩:=h.into hf (placeE_ok h0).1;have hm:=(look_mem hx).1
   have HF:Hid (∀ w1,Below w.heap.size w w1->Calls Tryz.prog 73 #[ptr (B nd.ino),.string nm] w1 fun e w'=>e=.returned (.tuple #[.int .i64 (find nm (entsOf s x)),.bool (has nm (entsOf s x))])/\Below w1.heap.size w1 w'):=fun w1 hb=>by
    rw [<- eds]
    exact find_any 0 _ v nd.ds nm w1 (by have:=hf.ds _ hm;omega) (ht.sorted _ hm) (hd.on hb)
   rw [h0] at c1 ⊢;rw [if_pos rfl,edv] at c1;rw [if_pos rfl,edv];clear h hf ht hx hd edv h0 eds hk hl hm;generalize B nd.ino=db at *;generalize find nm (entsOf s x)=fd at *
   cases hh:has nm (entsOf s x) with
   | true =>
    rw [hh] at HF;rw [if_pos rfl,if_pos rfl,if_pos rfl];clear hh;go_enter Tryz.func82,Tryz.ntmps82;go_wp2_with fail;refine c1.mono ?_;rintro e w1 ⟨rfl,hb⟩;have c2:=HF.out w1 hb;go_wp2_with fail;refine c2.mono ?_;rintro e w2 ⟨rfl,hb2⟩;go_wp2
    go_ret3
    exact ⟨rfl,on_trans hb hb2⟩
   | false =>
    rw [hh] at HF
    rw [if_neg (by simp)]
    show Calls _ _ _ _ fun e w'=>e=.returned (.tuple #[.pointer none,.int .i64 0,.int .i64 2])/\_
    clear hh;go_enter Tryz.func82,Tryz.ntmps82;go_wp2_with fail;refine c1.mono ?_;rintro e w1 ⟨rfl,hb⟩;have c2:=HF.out w1 hb;go_wp2_with fail;refine c2.mono ?_;rintro e w2 ⟨rfl,hb2⟩;go_wp2
    go_ret3
    exact ⟨rfl,on_trans hb hb2⟩
 . rw [if_neg h0] at c1
   simp only [if_neg h0]
   have hq:(placeE s x nm != 0)=true:=by simpa using h0
   clear h hf ht h0;generalize placeE s x nm=pe at *;go_enter Tryz.func82,Tryz.ntmps82;go_wp2_with fail;refine c1.mono ?_;rintro e w1 ⟨rfl,hb⟩;go_wp2
   go_ret3
   exact ⟨rfl,hb⟩
def EmptyPost (a b:Nat) (w:World) (e:Ending) (w':World):Prop:=∃ sb,e=.returned (ptr sb)/\StoreAt (.up w.heap.size) w' sb (newS a b)/\Below w.heap.size w w'
theorem empty_yes (a b:Nat) (w:World) (h:1<=a/\a<=256/\b<=4096):Calls Tryz.prog 40 #[.int .i64 a,.int .i64 b] w (EmptyPost a b w):=by
 have c1:Calls Tryz.prog 90 #[.int .i64 a,.int .i64 b] w (EmptyPost a b w):=new_yes a b w h
 have HP:Hid (∀ e w',EmptyPost a b w e w'->∃ sb,e=.returned (ptr sb)/\EmptyPost a b w (.returned (ptr sb)) w'):=fun e w' ⟨sb,h1,h2⟩=>⟨sb,h1,sb,rfl,h2⟩
 clear h;generalize EmptyPost a b w=Post at *;go_enter Tryz.func40,Tryz.ntmps40;go_wp2_with fail;refine c1.mono ?_
 intro e w1 hp
 obtain ⟨sb,rfl,hp2⟩:=HP.out e w1 hp;go_wp2
 exact hp2
theorem wrong7 (k:Int) (t:ByteArray) (w:World) (ht:t.size<=9223372036854775807):Calls Tryz.prog 74 #[.int .i64 k,.string t] w fun e w'=>e=.returned (.int .i64 (wrongK k t:Nat))/\Below w.heap.size w w':=by
 have c1:=empty_yes 1 0 w (by omega)
 have HM:Hid (∀ w1 sb,StoreAt (.up w.heap.size) w1 sb (newS 1 0)->Below w.heap.size w w1->Calls Tryz.prog 41 #[ptr sb,.int .i64 k,.string t] w1 fun e w' => ∃ z:Int,e=.returned (.tuple #[.int .i64 z,.int .i64 (wrongK k t:Nat)])/\Below w.heap.size w w'):=fun w1 sb h1 hb=>by
  obtain ⟨B,h2⟩:=h1.boxes
  refine (make_any7 h2 (wf_new (by omega) (by omega)) (by omega) k t ht).mono ?_
  rintro e w2 ⟨rfl,_,h3⟩
  refine ⟨(makeN (newS 1 0) k t:Nat),?_,h3.below hb (Nat.le_refl _) hb.size⟩
  have:makeE (newS 1 0) k t=wrongK k t:=by
   unfold makeE
   by_cases hw:wrongK k t=0
   . rw [if_neg (by simpa using hw),if_neg (by simp [newS]),hw]
   . rw [if_pos hw]
  rw [this]
 generalize ((wrongK k t:Nat):Int)=r at *;go_enter Tryz.func74,Tryz.ntmps74;go_wp2_with fail;refine c1.mono ?_;rintro e w1 ⟨sb,rfl,h1,hb⟩;have c2:=HM.out w1 sb h1 hb;clear h1 HM;go_wp2_with fail;refine c2.mono ?_;rintro e w2 ⟨z,rfl,hb2⟩;go_wp2
 go_ret
 exact ⟨rfl,hb2⟩
def fogU (s:SS) (U:Int->Int) (x:Int):Int->Int:=if isDir s x=true then U else updU U x 0
def UpPost (n fb c:Nat) (s:SS) (U:Int->Int) (w:World) (e:Ending) (w':World):Prop:=e=.returned (.tuple #[])/\FsAt n w' fb c s U/\Turns isP (.up n) w w'
theorem forget7 (h:FsM n w fb sb ub c s B U) (x:Int) (hw:(Lit.int .i64 x).wf=true):Calls Tryz.prog 105 #[ptr fb,.int .i64 x] w (UpPost n fb c s (fogU s U x) w):=by
 have c1:=dir_at h.store x hw;have x0:=h.box.cell 0 rfl;have x1:=h.box.cell 1 rfl;unfold dirV at c1;unfold fogU
 cases hd:isDir s x with
 | true =>
  rw [hd,if_pos rfl] at c1;rw [if_pos rfl];have HP:Hid (UpPost n fb c s U w (.returned (.tuple #[])) w):=⟨rfl,h.at,.refl _ _ _⟩;generalize UpPost n fb c s U w=Post at *;clear h hd;go_enter Tryz.func105,Tryz.ntmps105;go_wp2_with fail;refine c1.mono ?_;rintro e w1 ⟨rfl,hw1⟩;subst w1;go_wp2
  go_end0
  exact HP.out
 | false =>
  rw [hd,if_neg (by simp)] at c1
  rw [if_neg (by simp)]
  obtain ⟨w2,hdel,hu,hg⟩:∃ w',(∀ ty,(Builtin.delete_ #[101,3] ty #[.map (some ub),.int .i64 x]).run Tryz.prog w=.ok (.tuple #[]) w')/\UpM w' ub c (updU U x 0)/\w.grownBy w' (some ub):=by
   obtain ⟨w',h1,h2,h3⟩:=h.up.del hw 0
   exact ⟨w',fun ty=>h1,h2,h3⟩
  obtain ⟨h5,h6⟩:=h.upped hu hg;have HP:Hid (UpPost n fb c s (updU U x 0) w (.returned (.tuple #[])) w2):=⟨rfl,h5.at,h6⟩;generalize UpPost n fb c s (updU U x 0) w=Post at *;clear h hd hu hg h5 h6;go_enter Tryz.func105,Tryz.ntmps105;go_wp2_with fail;refine c1.mono ?_;rintro e w1 ⟨rfl,hw1⟩;subst w1;go_wp2
  go_end0
  exact HP.out
theorem unlink7 {cw:Nat} (h:FsAt n w fb c s U) (hf:Wf s cw) (hc:cw<=1000000) (x:Int) (hw:(Lit.int .i64 x).wf=true):Calls Tryz.prog 96 #[ptr fb,.int .i64 x] w (UpPost n fb c (lessS s x true) (fogU (lessS s x true) U x) w):=by
 obtain ⟨sb,ub,B,h⟩:=h;have c1:=unlink_any h.store.at hf hc x hw;have x0:=h.box.cell 0 rfl
 have H2:Hid (∀ e w1,CountPost (Lo.but n ub) sb (lessS s x true) (lessE s x true) w e w1->∃ r,e=.returned r/\Calls Tryz.prog 105 #[ptr fb,.int .i64 x] w1 (UpPost n fb c (lessS s x true) (fogU (lessS s x true) U x) w)):=fun e w1 ⟨h1,h2,h3⟩=>by
  obtain ⟨B',h4⟩:=h2.boxes
  refine ⟨_,h1,(forget7 (h.turned h4 h3) x hw).mono fun e w2 ⟨h5,h6,h7⟩=>⟨h5,h6,(FsM.less h3).trans h7⟩⟩
 have HP:Hid (∀ e w1,UpPost n fb c (lessS s x true) (fogU (lessS s x true) U x) w e w1->e=.returned (.tuple #[])/\UpPost n fb c (lessS s x true) (fogU (lessS s x true) U x) w (.returned (.tuple #[])) w1):=fun e w1 h1=>⟨h1.1,rfl,h1.2⟩
 generalize UpPost n fb c (lessS s x true) (fogU (lessS s x true) U x) w=Post at *;generalize CountPost (Lo.but n ub) sb (lessS s x true) (lessE s x true) w=Cp at *;clear h hf;go_enter Tryz.func96,Tryz.ntmps96;go_wp2_with fail;refine c1.mono ?_
 intro e w1 hp
 obtain ⟨r,rfl,c2⟩:=H2.out e w1 hp;go_wp2_with fail;refine c2.mono ?_
 intro e w2 hp2
 obtain ⟨rfl,hp3⟩:=HP.out e w2 hp2;go_wp2
 go_end0
 exact hp3
end
def addEnt (s:SS) (d:Int) (nm:ByteArray) (k:Int):SS:=s.upd d fun n=>n.withD (addS nm k n.ds)
def remEnt (s:SS) (d:Int) (nm:ByteArray):SS:=s.upd d fun n=>n.withD (remS nm n.ds)
def putEnt (s:SS) (d:Int) (nm:ByteArray) (k:Int):SS:=s.upd d fun n=>n.withD (setD nm k n.ds)
theorem Wf.ents {s:SS} {c:Nat} (hf:Wf s c) (x:Int) (f:List IEnt->List IEnt) (h:∀ i n,look s x=some (i,n)->(f n.ds).length<=64):Wf (s.upd x fun n=>n.withD (f n.ds)) (c+1):=by
 cases hx:look s x with
 | none=>rw [upd_none hx];exact hf.more (by omega)
 | some y =>
  obtain ⟨i,n⟩:=y;rw [upd_some hf hx];have hl:=h i n hx;obtain ⟨hi,rfl,_,_⟩:=look_some hx;have hm:=List.getElem_mem hi
  refine hf.set hi rfl ?_ (hf.links s.L[i] hm) (by have:=hf.holds _ hm;show s.L[i].holds<=_;omega) (hf.alive s.L[i] hm) rfl rfl hl (hf.file s.L[i] hm)
  have:=sumB_set hi (s.L[i].withD (f s.L[i].ds));have e:(s.L[i].withD (f s.L[i].ds)).f=s.L[i].f:=rfl;rw [e] at this;have:=hf.sum
  omega
theorem look_add {s:SS} {x:Int} {i:Nat} {n:Nd} (N:Nd) (h:look s x=some (i,n)):look (s.add N) x=some (i,n):=by
 obtain ⟨hi,rfl,h1,h2⟩:=look_some h;unfold look
 have e:ix (s.add N).L x=some i:=by
  obtain ⟨h3,h4,h5⟩:=List.findIdx?_eq_some_iff_getElem.1 h2
  refine List.findIdx?_eq_some_iff_getElem.2 ⟨by simp [SS.add];omega,?_,fun j hj => ?_⟩
  . simpa [SS.add,List.getElem_append_left h3] using h4
  . have:=h5 j hj
    simpa [SS.add,List.getElem_append_left (show j < s.L.length by omega)] using this
 rw [e]
 simp [SS.add,List.getElem?_append_left hi,List.getElem?_eq_getElem hi]
theorem addS_len {nm:ByteArray} {k:Int} {ds:List IEnt} (h:ds.length<=64):(addS nm k ds).length<=64:=by
 unfold addS
 split
 . rename_i he
   have hl:¬ 64<=ds.length:=fun h7=>by
    unfold addE at he
    split at he
    . rename_i h0;exact h0 he
    . split at he
      . cases he
      . split at he
        . cases he
        . first | (rw [if_pos h7] at he;cases he) | cases he
   have:=under_le nm ds
   simp only [List.length_append,List.length_take,List.length_cons,List.length_drop]
   omega
 . exact h
theorem remS_len {nm:ByteArray} {ds:List IEnt} (h:ds.length<=64):(remS nm ds).length<=64:=by
 unfold remS
 split
 . simp only [List.length_append,List.length_take,List.length_drop];omega
 . exact h
theorem setD_len {nm:ByteArray} {k:Int} {ds:List IEnt} (h:ds.length<=64):(setD nm k ds).length<=64:=by
 unfold setD
 split
 . rw [List.length_set];exact h
 . exact h
def createE (s:SS) (d:Int) (nm:ByteArray) (kind:Int) (t:ByteArray):Int:=if placeE s d nm ≠ 0 then placeE s d nm else if has nm (entsOf s d)=true then 17 else if wrongK kind t ≠ 0 then (wrongK kind t:Nat) else if 64<=(entsOf s d).length then 28 else if s.most<=s.L.length then 28 else 0
def createP (s:SS) (d:Int) (nm:ByteArray) (kind:Int) (t:ByteArray):SS:=lessS (moreS (addEnt (s.add (freshN s.next kind t)) d nm s.next) s.next true) s.next false
def CreatePost (n fb c:Nat) (s:SS) (U:Int->Int) (d:Int) (nm:ByteArray) (kind:Int) (t:ByteArray) (w:World) (e:Ending) (w':World):Prop :=
 e=.returned (.tuple #[.int .i64 (if createE s d nm kind t=0 then (s.next:Int) else 0),.int .i64 (createE s d nm kind t)])/\FsAt n w' fb (c+1) (if createE s d nm kind t=0 then createP s d nm kind t else s) (if createE s d nm kind t=0/\kind=2 then updU U s.next d else U)/\Turns isP (.up n) w w'
section
variable {n fb sb ub c:Nat} {w:World} {s:SS} {B:Nat->Nat} {U:Int->Int}
theorem create7 (h0:FsAt n w fb c s U) (hf:Wf s c) (ht:Tree s) (hc:c<=800) (d:Int) (hd:(Lit.int .i64 d).wf=true) (nm:ByteArray) (hn:nm.size<=10000) (kind:Int) (t:ByteArray) (htt:t.size<=9223372036854775807) :
 Calls Tryz.prog 30 #[ptr fb,.int .i64 d,.string nm,.int .i64 kind,.string t] w (CreatePost n fb c s U d nm kind t w):=by
 obtain ⟨sb,ub,B,h⟩:=h0
 have c1:=place7 h hf (by omega) d hd nm hn
 have HK:Hid (∀ r w1,createE s d nm kind t=r->r ≠ 0->Below w.heap.size w w1->CreatePost n fb c s U d nm kind t w (.returned (.tuple #[.int .i64 0,.int .i64 r])) w1):=fun r w1 h1 h2 hb =>
  ⟨by rw [h1,if_neg h2],by rw [h1,if_neg h2,if_neg fun h7=>h2 h7.1];exact (h.on hb).at.more (by omega),.on hb⟩
 have HE:Hid (createE s d nm kind t=if placeE s d nm ≠ 0 then placeE s d nm else if has nm (entsOf s d)=true then 17 else if wrongK kind t ≠ 0 then (wrongK kind t:Nat) else if 64<=(entsOf s d).length then 28 else if s.most<=s.L.length then 28 else 0):=rfl
 by_cases hp:placeE s d nm=0
 . rw [hp,if_neg (by simp)] at HE
   rw [hp,if_pos rfl] at c1;obtain ⟨i,dn,v,hx,hk,hl,eds,edv,hd0,hturn⟩:=h.into hf (placeE_ok hp).1;have hm:=(look_mem hx).1;have hname:=(placeE_ok hp).2;rw [edv] at c1;rw [<- eds] at HE;have hfew:=hf.ds _ hm
   have HF:Hid (∀ w1,Below w.heap.size w w1->Calls Tryz.prog 73 #[ptr (B dn.ino),.string nm] w1 fun e w'=>e=.returned (.tuple #[.int .i64 (find nm dn.ds),.bool (has nm dn.ds)])/\Below w1.heap.size w1 w'):=fun w1 hb=>find_any 0 _ v dn.ds nm w1 (by omega) (ht.sorted _ hm) (hd0.on hb)
   have HW:Hid (∀ w1,Calls Tryz.prog 74 #[.int .i64 kind,.string t] w1 fun e w'=>e=.returned (.int .i64 (wrongK kind t:Nat))/\Below w1.heap.size w1 w'):=fun w1=>wrong7 kind t w1 htt
   have HFu:Hid (∀ w1,Below w.heap.size w w1->Calls Tryz.prog 75 #[ptr (B dn.ino)] w1 fun e w'=>e=.returned (.bool (decide (64<=dn.ds.length)))/\w'=w1):=fun w1 hb=>full_any _ v dn.ds (hd0.on hb)
   cases hh:has nm dn.ds with
   | true =>
    rw [hh] at HF HE;have HEE:Hid (createE s d nm kind t=17):=HE.out;generalize CreatePost n fb c s U d nm kind t w=Post at *;generalize find nm dn.ds=fd at *;generalize B dn.ino=db at *;clear h hf ht hx hd0 hturn HE hm HW HFu;go_enter Tryz.func30,Tryz.ntmps30;go_wp2_with fail;refine c1.mono ?_;rintro e w1 ⟨rfl,hb⟩;have c2:=HF.out w1 hb;go_wp2_with fail;refine c2.mono ?_;rintro e w2 ⟨rfl,hb2⟩;go_wp2
    exact (HK.out _ _ HEE.out (by decide) (on_trans hb hb2))
   | false =>
    rw [hh] at HF HE
    rw [if_neg (by simp)] at HE
    by_cases hw:wrongK kind t=0
    . rw [hw,if_neg (by simp)] at HE
      rw [hw] at HW
      by_cases hfu:64<=dn.ds.length
      . rw [if_pos hfu] at HE;rw [decide_eq_true hfu] at HFu;have HEE:Hid (createE s d nm kind t=28):=HE.out;generalize CreatePost n fb c s U d nm kind t w=Post at *;generalize find nm dn.ds=fd at *;generalize B dn.ino=db at *;clear h hf ht hx hd0 hturn HE hm;go_enter Tryz.func30,Tryz.ntmps30;go_wp2_with fail;refine c1.mono ?_;rintro e w1 ⟨rfl,hb⟩;have c2:=HF.out w1 hb;go_wp2_with fail;refine c2.mono ?_;rintro e w2 ⟨rfl,hb2⟩;have c3:=HW.out w2;go_wp2_with fail;refine c3.mono ?_
        rintro e w3 ⟨rfl,hb3⟩;have c4:=HFu.out w3 (on_trans (on_trans hb hb2) hb3);go_wp2_with fail;refine c4.mono ?_;rintro e w4 ⟨rfl,hw4⟩;subst w4;go_wp2
        exact (HK.out _ _ HEE.out (by decide) (on_trans (on_trans hb hb2) hb3))
      . rw [if_neg hfu] at HE;rw [decide_eq_false hfu] at HFu
        have HX:Hid (∀ w1,Below w.heap.size w w1->w1.cell? ⟨fb,0,none⟩=some (ptr sb)):=fun w1 hb=>(h.on hb).box.cell 0 rfl
        have HMk:Hid (∀ w1,Below w.heap.size w w1->Calls Tryz.prog 41 #[ptr sb,.int .i64 kind,.string t] w1 (MakePost (Lo.but n ub) sb B s kind t w1)):=fun w1 hb=>make_any7 (h.on hb).store hf (by omega) kind t htt
        by_cases hr:s.most<=s.L.length
        . rw [if_pos hr] at HE;have HEE:Hid (createE s d nm kind t=28):=HE.out
          have HM2:Hid (∀ w1 e w2,Below w.heap.size w w1->MakePost (Lo.but n ub) sb B s kind t w1 e w2->e=.returned (.tuple #[.int .i64 0,.int .i64 28])/\CreatePost n fb c s U d nm kind t w (.returned (.tuple #[.int .i64 0,.int .i64 28])) w2):=fun w1 e w2 hb ⟨h1,⟨B',h2,_⟩,h3⟩=>by
           have he:makeE s kind t=28:=by unfold makeE;rw [if_neg (by simpa using hw),if_pos hr]
           have e1:makeS s kind t=s:=by unfold makeS;rw [he];rfl
           have e2:makeN s kind t=0:=by unfold makeN;rw [he];rfl
           rw [e1] at h2;rw [e2,he] at h1
           refine ⟨h1,?_,?_,(Turns.on hb).trans (FsM.less h3)⟩
           . rw [HEE.out];rfl
           . rw [HEE.out]
             exact ((h.on hb).turned h2 h3).at.more (by omega)
          generalize CreatePost n fb c s U d nm kind t w=Post at *;generalize find nm dn.ds=fd at *;generalize B dn.ino=db at *;clear h hf ht hx hd0 hturn HE hm;go_enter Tryz.func30,Tryz.ntmps30;go_wp2_with fail;refine c1.mono ?_;rintro e w1 ⟨rfl,hb⟩;have c2:=HF.out w1 hb;go_wp2_with fail;refine c2.mono ?_;rintro e w2 ⟨rfl,hb2⟩;have c3:=HW.out w2;go_wp2_with fail;refine c3.mono ?_;rintro e w3 ⟨rfl,hb3⟩;have hB3:=on_trans (on_trans hb hb2) hb3;have c4:=HFu.out w3 hB3
          have x0:=HX.out w3 hB3;have c5:=HMk.out w3 hB3;go_wp2_with fail;refine c4.mono ?_;rintro e w4 ⟨rfl,hw4⟩;subst w4;go_wp2_with fail;refine c5.mono ?_
          intro e w5 hp5
          obtain ⟨rfl,hp6⟩:=HM2.out w3 e w5 hB3 hp5;go_wp2
          exact hp6
        . rw [if_neg hr] at HE;have HEE:Hid (createE s d nm kind t=0):=HE.out
          have he:makeE s kind t=0:=by unfold makeE;rw [if_neg (by simpa using hw),if_neg hr]
          have e1:makeS s kind t=s.add (freshN s.next kind t):=by unfold makeS;rw [he];rfl
          have e2:makeN s kind t=s.next:=by unfold makeN;rw [he];rfl
          have hnx:=hf.next
          have hf1:Wf (s.add (freshN s.next kind t)) (c+1):=by rw [<- e1];exact hf.make kind t
          have hnw:(Lit.int .i64 (s.next:Int)).wf=true:=ky_wf (k:=s.next) (by omega)
          have hx1:=look_add (freshN s.next kind t) hx
          have hde1:dirE (s.add (freshN s.next kind t)) d=0:=by
           unfold dirE;rw [hx1]
           show (if dn.kind=2 then _ else _)=_
           rw [if_pos hk,if_neg (by omega)]
          have hadd:addE nm (s.next:Int) dn.ds=0:=by
           unfold addE
           rw [hname,if_neg (by simp),if_neg (by omega),hh,if_neg (by simp),if_neg hfu]
          have HM2:Hid (∀ w1 e w2,Below w.heap.size w w1->MakePost (Lo.but n ub) sb B s kind t w1 e w2->e=.returned (.tuple #[.int .i64 (s.next:Int),.int .i64 0])/\w2.cell? ⟨fb,0,none⟩=some (ptr sb) ∧
           Calls Tryz.prog 76 #[ptr (B dn.ino),.string nm,.int .i64 (s.next:Int)] w2 fun e w3=>e=.returned (.int .i64 0)/\FsAt n w3 fb c (addEnt (s.add (freshN s.next kind t)) d nm s.next) U/\Turns isP (.up n) w w3/\∃ sb' ub' B',FsM n w3 fb sb' ub' c (addEnt (s.add (freshN s.next kind t)) d nm s.next) B' U/\sb'=sb):=fun w1 e w2 hb ⟨h1,⟨B',h2,hBB⟩,h3⟩=>by
           rw [e1] at h2;rw [e2,he] at h1;have h4:=(h.on hb).turned h2 h3
           refine ⟨h1,h4.box.cell 0 rfl,?_⟩
           obtain ⟨i2,dn2,v2,hx2,_,_,_,_,hd2,hturn2⟩:=h4.into hf1 hde1;rw [hx1] at hx2
           cases hx2
           rw [hBB dn hm hk] at hd2 hturn2
           refine (add_any 0 _ v2 dn.ds nm s.next w2 hn hfew (ht.sorted _ hm) (Nat.zero_le _) hd2).mono ?_
           rintro e w3 ⟨rfl,v3,hd3,hg3⟩;obtain ⟨h5,h6⟩:=hturn2 w3 v3 _ hd3 hg3
           have e3:(s.add (freshN s.next kind t)).set i (dn.withD (addS nm s.next dn.ds))=addEnt (s.add (freshN s.next kind t)) d nm s.next:=(upd_some (g:=fun n=>n.withD (addS nm s.next n.ds)) hf1 hx1).symm
           rw [e3] at h5
           exact ⟨by rw [hadd],h5.at,((Turns.on hb).trans (FsM.less h3)).trans h6,_,_,_,h5,rfl⟩
          have hf2:Wf (addEnt (s.add (freshN s.next kind t)) d nm s.next) (c+2):=hf1.ents d _ fun i2 n2 h7=>addS_len (hf1.ds _ (look_mem h7).1)
          have hf3:Wf (moreS (addEnt (s.add (freshN s.next kind t)) d nm s.next) s.next true) (c+3):=hf2.more1 _ _
          have HL:Hid (∀ w3 sb' ub' B',FsM n w3 fb sb' ub' c (addEnt (s.add (freshN s.next kind t)) d nm s.next) B' U->sb'=sb->Turns isP (.up n) w w3->w3.cell? ⟨fb,0,none⟩=some (ptr sb)/\Calls Tryz.prog 77 #[ptr sb,.int .i64 (s.next:Int)] w3 fun e w4=>(∃ r,e=.returned r)/\w4.cell? ⟨fb,0,none⟩=some (ptr sb) ∧
           Calls Tryz.prog 78 #[ptr sb,.int .i64 (s.next:Int)] w4 fun e w5=>(∃ r,e=.returned r)/\Turns isP (.up n) w w5/\FsM n w5 fb sb ub' c (createP s d nm kind t) B' U ∨ (∃ r,e=.returned r)/\Turns isP (.up n) w w5/\∃ B2,FsM n w5 fb sb ub' c (createP s d nm kind t) B2 U):=fun w3 sb' ub' B' h1 h2 h3=>by
           subst h2
           refine ⟨h1.box.cell 0 rfl,(link_any h1.store.at hf2 (by omega) s.next hnw).mono ?_⟩
           rintro e w4 ⟨rfl,h4,h5⟩;obtain ⟨B4,h4⟩:=h4.boxes;have h6:=h1.turned h4 h5
           refine ⟨⟨_,rfl⟩,h6.box.cell 0 rfl,(release_any h6.store.at hf3 (by omega) s.next hnw).mono ?_⟩
           rintro e w5 ⟨rfl,h7,h8⟩;obtain ⟨B5,h7⟩:=h7.boxes
           exact .inr ⟨⟨_,rfl⟩,(h3.trans (FsM.less h5)).trans (FsM.less h8),B5,h6.turned h7 h8⟩
          have HE1:Hid (∀ w5 ub' B2,FsM n w5 fb sb ub' c (createP s d nm kind t) B2 U->Turns isP (.up n) w w5->kind ≠ 2->CreatePost n fb c s U d nm kind t w (.returned (.tuple #[.int .i64 (s.next:Int),.int .i64 0])) w5):=fun w5 ub' B2 h1 h2 h3 =>
           ⟨by rw [HEE.out];rfl,by rw [HEE.out,if_pos rfl,if_neg fun h7=>h3 h7.2];exact h1.at.more (by omega),h2⟩
          have HE2:Hid (∀ w5 ub' B2,FsM n w5 fb sb ub' c (createP s d nm kind t) B2 U->Turns isP (.up n) w w5->kind=2->w5.cell? ⟨fb,1,none⟩=some (.map (some ub'))/\∃ w6,(Instr.mapUpdate 101 (.map (some ub')) (.int .i64 (s.next:Int)) (.int .i64 d)).run Tryz.prog w5=.ok () w6/\CreatePost n fb c s U d nm kind t w (.returned (.tuple #[.int .i64 (s.next:Int),.int .i64 0])) w6):=fun w5 ub' B2 h1 h2 h3=>by
           obtain ⟨w6,h4,h5,h6⟩:=h1.up.put (by omega) hnw hd
           obtain ⟨h7,h8⟩:=h1.upped h5 h6
           exact ⟨h1.box.cell 1 rfl,w6,h4,by rw [HEE.out];rfl,by rw [HEE.out,if_pos rfl,if_pos ⟨rfl,h3⟩];exact h7.at,h2.trans h8⟩
          generalize CreatePost n fb c s U d nm kind t w=Post at *;generalize find nm dn.ds=fd at *;generalize B dn.ino=db at *;generalize addEnt (s.add (freshN s.next kind t)) d nm s.next=s2 at *;generalize createP s d nm kind t=s5 at *;generalize (s.next:Int)=nx at *;clear h hf ht hx hd0 hturn HE hm hf1 hf2 hf3 hx1 hde1 hadd e1 e2 he hnw hnx;go_enter Tryz.func30,Tryz.ntmps30;go_wp2_with fail;refine c1.mono ?_;rintro e w1 ⟨rfl,hb⟩;have c2:=HF.out w1 hb;go_wp2_with fail
          refine c2.mono ?_;rintro e w2 ⟨rfl,hb2⟩;have c3:=HW.out w2;go_wp2_with fail;refine c3.mono ?_;rintro e w3 ⟨rfl,hb3⟩;have hB3:=on_trans (on_trans hb hb2) hb3;have c4:=HFu.out w3 hB3;have x0:=HX.out w3 hB3;have c5:=HMk.out w3 hB3;go_wp2_with fail;refine c4.mono ?_;rintro e w4 ⟨rfl,hw4⟩;subst w4;go_wp2_with fail;refine c5.mono ?_
          intro e w5 hp5
          obtain ⟨rfl,x5,c6⟩:=HM2.out w3 e w5 hB3 hp5;clear hp5 HM2 HMk HX HFu HW HF c1 c2 c3 c4 c5 HK x0;go_wp2_with fail;refine c6.mono ?_;rintro e w6 ⟨rfl,_,ht6,sb',ub',B',hm6,hsb⟩;obtain ⟨x6,c7⟩:=HL.out w6 sb' ub' B' hm6 hsb ht6;clear hm6 hsb ht6 HL;go_wp2_with fail;refine c7.mono ?_;rintro e w7 ⟨⟨r7,rfl⟩,x7,c8⟩;go_wp2_with fail;refine c8.mono ?_
          intro e w8 hp8
          obtain ⟨r8,rfl,ht8,B2,hm8⟩:∃ r,e=.returned r/\Turns isP (.up n) w w8/\∃ B2,FsM n w8 fb sb ub' c s5 B2 U:=by
           rcases hp8 with ⟨⟨r,h1⟩,h2,h3⟩ | ⟨⟨r,h1⟩,h2,h3⟩
           . exact ⟨r,h1,h2,_,h3⟩
           . exact ⟨r,h1,h2,h3⟩
          clear hp8 c8 c7 c6
          by_cases hk2:kind=2
          . obtain ⟨x8,w9,hup,hfin⟩:=HE2.out w8 ub' B2 hm8 ht8 hk2;subst hk2;clear HE1 HE2 hm8 ht8;go_wp2
            exact hfin
          . have hfin:=HE1.out w8 ub' B2 hm8 ht8 hk2;clear HE1 HE2 hm8 ht8;go_wp2
            exact hfin
    . have hwz:¬ ((wrongK kind t:Nat):Int)=0:=by omega
      rw [if_pos hw] at HE;have HEE:Hid (createE s d nm kind t=(wrongK kind t:Nat)):=HE.out
      have hq:(((wrongK kind t:Nat):Int) != 0)=true:=by simpa using hwz
      have HZ:Hid (¬ ((wrongK kind t:Nat):Int)=0):=hwz;generalize CreatePost n fb c s U d nm kind t w=Post at *;generalize find nm dn.ds=fd at *;generalize B dn.ino=db at *;generalize ((wrongK kind t:Nat):Int)=we at *;clear h hf ht hx hd0 hturn HE hm HFu hwz hw;go_enter Tryz.func30,Tryz.ntmps30;go_wp2_with fail;refine c1.mono ?_;rintro e w1 ⟨rfl,hb⟩;have c2:=HF.out w1 hb;go_wp2_with fail;refine c2.mono ?_;rintro e w2 ⟨rfl,hb2⟩;have c3:=HW.out w2;go_wp2_with fail
      refine c3.mono ?_;rintro e w3 ⟨rfl,hb3⟩;go_wp2
      exact (HK.out _ _ HEE.out HZ.out (on_trans (on_trans hb hb2) hb3))
 . rw [if_neg hp] at c1;rw [if_pos hp] at HE;have HEE:Hid (createE s d nm kind t=placeE s d nm):=HE.out;have HP0:Hid (placeE s d nm ≠ 0):=hp
   have hq:(placeE s d nm != 0)=true:=by simpa using hp
   generalize CreatePost n fb c s U d nm kind t w=Post at *;generalize placeE s d nm=pe at *;clear h hf ht HE hp;go_enter Tryz.func30,Tryz.ntmps30;go_wp2_with fail;refine c1.mono ?_;rintro e w1 ⟨rfl,hb⟩;go_wp2
   exact (HK.out _ _ HEE.out HP0.out hb)
end
end Go.Proofs.YthlaoaaafafafaaGreat
