/- Ours. -/
import Derived.Test.YthlaoaaafafafaaGreatC4
import Derived.Test.YthlaoaaafafafaaGreatC3
set_option maxRecDepth 100000
set_option maxHeartbeats 16000000
namespace Go.Proofs.YthlaoaaafafafaaGreat
open Go Go.RowKit
theorem ent_cell {hi d:Nat} {v:Value} {S:List Ent} {w:World} (h:DirAt hi w d v S) {k:Nat} (hk:k < S.length):∃ g cap,v=.slice (some ⟨g,0,none⟩) S.length cap/\hi<=g/\w.cell? ⟨g,k * 2,none⟩=some (.string S[k].1)/\w.cell? ⟨g,k * 2+1,none⟩=some (.int .i64 S[k].2):=by
 obtain ⟨p,cap,rfl,hat,_⟩:=rowS_at h.row
 obtain ⟨g,rfl⟩:∃ g,p=some ⟨g,0,none⟩:=by
  rcases h.row.2 with ⟨_,h1⟩ | ⟨g,c,cur,h0,_⟩
  . omega
  . cases h0;exact ⟨g,rfl⟩
 obtain ⟨g',off,e,hg,hlt,hc⟩:=hat.place (k:=k * 2) (by rw [flat_length];omega)
 cases e
 have x0:=hc (k * 2) _ (flat_name S k hk);have x1:=hc (k * 2+1) _ (flat_ino S k hk);rw [Nat.zero_add] at x0 x1
 exact ⟨g,cap,rfl,hg,x0,x1⟩
theorem find_at {nm:ByteArray}:∀ {S:List Ent},Sorted S->(h:under nm S < S.length)->same nm S[under nm S]=true->find nm S=S[under nm S].2
 | [],_,h,_=>absurd h (Nat.not_lt_zero _)
 | x :: r,hs,h,hsame=>by
  obtain ⟨h1,h2⟩:=List.pairwise_cons.1 hs
  cases hx:lt x.1 nm with
  | true =>
   have e:under nm (x :: r)=under nm r+1:=by simp [under,hx]
   have hne:same nm x=false:=by
    cases hq:same nm x with
    | false=>rfl
    | true=>rw [same_iff.1 hq,lt_irrefl] at hx;cases hx
   have hlt:under nm r < r.length:=by rw [e] at h;simpa using h
   have hsame2:same nm r[under nm r]=true:=by simpa [e] using hsame
   have ih:=find_at h2 hlt hsame2
   have e2:find nm (x :: r)=find nm r:=by simp [find,hne]
   rw [e2,ih]
   simp [e]
  | false =>
   have e:under nm (x :: r)=0:=by
    have hu:=sorted_under nm (x :: r) hs 0 (by simp)
    rw [show (x :: r)[0]=x from rfl,hx] at hu
    simpa using hu.symm
   have hsame2:same nm x=true:=by simpa [e] using hsame
   simp [find,hsame2,e]
theorem find_none {nm:ByteArray} {l:List Ent} (h:has nm l=false):find nm l=0:=by
 have:l.find? (same nm)=none:=List.find?_eq_none.2 fun x hx=>List.any_eq_false.1 h x hx
 simp [find,this]
theorem find_any (hi d:Nat) (v:Value) (S:List Ent) (nm:ByteArray) (w:World) (hlen:S.length<=1000) (hs:Sorted S) (h:DirAt hi w d v S) :
 Calls Tryz.prog 73 #[.pointer (some ⟨d,0,none⟩),.string nm] w fun e w'=>e=.returned (.tuple #[.int .i64 (find nm S),.bool (has nm S)])/\Below w.heap.size w w':=by
 have cP:=place_any hi d v S nm w hlen hs h;have hh:=sorted_has (n:=nm) hs
 cases hq:has nm S with
 | false =>
  rw [hq] at cP;rw [find_none hq];clear hh h;go_enter Tryz.func73,Tryz.ntmps73;go_wp2_with fail;refine cP.mono ?_;rintro e w1 ⟨rfl,hb⟩;go_wp2
  go_ret2
  exact ⟨rfl,hb⟩
 | true =>
  rw [hq] at cP hh
  obtain ⟨hlt,hsm⟩:∃ hlt:under nm S < S.length,same nm S[under nm S]=true:=by
   split at hh
   . rename_i hlt;exact ⟨hlt,hh.symm⟩
   . cases hh
  have hf:=find_at hs hlt hsm
  have HX:Hid (∀ w1,Below w.heap.size w w1->DirAt hi w1 d v S):=fun w1 hb=>h.on hb
  obtain ⟨r,hr⟩:∃ r,find nm S=r:=⟨_,rfl⟩;rw [hr] at hf ⊢;generalize under nm S=p at *;clear h hsm hh hr;go_enter Tryz.func73,Tryz.ntmps73;go_wp2_with fail;refine cP.mono ?_;rintro e w1 ⟨rfl,hb⟩;have hd:=HX.out w1 hb;have x0:=hd.box.cell 0 rfl;obtain ⟨g,cap,rfl,_,_,x1⟩:=ent_cell hd hlt;rw [<- hf] at x1
  have hz:(p:Int) < (S.length:Int):=by omega
  clear hd HX hf;go_wp2
  go_ret2
  exact ⟨rfl,hb⟩
def addE (nm:ByteArray) (ino:Int) (S:List Ent):Int:=if nameE nm ≠ 0 then nameE nm else if ino < 1 then 22 else if has nm S then 17 else if 64<=S.length then 28 else 0
def addS (nm:ByteArray) (ino:Int) (S:List Ent):List Ent:=if addE nm ino S=0 then S.take (under nm S) ++ (nm,ino) :: S.drop (under nm S) else S
def setE (nm:ByteArray) (ino:Int) (S:List Ent):Int:=if ino < 1 then 22 else if has nm S then 0 else 2
def setN (nm:ByteArray) (ino:Int) (S:List Ent):Int:=if setE nm ino S=0 then find nm S else 0
def setD (nm:ByteArray) (ino:Int) (S:List Ent):List Ent:=if setE nm ino S=0 then S.set (under nm S) (nm,ino) else S
def remE (nm:ByteArray) (S:List Ent):Int:=if has nm S then 0 else 2
def remS (nm:ByteArray) (S:List Ent):List Ent:=if has nm S then S.take (under nm S) ++ S.drop (under nm S+1) else S
def ownF (d:Nat) (v:Value):Nat->Prop:=fun x=>x=d ∨ v.ownBlock=some x
def DirPost (hi d:Nat) (v:Value) (w:World) (r:Value) (S:List Ent) (e:Ending) (w':World):Prop:=e=.returned r/\∃ v',DirAt hi w' d v' S/\Goes (ownF d v) (ownF d v') w w'
theorem goes_grow {d:Nat} {v v':Value} {w w1 w2 w3:World} (h:Below w.heap.size w w1) (hg:Grows v v' w1 w2) (hb:But d w2 w3):Goes (ownF d v) (ownF d v') w w3:=by
 refine ⟨⟨hb.os.trans (hg.os.trans h.os),hb.tape.trans (hg.tape.trans h.tape),hb.output.trans (hg.output.trans h.output),?_,fun k hk hn => ?_⟩,fun x hx => ?_⟩
 . have h1:=h.size;have h2:=hg.size;have h3:=hb.size
   omega
 . have h1:=h.size
   exact (hb.block k fun e=>hn (.inl e)).trans ((hg.block k (by omega) fun e=>hn (.inr e)).trans (h.block k hk))
 . rcases hx with hx | hx
   . exact .inl (.inl hx)
   . rcases hg.lies x hx with h1 | h1
     . exact .inl (.inr h1)
     . have h2:=h.size
       exact .inr (by omega)
theorem goes_but {d g n cap:Nat} {w w1 w2:World} (h:Below w.heap.size w w1) (hb:But g w1 w2):Goes (ownF d (.slice (some ⟨g,0,none⟩) n cap)) (ownF d (.slice (some ⟨g,0,none⟩) n cap)) w w2 :=
 (Goes.of_below h).trans ⟨Foot.of_but hb (.inr rfl),fun _ h=>.inl h⟩
theorem has_place {nm:ByteArray} {S:List Ent} (hs:Sorted S) (h:has nm S=true):∃ hlt:under nm S < S.length,S[under nm S].1=nm/\find nm S=S[under nm S].2:=by
 have hh:=sorted_has (n:=nm) hs;rw [h] at hh
 split at hh
 . rename_i hlt
   exact ⟨hlt,same_iff.1 hh.symm,find_at hs hlt hh.symm⟩
 . cases hh
theorem dir_store {hi d:Nat} {w:World} {v v':Value} {S':List Ent} (hb:Blk w d 173 [v]) (hr:Row hi 170 w v' S') (hd:hi<=d):DirAt hi (w.setCell ⟨d,0,none⟩ v') d v' S' :=
 ⟨by have:=hb.set 0 v';simpa using this,rowS_but (_t:=0) (_cs:=[]) hr (but_set w d 0 v') (.inr fun g cap e hgd=>by
  subst e hgd;obtain ⟨cs,hB,_⟩:=rowS_blk hr;have:=hB.row.symm.trans hb.row
  simp at this),hd⟩
theorem add_any (hi d:Nat) (v:Value) (S:List Ent) (nm:ByteArray) (ino:Int) (w:World) (hnm:nm.size<=10000) (hlen:S.length<=64) (hs:Sorted S) (hhi:hi<=w.heap.size) (h:DirAt hi w d v S) :
 Calls Tryz.prog 76 #[.pointer (some ⟨d,0,none⟩),.string nm,.int .i64 ino] w (DirPost hi d v w (.int .i64 (addE nm ino S)) (addS nm ino S)):=by
 have cN:=name_any nm w hnm
 have HPl:Hid (∀ w1,Below w.heap.size w w1->Calls Tryz.prog 118 #[.pointer (some ⟨d,0,none⟩),.string nm] w1 fun e w'=>e=.returned (.tuple #[.int .i64 (under nm S:Int),.bool (has nm S)])/\Below w1.heap.size w1 w'):=fun w1 hb=>place_any hi d v S nm w1 (by omega) hs (h.on hb)
 have HLn:Hid (∀ w1,Below w.heap.size w w1->Calls Tryz.prog 98 #[.pointer (some ⟨d,0,none⟩)] w1 fun e w'=>e=.returned (.int .i64 (S.length:Int))/\w'=w1):=fun w1 hb=>len_any hi d v S w1 (h.on hb)
 have HD:Hid (∀ w1,Below w.heap.size w w1->DirAt hi w1 d v S):=fun w1 hb=>h.on hb
 have HU:Hid (under nm S<=S.length):=under_le _ _
 have HE:Hid (addE nm ino S=if nameE nm ≠ 0 then nameE nm else if ino < 1 then 22 else if has nm S then 17 else if 64<=S.length then 28 else 0):=rfl
 have HA:Hid (addS nm ino S=if addE nm ino S=0 then S.take (under nm S) ++ (nm,ino) :: S.drop (under nm S) else S):=rfl
 have HK:Hid (∀ (e:Ending) w1 r,addE nm ino S=r->r ≠ 0->e=.returned (.int .i64 r)->Below w.heap.size w w1->DirPost hi d v w (.int .i64 (addE nm ino S)) (addS nm ino S) e w1):=fun e w1 r h1 h2 he hb =>
  ⟨by rw [he,h1],v,by rw [HA.out,if_neg (by rw [h1];exact h2)];exact h.on hb,Goes.of_below hb⟩
 have HY:Hid (∀ (e:Ending) w1 v',addE nm ino S=0->e=.returned (.int .i64 0)->DirAt hi w1 d v' (S.take (under nm S) ++ (nm,ino) :: S.drop (under nm S))->Goes (ownF d v) (ownF d v') w w1->DirPost hi d v w (.int .i64 (addE nm ino S)) (addS nm ino S) e w1):=fun e w1 v' h1 he hd ht =>
  ⟨by rw [he,h1],v',by rw [HA.out,if_pos h1];exact hd,ht⟩
 generalize DirPost hi d v w (.int .i64 (addE nm ino S)) (addS nm ino S)=Post at *;clear h HA;generalize addE nm ino S=r at *;generalize nameE nm=ne at *
 by_cases h0:ne ≠ 0
 . have HEE:Hid (r=ne):=by have:=HE.out;rwa [if_pos h0] at this
   have hq:(ne != 0)=true:=by simpa using h0
   have H0:Hid (ne ≠ 0):=h0;clear HE h0;go_enter Tryz.func76,Tryz.ntmps76;go_wp2_with fail;refine cN.mono ?_;rintro e w1 ⟨rfl,hb⟩;go_wp2
   exact HK.out _ _ _ HEE.out H0.out rfl hb
 obtain rfl:ne=0:=by omega
 rw [if_neg (by simp)] at HE
 clear h0;generalize hp:under nm S=p at *;generalize hhs:has nm S=f at *
 by_cases h1:ino < 1
 . have HEE:Hid (r=22):=by have:=HE.out;rwa [if_pos h1] at this
   clear HE;go_enter Tryz.func76,Tryz.ntmps76;go_wp2_with fail;refine cN.mono ?_;rintro e w1 ⟨rfl,hb⟩;have cP:=HPl.out w1 hb;go_wp2_with fail;refine cP.mono ?_;rintro e w2 ⟨rfl,hb2⟩;go_wp2
   exact HK.out _ _ _ HEE.out (by decide) rfl (on_trans hb hb2)
 rw [if_neg h1] at HE
 cases f with
 | true =>
  have HEE:Hid (r=17):=HE.out;clear HE;go_enter Tryz.func76,Tryz.ntmps76;go_wp2_with fail;refine cN.mono ?_;rintro e w1 ⟨rfl,hb⟩;have cP:=HPl.out w1 hb;go_wp2_with fail;refine cP.mono ?_;rintro e w2 ⟨rfl,hb2⟩;go_wp2
  exact HK.out _ _ _ HEE.out (by decide) rfl (on_trans hb hb2)
 | false =>
  have HE2:Hid (r=if 64<=S.length then 28 else 0):=HE.out
  clear HE
  by_cases h2:64<=S.length
  . have HEE:Hid (r=28):=by have:=HE2.out;rwa [if_pos h2] at this
    have hz:(64:Int)<=(S.length:Int):=by omega
    clear HE2;go_enter Tryz.func76,Tryz.ntmps76;go_wp2_with fail;refine cN.mono ?_;rintro e w1 ⟨rfl,hb⟩;have cP:=HPl.out w1 hb;go_wp2_with fail;refine cP.mono ?_;rintro e w2 ⟨rfl,hb2⟩;have cL:=HLn.out w2 (on_trans hb hb2);go_wp2_with fail;refine cL.mono ?_;rintro e w3 ⟨rfl,rfl⟩;go_wp2
    exact HK.out _ _ _ HEE.out (by decide) rfl (on_trans hb hb2)
  . have HEE:Hid (r=0):=by have:=HE2.out;rwa [if_neg h2] at this
    have hz:¬ (64:Int)<=(S.length:Int):=by omega
    clear HE2;go_enter Tryz.func76,Tryz.ntmps76;go_wp2_with fail;refine cN.mono ?_;rintro e w1 ⟨rfl,hb⟩;have cP:=HPl.out w1 hb;go_wp2_with fail;refine cP.mono ?_;rintro e w2 ⟨rfl,hb2⟩;have cL:=HLn.out w2 (on_trans hb hb2);go_wp2_with fail;refine cL.mono ?_;rintro e w3 ⟨rfl,hw3⟩;subst hw3;have hB:=on_trans hb hb2;have hd:=HD.out _ hB;have x0:=hd.box.cell 0 rfl;obtain ⟨pp,cap,rfl⟩:=hd.slice;clear cP cL;go_wp2_with fail;have hb3:=on_alloc w3 (.cells #[.string nm,.int .i64 ino] 170)
    have hd3:=hd.on hb3
    have cI:=insert_any hi w3.heap.size p _ S (nm,ino) _ (by omega) HU.out hd3.row (Blk.new w3 _ (entC (nm,ino))) (fun e=>by
     have:=(hd.row.lt _ e).2
     omega) (by have:=hB.size;have:=hb3.size;omega)
    refine cI.mono ?_;rintro e w4 ⟨v',rfl,hrow,hgr,hgo⟩
    have hbox:=hgr.blk hd3.box (by decide)
    obtain ⟨p',cap',rfl,_⟩:=rowS_at hrow;have HZ:Hid (DirAt hi (w4.setCell ⟨d,0,none⟩ (.slice p' (S.take p ++ (nm,ino) :: S.drop p).length cap')) d (.slice p' (S.take p ++ (nm,ino) :: S.drop p).length cap') (S.take p ++ (nm,ino) :: S.drop p)):=dir_store hbox hrow hd.hid
    have HT:Hid (Goes (ownF d (.slice pp S.length cap)) (ownF d (.slice p' (S.take p ++ (nm,ino) :: S.drop p).length cap')) w (w4.setCell ⟨d,0,none⟩ (.slice p' (S.take p ++ (nm,ino) :: S.drop p).length cap'))) :=
     goes_grow (on_trans hB hb3) hgo (but_set _ _ _ _)
    have y0:=hbox.cell 0 rfl;have y1:=hbox.free 0;generalize (S.take p ++ (nm,ino) :: S.drop p)=S' at *;clear hd hd3 cI hrow hgr hgo hbox;go_wp2
    exact HY.out _ _ _ HEE.out rfl HZ.out HT.out
theorem dir_ino {hi d g cap k:Nat} {w:World} {S:List Ent} (h:DirAt hi w d (.slice (some ⟨g,0,none⟩) S.length cap) S) (hk:k < S.length) (n:Int) :
 DirAt hi (w.setCell ⟨g,k * 2+1,none⟩ (.int .i64 n)) d (.slice (some ⟨g,0,none⟩) S.length cap) (S.set k (S[k].1,n)):=by
 obtain ⟨cs,hB,_,_,_,hg,_⟩:=rowS_blk h.row
 have hne:d ≠ g:=fun e=>by
  subst e;have:=hB.row.symm.trans h.box.row
  simp at this
 have hs:=(h.row.stored (k * 2+1) (.int .i64 n)).1;rw [flat_set S k hk n] at hs
 refine ⟨h.box.but (but_set _ _ _ _) hne,?_,h.hid⟩
 show World.ownsRow _ hi _ 2 _ (S.set k (S[k].1,n)).length _
 rw [List.length_set]
 exact hs
theorem row_free {hi g cap n:Nat} {w:World} {e:TypeId} {xs:List Value} (h:w.ownsRow hi e 2 (.slice (some ⟨g,0,none⟩) n cap) n xs) (j:Nat):w.frozen? ⟨g,j,none⟩=false:=by
 obtain ⟨cs,hB,_⟩:=rowS_blk h
 exact hB.free j
theorem set_any (hi d:Nat) (v:Value) (S:List Ent) (nm:ByteArray) (ino:Int) (w:World) (hlen:S.length<=64) (hs:Sorted S) (h:DirAt hi w d v S) :
 Calls Tryz.prog 102 #[.pointer (some ⟨d,0,none⟩),.string nm,.int .i64 ino] w (DirPost hi d v w (.tuple #[.int .i64 (setN nm ino S),.int .i64 (setE nm ino S)]) (setD nm ino S)):=by
 have cP:=place_any hi d v S nm w (by omega) hs h
 have HH:=fun hh=>has_place (nm:=nm) hs hh
 have HD:Hid (∀ w1,Below w.heap.size w w1->DirAt hi w1 d v S):=fun w1 hb=>h.on hb
 have HE:Hid (setE nm ino S=if ino < 1 then 22 else if has nm S then 0 else 2):=rfl
 have HA:Hid (setD nm ino S=if setE nm ino S=0 then S.set (under nm S) (nm,ino) else S):=rfl
 have HN:Hid (setN nm ino S=if setE nm ino S=0 then find nm S else 0):=rfl
 have HK:Hid (∀ (e:Ending) w1 r,setE nm ino S=r->r ≠ 0->e=.returned (.tuple #[.int .i64 0,.int .i64 r])->Below w.heap.size w w1->DirPost hi d v w (.tuple #[.int .i64 (setN nm ino S),.int .i64 (setE nm ino S)]) (setD nm ino S) e w1):=fun e w1 r h1 h2 he hb =>
  ⟨by rw [he,HN.out,h1,if_neg h2],v,by rw [HA.out,if_neg (by rw [h1];exact h2)];exact h.on hb,Goes.of_below hb⟩
 have HY:Hid (∀ (e:Ending) w1 v',setE nm ino S=0->e=.returned (.tuple #[.int .i64 (find nm S),.int .i64 0])->DirAt hi w1 d v' (S.set (under nm S) (nm,ino))->Goes (ownF d v) (ownF d v') w w1->DirPost hi d v w (.tuple #[.int .i64 (setN nm ino S),.int .i64 (setE nm ino S)]) (setD nm ino S) e w1):=fun e w1 v' h1 he hd ht =>
  ⟨by rw [he,HN.out,h1,if_pos rfl],v',by rw [HA.out,if_pos h1];exact hd,ht⟩
 generalize DirPost hi d v w (.tuple #[.int .i64 (setN nm ino S),.int .i64 (setE nm ino S)]) (setD nm ino S)=Post at *;clear h HA HN;generalize setE nm ino S=r at *
 by_cases h1:ino < 1
 . have HEE:Hid (r=22):=by have:=HE.out;rwa [if_pos h1] at this
   clear HE cP HH;go_enter Tryz.func102,Tryz.ntmps102;go_wp2
   exact HK.out _ _ _ HEE.out (by decide) rfl (Below.refl _ _)
 rw [if_neg h1] at HE
 cases hf:has nm S with
 | false =>
  rw [hf] at HE cP;have HEE:Hid (r=2):=HE.out;clear HE HH;go_enter Tryz.func102,Tryz.ntmps102;go_wp2_with fail;refine cP.mono ?_;rintro e w1 ⟨rfl,hb⟩;go_wp2
  exact HK.out _ _ _ HEE.out (by decide) rfl hb
 | true =>
  rw [hf] at HE cP;have HEE:Hid (r=0):=HE.out;obtain ⟨hlt,hn1,hn2⟩:=HH hf;have HN1:Hid (S[under nm S].1=nm):=hn1;have HN2:Hid (find nm S=S[under nm S].2):=hn2;clear HE HH hf hn1 hn2;generalize under nm S=p at *;generalize find nm S=fn at *
  have hz:(p:Int) < (S.length:Int):=by omega
  go_enter Tryz.func102,Tryz.ntmps102;go_wp2_with fail;refine cP.mono ?_;rintro e w1 ⟨rfl,hb⟩;have hd:=HD.out w1 hb;have x0:=hd.box.cell 0 rfl;obtain ⟨g,cap,rfl,_,_,x1⟩:=ent_cell hd hlt;rw [<- HN2.out] at x1;have x2:=row_free hd.row (p * 2+1);have hst:=dir_ino hd hlt ino;rw [HN1.out] at hst;have HZ:Hid (DirAt hi (w1.setCell ⟨g,p * 2+1,none⟩ (.int .i64 ino)) d (.slice (some ⟨g,0,none⟩) S.length cap) (S.set p (nm,ino))/\Goes (ownF d (.slice (some ⟨g,0,none⟩) S.length cap)) (ownF d (.slice (some ⟨g,0,none⟩) S.length cap)) w (w1.setCell ⟨g,p * 2+1,none⟩ (.int .i64 ino))):=⟨hst,goes_but hb (but_set _ _ _ _)⟩
  clear hd hst cP;go_wp2
  exact HY.out _ _ _ HEE.out rfl HZ.out.1 HZ.out.2
theorem remove_any (hi d:Nat) (v:Value) (S:List Ent) (nm:ByteArray) (w:World) (hlen:S.length<=64) (hs:Sorted S) (h:DirAt hi w d v S) :
 Calls Tryz.prog 95 #[.pointer (some ⟨d,0,none⟩),.string nm] w (DirPost hi d v w (.tuple #[.int .i64 (find nm S),.int .i64 (remE nm S)]) (remS nm S)):=by
 have cP:=place_any hi d v S nm w (by omega) hs h
 have HD:Hid (∀ w1,Below w.heap.size w w1->DirAt hi w1 d v S):=fun w1 hb=>h.on hb
 cases hf:has nm S with
 | false =>
  have HK:Hid (∀ (e:Ending) w1,e=.returned (.tuple #[.int .i64 0,.int .i64 2])->Below w.heap.size w w1->DirPost hi d v w (.tuple #[.int .i64 (find nm S),.int .i64 (remE nm S)]) (remS nm S) e w1):=fun e w1 he hb =>
   ⟨by rw [he,find_none hf];unfold remE;rw [hf];rfl,v,by unfold remS;rw [hf];exact h.on hb,Goes.of_below hb⟩
  generalize DirPost hi d v w (.tuple #[.int .i64 (find nm S),.int .i64 (remE nm S)]) (remS nm S)=Post at *;rw [hf] at cP;clear h HD hf;go_enter Tryz.func95,Tryz.ntmps95;go_wp2_with fail;refine cP.mono ?_;rintro e w1 ⟨rfl,hb⟩;go_wp2
  exact HK.out _ _ rfl hb
 | true =>
  have HY:Hid (∀ (e:Ending) w1 v',e=.returned (.tuple #[.int .i64 (find nm S),.int .i64 0])->DirAt hi w1 d v' (S.take (under nm S) ++ S.drop (under nm S+1))->Goes (ownF d v) (ownF d v') w w1->DirPost hi d v w (.tuple #[.int .i64 (find nm S),.int .i64 (remE nm S)]) (remS nm S) e w1):=fun e w1 v' he hd ht =>
   ⟨by rw [he];unfold remE;rw [hf];rfl,v',by unfold remS;rw [hf];exact hd,ht⟩
  generalize DirPost hi d v w (.tuple #[.int .i64 (find nm S),.int .i64 (remE nm S)]) (remS nm S)=Post at *;obtain ⟨hlt,_,hn2⟩:=has_place hs hf;have HN2:Hid (find nm S=S[under nm S].2):=hn2;rw [hf] at cP;clear h hf hn2;generalize under nm S=p at *;generalize find nm S=fn at *
  have hz:(p:Int) < (S.length:Int):=by omega
  go_enter Tryz.func95,Tryz.ntmps95;go_wp2_with fail;refine cP.mono ?_;rintro e w1 ⟨rfl,hb⟩;have hd:=HD.out w1 hb;have x0:=hd.box.cell 0 rfl;obtain ⟨g,cap,rfl,_,_,x1⟩:=ent_cell hd hlt;rw [<- HN2.out] at x1
  have cD:=delete_any hi p _ S w1 (by omega) hlt hd.row
  have HD1:Hid (DirAt hi w1 d (.slice (some ⟨g,0,none⟩) S.length cap) S):=hd;clear hd cP HD;go_wp2_with fail;refine cD.mono ?_;rintro e w4 ⟨v',rfl,hrow,hgr,hgo⟩
  have hbox:=hgr.blk HD1.out.box (by decide)
  obtain ⟨p',cap',rfl,_⟩:=rowS_at hrow;have HZ:Hid (DirAt hi (w4.setCell ⟨d,0,none⟩ (.slice p' (S.take p ++ S.drop (p+1)).length cap')) d (.slice p' (S.take p ++ S.drop (p+1)).length cap') (S.take p ++ S.drop (p+1))):=dir_store hbox hrow HD1.out.hid
  have HT:Hid (Goes (ownF d (.slice (some ⟨g,0,none⟩) S.length cap)) (ownF d (.slice p' (S.take p ++ S.drop (p+1)).length cap')) w (w4.setCell ⟨d,0,none⟩ (.slice p' (S.take p ++ S.drop (p+1)).length cap'))) :=
   goes_grow hb hgo (but_set _ _ _ _)
  have y0:=hbox.cell 0 rfl;have y1:=hbox.free 0;generalize (S.take p ++ S.drop (p+1))=S' at *;clear cD hrow hgr hgo hbox x0 x1 HD1;go_wp2
  exact HY.out _ _ _ rfl HZ.out HT.out
theorem elemStr : ElemOk Tryz.prog 55 9 (.string ⟨#[]⟩) 16:=⟨Tryz.underlying55,by kernel_rfl,rfl,by decide⟩
def strV (l:List ByteArray):List Value:=l.map Value.string
def NamesAt (lo:Nat) (w:World) (v:Value) (l:List ByteArray):Prop:=(l=[]/\v=.slice none 0 0) ∨ ∃ g c,v=.slice (some ⟨g,0,none⟩) l.length c/\lo<=g/\Blk w g 9 (strV l)
theorem NamesAt.slice {lo:Nat} {w:World} {v:Value} {l:List ByteArray} (h:NamesAt lo w v l):∃ p c,v=.slice p l.length c/\∀ (j:Nat) (hj:j < l.length),∃ g,p=some ⟨g,0,none⟩/\w.cell? ⟨g,j,none⟩=some (.string l[j]):=by
 rcases h with ⟨rfl,rfl⟩ | ⟨g,c,h1,h2,h3⟩
 . exact ⟨none,0,rfl,fun j hj=>absurd hj (Nat.not_lt_zero _)⟩
 . exact ⟨_,c,h1,fun j hj=>⟨g,rfl,h3.cell j (by unfold strV;rw [List.getElem?_map,List.getElem?_eq_getElem hj];rfl)⟩⟩
theorem NamesAt.less {lo lo':Nat} {w:World} {v:Value} {l:List ByteArray} (h:NamesAt lo w v l) (hl:lo'<=lo):NamesAt lo' w v l:=by
 rcases h with h | ⟨g,c,h1,h2,h3⟩
 . exact .inl h
 . exact .inr ⟨g,c,h1,Nat.le_trans hl h2,h3⟩
def RetNames (w:World) (l:List ByteArray) (e:Ending) (w':World):Prop:=∃ v,e=.returned v/\NamesAt w.heap.size w' v l/\Below w.heap.size w w'
def outN (l:List ByteArray) (k:Nat):List Value:=strV (l.take k) ++ List.replicate (l.length - k) (.string ⟨#[]⟩)
theorem outN_zero (l:List ByteArray):outN l 0=List.replicate l.length (.string ⟨#[]⟩):=by simp [outN,strV]
theorem outN_all (l:List ByteArray):outN l l.length=strV l:=by simp [outN]
theorem outN_len (l:List ByteArray) (k:Nat):(outN l k).length=l.length:=by simp [outN,strV];omega
theorem outN_set (l:List ByteArray) (k:Nat) (h:k < l.length):(outN l k).set k (.string l[k])=outN l (k+1):=by
 have e:(strV (l.take k)).length=k:=by simp [strV];omega
 unfold outN
 rw [List.set_append_right _ _ (by omega),e,Nat.sub_self,show l.length - k=(l.length - (k+1))+1 by omega,List.replicate_succ,List.set_cons_zero]
 rw [List.take_add_one,List.getElem?_eq_getElem h,Option.toList_some];unfold strV;rw [List.map_append,List.append_assoc]
 rfl
def names (S:List Ent):List ByteArray:=S.map (·.1)
theorem names_len (S:List Ent):(names S).length=S.length:=List.length_map _
def pageL (S:List Ent) (fr n:Int):List ByteArray:=if fr < 0 ∨ n < 0 then [] else ((names S).drop fr.toNat).take n.toNat
theorem page_some (hi d:Nat) (v:Value) (S:List Ent) (fr m:Nat) (n:Int) (w:World) (hlen:S.length<=1000) (hfr:fr < S.length) (hn:0<=n) (hm:min n ((S.length:Int) - (fr:Int))=(m:Int)) (h:DirAt hi w d v S) :
 Calls Tryz.prog 81 #[.pointer (some ⟨d,0,none⟩),.int .i64 (fr:Int),.int .i64 n] w (RetNames w (((names S).drop fr).take m)):=by
 have hmle:fr+m<=S.length:=by omega
 obtain ⟨l,hl⟩:∃ l,((names S).drop fr).take m=l:=⟨_,rfl⟩
 have hll:l.length=m:=by rw [<- hl,List.length_take,List.length_drop,names_len];omega
 have HLk:Hid (∀ k (hk:k < l.length),∃ h2:fr+k < S.length,S[fr+k].1=l[k]):=fun k hk=>⟨by omega,by
  subst hl
  simp [names]⟩
 have HLn:Hid (∀ w1,Below w.heap.size w w1->Calls Tryz.prog 98 #[.pointer (some ⟨d,0,none⟩)] w1 fun e w'=>e=.returned (.int .i64 (S.length:Int))/\w'=w1):=fun w1 hb=>len_any hi d v S w1 (h.on hb)
 have HD:Hid (∀ w1,Below w.heap.size w w1->DirAt hi w1 d v S):=fun w1 hb=>h.on hb
 obtain ⟨w0,hmk,hB0,hb0,hs0⟩:=make_row elemStr rfl m (by omega) w
 have HB:Hid (Blk w0 w.heap.size 9 (outN l 0)/\Below w.heap.size w w0):=⟨by rw [outN_zero,hll];exact hB0,hb0⟩
 have HP:Hid (∀ (e:Ending) w1,e=.returned (.slice (some ⟨w.heap.size,0,none⟩) m m)->Blk w1 w.heap.size 9 (outN l m)->Below w.heap.size w w1->RetNames w l e w1):=fun e w1 he hB hb =>
  ⟨_,he,.inr ⟨w.heap.size,m,by rw [hll],Nat.le_refl _,by rw [<- outN_all l,hll];exact hB⟩,hb⟩
 rw [hl];have HLL:Hid (l.length=m):=hll;generalize RetNames w l=Post at *
 have hz1:¬ (S.length:Int)<=(fr:Int):=by omega
 have hz0:¬ (fr:Int) < 0:=by omega
 have hz2:¬ n < 0:=by omega
 have hnl:¬ S.length<=fr:=by omega
 clear h hl hB0 hb0 hll;go_enter Tryz.func81,Tryz.ntmps81;go_wp2_with fail
 refine (HLn.out w (Below.refl _ _)).mono ?_
 rintro e w2 ⟨rfl,hw2⟩;subst hw2;go_wp2_with fail
 refine (HLn.out w2 (Below.refl _ _)).mono ?_
 rintro e w3 ⟨rfl,hw3⟩;subst hw3;go_wp2
 go_loopw [30] (fun i wr => ∃ k:Nat,k<=m/\i=.int .i64 k/\Hid (Blk wr w3.heap.size 9 (outN l k)/\Below w3.heap.size w3 wr)) (fun i _=>m - (intOf i).toNat)
 case atStart=>exact ⟨0,Nat.zero_le _,rfl,HB⟩
 case round =>
  clear HB;obtain ⟨k,hk,rfl,HB⟩:=hrel
  by_cases hlt:k < m
  . have hltz:(k:Int) < (m:Int):=by omega
    have hkl:k < l.length:=by have:=HLL.out;omega
    obtain ⟨h2,hnm⟩:=HLk.out k hkl;have hd:=HD.out wr HB.out.2;have x0:=hd.box.cell 0 rfl;obtain ⟨g,cap,rfl,_,x1,_⟩:=ent_cell hd h2
    have y0:wr.cell? ⟨w3.heap.size,k,none⟩=some ((outN l k)[k]'(by rw [outN_len];exact hkl)):=HB.out.1.cell k (List.getElem?_eq_getElem _)
    have y1:=HB.out.1.free k
    have HB2:Hid (Blk (wr.setCell ⟨w3.heap.size,k,none⟩ (.string l[k])) w3.heap.size 9 (outN l (k+1))/\Below w3.heap.size w3 (wr.setCell ⟨w3.heap.size,k,none⟩ (.string l[k]))):=by
     refine ⟨?_,below_but HB.out.2 (but_set _ _ _ _) (Nat.le_refl _)⟩
     rw [<- outN_set l k hkl];exact HB.out.1.set k _
    rw [hnm] at x1
    have hzi:(fr:Int)+(k:Int) < (S.length:Int):=by omega
    generalize (outN l k)[k]'(by rw [outN_len];exact hkl)=old at *
    generalize l[k]=y at *;clear hd;go_wp2;go_roundw
    case rel=>exact ⟨k+1,by omega,by go_num,HB2⟩
    case measure=>simp [intOf];omega
  . obtain rfl:k=m:=by omega
    have hltz:¬ (k:Int) < (k:Int):=by omega
    go_wp2
    exact HP.out _ _ rfl HB.out.1 HB.out.2
theorem ret_nil {w w':World} {l:List ByteArray} (hl:l=[]) (hb:Below w.heap.size w w'):RetNames w l (.returned (.slice none 0 0)) w':=by
 subst hl
 exact ⟨_,rfl,.inl ⟨rfl,rfl⟩,hb⟩
theorem page_any (hi d:Nat) (v:Value) (S:List Ent) (fr n:Int) (w:World) (hlen:S.length<=1000) (h:DirAt hi w d v S) :
 Calls Tryz.prog 81 #[.pointer (some ⟨d,0,none⟩),.int .i64 fr,.int .i64 n] w (RetNames w (pageL S fr n)):=by
 by_cases h0:fr < 0
 . have HP:Hid (∀ w1,Below w.heap.size w w1->RetNames w (pageL S fr n) (.returned (.slice none 0 0)) w1):=fun w1 hb=>ret_nil (by unfold pageL;rw [if_pos (.inl h0)]) hb
   generalize RetNames w (pageL S fr n)=Post at *;clear h;go_enter Tryz.func81,Tryz.ntmps81;go_wp2
   exact HP.out _ (Below.refl _ _)
 by_cases h1:n < 0
 . have HP:Hid (∀ w1,Below w.heap.size w w1->RetNames w (pageL S fr n) (.returned (.slice none 0 0)) w1):=fun w1 hb=>ret_nil (by unfold pageL;rw [if_pos (.inr h1)]) hb
   generalize RetNames w (pageL S fr n)=Post at *;clear h;go_enter Tryz.func81,Tryz.ntmps81;go_wp2
   exact HP.out _ (Below.refl _ _)
 by_cases h2:(S.length:Int)<=fr
 . have HP:Hid (∀ w1,Below w.heap.size w w1->RetNames w (pageL S fr n) (.returned (.slice none 0 0)) w1):=fun w1 hb=>ret_nil (by
    unfold pageL
    rw [if_neg (by omega),List.drop_of_length_le (by rw [names_len];omega),List.take_nil]) hb
   have cL:=len_any hi d v S w h;generalize RetNames w (pageL S fr n)=Post at *;clear h;go_enter Tryz.func81,Tryz.ntmps81;go_wp2_with fail;refine cL.mono ?_;rintro e w1 ⟨rfl,rfl⟩;go_wp2
   exact HP.out _ (Below.refl _ _)
 . obtain ⟨k,rfl⟩:∃ k:Nat,fr=(k:Int):=⟨fr.toNat,by omega⟩
   obtain ⟨m,hm⟩:∃ m:Nat,min n ((S.length:Int) - (k:Int))=(m:Int):=⟨(min n ((S.length:Int) - (k:Int))).toNat,by omega⟩
   have e:pageL S (k:Int) n=((names S).drop k).take m:=by
    unfold pageL
    rw [if_neg (by omega),Int.toNat_natCast]
    by_cases hq:n<=(S.length:Int) - (k:Int)
    . rw [show n.toNat=m by omega]
    . rw [List.take_of_length_le (by rw [List.length_drop,names_len];omega),List.take_of_length_le (by rw [List.length_drop,names_len];omega)]
   rw [e]
   exact page_some hi d v S k m n w hlen (by omega) (by omega) hm h
def rAddE (nm:ByteArray) (ino:Int) (l:List Ent):Int:=if nameE nm ≠ 0 then nameE nm else if ino < 1 then 22 else if 0 < find nm l then 17 else if 64<=l.length then 28 else 0
def rAdd (nm:ByteArray) (ino:Int) (l:List Ent):List Ent:=if rAddE nm ino l=0 then l ++ [(nm,ino)] else l
def lastN (nm:ByteArray) (l:List Ent):Int:=l.foldl (fun o x=>if same nm x then x.2 else o) 0
def rRemE (nm:ByteArray) (l:List Ent):Int:=if lastN nm l=0 then 2 else 0
def rRem (nm:ByteArray) (l:List Ent):List Ent:=if lastN nm l=0 then l else l.filter fun x => !same nm x
structure DRelE (S l:List Ent):Prop where
 perm:S.Perm l
 sorted:Sorted S
 pos:∀ x ∈ l,1<=x.2
 few:l.length<=64
theorem sorted_one {S:List Ent} (hs:Sorted S) {x y:Ent} (hx:x ∈ S) (hy:y ∈ S) (h:x.1=y.1):x=y:=by
 obtain ⟨i,hi,rfl⟩:=List.mem_iff_getElem.1 hx;obtain ⟨j,hj,rfl⟩:=List.mem_iff_getElem.1 hy;have hp:=List.pairwise_iff_getElem.1 hs
 rcases Nat.lt_trichotomy i j with hij | rfl | hij
 . have:=hp i j hi hj hij;rw [h,lt_irrefl] at this;cases this
 . rfl
 . have:=hp j i hj hi hij;rw [h,lt_irrefl] at this;cases this
theorem sorted_index {S:List Ent} (hs:Sorted S) {i j:Nat} (hi:i < S.length) (hj:j < S.length) (h:S[i].1=S[j].1):i=j:=by
 have hp:=List.pairwise_iff_getElem.1 hs
 rcases Nat.lt_trichotomy i j with hij | h' | hij
 . have:=hp i j hi hj hij;rw [h,lt_irrefl] at this;cases this
 . exact h'
 . have:=hp j i hj hi hij;rw [h,lt_irrefl] at this;cases this
theorem find_of {l:List Ent} (hd:∀ x ∈ l,∀ y ∈ l,x.1=y.1->x=y) {x:Ent} (hx:x ∈ l):find x.1 l=x.2:=by
 unfold find
 cases h:l.find? (same x.1) with
 | none=>exact absurd (same_iff.2 rfl) (List.find?_eq_none.1 h x hx)
 | some y =>
  have h1:=List.mem_of_find?_eq_some h;have h2:=same_iff.1 (List.find?_some h);rw [hd y h1 x hx h2];rfl
theorem last_of {nm:ByteArray}:∀ (l:List Ent) (o:Int),(∀ x ∈ l,∀ y ∈ l,x.1=y.1->x=y)->l.foldl (fun o x=>if same nm x then x.2 else o) o=if has nm l then find nm l else o
 | [],o,_=>rfl
 | x :: r,o,hd=>by
  have ih:=last_of (nm:=nm) r (if same nm x then x.2 else o) fun y hy z hz h=>hd y (List.mem_cons_of_mem _ hy) z (List.mem_cons_of_mem _ hz) h
  rw [List.foldl_cons,ih]
  cases hx:same nm x with
  | true =>
   have e1:has nm (x :: r)=true:=by simp [has,hx]
   have e2:find nm (x :: r)=x.2:=by simp [find,hx]
   rw [e1,e2]
   cases hr:has nm r with
   | false=>simp
   | true =>
    obtain ⟨y,hy,hsy⟩:=List.any_eq_true.1 hr;have:y=x:=hd y (List.mem_cons_of_mem _ hy) x List.mem_cons_self ((same_iff.1 hsy).trans (same_iff.1 hx).symm);subst this
    have h3:=find_of (fun a ha b hb h=>hd a (List.mem_cons_of_mem _ ha) b (List.mem_cons_of_mem _ hb) h) hy
    rw [same_iff.1 hx] at h3
    simp [h3]
  | false =>
   have e1:has nm (x :: r)=has nm r:=by simp [has,hx]
   have e2:find nm (x :: r)=find nm r:=by simp [find,hx]
   rw [e1,e2]
   rfl
section
variable {S l:List Ent} {nm:ByteArray} {ino:Int}
theorem DRelE.len (h:DRelE S l):S.length=l.length:=h.perm.length_eq
theorem DRelE.one (h:DRelE S l):∀ x ∈ l,∀ y ∈ l,x.1=y.1->x=y:=fun _ hx _ hy e=>sorted_one h.sorted (h.perm.mem_iff.2 hx) (h.perm.mem_iff.2 hy) e
theorem DRelE.oneS (h:DRelE S l):∀ x ∈ S,∀ y ∈ S,x.1=y.1->x=y:=fun _ hx _ hy e=>sorted_one h.sorted hx hy e
theorem DRelE.has (h:DRelE S l) (nm:ByteArray):has nm S=has nm l:=h.perm.any_eq
theorem DRelE.find (h:DRelE S l) (nm:ByteArray):find nm S=find nm l:=by
 cases hh:Proofs.YthlaoaaafafafaaGreat.has nm l with
 | false=>rw [find_none hh,find_none (by rw [h.has];exact hh)]
 | true =>
  obtain ⟨x,hx,hs⟩:=List.any_eq_true.1 hh;have e:=same_iff.1 hs;subst e;rw [find_of h.one hx,find_of h.oneS (h.perm.mem_iff.2 hx)]
theorem DRelE.found (h:DRelE S l) (nm:ByteArray):(0 < Proofs.YthlaoaaafafafaaGreat.find nm l ↔ Proofs.YthlaoaaafafafaaGreat.has nm l=true)/\(Proofs.YthlaoaaafafafaaGreat.find nm l=0 ↔ Proofs.YthlaoaaafafafaaGreat.has nm l=false):=by
 cases hh:Proofs.YthlaoaaafafafaaGreat.has nm l with
 | false=>rw [find_none hh];simp
 | true =>
  obtain ⟨x,hx,hs⟩:=List.any_eq_true.1 hh;have e:=same_iff.1 hs;subst e;rw [find_of h.one hx];have:=h.pos x hx
  constructor
  . simp;omega
  . simp;omega
theorem DRelE.addE (h:DRelE S l):addE nm ino S=rAddE nm ino l:=by
 unfold Proofs.YthlaoaaafafafaaGreat.addE rAddE;rw [h.len,h.has]
 cases hh:Proofs.YthlaoaaafafafaaGreat.has nm l with
 | false=>rw [if_neg (c:=0 < Proofs.YthlaoaaafafafaaGreat.find nm l) (by rw [(h.found nm).1,hh];simp)];rfl
 | true=>rw [if_pos (c:=0 < Proofs.YthlaoaaafafafaaGreat.find nm l) ((h.found nm).1.2 hh)];rfl
theorem DRelE.add (h:DRelE S l):DRelE (addS nm ino S) (rAdd nm ino l):=by
 unfold addS rAdd;rw [<- h.addE]
 by_cases h0:Proofs.YthlaoaaafafafaaGreat.addE nm ino S=0
 . rw [if_pos h0,if_pos h0];have hE:=h0;unfold Proofs.YthlaoaaafafafaaGreat.addE at hE
   have hino:1<=ino/\Proofs.YthlaoaaafafafaaGreat.has nm S=false/\S.length < 64:=by
    split at hE
    . rename_i h1;exact absurd hE h1
    . split at hE
      . cases hE
      . split at hE
        . cases hE
        . split at hE
          . cases hE
          . rename_i h1 h2 h3
            exact ⟨by omega,by simpa using h2,by omega⟩
   have hlt:=sorted_under nm S h.sorted
   have hge:∀ k (hk:k < S.length),Proofs.YthlaoaaafafafaaGreat.under nm S<=k->lt nm S[k].1=true:=fun k hk hle=>by
    have h1:=hlt k hk
    rw [decide_eq_false (by omega)] at h1
    rcases lt_or (a:=nm) (b:=S[k].1) (fun e=>by
     have:=List.any_eq_false.1 hino.2.1 _ (List.getElem_mem hk)
     exact this (same_iff.2 e.symm)) with h2 | h2
    . exact h2
    . rw [h1] at h2;cases h2
   refine ⟨?_,?_,?_,?_⟩
   . have h1:(S.take (Proofs.YthlaoaaafafafaaGreat.under nm S) ++ (nm,ino) :: S.drop (Proofs.YthlaoaaafafafaaGreat.under nm S)).Perm ((nm,ino) :: S):=by
      have:=List.perm_middle (a:=(nm,ino)) (l₁:=S.take (Proofs.YthlaoaaafafafaaGreat.under nm S)) (l₂:=S.drop (Proofs.YthlaoaaafafafaaGreat.under nm S));rwa [List.take_append_drop] at this
     exact h1.trans ((List.Perm.cons _ h.perm).trans (List.perm_append_singleton _ _).symm)
   . refine List.pairwise_append.2 ⟨h.sorted.take,List.pairwise_cons.2 ⟨fun y hy => ?_,h.sorted.drop⟩,fun x hx y hy => ?_⟩
     . obtain ⟨k,hk,rfl⟩:=List.mem_iff_getElem.1 hy;rw [List.getElem_drop]
       exact hge _ _ (by omega)
     . obtain ⟨k,hk,rfl⟩:=List.mem_iff_getElem.1 hx;rw [List.length_take] at hk
       have hk1:lt S[k].1 nm=true:=by rw [hlt k (by omega)];exact decide_eq_true (by omega)
       rw [List.getElem_take]
       rcases List.mem_cons.1 hy with rfl | hy
       . exact hk1
       . obtain ⟨j,hj,rfl⟩:=List.mem_iff_getElem.1 hy;rw [List.getElem_drop]
         exact lt_trans hk1 (hge _ _ (by omega))
   . intro x hx
     rcases List.mem_append.1 hx with hx | hx
     . exact h.pos x hx
     . simp at hx;subst hx;exact hino.1
   . rw [List.length_append,<- h.len]
     show S.length+1<=64
     omega
 . rw [if_neg h0,if_neg h0];exact h
theorem DRelE.last (h:DRelE S l):lastN nm l=Proofs.YthlaoaaafafafaaGreat.find nm l:=by
 unfold lastN;rw [last_of l 0 h.one]
 cases hh:Proofs.YthlaoaaafafafaaGreat.has nm l with
 | false=>rw [find_none hh];rfl
 | true=>rfl
theorem DRelE.rem (h:DRelE S l):DRelE (remS nm S) (rRem nm l):=by
 unfold remS rRem;rw [h.last]
 cases hh:Proofs.YthlaoaaafafafaaGreat.has nm S with
 | false=>rw [if_pos ((h.found nm).2.2 (by rw [<- h.has];exact hh)),if_neg (by simp)];exact h
 | true =>
  rw [if_pos rfl,if_neg (by rw [(h.found nm).2,<- h.has,hh];simp)]
  obtain ⟨hlt,hn,_⟩:=has_place h.sorted hh
  have hu:=fun {i j:Nat} (hi:i < S.length) (hj:j < S.length) (e:S[i].1=S[j].1)=>sorted_index h.sorted hi hj e
  have e:S.take (Proofs.YthlaoaaafafafaaGreat.under nm S) ++ S.drop (Proofs.YthlaoaaafafafaaGreat.under nm S+1)=S.filter fun x => !same nm x:=by
   have e1:S.filter (fun x => !same nm x)=(S.take (Proofs.YthlaoaaafafafaaGreat.under nm S) ++ S[Proofs.YthlaoaaafafafaaGreat.under nm S] :: S.drop (Proofs.YthlaoaaafafafaaGreat.under nm S+1)).filter fun x => !same nm x:=by
    rw [<- List.drop_eq_getElem_cons hlt,List.take_append_drop]
   rw [e1,List.filter_append,List.filter_cons,if_neg (by rw [same_iff.2 hn];simp)]
   congr 1
   . refine (List.filter_eq_self.2 fun x hx => ?_).symm
     obtain ⟨k,hk,rfl⟩:=List.mem_iff_getElem.1 hx;rw [List.length_take] at hk;rw [List.getElem_take]
     cases hq:same nm S[k] with
     | false=>rfl
     | true =>
      have:=hu (show k < S.length by omega) hlt ((same_iff.1 hq).trans hn.symm)
      omega
   . refine (List.filter_eq_self.2 fun x hx => ?_).symm
     obtain ⟨k,hk,rfl⟩:=List.mem_iff_getElem.1 hx;rw [List.length_drop] at hk;rw [List.getElem_drop]
     cases hq:same nm S[Proofs.YthlaoaaafafafaaGreat.under nm S+1+k] with
     | false=>rfl
     | true =>
      have:=hu (show Proofs.YthlaoaaafafafaaGreat.under nm S+1+k < S.length by omega) hlt ((same_iff.1 hq).trans hn.symm)
      omega
  rw [e]
  exact ⟨h.perm.filter _,h.sorted.filter _,fun x hx=>h.pos x (List.mem_filter.1 hx).1,Nat.le_trans (List.length_filter_le _ _) h.few⟩
end
end Go.Proofs.YthlaoaaafafafaaGreat
