/- Ours. -/
import Derived.Test.YthlaoaaafafafaaGreatN3
set_option maxRecDepth 100000
set_option maxHeartbeats 16000000
namespace Go.Proofs.YthlaoaaafafafaaGreat
open Go Go.RowKit Go.Maps
theorem luk_entry {s:SS} {U:Int->Int} {c:Nat} (hf:Wf s c) (ht:Tree s) {d:Int} {nm:ByteArray} (h0:dirE s d=0) (hn:nameE nm=0) (h1:dotB nm=false) (h2:ddB nm=false):lukN s U d nm=entryN s d nm/\lukE s d nm=entryE s d nm:=by
 have hp:placeE s d nm=0:=by unfold placeE;rw [if_pos h0,hn]
 obtain ⟨i,n,hx,_,_⟩:=dirE_ok h0;have hfound:=(ht.rel hf (look_mem hx).1).found nm
 refine ⟨?_,by unfold lukE;rw [if_neg (by simp [h1,h2])]⟩
 unfold lukN entryN
 rw [if_neg (by simp [h1]),if_neg (by simp [h2]),if_pos hp]
 unfold entryE;rw [if_pos hp,ents_look hx]
 cases hh:has nm n.ds with
 | true=>rw [if_pos rfl,if_pos rfl]
 | false =>
  rw [hh] at hfound
  rw [if_neg (by simp),hfound.2.2 rfl]
theorem rluk8 {hi rb c:Nat} {w:World} {s:SS} {U:Int->Int} (h:RefAt6 hi w rb s) (hf:Wf s c) (ht:Tree s) (ha:Agree s U) (d:Int) (h0:dirE s d=0) (nm:ByteArray) (h1:dotB nm=false) (hsz:nm.size<=10000) :
 Calls Tryz.prog 26 #[ptr rb,.int .i64 d,.string nm] w (RNumPost (lukN s U d nm) (lukE s d nm) w):=by
 have hl:s.L.length<=1000000:=by have:=hf.room;have:=hf.most;omega
 have cD:=rdir7 h d hl;rw [h0] at cD;have dot1:(nm.toList == [46])=false:=h1
 cases h2:ddB nm with
 | true =>
  have dot2:(nm.toList == [46,46])=true:=h2;obtain ⟨i,n,hx,hk,hg⟩:=dirE_ok h0
  have cA:=fun q=>rat_any (h.on (on_drewN (Below.refl _ _) q)) d hl
  rw [ixZ_look_some hx] at cA;have hxm:=look_mem hx
  have hU:U d=n.par:=by
   have:=ha n hxm.1 hk (hg.imp_left fun h7=>by have:=hxm.2;omega)
   rwa [hxm.2] at this
  have e1:lukN s U d nm=n.par:=by unfold lukN;rw [if_neg (by simp [h1]),if_pos h2,if_pos h0,hU]
  have e2:lukE s d nm=0:=by unfold lukE;rw [if_pos (.inr h2),h0];rfl
  rw [e1,e2];obtain ⟨hi',rfl,_,_⟩:=look_some hx;obtain ⟨rv,Q,eQ,h⟩:=h;have hQ:=ix_map eQ
  obtain ⟨g,cap,rfl,_,_,_,hc⟩:=h.place (k:=i) (by omega)
  have x0:=h.box.cell 0 rfl
  have c4:=hc 4 (by omega) _ rfl
  rw [show (Q[i]'(by omega)).n.par=s.L[i].par by rw [map_get eQ (by omega) hi']] at c4
  rw [hQ] at x0
  have hiz:(i:Int) < (s.L.length:Int):=by omega
  have hiz2:¬ (i:Int) < 0:=by omega
  clear h hc hx eQ hQ hxm hU e1 e2 hk hg ha hf ht h0 h1 h2;generalize s.L[i].par=pz at *;go_enter Tryz.func26,Tryz.ntmps26;go_wp2_with fail;refine cD.mono ?_;rintro e w1 ⟨rfl,hw1⟩;subst w1;go_wp2
  go_quiet (first | (go_at_call 29;refine Calls.quiet_of_same (cA _)))
  go_wp2
  go_ret2
  exact ⟨rfl,_,rfl⟩
 | false =>
  have dot2:(nm.toList == [46,46])=false:=h2
  by_cases hn:nameE nm=0
  . obtain ⟨e1,e2⟩:=luk_entry (U:=U) hf ht h0 hn h1 h2;rw [e1,e2]
    exact rlookup7 h hf ht d nm hn hsz
  . have cN:=refName_any nm w hsz
    have hp:placeE s d nm=nameE nm:=by unfold placeE;rw [if_pos h0]
    have e2:lukE s d nm=nameE nm:=by
     unfold lukE entryE
     rw [if_neg (by simp [h1,h2]),hp,if_neg hn]
    have e1:lukN s U d nm=0:=by
     unfold lukN entryE
     rw [if_neg (by simp [h1]),if_neg (by simp [h2]),hp,if_neg hn,if_neg hn]
    rw [e1,e2];clear h hf ht ha h0 h1 h2 hp e1 e2;generalize nameE nm=nz at *;go_enter Tryz.func26,Tryz.ntmps26;go_wp2_with fail;refine cD.mono ?_;rintro e w1 ⟨rfl,hw1⟩;subst w1;go_wp2_with fail;refine cN.mono ?_;rintro e w1 ⟨rfl,hw1⟩;subst w1;go_wp2
    go_ret2
    exact ⟨rfl,0,(World.drewN_zero _).symm⟩
theorem pL_pos (t:ByteArray):∀ x ∈ P.pL t,0 < x.size:=fun x hx=>by
 unfold P.pL at hx
 split at hx
 . have h1:x.data.toList ∈ (P.partsOf t).map (·.data.toList):=List.mem_map_of_mem hx;rw [P.parts_fields] at h1
   have h2:=(P.fields_good t.data.toList [] (by simp) _ h1).1
   have h3:x.data.toList.length=x.size:=size_list x;have:=List.length_pos_iff.2 h2
   omega
 . cases hx
theorem pL_abs {t:ByteArray} (h:P.pE t=0) (hn:P.pL t=[]):P.pA t=true:=by
 have hs:=(P.pE_ok h).1;unfold P.pL at hn;rw [if_pos h] at hn
 have h1:P.fields [] t.data.toList=[]:=by rw [<- P.parts_fields,hn];rfl
 have h2:=P.fields_none _ h1;have h3:t.data.toList.length=t.size:=size_list t;unfold P.pA;rw [if_pos h]
 cases hl:t.data.toList with
 | nil=>rw [hl] at h3;simp at h3;omega
 | cons x r =>
  have h4:=h2 x (by rw [hl];simp)
  unfold P.byteAt;rw [hl,h4]
  rfl
theorem tgtB_kind (s:SS) (x:Int):tgtB s x=(kindOf s x == 3):=by
 unfold tgtB kindOf
 cases look s x with
 | none=>rfl
 | some y=>rfl
theorem kind_dir {s:SS} {x:Int} (h:dirE s x=0):kindOf s x=2:=by
 obtain ⟨i,n,hx,hk,_⟩:=dirE_ok h;unfold kindOf;rw [hx]
 exact hk
theorem tgt_dir {s:SS} {x:Int} (h:dirE s x=0):tgtB s x=false:=by
 rw [tgtB_kind,kind_dir h]
 rfl
theorem dirE_root {s:SS} {c:Nat} (hf:Wf s c) (ht:Tree s):dirE s 1=0:=by
 obtain ⟨n,hn,h1,h2,_⟩:=ht.root;obtain ⟨i,hx⟩:=look_of hf hn;unfold dirE;rw [h1] at hx
 rw [show ((1:Nat):Int)=1 from rfl] at hx
 rw [hx]
 simp [h2]
theorem dirE_up {s:SS} {U:Int->Int} {c:Nat} (hk:FsOk s U c) {d:Int} (h:dirE s d=0):dirE s (U d)=0:=by
 obtain ⟨i,n,hx,hk2,hg⟩:=dirE_ok h;obtain ⟨hn,hxe⟩:=look_mem hx
 have hU:U d=n.par:=by
  have:=hk.agree n hn hk2 (hg.imp_left fun h7=>by omega)
  rwa [hxe] at this
 rw [hU]
 by_cases h1:n.ino=1
 . obtain ⟨r,hr,e1,_,_,_,e5⟩:=hk.tree.root
   have:n=r:=hk.wf.one hn hr (by omega)
   subst this;rw [e5]
   exact dirE_root hk.wf hk.tree
 . have hl:1<=n.links:=by omega
   obtain ⟨m,hm,e1,e2,e3,_⟩:=hk.tree.parent hk.wf hn hk2 hl;rw [e1];obtain ⟨i2,hx2⟩:=look_of hk.wf hm;unfold dirE;rw [hx2];have:=(hk.tree.dirs m hm e3).2
   simp only [e2,if_true]
   rw [if_neg]
   intro h7
   have h8:=(hk.wf.num m hm).1
   rcases this with h9 | h9 | h9
   . exact h7.1 (by omega)
   . omega
   . omega
section
variable {s : SS} {U:Int->Int} {be fo pa:Bool} {k c:Nat} {part:ByteArray} {rest:List ByteArray} {dir:Int} {slash:Bool} {steps:Nat}
theorem rs_dir (h:dirE s dir ≠ 0):goF s U be fo pa k (part :: rest) dir slash steps=(fd0,((dirE s dir:Nat):Int)):=by
 have e:lkE s be pa dir part rest.isEmpty=((dirE s dir:Nat):Int):=by unfold lkE;rw [if_pos h]
 rw [goF_err (by rw [e];omega),e]
theorem dot_dd {p:ByteArray} (h:dotB p=true):ddB p=false:=by
 unfold dotB at h;unfold ddB;rw [beq_iff_eq] at h;rw [h]
 rfl
theorem rs_end (hn:∀ last,lkE s be pa dir part last=0) {ino:Int} (hi:∀ last,lkN s U be pa dir part last=ino) (ht:tgtB s ino=false) (hd:(dotB part || ddB part)=true):goF s U be fo pa k (part :: rest) dir slash steps=goF s U be fo pa k rest ino slash (steps+1):=by
 cases rest with
 | nil =>
  rw [goF_last (hn true) (hi true) (by unfold thru;rw [ht];rfl),goF_nil]
  unfold endV endE;rw [if_pos hd,if_pos hd]
 | cons a r=>exact goF_more (by simp) (hn false) (hi false) (by unfold thru;rw [ht];rfl)
theorem rs_dot (h:dirE s dir=0) (hd:dotB part=true):goF s U be fo pa k (part :: rest) dir slash steps=goF s U be fo pa k rest dir slash (steps+1):=by
 have hdd:=dot_dd hd
 have hE:lukE s dir part=0:=by unfold lukE;rw [if_pos (.inl hd),h];rfl
 have hN:lukN s U dir part=dir:=by unfold lukN;rw [if_pos hd,if_pos h]
 refine rs_end (fun last => ?_) (fun last => ?_) (tgt_dir h) (by rw [hd];rfl)
 . unfold lkE
   rw [if_neg (by simp [h]),hdd,if_neg (by simp),hE,if_neg (by simp)]
 . unfold lkN
   rw [if_neg (by simp [h]),hdd,if_neg (by simp),hE,if_neg (by simp),hN]
theorem rs_bar (h:dirE s dir=0) (hd:ddB part=true) (hb:be=true):goF s U be fo pa k (part :: rest) dir slash steps=(fd0,93):=by
 have e:lkE s be pa dir part rest.isEmpty=93:=by unfold lkE;rw [if_neg (by simp [h]),hd,hb,if_pos (by rfl)]
 rw [goF_err (by rw [e];decide),e]
theorem rs_up (hk:FsOk s U c) (h:dirE s dir=0) (hdot:dotB part=false) (hd:ddB part=true) (hb:be=false):goF s U be fo pa k (part :: rest) dir slash steps=goF s U be fo pa k rest (lukN s U dir part) slash (steps+1)/\dirE s (lukN s U dir part)=0/\lukE s dir part=0:=by
 have hE:lukE s dir part=0:=by unfold lukE;rw [if_pos (.inr hd),h];rfl
 have hN:lukN s U dir part=U dir:=by unfold lukN;rw [if_neg (by simp [hdot]),if_pos hd,if_pos h]
 have hU:=dirE_up hk h
 refine ⟨?_,by rw [hN];exact hU,hE⟩
 refine rs_end (fun last => ?_) (fun last => ?_) (by rw [hN];exact tgt_dir hU) (by rw [hd];simp)
 . unfold lkE
   rw [if_neg (by simp [h]),hb,Bool.and_false,if_neg (by simp),hE,if_neg (by simp)]
 . unfold lkN
   rw [if_neg (by simp [h]),hb,Bool.and_false,if_neg (by simp),hE,if_neg (by simp)]
theorem lk_plain (h:dirE s dir=0) (hd:ddB part=false) (last:Bool) (hn:¬ (lukE s dir part=2/\(last && pa)=true)):lkE s be pa dir part last=lukE s dir part/\lkN s U be pa dir part last=lukN s U dir part:=by
 refine ⟨?_,?_⟩
 . unfold lkE
   rw [if_neg (by simp [h]),hd,Bool.false_and,if_neg (by simp),if_neg hn]
 . unfold lkN
   rw [if_neg (by simp [h]),hd,Bool.false_and,if_neg (by simp),if_neg hn]
theorem rs_new (hf:Wf s c) (h:dirE s dir=0) (hdot:dotB part=false) (hd:ddB part=false) (hE:lukE s dir part=2) (hp:pa=true):goF s U be fo pa k [part] dir slash steps=(fdC dir part 0 slash ((steps+1:Nat):Int),0):=by
 have e1:lkE s be pa dir part true=0:=by unfold lkE;rw [if_neg (by simp [h]),hd,Bool.false_and,if_neg (by simp),hE,hp,if_pos ⟨rfl,rfl⟩]
 have e2:lkN s U be pa dir part true=0:=by unfold lkN;rw [if_neg (by simp [h]),hd,Bool.false_and,if_neg (by simp),hE,hp,if_pos ⟨rfl,rfl⟩]
 have ht:tgtB s 0=false:=by
  unfold tgtB
  cases hx:look s 0 with
  | none=>rfl
  | some y =>
   obtain ⟨i,n⟩:=y;obtain ⟨hn,h7⟩:=look_mem hx;have:=(hf.num n hn).1
   omega
 rw [goF_last e1 e2 (by unfold thru;rw [ht];rfl)]
 unfold endV endE;rw [hdot,hd]
 simp
theorem rs_err (h:dirE s dir=0) (hd:ddB part=false) (hE:lukE s dir part ≠ 0) (hn:¬ (lukE s dir part=2/\(rest.isEmpty && pa)=true)):goF s U be fo pa k (part :: rest) dir slash steps=(fd0,lukE s dir part):=by
 have e:=(lk_plain (U:=U) (be:=be) h hd rest.isEmpty hn).1
 rw [goF_err (by rw [e];exact hE),e]
section
variable (h : dirE s dir=0) (hd:ddB part=false) (hE:lukE s dir part=0)
include h hd hE
theorem rs_loop (ht:thru s (lukN s U dir part) rest.isEmpty fo slash=true):goF s U be fo pa 0 (part :: rest) dir slash steps=(fd0,62):=by
 obtain ⟨e1,e2⟩:=lk_plain (U:=U) (be:=be) (pa:=pa) h hd rest.isEmpty (by rw [hE];simp)
 exact goF_loop (by rw [e1,hE]) (by rw [e2];exact ht)
theorem rs_bad (ht:thru s (lukN s U dir part) rest.isEmpty fo slash=true) (he:takeE be (tgtT s (lukN s U dir part)) ≠ 0):goF s U be fo pa (k+1) (part :: rest) dir slash steps=(fd0,takeE be (tgtT s (lukN s U dir part))):=by
 obtain ⟨e1,e2⟩:=lk_plain (U:=U) (be:=be) (pa:=pa) h hd rest.isEmpty (by rw [hE];simp)
 exact goF_bad (by rw [e1,hE]) e2 ht he
theorem rs_link (ht:thru s (lukN s U dir part) rest.isEmpty fo slash=true) (he:takeE be (tgtT s (lukN s U dir part))=0):goF s U be fo pa (k+1) (part :: rest) dir slash steps=goF s U be fo pa k (P.pL (tgtT s (lukN s U dir part)) ++ rest) (takeD dir (tgtT s (lukN s U dir part))) (takeS rest slash (tgtT s (lukN s U dir part))) (steps+1):=by
 obtain ⟨e1,e2⟩:=lk_plain (U:=U) (be:=be) (pa:=pa) h hd rest.isEmpty (by rw [hE];simp)
 exact goF_link (by rw [e1,hE]) e2 ht he
theorem rs_more (hr:rest ≠ []) (ht:thru s (lukN s U dir part) false fo slash=false):goF s U be fo pa k (part :: rest) dir slash steps=goF s U be fo pa k rest (lukN s U dir part) slash (steps+1):=by
 obtain ⟨e1,e2⟩:=lk_plain (U:=U) (be:=be) (pa:=pa) h hd false (by rw [hE];simp)
 exact goF_more hr (by rw [e1,hE]) e2 ht
theorem rs_last (hdot:dotB part=false) (hp:0 < lukN s U dir part) (ht:thru s (lukN s U dir part) true fo slash=false):goF s U be fo pa k [part] dir slash steps=if (slash && (kindOf s (lukN s U dir part) != 2))=true then (fd0,20) else (fdC dir part (lukN s U dir part) slash ((steps+1:Nat):Int),0):=by
 obtain ⟨e1,e2⟩:=lk_plain (U:=U) (be:=be) (pa:=pa) h hd true (by rw [hE];simp)
 rw [goF_last (by rw [e1,hE]) e2 ht]
 unfold endV endE
 have h7:(lukN s U dir part != 0)=true:=by rw [bne_iff_ne];omega
 rw [hdot,hd,isDir_kind,h7]
 simp only [Bool.or_self,Bool.false_eq_true,if_false,Bool.and_true]
 have h8:(!(kindOf s (lukN s U dir part) == 2))=(kindOf s (lukN s U dir part) != 2):=rfl;rw [h8]
 split
 . rfl
 . rfl
end
theorem luk_pos (hf:Wf s c) (ht:Tree s) (h:dirE s dir=0) (hdot:dotB part=false) (hd:ddB part=false) (hE:lukE s dir part=0):0 < lukN s U dir part/\∃ i n,look s (lukN s U dir part)=some (i,n):=by
 have hE':entryE s dir part=0:=by unfold lukE at hE;rwa [if_neg (by simp [hdot,hd])] at hE
 obtain ⟨hp,hh⟩:=entryE_ok hE';have hn:=(placeE_ok hp).2;rw [(luk_entry (U:=U) hf ht h hn hdot hd).1];obtain ⟨i,n,hx,_,_⟩:=dirE_ok h;have hrel:=ht.rel hf (look_mem hx).1;have hfound:=hrel.found part;rw [ents_look hx] at hh;have hpos:0 < find part n.ds:=hfound.1.2 hh
 have e:entryN s dir part=find part n.ds:=by unfold entryN;rw [if_pos hp,ents_look hx]
 rw [e]
 refine ⟨hpos,?_⟩
 have hx2:=find_mem (ht.sorted n (look_mem hx).1) hh;obtain ⟨m,hm,h4,_⟩:=ht.there n (look_mem hx).1 _ hx2;obtain ⟨i3,h5⟩:=look_of hf hm;have h6:find part n.ds=(m.ino:Int):=h4;rw [h6]
 exact ⟨_,_,h5⟩
end
end Go.Proofs.YthlaoaaafafafaaGreat
