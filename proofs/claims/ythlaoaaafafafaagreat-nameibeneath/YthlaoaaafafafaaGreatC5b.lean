/- Ours. -/
import Derived.Test.YthlaoaaafafafaaGreatC5
set_option maxRecDepth 100000
set_option maxHeartbeats 16000000
namespace Go.Proofs.YthlaoaaafafafaaGreat
open Go Go.RowKit
theorem elemR : ElemS Tryz.prog 72 92 (.agg #[.string ⟨#[]⟩,.int .i64 0]) 2 24:=⟨by kernel_rfl,by kernel_rfl,rfl,by decide,by decide⟩
abbrev RowR (hi:Nat) (w:World) (v:Value) (l:List Ent):Prop:=Row hi 92 w v l
theorem row_place {hi:Nat} {e:TypeId} {w:World} {v:Value} {l:List Ent} (h:Row hi e w v l) {k:Nat} (hk:k < l.length):∃ g cap,v=.slice (some ⟨g,0,none⟩) l.length cap/\hi<=g/\g < w.heap.size/\w.cell? ⟨g,k * 2,none⟩=some (.string l[k].1)/\w.cell? ⟨g,k * 2+1,none⟩=some (.int .i64 l[k].2):=by
 obtain ⟨p,cap,rfl,hat,_⟩:=rowS_at h
 obtain ⟨g,rfl⟩:∃ g,p=some ⟨g,0,none⟩:=by
  rcases h.2 with ⟨_,h1⟩ | ⟨g,c,cur,h0,_⟩
  . omega
  . cases h0;exact ⟨g,rfl⟩
 obtain ⟨g',off,e,hg,hlt,hc⟩:=hat.place (k:=k * 2) (by rw [flat_length];omega)
 cases e
 have x0:=hc (k * 2) _ (flat_name l k hk);have x1:=hc (k * 2+1) _ (flat_ino l k hk);rw [Nat.zero_add] at x0 x1
 exact ⟨g,cap,rfl,hg,hlt,x0,x1⟩
theorem row_slice {hi:Nat} {e:TypeId} {w:World} {v:Value} {l:List Ent} (h:Row hi e w v l):∃ p cap,v=.slice p l.length cap:=by
 obtain ⟨p,cap,e,_⟩:=rowS_at h
 exact ⟨p,cap,e⟩
theorem row_less {hi hi':Nat} {e:TypeId} {w:World} {v:Value} {n:Nat} {s:List Value} (h:w.ownsRow hi e 2 v n s) (hl:hi'<=hi):w.ownsRow hi' e 2 v n s:=by
 refine ⟨h.1,?_⟩
 rcases h.2 with h0 | ⟨g,cap,cur,h1,h2,h3⟩
 . exact .inl h0
 . exact .inr ⟨g,cap,cur,h1,Nat.le_trans hl h2,h3⟩
theorem find_drop (nm:ByteArray) (l:List Ent) (k:Nat) (h:k < l.length):find nm (l.drop k)=if same nm l[k] then l[k].2 else find nm (l.drop (k+1)):=by
 rw [List.drop_eq_getElem_cons h];unfold find;rw [List.find?_cons]
 cases hs:same nm l[k] <;> rfl
theorem rfind_any (hi:Nat) (v:Value) (l:List Ent) (nm:ByteArray) (w:World) (hl:l.length<=1000) (h:RowR hi w v l) :
 Calls Tryz.prog 70 #[v,.string nm] w fun e w'=>e=.returned (.int .i64 (find nm l))/\w'=w:=by
 have HR:Hid (RowR hi w v l):=h;obtain ⟨p,cap,rfl⟩:=row_slice h;obtain ⟨R,hR⟩:∃ R,find nm l=R:=⟨_,rfl⟩;have HRR:Hid (find nm l=R):=hR;rw [hR];clear h hR;go_enter Tryz.func70,Tryz.ntmps70;go_wp2
 go_loop [5] (fun i => ∃ k:Nat,k<=l.length/\i=.int .i64 k/\Hid (R=find nm (l.drop k))) (fun i=>l.length - (intOf i).toNat)
 case atStart=>exact ⟨0,Nat.zero_le _,rfl,HRR.out.symm⟩
 case round =>
  obtain ⟨k,hk,rfl,H⟩:=hrel
  by_cases hlt:k < l.length
  . have hltz:(k:Int) < (l.length:Int):=by omega
    obtain ⟨g,cap',e,_,_,x0,x1⟩:=row_place HR.out hlt
    cases e
    have HD:Hid (find nm (l.drop k)=if same nm l[k] then l[k].2 else find nm (l.drop (k+1))):=find_drop nm l k hlt
    have hs:(l[k].1.toList == nm.toList)=same nm l[k]:=rfl;generalize l[k]=y at *
    cases hq:same nm y with
    | true =>
     rw [hq] at hs
     have HX:Hid (R=y.2):=by
      have:=HD.out;rw [hq] at this
      exact H.out.trans this
     clear HD hq;go_wp2
     go_ret
     exact ⟨by rw [HX.out];rfl,rfl⟩
    | false =>
     rw [hq] at hs
     have HX:Hid (R=find nm (l.drop (k+1))):=by
      have:=HD.out;rw [hq] at this
      exact H.out.trans this
     clear HD hq;go_wp2
     go_round
     case rel=>exact ⟨k+1,by omega,by go_num,HX⟩
     case measure=>simp [intOf];omega
  . obtain rfl:k=l.length:=by omega
    have hltz:¬ (l.length:Int) < (l.length:Int):=by omega
    have HX:Hid (R=0):=by
     have:=H.out;rw [List.drop_length] at this
     exact this
    go_wp2
    go_ret
    exact ⟨by rw [HX.out];rfl,rfl⟩
def RefPost (w:World) (f:Value->Value) (l:List Ent) (e:Ending) (w':World):Prop:=∃ v',e=.returned (f v')/\RowR 0 w' v' l/\Below w.heap.size w w'
theorem rowR_at {hi:Nat} {w:World} {v:Value} {l:List Ent} (h:RowR hi w v l):∃ p cap,v=.slice p l.length cap/\At w p (flat l):=by
 obtain ⟨p,cap,e,h1,_⟩:=rowS_at h
 exact ⟨p,cap,e,h1.at⟩
theorem radd_any (v:Value) (l:List Ent) (nm:ByteArray) (ino:Int) (w:World) (hnm:nm.size<=10000) (hl:l.length<=1000) (h:RowR 0 w v l) :
 Calls Tryz.prog 134 #[v,.string nm,.int .i64 ino] w (RefPost w (fun v'=>.tuple #[v',.int .i64 (rAddE nm ino l)]) (rAdd nm ino l)):=by
 have cN:=refName_any nm w hnm;have cF:=rfind_any 0 v l nm w hl h;obtain ⟨p,cap,rfl,hat⟩:=rowR_at h
 -- the copy
 have hb1:=on_alloc w (.cells #[] 92)
 obtain ⟨v1,w1,hrun1,hrow1,hgr1⟩:=append_rowS elemR w.heap.size (.slice (some ⟨w.heap.size,0,none⟩) 0 0) 0 [] p cap l.length (flat l) (w.alloc (.cells #[] 92)) (by decide) (by omega) (flat_length l) (flat_cell l) (rowS_empty w w.heap.size _ 2 (Nat.le_refl _)) (hat.on hb1) hb1.size
 rw [Nat.zero_add,List.nil_append] at hrow1;have hB1:=hgr1.below hb1 (Nat.le_refl _) hb1.size
 obtain ⟨v2,w2,hrun2,hrow2,hgr2⟩:=append_struct elemR w.heap.size v1 l.length (flat l) (entC (nm,ino)) w1 (by omega) rfl (flat_cell [(nm,ino)]) hrow1 hB1.size
 have hB2:=hgr2.below hB1 (Nat.le_refl _) hB1.size
 have HK:Hid (∀ (e:Ending) r,rAddE nm ino l=r->r ≠ 0->e=.returned (.tuple #[.slice p l.length cap,.int .i64 r])->RefPost w (fun v'=>.tuple #[v',.int .i64 (rAddE nm ino l)]) (rAdd nm ino l) e w):=fun e r h1 h2 he =>
  ⟨_,by rw [h1];exact he,by unfold rAdd;rw [h1,if_neg h2];exact h,Below.refl _ _⟩
 have HY:Hid (∀ (e:Ending),rAddE nm ino l=0->e=.returned (.tuple #[v2,.int .i64 0])->RefPost w (fun v'=>.tuple #[v',.int .i64 (rAddE nm ino l)]) (rAdd nm ino l) e w2):=fun e h1 he =>
  ⟨v2,by rw [h1];exact he,by
   unfold rAdd;rw [h1,if_pos rfl]
   show World.ownsRow _ 0 _ 2 _ (l ++ [(nm,ino)]).length _
   rw [List.length_append,flat_append]
   exact row_less hrow2 (Nat.zero_le _),hB2⟩
 have HE:Hid (rAddE nm ino l=if nameE nm ≠ 0 then nameE nm else if ino < 1 then 22 else if 0 < find nm l then 17 else if 64<=l.length then 28 else 0):=rfl
 generalize RefPost w (fun v'=>.tuple #[v',.int .i64 (rAddE nm ino l)]) (rAdd nm ino l)=Post at *
 clear h hat hrow1 hrow2 hgr1 hgr2 hB1 hB2 hb1;generalize rAddE nm ino l=r at *;generalize nameE nm=ne at *;generalize find nm l=fd at *
 by_cases h0:ne ≠ 0
 . have HEE:Hid (r=ne):=by have:=HE.out;rwa [if_pos h0] at this
   have hq:(ne != 0)=true:=by simpa using h0
   have H0:Hid (ne ≠ 0):=h0;clear HE h0;go_enter Tryz.func134,Tryz.ntmps134;go_wp2_with fail;refine cN.mono ?_;rintro e w1 ⟨rfl,rfl⟩;go_wp2
   exact HK.out _ _ HEE.out H0.out rfl
 obtain rfl:ne=0:=by omega
 rw [if_neg (by simp)] at HE
 clear h0
 by_cases h1:ino < 1
 . have HEE:Hid (r=22):=by have:=HE.out;rwa [if_pos h1] at this
   clear HE;go_enter Tryz.func134,Tryz.ntmps134;go_wp2_with fail;refine cN.mono ?_;rintro e w1 ⟨rfl,rfl⟩;go_wp2
   exact HK.out _ _ HEE.out (by decide) rfl
 rw [if_neg h1] at HE
 by_cases h2:0 < fd
 . have HEE:Hid (r=17):=by have:=HE.out;rwa [if_pos h2] at this
   clear HE;go_enter Tryz.func134,Tryz.ntmps134;go_wp2_with fail;refine cN.mono ?_;rintro e w1 ⟨rfl,hw1⟩;subst hw1;go_wp2_with fail;refine cF.mono ?_;rintro e w2 ⟨rfl,hw2⟩;subst hw2;go_wp2
   exact HK.out _ _ HEE.out (by decide) rfl
 rw [if_neg h2] at HE
 by_cases h3:64<=l.length
 . have HEE:Hid (r=28):=by have:=HE.out;rwa [if_pos h3] at this
   have hz:(64:Int)<=(l.length:Int):=by omega
   clear HE;go_enter Tryz.func134,Tryz.ntmps134;go_wp2_with fail;refine cN.mono ?_;rintro e w1 ⟨rfl,hw1⟩;subst hw1;go_wp2_with fail;refine cF.mono ?_;rintro e w2 ⟨rfl,hw2⟩;subst hw2;go_wp2
   exact HK.out _ _ HEE.out (by decide) rfl
 . have HEE:Hid (r=0):=by have:=HE.out;rwa [if_neg h3] at this
   have hz:¬ (64:Int)<=(l.length:Int):=by omega
   clear HE;unfold entC at hrun2;go_enter Tryz.func134,Tryz.ntmps134;go_wp2_with fail;refine cN.mono ?_;rintro e w1 ⟨rfl,hw1⟩;subst hw1;go_wp2_with fail;refine cF.mono ?_;rintro e w2 ⟨rfl,hw2⟩;subst hw2
   go_wp2_with (first
    | (at_builtin;refine wpList_run_append rfl _ _ 72 rfl _ _ rfl rfl (hrun1 _) ?_)
    | (at_builtin;refine wpList_run_append rfl _ _ 72 rfl _ _ rfl rfl hrun2 ?_))
   exact HY.out _ HEE.out rfl
def keepK (nm:ByteArray) (l:List Ent) (k:Nat):List Ent:=(l.take k).filter fun x => !same nm x
theorem keepK_next (nm:ByteArray) (l:List Ent) (k:Nat) (h:k < l.length):keepK nm l (k+1)=if same nm l[k] then keepK nm l k else keepK nm l k ++ [l[k]]:=by
 unfold keepK;rw [List.take_add_one,List.getElem?_eq_getElem h,Option.toList_some,List.filter_append]
 cases hs:same nm l[k] <;> simp [hs]
theorem lastK_next (nm:ByteArray) (l:List Ent) (k:Nat) (h:k < l.length):lastN nm (l.take (k+1))=if same nm l[k] then l[k].2 else lastN nm (l.take k):=by
 unfold lastN;rw [List.take_add_one,List.getElem?_eq_getElem h,Option.toList_some,List.foldl_append]
 rfl
theorem rrem_any (v:Value) (l:List Ent) (nm:ByteArray) (w:World) (hl:l.length<=1000) (h:RowR 0 w v l) :
 Calls Tryz.prog 137 #[v,.string nm] w (RefPost w (fun v'=>.tuple #[v',.int .i64 (lastN nm l),.int .i64 (rRemE nm l)]) (rRem nm l)):=by
 have hb1:=on_alloc w (.cells #[] 92)
 have HL:Hid (∀ w1,Below w.heap.size w w1->RowR 0 w1 v l):=fun w1 hb=>rowS_on h hb
 have HY:Hid (∀ (e:Ending) w' v1,e=.returned (.tuple #[(if lastN nm l=0 then v else v1),.int .i64 (lastN nm l),.int .i64 (rRemE nm l)])->RowR w.heap.size w' v1 (keepK nm l l.length)->Below w.heap.size w w'->RefPost w (fun v'=>.tuple #[v',.int .i64 (lastN nm l),.int .i64 (rRemE nm l)]) (rRem nm l) e w'):=fun e w' v1 he hr hb=>by
  by_cases h0:lastN nm l=0
  . rw [if_pos h0] at he
    exact ⟨v,he,by unfold rRem;rw [if_pos h0];exact rowS_on h hb,hb⟩
  . rw [if_neg h0] at he
    refine ⟨v1,he,?_,hb⟩
    unfold rRem;rw [if_neg h0]
    have e:keepK nm l l.length=l.filter fun x => !same nm x:=by unfold keepK;rw [List.take_length]
    rw [e] at hr
    exact row_less hr (Nat.zero_le _)
 have HE:Hid (rRemE nm l=if lastN nm l=0 then 2 else 0):=rfl
 have HI:Hid (RowR w.heap.size (w.alloc (.cells #[] 92)) (.slice (some ⟨w.heap.size,0,none⟩) 0 0) (keepK nm l 0)/\Below w.heap.size w (w.alloc (.cells #[] 92))):=⟨rowS_empty w w.heap.size _ 2 (Nat.le_refl _),hb1⟩;obtain ⟨p,cap,rfl⟩:=row_slice h
 generalize RefPost w (fun v'=>.tuple #[v',.int .i64 (lastN nm l),.int .i64 (rRemE nm l)]) (rRem nm l)=Post at *
 clear h hb1;go_enter Tryz.func137,Tryz.ntmps137;go_wp2
 go_loopw [7,8,9] (fun o d i wr => ∃ k:Nat,k<=l.length/\i=.int .i64 k/\d=.int .i64 (lastN nm (l.take k))/\Hid (RowR w.heap.size wr o (keepK nm l k)/\Below w.heap.size w wr)) (fun _ _ i _=>l.length - (intOf i).toNat)
 case atStart=>exact ⟨0,Nat.zero_le _,rfl,rfl,HI⟩
 case round =>
  clear HI;obtain ⟨k,hk,rfl,rfl,HI⟩:=hrel
  by_cases hlt:k < l.length
  . have hltz:(k:Int) < (l.length:Int):=by omega
    obtain ⟨g,cap',e,hg,_,x0,x1⟩:=row_place (HL.out wr HI.out.2) hlt
    cases e
    have HN:Hid (keepK nm l (k+1)=if same nm l[k] then keepK nm l k else keepK nm l k ++ [l[k]]):=keepK_next nm l k hlt
    have HM:Hid (lastN nm (l.take (k+1))=if same nm l[k] then l[k].2 else lastN nm (l.take k)):=lastK_next nm l k hlt
    have hs:(l[k].1.toList == nm.toList)=same nm l[k]:=rfl
    have hkl:(keepK nm l k).length<=1000:=by
     have h1:(keepK nm l k).length<=(l.take k).length:=List.length_filter_le _ _;rw [List.length_take] at h1
     omega
    obtain ⟨v',W',hrun,hrow,hgr⟩:=append_struct elemR w.heap.size u7 (keepK nm l k).length (flat (keepK nm l k)) (entC l[k]) wr (by omega) rfl (flat_cell [l[k]]) HI.out.1 HI.out.2.size
    have HA:Hid (RowR w.heap.size W' v' (keepK nm l k ++ [l[k]])/\Below w.heap.size w W'):=⟨by
     show World.ownsRow _ _ _ 2 _ (keepK nm l k ++ [l[k]]).length _
     rw [List.length_append,flat_append]
     exact hrow,hgr.below HI.out.2 (Nat.le_refl _) HI.out.2.size⟩
    unfold entC at hrun;clear hrow hgr hkl;generalize l[k]=y at *;generalize lastN nm (l.take k)=d at *
    cases hq:same nm y with
    | true =>
     rw [hq] at hs
     have HX:Hid (RowR w.heap.size wr u7 (keepK nm l (k+1))/\Below w.heap.size w wr):=by rw [HN.out,if_pos hq];exact HI
     have HMM:Hid (lastN nm (l.take (k+1))=y.2):=by have:=HM.out;rwa [if_pos hq] at this
     clear HN HM hq HA hrun;go_wp2;go_roundw
     case rel=>exact ⟨k+1,by omega,by go_num,by rw [HMM.out],HX⟩
     case measure=>simp [intOf];omega
    | false =>
     rw [hq] at hs
     have HX:Hid (RowR w.heap.size W' v' (keepK nm l (k+1))/\Below w.heap.size w W'):=by rw [HN.out,if_neg (by rw [hq];simp)];exact HA
     have HMM:Hid (lastN nm (l.take (k+1))=d):=by have:=HM.out;rwa [if_neg (by rw [hq];simp)] at this
     clear HN HM hq HA
     go_wp2_with (at_builtin;refine wpList_run_append rfl _ _ 72 rfl _ _ rfl rfl hrun ?_)
     go_roundw
     case rel=>exact ⟨k+1,by omega,by go_num,by rw [HMM.out],HX⟩
     case measure=>simp [intOf];omega
  . obtain rfl:k=l.length:=by omega
    have hltz:¬ (l.length:Int) < (l.length:Int):=by omega
    rw [List.take_length];generalize lastN nm l=d at *
    by_cases h0:d=0
    . have HEE:Hid (rRemE nm l=2):=by have:=HE.out;rwa [if_pos h0] at this
      subst h0;go_wp2
      go_ret3
      refine HY.out _ _ u7 ?_ HI.out.1 HI.out.2
      rw [HEE.out];rfl
    . have HEE:Hid (rRemE nm l=0):=by have:=HE.out;rwa [if_neg h0] at this
      have hz:(d == 0)=false:=beq_eq_false_iff_ne.2 h0;have H0:Hid (¬ d=0):=h0;clear h0;go_wp2
      go_ret3
      refine HY.out _ _ u7 ?_ HI.out.1 HI.out.2
      rw [if_neg H0.out,HEE.out];rfl
end Go.Proofs.YthlaoaaafafafaaGreat
