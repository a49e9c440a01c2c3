/- Ours. -/
import Derived.Test.YthlaoaaafafafaaGreatF4
set_option maxRecDepth 100000
set_option maxHeartbeats 16000000
namespace Go.Proofs.YthlaoaaafafafaaGreat
open Go Go.RowKit Go.Maps
def nmE (n1 n2:ByteArray):Int:=if nameE n1=0 then nameE n2 else nameE n1
def renE (s:SS) (d1:Int) (n1:ByteArray) (d2:Int) (n2:ByteArray):Int :=
 if dirE s d1 ≠ 0 then (dirE s d1:Nat) else if dirE s d2 ≠ 0 then (dirE s d2:Nat) else if nmE n1 n2 ≠ 0 then nmE n1 n2 else if has n1 (entsOf s d1)=false then 2
 else if find n2 (entsOf s d2)=find n1 (entsOf s d1) then 0 else hindE s d1 (find n1 (entsOf s d1)) d2 (find n2 (entsOf s d2))
def renDo (s:SS) (d1:Int) (n1:ByteArray) (d2:Int) (n2:ByteArray):Bool:=decide (renE s d1 n1 d2 n2=0/\find n2 (entsOf s d2) ≠ find n1 (entsOf s d1))
def renP (s:SS) (d1:Int) (n1:ByteArray) (d2:Int) (n2:ByteArray) (k was:Int) (there:Bool):SS:=if there=true then lessS (putEnt (remEnt s d1 n1) d2 n2 k) was true else addEnt (remEnt s d1 n1) d2 n2 k
def renU (s':SS) (U:Int->Int) (d2 k was:Int) (there:Bool):Int->Int:=if isDir s' k=true then updU (if there=true then fogU s' U was else U) k d2 else (if there=true then fogU s' U was else U)
theorem dirE_rem {s:SS} {c:Nat} (hf:Wf s c) {x d:Int} {nm:ByteArray} (h:dirE s x=0):dirE (remEnt s d nm) x=0:=by
 obtain ⟨i,n,hx,hk,hl⟩:=dirE_ok h
 have:=look_upd (x:=d) (g:=fun n=>n.withD (remS nm n.ds)) hf (fun _=>rfl) hx
 unfold dirE remEnt;rw [this]
 show (if (if _ then _ else _:Nd).kind=2 then _ else _)=_
 split
 . rw [if_pos (show (n.withD (remS nm n.ds)).kind=2 from hk),if_neg (by show ¬ (x ≠ 1/\n.links=0);omega)]
 . first | rw [if_pos hk,if_neg (by omega)] | rw [if_neg (by omega)]
section
variable {n fb sb ub c:Nat} {w:World} {s:SS} {B:Nat->Nat} {U:Int->Int}
theorem ren_end (h:FsM n w fb sb ub c s B U) (hf:Wf s c) (ht:Tree s) (hc:c<=800) {d1 d2:Int} {n1 n2:ByteArray} (hn2:n2.size<=10000) (h1:dirE s d1=0) (h2:dirE s d2=0) (_hd2:(Lit.int .i64 d2).wf=true) {k was:Int} (_hk:(Lit.int .i64 k).wf=true) (hw:(Lit.int .i64 was).wf=true) (there:Bool) :
 Calls Tryz.prog 95 #[dirV B s d1,.string n1] w fun e w2=>(∃ r,e=.returned r) ∧
  (there=true->Calls Tryz.prog 102 #[dirV B s d2,.string n2,.int .i64 k] w2 fun e w3=>(∃ r,e=.returned r)/\Calls Tryz.prog 96 #[ptr fb,.int .i64 was] w3 fun e w4=>e=.returned (.tuple #[])/\FsAt n w4 fb c (renP s d1 n1 d2 n2 k was true) (fogU (renP s d1 n1 d2 n2 k was true) U was)/\Turns isP (.up n) w w4) ∧
  (there=false->Calls Tryz.prog 76 #[dirV B s d2,.string n2,.int .i64 k] w2 fun e w3=>(∃ r,e=.returned r)/\FsAt n w3 fb c (renP s d1 n1 d2 n2 k was false) U/\Turns isP (.up n) w w3):=by
 obtain ⟨i,dn,v,hx,hk1,_,eds,edv,hd0,hturn⟩:=h.into hf h1;have hm:=(look_mem hx).1;rw [edv]
 refine (remove_any 0 _ v dn.ds n1 w (hf.ds _ hm) (ht.sorted _ hm) hd0).mono ?_
 rintro e w2 ⟨rfl,v',h3,h4⟩;obtain ⟨h5,h6⟩:=hturn w2 v' _ h3 h4
 have e3:s.set i (dn.withD (remS n1 dn.ds))=remEnt s d1 n1:=(upd_some (g:=fun n=>n.withD (remS n1 n.ds)) hf hx).symm
 rw [e3] at h5
 have hf2:Wf (remEnt s d1 n1) (c+1):=hf.ents d1 _ fun i2 n2 h7=>remS_len (hf.ds _ (look_mem h7).1)
 obtain ⟨j,en,v2,hy,hk2,_,_,edv2,hd3,hturn2⟩:=h5.into hf2 (dirE_rem hf h2)
 -- the second directory, as it was and as it is
 obtain ⟨j0,en0,_,hy0,hk0,_,_,edv0,_⟩:=h.into hf h2
 have hl:=look_upd (x:=d1) (g:=fun n=>n.withD (remS n1 n.ds)) hf (fun _=>rfl) hy0
 have hy':look (s.upd d1 fun n=>n.withD (remS n1 n.ds)) d2=some (j,en):=hy
 rw [hl] at hy'
 have e4:en.ino=en0.ino/\Sorted en.ds:=by
  have hm0:=(look_mem hy0).1;have R:=ht.rel hf hm0
  have e5:en=if (en0.ino:Int)=d1 then en0.withD (remS n1 en0.ds) else en0:=by
   simp only [Option.some.injEq,Prod.mk.injEq] at hy'
   exact hy'.2.symm
  rw [e5]
  split
  . exact ⟨rfl,sorted_rem R⟩
  . exact ⟨rfl,ht.sorted _ hm0⟩
 have hB:B en.ino=B en0.ino:=by rw [e4.1]
 rw [edv0,<- hB];have hfew:=hf2.ds _ (look_mem hy).1
 refine ⟨⟨_,rfl⟩,fun _ => ?_,fun _ => ?_⟩
 . refine (set_any 0 _ v2 en.ds n2 k w2 hfew e4.2 hd3).mono ?_
   rintro e w3 ⟨rfl,v3,h7,h8⟩;obtain ⟨h9,h10⟩:=hturn2 w3 v3 _ h7 h8
   have e6:(remEnt s d1 n1).set j (en.withD (setD n2 k en.ds))=putEnt (remEnt s d1 n1) d2 n2 k:=(upd_some (g:=fun n=>n.withD (setD n2 k n.ds)) hf2 hy).symm
   rw [e6] at h9
   have hf3:Wf (putEnt (remEnt s d1 n1) d2 n2 k) (c+2):=hf2.ents d2 _ fun i2 n2 h7=>setD_len (hf2.ds _ (look_mem h7).1)
   refine ⟨⟨_,rfl⟩,(unlink7 h9.at hf3 (by omega) was hw).mono ?_⟩
   rintro e w4 ⟨h11,h12,h13⟩
   exact ⟨h11,h12,(h6.trans h10).trans h13⟩
 . refine (add_any 0 _ v2 en.ds n2 k w2 hn2 hfew e4.2 (Nat.zero_le _) hd3).mono ?_
   rintro e w3 ⟨rfl,v3,h7,h8⟩;obtain ⟨h9,h10⟩:=hturn2 w3 v3 _ h7 h8
   have e6:(remEnt s d1 n1).set j (en.withD (addS n2 k en.ds))=addEnt (remEnt s d1 n1) d2 n2 k:=(upd_some (g:=fun n=>n.withD (addS n2 k n.ds)) hf2 hy).symm
   rw [e6] at h9
   exact ⟨⟨_,rfl⟩,h9.at,h6.trans h10⟩
theorem ren_last (h:FsAt n w fb c s U) (hc:c<=800) {k d2:Int} (hk:(Lit.int .i64 k).wf=true) (hd2:(Lit.int .i64 d2).wf=true) {w0:World} (ht:Turns isP (.up n) w0 w):∃ sb ub v,w.cell? ⟨fb,0,none⟩=some (ptr sb)/\w.cell? ⟨fb,1,none⟩=some (.map (some ub))/\(isDir s k=true/\(∃ b,v=ptr b) ∨ isDir s k=false/\v=.pointer none)/\(Calls Tryz.prog 87 #[ptr sb,.int .i64 k] w fun e w'=>e=.returned v/\w'=w) ∧
 (isDir s k=true->∃ w',(Instr.mapUpdate 101 (.map (some ub)) (.int .i64 k) (.int .i64 d2)).run Tryz.prog w=.ok () w'/\FsAt n w' fb (c+1) s (updU U k d2)/\Turns isP (.up n) w0 w'):=by
 obtain ⟨sb,ub,B,h⟩:=h
 refine ⟨sb,ub,dirV B s k,h.box.cell 0 rfl,h.box.cell 1 rfl,?_,dir_at h.store k hk,fun _ => ?_⟩
 . unfold dirV
   cases isDir s k with
   | true=>exact .inl ⟨rfl,_,rfl⟩
   | false=>exact .inr ⟨rfl,rfl⟩
 . obtain ⟨w',h1,h2,h3⟩:=h.up.put (by omega) hk hd2
   obtain ⟨h4,h5⟩:=h.upped h2 h3
   exact ⟨w',h1,h4.at,ht.trans h5⟩
theorem rename7 (h0:FsAt n w fb c s U) (hf:Wf s c) (ht:Tree s) (ha:Agree s U) (hc:c<=800) (d1 d2:Int) (hd1:(Lit.int .i64 d1).wf=true) (hd2:(Lit.int .i64 d2).wf=true) (n1 n2:ByteArray) (hn1:n1.size<=10000) (hn2:n2.size<=10000) :
 Calls Tryz.prog 53 #[ptr fb,.int .i64 d1,.string n1,.int .i64 d2,.string n2] w (ActPost n fb (c+1)
  (if renDo s d1 n1 d2 n2=true then renP s d1 n1 d2 n2 (find n1 (entsOf s d1)) (find n2 (entsOf s d2)) (has n2 (entsOf s d2)) else s)
  (if renDo s d1 n1 d2 n2=true then renU (renP s d1 n1 d2 n2 (find n1 (entsOf s d1)) (find n2 (entsOf s d2)) (has n2 (entsOf s d2))) U d2 (find n1 (entsOf s d1)) (find n2 (entsOf s d2)) (has n2 (entsOf s d2)) else U) (renE s d1 n1 d2 n2) w):=by
 obtain ⟨sb,ub,B,h⟩:=h0
 have c1:=into_any h hf (by omega) d1 hd1
 have HI:Hid (∀ w1,Below w.heap.size w w1->Calls Tryz.prog 80 #[ptr fb,.int .i64 d2] w1 fun e w'=>e=.returned (.tuple #[if dirE s d2=0 then dirV B s d2 else .pointer none,.int .i64 (dirE s d2:Nat)])/\Below w1.heap.size w1 w'):=fun w1 hb=>into_any (h.on hb) hf (by omega) d2 hd2
 have HN:Hid (∀ w1 nm,nm.size<=10000->Calls Tryz.prog 100 #[.string nm] w1 fun e w'=>e=.returned (.int .i64 (nameE nm))/\Below w1.heap.size w1 w'):=fun w1 nm h=>name_any nm w1 h
 have HO:Hid (∀ (w1:World),Calls Tryz.prog 99 #[.slice (some ⟨w1.heap.size,0,none⟩) 2 2] (w1.alloc (.cells #[.int .i64 (nameE n1),.int .i64 (nameE n2)] 34)) fun e w'=>e=.returned (.int .i64 (nmE n1 n2))/\w'=w1.alloc (.cells #[.int .i64 (nameE n1),.int .i64 (nameE n2)] 34)):=fun w1=>or_any _ (nameE n1) (nameE n2) _ (Blk.new w1 _ [.int .i64 (nameE n1),.int .i64 (nameE n2)])
 have HAl:Hid (∀ w1:World,Below w1.heap.size w1 (w1.alloc (.cells #[.int .i64 (nameE n1),.int .i64 (nameE n2)] 34))):=fun w1=>on_alloc w1 _
 obtain ⟨S',eS⟩:∃ S',S'=(if renDo s d1 n1 d2 n2=true then renP s d1 n1 d2 n2 (find n1 (entsOf s d1)) (find n2 (entsOf s d2)) (has n2 (entsOf s d2)) else s):=⟨_,rfl⟩
 obtain ⟨U',eU⟩:∃ U',U'=(if renDo s d1 n1 d2 n2=true then renU (renP s d1 n1 d2 n2 (find n1 (entsOf s d1)) (find n2 (entsOf s d2)) (has n2 (entsOf s d2))) U d2 (find n1 (entsOf s d1)) (find n2 (entsOf s d2)) (has n2 (entsOf s d2)) else U):=⟨_,rfl⟩
 rw [<- eS,<- eU]
 have HK:Hid (∀ r w1,renE s d1 n1 d2 n2=r->renDo s d1 n1 d2 n2=false->Below w.heap.size w w1->ActPost n fb (c+1) S' U' (renE s d1 n1 d2 n2) w (.returned (.int .i64 r)) w1):=fun r w1 h1 h2 hb=>by
  rw [h2,if_neg (by simp)] at eS eU
  exact ⟨by rw [h1],by rw [eS,eU];exact (h.on hb).at.more (by omega),.on hb⟩
 have HD:Hid (renDo s d1 n1 d2 n2=decide (renE s d1 n1 d2 n2=0/\find n2 (entsOf s d2) ≠ find n1 (entsOf s d1))):=rfl
 have HE:Hid (renE s d1 n1 d2 n2=if dirE s d1 ≠ 0 then ((dirE s d1:Nat):Int) else if dirE s d2 ≠ 0 then ((dirE s d2:Nat):Int) else if nmE n1 n2 ≠ 0 then nmE n1 n2 else if has n1 (entsOf s d1)=false then 2
 else if find n2 (entsOf s d2)=find n1 (entsOf s d1) then 0 else hindE s d1 (find n1 (entsOf s d1)) d2 (find n2 (entsOf s d2))):=rfl
 by_cases h1:dirE s d1=0
 . rw [h1,if_pos rfl] at c1
   rw [h1,if_neg (by simp)] at HE
   by_cases h2:dirE s d2=0
   . rw [h2,if_pos rfl] at HI
     rw [h2,if_neg (by simp)] at HE
     obtain ⟨i,dn,v,hx,hk1,_,eds,edv,hd0,_⟩:=h.into hf h1;obtain ⟨j,en,v2,hy,hk2,_,eds2,edv2,hd20,_⟩:=h.into hf h2;have hm:=(look_mem hx).1;have hm2:=(look_mem hy).1
     have HF1:Hid (∀ w1,Below w.heap.size w w1->Calls Tryz.prog 73 #[dirV B s d1,.string n1] w1 fun e w'=>e=.returned (.tuple #[.int .i64 (find n1 (entsOf s d1)),.bool (has n1 (entsOf s d1))])/\Below w1.heap.size w1 w'):=fun w1 hb=>by
      rw [edv,<- eds]
      exact find_any 0 _ v dn.ds n1 w1 (by have:=hf.ds _ hm;omega) (ht.sorted _ hm) (hd0.on hb)
     have HF2:Hid (∀ w1,Below w.heap.size w w1->Calls Tryz.prog 73 #[dirV B s d2,.string n2] w1 fun e w'=>e=.returned (.tuple #[.int .i64 (find n2 (entsOf s d2)),.bool (has n2 (entsOf s d2))])/\Below w1.heap.size w1 w'):=fun w1 hb=>by
      rw [edv2,<- eds2]
      exact find_any 0 _ v2 en.ds n2 w1 (by have:=hf.ds _ hm2;omega) (ht.sorted _ hm2) (hd20.on hb)
     have HV:Hid ((∃ b1,dirV B s d1=ptr b1)/\∃ b2,dirV B s d2=ptr b2):=⟨⟨_,edv⟩,_,edv2⟩
     have hwas:(Lit.int .i64 (find n2 (entsOf s d2))).wf=true:=by
      cases hh:has n2 (entsOf s d2) with
      | false=>rw [find_none hh];decide
      | true =>
       obtain ⟨_,_,_,kn,_,_,hj,hkn,_⟩:=entry_node hf ht hh;rw [hkn]
       exact ino_wf hf (by omega) (look_mem hj).1
     have hkw:has n1 (entsOf s d1)=true->(Lit.int .i64 (find n1 (entsOf s d1))).wf=true:=fun hh=>by
      obtain ⟨_,_,_,kn,_,_,hj,hkn,_⟩:=entry_node hf ht hh;rw [hkn]
      exact ino_wf hf (by omega) (look_mem hj).1
     have HH:Hid (has n1 (entsOf s d1)=true->∀ w1,Below w.heap.size w w1->Calls Tryz.prog 101 #[ptr fb,.int .i64 d1,.int .i64 (find n1 (entsOf s d1)),.int .i64 d2,.int .i64 (find n2 (entsOf s d2))] w1 fun e w'=>e=.returned (.int .i64 (hindE s d1 (find n1 (entsOf s d1)) d2 (find n2 (entsOf s d2))))/\Below w1.heap.size w1 w'):=fun hh w1 hb=>hinders7 (h.on hb) hf (by omega) ht ha _ _ _ _ hd1 (hkw hh) hd2 hwas h2
     have HEnd:Hid (has n1 (entsOf s d1)=true->∀ w1,Below w.heap.size w w1->Calls Tryz.prog 95 #[dirV B s d1,.string n1] w1 fun e w2=>(∃ r,e=.returned r) ∧
      (has n2 (entsOf s d2)=true->Calls Tryz.prog 102 #[dirV B s d2,.string n2,.int .i64 (find n1 (entsOf s d1))] w2 fun e w3=>(∃ r,e=.returned r)/\Calls Tryz.prog 96 #[ptr fb,.int .i64 (find n2 (entsOf s d2))] w3 fun e w4=>e=.returned (.tuple #[])/\FsAt n w4 fb c (renP s d1 n1 d2 n2 (find n1 (entsOf s d1)) (find n2 (entsOf s d2)) true) (fogU (renP s d1 n1 d2 n2 (find n1 (entsOf s d1)) (find n2 (entsOf s d2)) true) U (find n2 (entsOf s d2)))/\Turns isP (.up n) w1 w4) ∧
      (has n2 (entsOf s d2)=false->Calls Tryz.prog 76 #[dirV B s d2,.string n2,.int .i64 (find n1 (entsOf s d1))] w2 fun e w3=>(∃ r,e=.returned r)/\FsAt n w3 fb c (renP s d1 n1 d2 n2 (find n1 (entsOf s d1)) (find n2 (entsOf s d2)) false) U/\Turns isP (.up n) w1 w3)):=fun hh w1 hb=>ren_end (h.on hb) hf ht hc hn2 h1 h2 hd2 (hkw hh) hwas _
     have HLast:Hid (has n1 (entsOf s d1)=true->renDo s d1 n1 d2 n2=true->∀ w1 w4 U4,Below w.heap.size w w1->Turns isP (.up n) w1 w4->FsAt n w4 fb c (renP s d1 n1 d2 n2 (find n1 (entsOf s d1)) (find n2 (entsOf s d2)) (has n2 (entsOf s d2))) U4->U4=(if has n2 (entsOf s d2)=true then fogU (renP s d1 n1 d2 n2 (find n1 (entsOf s d1)) (find n2 (entsOf s d2)) (has n2 (entsOf s d2))) U (find n2 (entsOf s d2)) else U) →
      ∃ sb ub v,w4.cell? ⟨fb,0,none⟩=some (ptr sb)/\w4.cell? ⟨fb,1,none⟩=some (.map (some ub))/\(Calls Tryz.prog 87 #[ptr sb,.int .i64 (find n1 (entsOf s d1))] w4 fun e w'=>e=.returned v/\w'=w4) ∧
       ((∃ b,v=ptr b)/\(∃ w5,(Instr.mapUpdate 101 (.map (some ub)) (.int .i64 (find n1 (entsOf s d1))) (.int .i64 d2)).run Tryz.prog w4=.ok () w5/\ActPost n fb (c+1) S' U' (renE s d1 n1 d2 n2) w (.returned (.int .i64 0)) w5) ∨ v=.pointer none/\ActPost n fb (c+1) S' U' (renE s d1 n1 d2 n2) w (.returned (.int .i64 0)) w4)):=fun hh hdo w1 w4 U4 hb htn hfs hU=>by
      have hre:renE s d1 n1 d2 n2=0:=(of_decide_eq_true hdo).1;rw [hdo,if_pos rfl] at eS eU;unfold renU at eU;rw [<- hU] at eU;obtain ⟨sb4,ub4,v4,y0,y1,hv,hcd,hup⟩:=ren_last hfs hc (hkw hh) hd2 ((Turns.on hb).trans htn)
      refine ⟨sb4,ub4,v4,y0,y1,hcd,?_⟩
      rcases hv with ⟨hv1,hv2⟩ | ⟨hv1,hv2⟩
      . obtain ⟨w5,h5,h6,h7⟩:=hup hv1;rw [hv1,if_pos rfl] at eU
        exact .inl ⟨hv2,w5,h5,by rw [hre],by rw [eS,eU];exact h6,h7⟩
      . rw [hv1,if_neg (by simp)] at eU
        exact .inr ⟨hv2,by rw [hre],by rw [eS,eU];exact hfs.more (by omega),(Turns.on hb).trans htn⟩
     generalize ActPost n fb (c+1) S' U' (renE s d1 n1 d2 n2) w=Post at *;generalize renE s d1 n1 d2 n2=re at *;generalize renDo s d1 n1 d2 n2=rd at *;generalize hindE s d1 (find n1 (entsOf s d1)) d2 (find n2 (entsOf s d2))=he at *;generalize renP s d1 n1 d2 n2 (find n1 (entsOf s d1)) (find n2 (entsOf s d2))=rp at *;generalize nmE n1 n2=ne at *;clear h hf ht ha hx hy hm hm2 hd0 hd20 eds eds2 edv edv2 hwas hkw eS eU h1 h2 hk1 hk2;generalize dirV B s d1=dv1 at *;generalize dirV B s d2=dv2 at *
     generalize find n1 (entsOf s d1)=k at *;generalize find n2 (entsOf s d2)=was at *;obtain ⟨⟨b1,rfl⟩,b2,rfl⟩:=HV.out
     by_cases h3:ne=0
     . subst h3
       rw [if_neg (by simp)] at HE
       cases hh1:has n1 (entsOf s d1) with
       | false =>
        rw [hh1,if_pos rfl] at HE;rw [hh1] at HF1;have HEE:Hid (re=2):=HE.out
        have HDD:Hid (rd=false):=by rw [HD.out,HEE.out];exact rfl
        clear HE HD HH HEnd HLast;go_enter Tryz.func53,Tryz.ntmps53;go_wp2_with fail;refine c1.mono ?_;rintro e w1 ⟨rfl,hb1⟩;have c2:=HI.out w1 hb1;go_wp2_with fail;refine c2.mono ?_;rintro e w2 ⟨rfl,hb2⟩;have hB2:=on_trans hb1 hb2;have c3:=HN.out w2 n1 hn1;go_wp2_with fail;refine c3.mono ?_;rintro e w3 ⟨rfl,hb3⟩;have c4:=HN.out w3 n2 hn2;go_wp2_with fail;refine c4.mono ?_;rintro e w4 ⟨rfl,hb4⟩;have c5:=HO.out w4;have hB5:=on_trans (on_trans (on_trans hB2 hb3) hb4) (HAl.out w4)
        go_wp2_with fail;refine c5.mono ?_;rintro e w5 ⟨rfl,hw5⟩;subst w5;have c6:=HF1.out _ hB5;go_wp2_with fail;refine c6.mono ?_;rintro e w6 ⟨rfl,hb6⟩;go_wp2
        exact HK.out _ _ HEE.out HDD.out (on_trans hB5 hb6)
       | true =>
        rw [hh1,if_neg (by simp)] at HE
        rw [hh1] at HF1
        by_cases h4:was=k
        . rw [if_pos h4] at HE;have HEE:Hid (re=0):=HE.out
          have HDD:Hid (rd=false):=by rw [HD.out];exact decide_eq_false fun h7=>h7.2 h4
          subst h4;clear HE HD HH HEnd HLast;go_enter Tryz.func53,Tryz.ntmps53;go_wp2_with fail;refine c1.mono ?_;rintro e w1 ⟨rfl,hb1⟩;have c2:=HI.out w1 hb1;go_wp2_with fail;refine c2.mono ?_;rintro e w2 ⟨rfl,hb2⟩;have hB2:=on_trans hb1 hb2;have c3:=HN.out w2 n1 hn1;go_wp2_with fail;refine c3.mono ?_;rintro e w3 ⟨rfl,hb3⟩;have c4:=HN.out w3 n2 hn2;go_wp2_with fail;refine c4.mono ?_;rintro e w4 ⟨rfl,hb4⟩;have c5:=HO.out w4;have hB5:=on_trans (on_trans (on_trans hB2 hb3) hb4) (HAl.out w4)
          go_wp2_with fail;refine c5.mono ?_;rintro e w5 ⟨rfl,hw5⟩;subst w5;have c6:=HF1.out _ hB5;go_wp2_with fail;refine c6.mono ?_;rintro e w6 ⟨rfl,hb6⟩;have hB6:=on_trans hB5 hb6;have c7:=HF2.out _ hB6;go_wp2_with fail;refine c7.mono ?_;rintro e w7 ⟨rfl,hb7⟩;go_wp2
          exact HK.out _ _ HEE.out HDD.out (on_trans hB6 hb7)
        . rw [if_neg h4] at HE;have h4b:(was == k)=false:=beq_eq_false_iff_ne.2 h4;have H4:Hid (was ≠ k):=h4;have HH2:Hid _:=HH.out hh1;have HEnd2:Hid _:=HEnd.out hh1;have HLast2:Hid _:=HLast.out hh1;clear HH HEnd HLast h4 hh1;go_enter Tryz.func53,Tryz.ntmps53;go_wp2_with fail;refine c1.mono ?_;rintro e w1 ⟨rfl,hb1⟩;have c2:=HI.out w1 hb1;go_wp2_with fail;refine c2.mono ?_;rintro e w2 ⟨rfl,hb2⟩;have hB2:=on_trans hb1 hb2;have c3:=HN.out w2 n1 hn1;go_wp2_with fail
          refine c3.mono ?_;rintro e w3 ⟨rfl,hb3⟩;have c4:=HN.out w3 n2 hn2;go_wp2_with fail;refine c4.mono ?_;rintro e w4 ⟨rfl,hb4⟩;have c5:=HO.out w4;have hB5:=on_trans (on_trans (on_trans hB2 hb3) hb4) (HAl.out w4);go_wp2_with fail;refine c5.mono ?_;rintro e w5 ⟨rfl,hw5⟩;subst w5;have c6:=HF1.out _ hB5;go_wp2_with fail;refine c6.mono ?_;rintro e w6 ⟨rfl,hb6⟩;have hB6:=on_trans hB5 hb6;have c7:=HF2.out _ hB6;go_wp2_with fail;refine c7.mono ?_;rintro e w7 ⟨rfl,hb7⟩
          have hB7:=on_trans hB6 hb7;have c8:=HH2.out w7 hB7;clear c1 c2 c3 c4 c5 c6 c7 HI HN HO HF1 HF2;go_wp2_with fail;refine c8.mono ?_;rintro e w8 ⟨rfl,hb8⟩;have hB8:=on_trans hB7 hb8;clear c8 HH2 hb1 hb2 hB2 hb3 hb4 hB5 hb6 hB6 hb7 hB7 hb8
          by_cases h5:he=0
          . subst h5
            have HDD:Hid (rd=true):=by rw [HD.out,HE.out];exact decide_eq_true ⟨rfl,H4.out⟩
            have c9:=HEnd2.out w8 hB8;clear HK HE HD H4 HEnd2;go_wp2_with fail;refine c9.mono ?_;rintro e w9 ⟨⟨r9,rfl⟩,hset,hadd⟩
            cases hh2:has n2 (entsOf s d2) with
            | true =>
             rw [hh2] at HLast2;have c10:=hset hh2;have HL3:Hid _:=HLast2.out HDD.out;clear hset hadd hh2 HLast2 c9;go_wp2_with fail;refine c10.mono ?_;rintro e w10 ⟨⟨r10,rfl⟩,c11⟩;go_wp2_with fail;refine c11.mono ?_;rintro e w11 ⟨rfl,hfs,htn⟩;obtain ⟨sb4,ub4,v4,y0,y1,c12,hv⟩:=HL3.out w8 w11 _ hB8 htn hfs rfl;clear hfs htn HL3 c10 c11
             rcases hv with ⟨⟨b,rfl⟩,w12,hup,hfin⟩ | ⟨rfl,hfin⟩
             . go_wp2_with fail;refine c12.mono ?_;rintro e w13 ⟨rfl,hw13⟩;subst w13;go_wp2
               exact hfin
             . go_wp2_with fail;refine c12.mono ?_;rintro e w13 ⟨rfl,hw13⟩;subst w13;go_wp2
               exact hfin
            | false =>
             rw [hh2] at HLast2;have c10:=hadd hh2;have HL3:Hid _:=HLast2.out HDD.out;clear hset hadd hh2 HLast2 c9;go_wp2_with fail;refine c10.mono ?_;rintro e w11 ⟨⟨r10,rfl⟩,hfs,htn⟩;obtain ⟨sb4,ub4,v4,y0,y1,c12,hv⟩:=HL3.out w8 w11 _ hB8 htn hfs rfl;clear hfs htn HL3 c10
             rcases hv with ⟨⟨b,rfl⟩,w12,hup,hfin⟩ | ⟨rfl,hfin⟩
             . go_wp2_with fail;refine c12.mono ?_;rintro e w13 ⟨rfl,hw13⟩;subst w13;go_wp2
               exact hfin
             . go_wp2_with fail;refine c12.mono ?_;rintro e w13 ⟨rfl,hw13⟩;subst w13;go_wp2
               exact hfin
          . have HEE:Hid (re=he):=HE.out
            have HDD:Hid (rd=false):=by rw [HD.out,HE.out];exact decide_eq_false fun h7=>h5 h7.1
            have h5b:(he != 0)=true:=bne_iff_ne.2 h5;clear HE HD HEnd2 HLast2 h5;go_wp2
            exact HK.out _ _ HEE.out HDD.out hB8
     . have HEE:Hid (re=ne):=by have:=HE.out;rwa [if_pos h3] at this
       have HDD:Hid (rd=false):=by rw [HD.out,HEE.out];exact decide_eq_false fun h7=>h3 h7.1
       have h3b:(ne != 0)=true:=bne_iff_ne.2 h3;clear HE HD HH HEnd HLast h3 HF1 HF2;go_enter Tryz.func53,Tryz.ntmps53;go_wp2_with fail;refine c1.mono ?_;rintro e w1 ⟨rfl,hb1⟩;have c2:=HI.out w1 hb1;go_wp2_with fail;refine c2.mono ?_;rintro e w2 ⟨rfl,hb2⟩;have hB2:=on_trans hb1 hb2;have c3:=HN.out w2 n1 hn1;go_wp2_with fail;refine c3.mono ?_;rintro e w3 ⟨rfl,hb3⟩;have c4:=HN.out w3 n2 hn2;go_wp2_with fail;refine c4.mono ?_;rintro e w4 ⟨rfl,hb4⟩;have c5:=HO.out w4
       have hB5:=on_trans (on_trans (on_trans hB2 hb3) hb4) (HAl.out w4);go_wp2_with fail;refine c5.mono ?_;rintro e w5 ⟨rfl,hw5⟩;subst w5;go_wp2
       exact HK.out _ _ HEE.out HDD.out hB5
   . rw [if_neg h2] at HI;rw [if_pos h2] at HE
     have h2z:¬ ((dirE s d2:Nat):Int)=0:=by omega
     have HEE:Hid (renE s d1 n1 d2 n2=(dirE s d2:Nat)):=HE.out
     have HDD:Hid (renDo s d1 n1 d2 n2=false):=by rw [HD.out,HEE.out];exact decide_eq_false fun h7=>h2z h7.1
     have hq:(((dirE s d2:Nat):Int) != 0)=true:=bne_iff_ne.2 h2z;generalize ActPost n fb (c+1) S' U' (renE s d1 n1 d2 n2) w=Post at *;generalize ((dirE s d2:Nat):Int)=de at *;generalize dirV B s d1=dv1 at *;clear h hf ht ha HE HD h2 h2z h1 eS eU HN HO HAl;go_enter Tryz.func53,Tryz.ntmps53;go_wp2_with fail;refine c1.mono ?_;rintro e w1 ⟨rfl,hb⟩;have c2:=HI.out w1 hb;go_wp2_with fail;refine c2.mono ?_;rintro e w2 ⟨rfl,hb2⟩;go_wp2
     exact HK.out _ _ HEE.out HDD.out (on_trans hb hb2)
 . rw [if_neg h1] at c1;rw [if_pos h1] at HE
   have h1z:¬ ((dirE s d1:Nat):Int)=0:=by omega
   have HEE:Hid (renE s d1 n1 d2 n2=(dirE s d1:Nat)):=HE.out
   have HDD:Hid (renDo s d1 n1 d2 n2=false):=by rw [HD.out,HEE.out];exact decide_eq_false fun h7=>h1z h7.1
   have hq:(((dirE s d1:Nat):Int) != 0)=true:=bne_iff_ne.2 h1z;generalize ActPost n fb (c+1) S' U' (renE s d1 n1 d2 n2) w=Post at *;generalize ((dirE s d1:Nat):Int)=de at *;clear h hf ht ha HE HD h1 h1z HI eS eU HN HO HAl;go_enter Tryz.func53,Tryz.ntmps53;go_wp2_with fail;refine c1.mono ?_;rintro e w1 ⟨rfl,hb⟩;go_wp2
   exact HK.out _ _ HEE.out HDD.out hb
end
end Go.Proofs.YthlaoaaafafafaaGreat
