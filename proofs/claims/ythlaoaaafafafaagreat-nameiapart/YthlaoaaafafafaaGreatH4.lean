/- What the reference's Same answers of two lists of inodes that are one. -/
import Derived.Test.YthlaoaaafafafaaGreatF7
import Derived.BigRegion
set_option maxRecDepth 100000
set_option maxHeartbeats 16000000
namespace Go.Proofs.YthlaoaaafafafaaGreat
open Go Go.RowKit Go.Maps
theorem toList_refl (y:ByteArray):(y.toList == y.toList)=true:=by simp
theorem toList_refl2 (y:ByteArray):(y.toList != y.toList)=false:=by simp
theorem names_zero (p q:Option Addr) (c d:Nat) (w:World) :
 Calls Tryz.prog 39 #[.slice p 0 c,.slice q 0 d] w fun e w'=>e=.returned (.bool true)/\w'=w:=by
 go_enter Tryz.func39,Tryz.ntmps39;go_wp2
 go_loop [5] (fun i=>i=.int .i64 0) (fun _=>0)
 case atStart=>rfl
 case round =>
  subst hrel;go_wp2
  go_ret
  exact ⟨rfl,rfl⟩
theorem names_some (b off b2 off2:Nat) (c d:Nat) (l:List ByteArray) (w:World) (hl:l.length<=9223372036854775807) (hc:∀ j,j < l.length->w.cell? ⟨b,off+j,none⟩=some (.string (l.getD j ByteArray.empty)))
 (hd:∀ j,j < l.length->w.cell? ⟨b2,off2+j,none⟩=some (.string (l.getD j ByteArray.empty))) :
 Calls Tryz.prog 39 #[.slice (some ⟨b,off,none⟩) l.length c,.slice (some ⟨b2,off2,none⟩) l.length d] w fun e w'=>e=.returned (.bool true)/\Below w.heap.size w w':=by
 have HC:Hid (∀ j,j < l.length->w.cell? ⟨b,off+j,none⟩=some (.string (l.getD j ByteArray.empty))):=hc;have HD:Hid (∀ j,j < l.length->w.cell? ⟨b2,off2+j,none⟩=some (.string (l.getD j ByteArray.empty))):=hd;clear hc hd;go_enter Tryz.func39,Tryz.ntmps39;go_wp2
 go_loopw [5] (fun i wr => ∃ k q:Nat,k<=l.length/\i=.int .i64 k/\wr=w.drewN q) (fun i _=>l.length - (intOf i).toNat)
 case atStart=>exact ⟨0,0,Nat.zero_le _,rfl,rfl⟩
 case round =>
  obtain ⟨k,q,hk,rfl,rfl⟩:=hrel
  by_cases hlt:k < l.length
  . have hltz:(k:Int) < (l.length:Int):=by omega
    have hck:=HC.out k hlt;have hdk:=HD.out k hlt;generalize l.getD k ByteArray.empty=y at hck hdk;have e1:=toList_refl y;have e2:=toList_refl2 y;go_wp2;go_quiet (fail);go_wp2;go_roundw
    case rel=>exact ⟨k+1,_,by omega,by go_num,rfl⟩
    case measure=>simp [intOf];omega
  . obtain rfl:k=l.length:=by omega
    have hltz:¬ (l.length:Int) < (l.length:Int):=by omega
    go_wp2
    go_ret
    exact ⟨rfl,on_drewN (Below.refl _ _) _⟩
theorem names_two (p q:Option Addr) (c d:Nat) (l:List ByteArray) (w:World) (hl:l.length<=9223372036854775807) (h:At w p (strV l)) (h2:At w q (strV l)) :
 Calls Tryz.prog 39 #[.slice p l.length c,.slice q l.length d] w fun e w'=>e=.returned (.bool true)/\Below w.heap.size w w':=by
 have key:∀ j,j < l.length->(strV l)[j]? = some (.string (l.getD j ByteArray.empty)):=fun j hj=>by simp [strV,List.getD,hj]
 rcases h with h | ⟨b,off,rfl,_,_,hc⟩
 . obtain rfl:l=[]:=by simpa [strV] using h
   refine (names_zero p q c d w).mono ?_
   rintro e w' ⟨rfl,rfl⟩
   exact ⟨rfl,Below.refl _ _⟩
 . rcases h2 with h | ⟨b2,off2,rfl,_,_,hd⟩
   . obtain rfl:l=[]:=by simpa [strV] using h
     refine (names_zero (some ⟨b,off,none⟩) q c d w).mono ?_
     rintro e w' ⟨rfl,rfl⟩
     exact ⟨rfl,Below.refl _ _⟩
   . exact names_some b off b2 off2 c d l w hl (fun j hj=>hc j _ (key j hj)) (fun j hj=>hd j _ (key j hj))
theorem NamesAt.at {lo:Nat} {w:World} {v:Value} {l:List ByteArray} (h:NamesAt lo w v l):∃ p c,v=.slice p l.length c/\At w p (strV l):=by
 rcases h with ⟨rfl,rfl⟩ | ⟨g,c,h1,_,h3⟩
 . exact ⟨none,0,rfl,.inl rfl⟩
 . exact ⟨_,c,h1,.inr ⟨g,0,rfl,Nat.zero_le _,h3.lt,fun j u hu=>by rw [Nat.zero_add];exact h3.cell j hu⟩⟩
theorem DumpM.place {lo:Nat} {U:Int->Int} {s:SS} {w:World} {v:Value} {Q:List DN} {L:List Nd} (h:DumpM lo U s w v Q L) {k:Nat} (hk:k < L.length):∃ b off cap pn cn pi ci,v=.slice (some ⟨b,off,none⟩) L.length cap/\b < w.heap.size/\(∀ i,i < 9->∀ u,(inoC U (textOf s L[k].ino L[k].size) L[k] (.slice pn L[k].ds.length cn) (.slice pi L[k].ds.length ci))[i]? = some u->w.cell? ⟨b,off+k * 9+i,none⟩=some u)/\At w pn (strV (names L[k].ds))/\At w pi (intsV (L[k].ds.map (·.2))):=by
 obtain ⟨p,cap,e1,h1,_⟩:=rowS_at h.row
 have hQ:Q.length=L.length:=by rw [<- h.list];simp
 have hkQ:k < Q.length:=by omega
 have em:Q[k].m=L[k]:=by
  have:=h.list;subst this
  simp
 obtain ⟨pn,cn,e2,h2⟩:=(h.node _ (List.getElem_mem hkQ)).names.at;obtain ⟨pi,ci,e3,h3,_⟩:=ownV_at (h.node _ (List.getElem_mem hkQ)).inos;rw [em] at h2 h3
 have ln:(names Q[k].m.ds).length=L[k].ds.length:=by rw [em];unfold names;simp
 have li:(intsV (Q[k].m.ds.map (·.2))).length=L[k].ds.length:=by rw [em];unfold intsV;simp
 rw [ln] at e2;rw [li] at e3
 rcases h1 with h1 | ⟨b,off,rfl,_,hlt,hc⟩
 . have:=congrArg List.length h1;rw [dcells_len] at this
   simp at this
   omega
 . refine ⟨b,off,cap,pn,cn,pi,ci,by rw [e1,hQ],hlt,fun i hi u hu => ?_,h2,h3.at⟩
   rw [Nat.add_assoc]
   refine hc (k * 9+i) u ?_
   rw [dcells_get hkQ hi];unfold DN.cells;rw [em,e2,e3]
   exact hu
theorem two_new (w:World) (T:TypeId) (c d:List Value):∃ W,((w.alloc (.cells c.toArray T)).alloc (.cells d.toArray T)).drew=W/\Blk W w.heap.size T c/\Blk W (w.heap.size+1) T d/\Below w.heap.size w W:=by
 refine ⟨_,rfl,((Blk.new w T c).on (on_alloc _ _)).drew,?_,on_drew (on_trans (on_alloc _ _) (on_alloc _ _))⟩
 have:=(Blk.new (w.alloc (.cells c.toArray T)) T d).drew;rwa [World.size_alloc] at this
theorem same7 {lo lo2:Nat} {U:Int->Int} {s:SS} {w:World} {v v2:Value} {Q Q2:List DN} (h1:DumpM lo U s w v Q s.L) (h2:DumpM lo2 U s w v2 Q2 s.L) (hL:s.L.length<=256) (hD:∀ n ∈ s.L,n.ds.length<=64):Calls Tryz.prog 18 #[v,v2] w fun e w'=>e=.returned (.bool true)/\Below w.heap.size w w':=by
 have HA:Hid (∀ w',Below w.heap.size w w'->DumpM lo U s w' v Q s.L):=fun w' hb=>h1.on hb
 have HB:Hid (∀ w',Below w.heap.size w w'->DumpM lo2 U s w' v2 Q2 s.L):=fun w' hb=>h2.on hb
 have HD:Hid (∀ n ∈ s.L,n.ds.length<=64):=hD;obtain ⟨p1,c1,e1,_⟩:=rowS_at h1.row;obtain ⟨p2,c2,e2,_⟩:=rowS_at h2.row
 have hQ:Q.length=s.L.length:=by rw [<- h1.list];simp
 have hQ2:Q2.length=s.L.length:=by rw [<- h2.list];simp
 rw [hQ] at e1;rw [hQ2] at e2
 have HP:Hid (∀ w',Below w.heap.size w w'->(fun e w'=>e=Ending.returned (.bool true)/\Below w.heap.size w w') (Ending.returned (.bool true)) w'):=fun w' h=>⟨rfl,h⟩
 generalize (fun e w'=>e=Ending.returned (.bool true)/\Below w.heap.size w w')=Post at *
 have HB0:Hid (Below w.heap.size w w):=Below.refl _ _;clear h1 h2 hD hQ hQ2;subst v v2;go_enter Tryz.func18,Tryz.ntmps18;go_wp2
 go_loopw [5] (fun iv wr => ∃ k:Nat,k<=s.L.length/\iv=.int .i64 (k:Int)/\Hid (Below w.heap.size w wr)) (fun iv _=>s.L.length - (intOf iv).toNat)
 case atStart=>exact ⟨0,Nat.zero_le _,rfl,HB0⟩
 case round =>
  clear HB0;obtain ⟨k,hk,rfl,HI⟩:=hrel
  by_cases hlt:k < s.L.length
  . have hltz:(k:Int) < (s.L.length:Int):=by omega
    obtain ⟨b,off,cap,pn,cn,pi,ci,ev,hb,hc,hn,hi⟩:=(HA.out wr HI.out).place hlt;obtain ⟨b2,off2,cap2,pn2,cn2,pi2,ci2,ev2,hb2,hc2,hn2,hi2⟩:=(HB.out wr HI.out).place hlt
    cases ev
    cases ev2
    have hds:=HD.out _ (List.getElem_mem hlt)
    have a0:wr.cell? ⟨b,off+k * 9,none⟩=some (.int .i64 ((s.L[k].ino:Nat):Int)):=hc 0 (by omega) _ rfl
    have a1:=hc 1 (by omega) _ rfl
    have a2:=hc 2 (by omega) _ rfl
    have a3:=hc 3 (by omega) _ rfl
    have a4:=hc 4 (by omega) _ rfl
    have a5:=hc 5 (by omega) _ rfl
    have a6:=hc 6 (by omega) _ rfl
    have a7:=hc 7 (by omega) _ rfl
    have a8:=hc 8 (by omega) _ rfl
    have b0:wr.cell? ⟨b2,off2+k * 9,none⟩=some (.int .i64 ((s.L[k].ino:Nat):Int)):=hc2 0 (by omega) _ rfl
    have b1:=hc2 1 (by omega) _ rfl
    have b2':=hc2 2 (by omega) _ rfl
    have b3:=hc2 3 (by omega) _ rfl
    have b4:=hc2 4 (by omega) _ rfl
    have b5:=hc2 5 (by omega) _ rfl
    have b6:=hc2 6 (by omega) _ rfl
    have b7:=hc2 7 (by omega) _ rfl
    have b8:=hc2 8 (by omega) _ rfl
    generalize textOf s s.L[k].ino s.L[k].size=T at *;generalize ((s.L[k].ino:Nat):Int)=z0 at *;generalize ((s.L[k].kind:Nat):Int)=z1 at *;generalize ((s.L[k].links:Nat):Int)=z2 at *;generalize ((s.L[k].holds:Nat):Int)=z3 at *;generalize U z0=z4 at *;generalize ((s.L[k].f.blocks:Nat):Int)=z6 at *;clear hc hc2;go_wp2
    go_region
    . obtain ⟨W,eW,hX,hY,hW⟩:=two_new wr 97 [.int .i64 z0,.int .i64 z1,.int .i64 z2,.int .i64 z3,.int .i64 z4,.string T,.int .i64 z6,.slice pn s.L[k].ds.length cn,.slice pi s.L[k].ds.length ci] [.int .i64 z0,.int .i64 z1,.int .i64 z2,.int .i64 z3,.int .i64 z4,.string T,.int .i64 z6,.slice pn2 s.L[k].ds.length cn2,.slice pi2 s.L[k].ds.length ci2];rw [eW]
      have hN:=names_two pn pn2 cn cn2 (names s.L[k].ds) W (by rw [show (names s.L[k].ds).length=s.L[k].ds.length by unfold names;simp];omega) (hn.on hW) (hn2.on hW)
      rw [show (names s.L[k].ds).length=s.L[k].ds.length by unfold names;simp] at hN
      have HI1:Hid (At W pi (intsV (s.L[k].ds.map (·.2)))):=hi.on hW;have HI2:Hid (At W pi2 (intsV (s.L[k].ds.map (·.2)))):=hi2.on hW;have HW:Hid (Below w.heap.size w W):=on_trans HI.out hW;have hx0:=hX.cell 0 rfl;have hx1:=hX.cell 1 rfl;have hx2:=hX.cell 2 rfl;have hx3:=hX.cell 3 rfl;have hx4:=hX.cell 4 rfl;have hx5:=hX.cell 5 rfl;have hx6:=hX.cell 6 rfl;have hx7:=hX.cell 7 rfl;have hx8:=hX.cell 8 rfl;have hy0:=hY.cell 0 rfl;have hy1:=hY.cell 1 rfl
      have hy2:=hY.cell 2 rfl;have hy3:=hY.cell 3 rfl;have hy4:=hY.cell 4 rfl;have hy5:=hY.cell 5 rfl;have hy6:=hY.cell 6 rfl;have hy7:=hY.cell 7 rfl;have hy8:=hY.cell 8 rfl;have ht:=toList_refl2 T;have HX:Hid _:=hX;have HY:Hid _:=hY;clear hX hY hW eW a0 a1 a2 a3 a4 a5 a6 a7 a8 b0 b1 b2' b3 b4 b5 b6 b7 b8 hn hn2 hi hi2 HI hb hb2;go_wp2_with fail;refine hN.mono ?_;rintro e W2 ⟨rfl,hW2⟩;have hx8:=(HX.out.on hW2).cell 8 rfl;have hy8:=(HY.out.on hW2).cell 8 rfl
      have HI1:Hid (At W2 pi (intsV (s.L[k].ds.map (·.2)))):=HI1.out.on hW2;have HI2:Hid (At W2 pi2 (intsV (s.L[k].ds.map (·.2)))):=HI2.out.on hW2;have HW:Hid (Below w.heap.size w W2):=on_trans HW.out hW2;clear hN hW2 HX HY hx0 hx1 hx2 hx3 hx4 hx5 hx6 hx7 hy0 hy1 hy2 hy3 hy4 hy5 hy6 hy7;have el:(s.L[k].ds.map (·.2)).length=s.L[k].ds.length:=List.length_map _;generalize s.L[k].ds.map (·.2)=l at *;rw [<- el] at hx8 hy8 hds ⊢;clear el;go_wp2
      go_loopw [8] (fun iv wr2 => ∃ j q:Nat,j<=l.length/\iv=.int .i64 (j:Int)/\wr2=W2.drewN q) (fun iv _=>l.length - (intOf iv).toNat)
      case atStart=>exact ⟨0,0,Nat.zero_le _,rfl,rfl⟩
      case round =>
       obtain ⟨j,q,hj,rfl,rfl⟩:=hrel
       by_cases hjl:j < l.length
       . have hjz:(j:Int) < (l.length:Int):=by omega
         obtain ⟨c1,o1,rfl,_,_,hc1⟩:=HI1.out.place (k:=j) (by unfold intsV;simpa using hjl)
         obtain ⟨c2,o2,rfl,_,_,hc2⟩:=HI2.out.place (k:=j) (by unfold intsV;simpa using hjl)
         have d1:=hc1 j _ (by unfold intsV;rw [List.getElem?_map,List.getElem?_eq_getElem hjl];rfl)
         have d2:=hc2 j _ (by unfold intsV;rw [List.getElem?_map,List.getElem?_eq_getElem hjl];rfl)
         clear hc1 hc2;generalize l[j]=zj at *;go_wp2;go_quiet (fail);go_wp2;go_roundw
         case rel=>exact ⟨j+1,_,by omega,by go_num,rfl⟩
         case measure=>simp [intOf];omega
       . obtain rfl:j=l.length:=by omega
         have hjz:¬ (l.length:Int) < (l.length:Int):=by omega
         have HB3:Hid (Below w.heap.size w (W2.drewN q)):=on_drewN HW.out q;go_wp2;go_roundw
         case rel=>exact ⟨k+1,by omega,by go_num,HB3⟩
         case measure=>simp [intOf];omega
    . obtain ⟨W,eW,hY,hX,hW⟩:=two_new wr 97 [.int .i64 z0,.int .i64 z1,.int .i64 z2,.int .i64 z3,.int .i64 z4,.string T,.int .i64 z6,.slice pn2 s.L[k].ds.length cn2,.slice pi2 s.L[k].ds.length ci2] [.int .i64 z0,.int .i64 z1,.int .i64 z2,.int .i64 z3,.int .i64 z4,.string T,.int .i64 z6,.slice pn s.L[k].ds.length cn,.slice pi s.L[k].ds.length ci];rw [eW]
      have hN:=names_two pn pn2 cn cn2 (names s.L[k].ds) W (by rw [show (names s.L[k].ds).length=s.L[k].ds.length by unfold names;simp];omega) (hn.on hW) (hn2.on hW)
      rw [show (names s.L[k].ds).length=s.L[k].ds.length by unfold names;simp] at hN
      have HI1:Hid (At W pi (intsV (s.L[k].ds.map (·.2)))):=hi.on hW;have HI2:Hid (At W pi2 (intsV (s.L[k].ds.map (·.2)))):=hi2.on hW;have HW:Hid (Below w.heap.size w W):=on_trans HI.out hW;have hx0:=hX.cell 0 rfl;have hx1:=hX.cell 1 rfl;have hx2:=hX.cell 2 rfl;have hx3:=hX.cell 3 rfl;have hx4:=hX.cell 4 rfl;have hx5:=hX.cell 5 rfl;have hx6:=hX.cell 6 rfl;have hx7:=hX.cell 7 rfl;have hx8:=hX.cell 8 rfl;have hy0:=hY.cell 0 rfl;have hy1:=hY.cell 1 rfl
      have hy2:=hY.cell 2 rfl;have hy3:=hY.cell 3 rfl;have hy4:=hY.cell 4 rfl;have hy5:=hY.cell 5 rfl;have hy6:=hY.cell 6 rfl;have hy7:=hY.cell 7 rfl;have hy8:=hY.cell 8 rfl;have ht:=toList_refl2 T;have HX:Hid _:=hX;have HY:Hid _:=hY;clear hX hY hW eW a0 a1 a2 a3 a4 a5 a6 a7 a8 b0 b1 b2' b3 b4 b5 b6 b7 b8 hn hn2 hi hi2 HI hb hb2;go_wp2_with fail;refine hN.mono ?_;rintro e W2 ⟨rfl,hW2⟩;have hx8:=(HX.out.on hW2).cell 8 rfl;have hy8:=(HY.out.on hW2).cell 8 rfl
      have HI1:Hid (At W2 pi (intsV (s.L[k].ds.map (·.2)))):=HI1.out.on hW2;have HI2:Hid (At W2 pi2 (intsV (s.L[k].ds.map (·.2)))):=HI2.out.on hW2;have HW:Hid (Below w.heap.size w W2):=on_trans HW.out hW2;clear hN hW2 HX HY hx0 hx1 hx2 hx3 hx4 hx5 hx6 hx7 hy0 hy1 hy2 hy3 hy4 hy5 hy6 hy7;have el:(s.L[k].ds.map (·.2)).length=s.L[k].ds.length:=List.length_map _;generalize s.L[k].ds.map (·.2)=l at *;rw [<- el] at hx8 hy8 hds ⊢;clear el;go_wp2
      go_loopw [8] (fun iv wr2 => ∃ j q:Nat,j<=l.length/\iv=.int .i64 (j:Int)/\wr2=W2.drewN q) (fun iv _=>l.length - (intOf iv).toNat)
      case atStart=>exact ⟨0,0,Nat.zero_le _,rfl,rfl⟩
      case round =>
       obtain ⟨j,q,hj,rfl,rfl⟩:=hrel
       by_cases hjl:j < l.length
       . have hjz:(j:Int) < (l.length:Int):=by omega
         obtain ⟨c1,o1,rfl,_,_,hc1⟩:=HI1.out.place (k:=j) (by unfold intsV;simpa using hjl)
         obtain ⟨c2,o2,rfl,_,_,hc2⟩:=HI2.out.place (k:=j) (by unfold intsV;simpa using hjl)
         have d1:=hc1 j _ (by unfold intsV;rw [List.getElem?_map,List.getElem?_eq_getElem hjl];rfl)
         have d2:=hc2 j _ (by unfold intsV;rw [List.getElem?_map,List.getElem?_eq_getElem hjl];rfl)
         clear hc1 hc2;generalize l[j]=zj at *;go_wp2;go_quiet (fail);go_wp2;go_roundw
         case rel=>exact ⟨j+1,_,by omega,by go_num,rfl⟩
         case measure=>simp [intOf];omega
       . obtain rfl:j=l.length:=by omega
         have hjz:¬ (l.length:Int) < (l.length:Int):=by omega
         have HB3:Hid (Below w.heap.size w (W2.drewN q)):=on_drewN HW.out q;go_wp2;go_roundw
         case rel=>exact ⟨k+1,by omega,by go_num,HB3⟩
         case measure=>simp [intOf];omega
  . obtain rfl:k=s.L.length:=by omega
    have hltz:¬ (s.L.length:Int) < (s.L.length:Int):=by omega
    have hz:=HP.out wr HI.out;go_wp2
    exact hz
end Go.Proofs.YthlaoaaafafafaaGreat
