/- Ours. -/
import Derived.Test.YthlaoaaafafafaaGreatN7
set_option maxRecDepth 100000
set_option maxHeartbeats 16000000
namespace Go.Proofs.YthlaoaaafafafaaGreat
open Go Go.RowKit Go.Maps
def InR (Q:Int->Prop) (R:List Value × Int):Prop:=(R.2 ≠ 0/\R.1=fd0) ∨ (R.2=0/\∃ z0 z1 z2 z3 z4,R.1=fdC z0 z1 z2 z3 z4/\Q z0/\(z2=0 ∨ Q z2))
section
variable {s : SS} {c:Nat} {U:Int->Int} {fo pa:Bool} {Q:Int->Prop}
theorem luk_in (hf:Wf s c) (ht:Tree s) (hQ:∀ a b,Q a->kid s a b->Q b) {dir:Int} {part:ByteArray} (hd:Q dir) (hdd:ddB part=false) (he:lukE s dir part=0):Q (lukN s U dir part):=by
 unfold lukN;unfold lukE at he
 by_cases h1:dotB part=true
 . rw [if_pos h1];rw [if_pos (.inl h1)] at he
   rw [if_pos (by omega)]
   exact hd
 . rw [if_neg h1,if_neg (by simp [hdd])]
   rw [if_neg (by simp [h1,hdd])] at he
   rw [if_pos he];obtain ⟨i,dn,j,kn,hx,h2,_,h3,h4⟩:=entry_node hf ht (entryE_ok he).2
   refine hQ dir _ hd ?_
   rw [h3];obtain ⟨h5,h6⟩:=look_mem hx
   exact ⟨dn,h5,h6,_,h4,rfl⟩
theorem lk_in (hf:Wf s c) (ht:Tree s) (hQ:∀ a b,Q a->kid s a b->Q b) {dir:Int} {part:ByteArray} {last:Bool} (hd:Q dir) (he:lkE s true pa dir part last=0):dirE s dir=0/\ddB part=false/\(Q (lkN s U true pa dir part last) ∨ (lkN s U true pa dir part last=0/\last=true/\dotB part=false)):=by
 unfold lkE at he;unfold lkN
 by_cases h0:dirE s dir=0
 . rw [if_neg (by simp [h0])] at he ⊢
   cases hdd:ddB part with
   | true=>rw [hdd] at he;simp at he
   | false =>
    rw [hdd] at he
    simp only [Bool.false_and,Bool.false_eq_true,if_false] at he ⊢
    refine ⟨h0,trivial,?_⟩
    by_cases h1:lukE s dir part=2/\(last && pa)=true
    . rw [if_pos h1]
      refine .inr ⟨rfl,by have:=h1.2;revert this;cases last <;> simp,?_⟩
      cases hdot:dotB part with
      | false=>rfl
      | true =>
       have:=h1.1;unfold lukE at this;rw [if_pos (.inl hdot)] at this
       omega
    . rw [if_neg h1] at he ⊢
      exact .inl (luk_in hf ht hQ hd hdd he)
 . rw [if_pos h0] at he
   omega
theorem goF_in (hf:Wf s c) (ht:Tree s) (hQ:∀ a b,Q a->kid s a b->Q b):∀ (k:Nat) (left:List ByteArray) (dir:Int) (slash:Bool) (steps:Nat),Q dir->InR Q (goF s U true fo pa k left dir slash steps):=by
 have key:∀ k,(∀ k1,k=k1+1->∀ left dir slash steps,Q dir->InR Q (goF s U true fo pa k1 left dir slash steps))->∀ (left:List ByteArray) (dir:Int) (slash:Bool) (steps:Nat),Q dir->InR Q (goF s U true fo pa k left dir slash steps):=by
  intro k hk left
  induction left with
  | nil=>intro dir slash steps hd;rw [goF_nil];exact .inr ⟨rfl,_,_,_,_,_,rfl,hd,.inr hd⟩
  | cons part rest ih =>
   intro dir slash steps hd
   by_cases he:lkE s true pa dir part rest.isEmpty=0
   . obtain ⟨h0,hdd,hlk⟩:=lk_in (U:=U) hf ht hQ hd he;obtain ⟨ino,hino⟩:∃ ino,lkN s U true pa dir part rest.isEmpty=ino:=⟨_,rfl⟩;rw [hino] at hlk
     cases hth:thru s ino rest.isEmpty fo slash with
     | true =>
      cases k with
      | zero=>rw [goF_loop he (by rw [hino];exact hth)];exact .inl ⟨by decide,rfl⟩
      | succ k1 =>
       by_cases h7:takeE true (tgtT s ino)=0
       . rw [goF_link he hino hth h7]
         have hA:takeD dir (tgtT s ino)=dir:=by
          unfold takeE at h7;unfold takeD
          split at h7
          . rename_i h8;exact absurd h7 h8
          . cases hp:P.pA (tgtT s ino) with
            | true=>rw [hp] at h7;simp at h7
            | false=>rfl
         rw [hA]
         exact hk k1 rfl _ _ _ _ hd
       . rw [goF_bad he hino hth h7]
         exact .inl ⟨h7,rfl⟩
     | false =>
      cases rest with
      | nil =>
       rw [goF_last he hino hth];unfold endV endE
       by_cases h1:(dotB part || ddB part)=true
       . rw [if_pos h1,if_pos h1]
         have hdot:dotB part=true:=by rw [hdd] at h1;simpa using h1
         have hq:Q ino:=by
          rcases hlk with h2 | ⟨_,_,h2⟩
          . exact h2
          . rw [hdot] at h2;cases h2
         exact .inr ⟨rfl,_,_,_,_,_,rfl,hq,.inr hq⟩
       . rw [if_neg h1,if_neg h1]
         by_cases h2:(slash && (ino != 0) && !isDir s ino)=true
         . rw [if_pos h2,if_pos h2];exact .inl ⟨by decide,rfl⟩
         . rw [if_neg h2,if_neg h2]
           refine .inr ⟨rfl,_,_,_,_,_,rfl,hd,?_⟩
           rcases hlk with h3 | ⟨h3,_⟩
           . exact .inr h3
           . exact .inl h3
      | cons a r =>
       rw [goF_more (by simp) he hino hth]
       refine ih _ _ _ ?_
       rcases hlk with h3 | ⟨_,h3,_⟩
       . exact h3
       . cases h3
   . rw [goF_err he]
     exact .inl ⟨he,rfl⟩
 intro k
 induction k with
 | zero=>exact key 0 fun k1 h=>by omega
 | succ k ih =>
  refine key (k+1) fun k1 h => ?_
  obtain rfl:k=k1:=by omega
  exact ih
end
theorem parts_some {t:ByteArray} (hs:t.size ≠ 0) (h0:(P.byteAt t 0 == 47)=false):P.partsOf t ≠ []:=by
 have hb:P.byteAt t 0 ≠ 47:=by simpa using h0
 have key:∀ k,(P.stAt t k).2 ≠ [] ∨ (P.stAt t k).1=0:=fun k=>by
  induction k with
  | zero=>exact .inr rfl
  | succ k ih =>
   by_cases h:P.byteAt t k=47
   . rw [P.st_slash h]
     left
     show (if (P.stAt t k).1 < k then (P.stAt t k).2 ++ [t.extract (P.stAt t k).1 k] else (P.stAt t k).2) ≠ []
     split
     . simp
     . rename_i h1
       rcases ih with h2 | h2
       . exact h2
       . obtain rfl:k=0:=by omega
         exact absurd h hb
   . rw [P.st_other h];exact ih
 unfold P.partsOf
 split
 . simp
 . rename_i h1
   rcases key t.size with h2 | h2
   . exact h2
   . omega
theorem walkF_in {s:SS} {c:Nat} {U:Int->Int} {fo pa:Bool} (hf:Wf s c) (ht:Tree s) (start:Int) (t:ByteArray):InR (Reach8 s start) (walkF s U true fo pa start t)/\((walkF s U true fo pa start t).2=0->isDir s start=true):=by
 unfold walkF
 by_cases h:takeE true t=0
 . rw [if_neg (by simp [h])]
   have hE:P.pE t=0:=by
    unfold takeE at h
    by_cases h1:P.pE t=0
    . exact h1
    . rw [if_pos h1] at h;exact absurd h h1
   have hA:P.pA t=false:=by
    unfold takeE at h
    rw [if_neg (by simp [hE])] at h
    cases hp:P.pA t with
    | true=>rw [hp] at h;simp at h
    | false=>rfl
   have hD:takeD start t=start:=by unfold takeD;rw [hA];rfl
   rw [hD]
   refine ⟨goF_in hf ht (fun a b ha hk=>ha.step hk) _ _ _ _ _ (reach_self s start),fun h2 => ?_⟩
   have hne:P.pL t ≠ []:=by
    unfold P.pL;rw [if_pos hE]
    refine parts_some (P.pE_ok hE).1 ?_
    unfold P.pA at hA;rwa [if_pos hE] at hA
   obtain ⟨part,rest,hpr⟩:=List.exists_cons_of_ne_nil hne;rw [hpr] at h2
   have he:lkE s true pa start part rest.isEmpty=0:=by
    by_cases h3:lkE s true pa start part rest.isEmpty=0
    . exact h3
    . rw [goF_err h3] at h2;exact absurd h2 h3
   have h4:=(lk_in (Q:=fun _=>True) (U:=U) hf ht (fun _ _ _ _=>trivial) trivial he).1
   obtain ⟨i,n,hx,hk,_⟩:=dirE_ok h4;unfold isDir;rw [hx]
   simp [hk]
 . rw [if_pos h]
   exact ⟨.inl ⟨h,rfl⟩,fun h2=>absurd h2 h⟩
def NmS (w:World) (v:Value) (l:List ByteArray) (qb mb:Nat):Prop:=(l=[]/\v=.slice none 0 0) ∨ ∃ g c,v=.slice (some ⟨g,0,none⟩) l.length c/\g ≠ qb/\g ≠ mb/\Blk w g 9 (strV l)
theorem NmS.on {w w':World} {v:Value} {l:List ByteArray} {qb mb:Nat} (h:NmS w v l qb mb) (hb:Below w.heap.size w w'):NmS w' v l qb mb:=by
 rcases h with h | ⟨g,c,h1,h2,h3,h4⟩
 . exact .inl h
 . exact .inr ⟨g,c,h1,h2,h3,h4.on hb⟩
theorem NmS.grown {w w':World} {v:Value} {l:List ByteArray} {qb mb qb' r:Nat} (h:NmS w v l qb mb) (hg:w.grownBy w' (some r)) (hr:r=qb ∨ r=mb) (hq:qb'=qb ∨ w.heap.size<=qb'):NmS w' v l qb' mb:=by
 rcases h with h | ⟨g,c,h1,h2,h3,h4⟩
 . exact .inl h
 . have hl:=h4.lt
   refine .inr ⟨g,c,h1,by omega,h3,⟨(hg.block g hl fun e => ?_).trans h4.row⟩⟩
   have:=Option.some.inj e
   omega
theorem NmS.slice {w:World} {v:Value} {l:List ByteArray} {qb mb:Nat} (h:NmS w v l qb mb):∃ p c,v=.slice p l.length c/\∀ (j:Nat) (hj:j < l.length),∃ g,p=some ⟨g,0,none⟩/\w.cell? ⟨g,j,none⟩=some (.string l[j]):=by
 rcases h with ⟨rfl,rfl⟩ | ⟨g,c,rfl,_,_,hB⟩
 . exact ⟨none,0,rfl,fun j hj=>absurd hj (by simp)⟩
 . refine ⟨some ⟨g,0,none⟩,c,rfl,fun j hj=>⟨g,rfl,hB.cell j ?_⟩⟩
   unfold strV;rw [List.getElem?_map,List.getElem?_eq_getElem hj]
   rfl
structure Wnt (w0:World) (mb:Nat) (s:SS) (d:Int) (V:List Int) (p:Nat) (v:Value) (qb:Nat) (w:World):Prop where
 on:Below w0.heap.size w0 w
 set:SetM w mb V.length V
 que:QueM w v qb (V.drop p)
 lo:w0.heap.size<=mb/\w0.heap.size<=qb/\mb ≠ qb
 qi:QI s d V p
structure Wnd (w0:World) (mb:Nat) (s:SS) (d x:Int) (nv:Value) (i:Nat) (V:List Int) (p:Nat) (v:Value) (qb:Nat) (w:World):Prop where
 ri:Wnt w0 mb s d V p v qb w
 nm:NmS w nv (names (entsOf s x)) qb mb
 here:∃ hp:p < V.length,V[p]=x
 part:∀ j (hj:j < (entsOf s x).length),j < i->(entsOf s x)[j].2 ∈ V
def PReach (s:SS) (d:Int) (w:World) (e:Ending) (w':World):Prop:=∃ v M,e=.returned v/\OwnV w.heap.size 3 w' v (intsV M)/\Below w.heap.size w w'/\((isDir s d=false/\M=[]) ∨ (isDir s d=true/\M.Pairwise (· < ·)/\∀ x,x ∈ M ↔ Reach8 s d x))
section
variable {n fb c:Nat} {w:World} {s:SS} {U:Int->Int}
theorem Wnt.start {w0 w1:World} {d:Int} (hb:Below w0.heap.size w0 w1) (hd:(Lit.int .i64 d).wf=true) {m:Nd} (hm:m ∈ s.L) (e:(m.ino:Int)=d):∃ w2,(Instr.mapUpdate 83 (.map (some w1.heap.size)) (.int .i64 d) (.agg #[])).run Tryz.prog (w1.alloc (.map #[] 0))=.ok () w2/\Wnt w0 w1.heap.size s d [d] 0 (.slice (some ⟨w2.heap.size,0,none⟩) 1 1) w2.heap.size (w2.alloc (.cells #[.int .i64 d] 3)):=by
 obtain ⟨w2,h1,h2,h3⟩:=(SetM.new w1).put (by omega) hd
 have hal:=on_alloc w1 (.map #[] 0)
 have hsz:w1.heap.size+1<=w2.heap.size:=by
  have:=h3.size
  simpa using this
 have hkeep:∀ x,x < w1.heap.size->w2.heap[x]? = w1.heap[x]? := fun x hx=>(h3.block x (by simp;omega) fun e=>by cases e;omega).trans (hal.block x hx)
 have hb0:=hb.size
 refine ⟨w2,h1,on_trans ⟨h3.os.trans (hal.os.trans hb.os),h3.tape.trans (hal.tape.trans hb.tape),h3.output.trans (hal.output.trans hb.output),by omega,fun x hx=>(hkeep x (by omega)).trans (hb.block x hx)⟩ (on_alloc _ _),?_,QueM.one w2 d,⟨by omega,by omega,by omega⟩,QI.start hm e⟩
 exact h2.on (on_alloc _ _)
theorem Wnt.kept {w0 w1:World} {mb p qb:Nat} {d:Int} {V:List Int} {v:Value} {wx:World} (h:Wnt w0 mb s d V p v qb wx) (hb:Below wx.heap.size wx w1):Wnt w0 mb s d V p v qb w1 :=
 ⟨h.on.trans (hb.mono h.on.size),h.set.on hb,h.que.on hb,h.lo,h.qi⟩
theorem Wnd.kept {w0 w1 wx:World} {mb p qb i:Nat} {d x:Int} {V:List Int} {v nv:Value} (h:Wnd w0 mb s d x nv i V p v qb wx) (hb:Below wx.heap.size wx w1):Wnd w0 mb s d x nv i V p v qb w1 :=
 ⟨h.ri.kept hb,h.nm.on hb,h.here,h.part⟩
theorem Wnd.known {w0 wx:World} {mb p qb i:Nat} {d x:Int} {V:List Int} {v nv:Value} (h:Wnd w0 mb s d x nv i V p v qb wx) (hi:i < (entsOf s x).length) (hy:(entsOf s x)[i].2 ∈ V):Wnd w0 mb s d x nv (i+1) V p v qb wx :=
 ⟨h.ri,h.nm,h.here,fun j hj hji=>by
  by_cases e:j=i
  . subst e;exact hy
  . exact h.part j hj (by omega)⟩
theorem below_grown {r:Nat} {w0 w w':World} (h:Below w0.heap.size w0 w) (hg:w.grownBy w' (some r)) (hr:w0.heap.size<=r):Below w0.heap.size w0 w' :=
 ⟨hg.os.trans h.os,hg.tape.trans h.tape,hg.output.trans h.output,Nat.le_trans h.size hg.size,fun x hx=>(hg.block x (Nat.lt_of_lt_of_le hx h.size) fun e=>by have:=Option.some.inj e;omega).trans (h.block x hx)⟩
theorem Wnd.found {w0 wx:World} {mb p qb i:Nat} {d x:Int} {V:List Int} {v nv:Value} (h:Wnd w0 mb s d x nv i V p v qb wx) (hf:Wf s c) (ht:Tree s) (hi:i < (entsOf s x).length) (hy:¬ (entsOf s x)[i].2 ∈ V) (hw:(Lit.int .i64 (entsOf s x)[i].2).wf=true) :
 ∃ w2,(Instr.mapUpdate 83 (.map (some mb)) (.int .i64 (entsOf s x)[i].2) (.agg #[])).run Tryz.prog wx=.ok () w2/\∃ v' w3 qb',(Builtin.append_ #[41,41] 41 #[v,.slice (some ⟨w2.heap.size,0,none⟩) 1 1]).run Tryz.prog (w2.alloc (.cells #[.int .i64 (entsOf s x)[i].2] 3))=.ok v' w3/\Wnd w0 mb s d x nv (i+1) (V ++ [(entsOf s x)[i].2]) p v' qb' w3:=by
 obtain ⟨hp,hV⟩:=h.here
 have hll:s.L.length<=1000:=by have:=hf.room;have:=hf.most;omega
 have hle:=h.ri.qi.len
 obtain ⟨w2,h1,h2,h3⟩:=h.ri.set.put (by omega) hw
 have hq2:=h.ri.que.kept h3 (fun e=>h.ri.lo.2.2 (Option.some.inj e).symm)
 obtain ⟨v',w3,qb',h4,h5,h6,h7⟩:=hq2.push (by rw [List.length_drop];omega) (entsOf s x)[i].2
 have hmb:=h2.lt;have hlo:=h.ri.lo;have hsz:=h3.size;have hon2:=below_grown h.ri.on h3 hlo.1
 refine ⟨w2,h1,v',w3,qb',h4,⟨below_grown hon2 h6 hlo.2.1,?_,?_,⟨hlo.1,?_,?_⟩,?_⟩,?_,⟨by rw [List.length_append];omega,by rw [List.getElem_append_left hp];exact hV⟩,fun j hj hji => ?_⟩
 . rw [List.length_append]
   exact h2.kept h6 fun e=>hlo.2.2 (Option.some.inj e)
 . rw [List.drop_append_of_le_length (by omega)];exact h5
 . have:=hon2.size;omega
 . omega
 . exact h.ri.qi.more hf ht hp (by rw [hV];exact List.getElem_mem hi) hy
 . exact (h.nm.grown h3 (.inr rfl) (.inl rfl)).grown h6 (.inl rfl) h7
 . by_cases e:j=i
   . subst e;simp
   . exact List.mem_append_left _ (h.part j hj (by omega))
theorem Wnd.leave {w0 wx:World} {mb p qb i:Nat} {d x:Int} {V:List Int} {v nv:Value} (h:Wnd w0 mb s d x nv i V p v qb wx) (hf:Wf s c) (hi:(entsOf s x).length<=i):∃ v',(Instr.slice 41 v (some (.int .i64 1)) none none).run Tryz.prog wx=.ok v' wx/\Wnt w0 mb s d V (p+1) v' qb wx:=by
 obtain ⟨hp,hV⟩:=h.here;have hq:=h.ri.que;rw [List.drop_eq_getElem_cons hp] at hq;obtain ⟨v',h1,h2⟩:=hq.pop
 refine ⟨v',h1,h.ri.on,h.ri.set,h2,h.ri.lo,h.ri.qi.next hf hp fun e he => ?_⟩
 rw [hV] at he;obtain ⟨j,hj,rfl⟩:=List.getElem_of_mem he
 exact h.part j hj (by omega)
theorem Wnd.enter {w0 wx w1:World} {mb p qb:Nat} {d:Int} {V:List Int} {v nv:Value} (h:Wnt w0 mb s d V p v qb wx) (hp:p < V.length) (hb:Below wx.heap.size wx w1) (hn:NamesAt wx.heap.size w1 nv (names (entsOf s V[p]))):Wnd w0 mb s d V[p] nv 0 V p v qb w1:=by
 refine ⟨h.kept hb,?_,⟨hp,rfl⟩,fun j _ hj=>absurd hj (by omega)⟩
 rcases hn with hn | ⟨g,cp,h1,h2,h3⟩
 . exact .inl hn
 . have:=h.set.lt;have:=h.que.lt
   exact .inr ⟨g,cp,h1,by omega,by omega,h3⟩
theorem Wnt.sorts {w0 wx:World} {mb p qb:Nat} {d:Int} {V:List Int} {v:Value} (h:Wnt w0 mb s d V p v qb wx) (hd:isDir s d=true) (hf:Wf s c) (hp:V.length<=p) :
 Calls Tryz.prog 34 #[.func (.func 85) #[] #[.pointer (some ⟨wx.heap.size,0,none⟩)]] (wx.alloc (.cells #[.map (some mb)] 83)) fun e w' => ∃ v',e=.returned v'/\PReach s d w0 (.returned v') w':=by
 obtain ⟨D,h1,h2⟩:=h.set
 have hll:s.L.length<=1000:=by have:=hf.room;have:=hf.most;omega
 have hle:=h.qi.len
 have hsz:Maps.size D<=1000:=Nat.le_trans h1.size_le (by omega)
 refine (sorted8 h1 (by unfold maxLen;omega) (by omega)).mono ?_
 rintro e w' ⟨v',ss,rfl,hss,hrow,_,hb⟩
 have hV:V.Perm ss:=by
  obtain ⟨es,he,hpw⟩:=h1.tidy lawInt;obtain ⟨es',he',hko⟩:=h1.keysOf
  obtain rfl:es=es':=by rw [he] at he';simpa using he'
  refine List.Perm.trans ?_ hss.symm
  subst he
  refine perm_intKeys hpw (fun q hq => ?_) h.qi.nd fun x=>by rw [h2 x];simp
  obtain ⟨v,hv⟩:=hko q hq;obtain ⟨x,_,hx,_⟩:=Maps.keyOf_i64 Tryz.underlying3 hv
  exact ⟨x,hx⟩
 refine ⟨v',rfl,v',ss.mergeSort fun x y=>decide (x<=y),rfl,?_,h.on.trans (hb.mono h.on.size),.inr ⟨hd,merge_rises (hV.nodup_iff.1 h.qi.nd),fun x => ?_⟩⟩
 . show World.ownsRow w' w0.heap.size 3 1 v' (intsV _).length (intsV _)
   rw [show (intsV (ss.mergeSort fun x y=>decide (x<=y))).length=ss.length by simp [intsV]]
   exact ownsRow_base_a hrow h.on.size
 . rw [List.mem_mergeSort,h.qi.end hp]
   exact hV.symm.mem_iff
theorem reach8 (h:FsAt n w fb c s U) (hf:Wf s c) (ht:Tree s) (hn:Nam s) (hc:c<=900) (d:Int) (hd:(Lit.int .i64 d).wf=true):Calls Tryz.prog 14 #[ptr fb,.int .i64 d] w (PReach s d w):=by
 have HFS:Hid (FsAt n w fb c s U/\Wf s c/\Tree s/\Nam s/\c<=900):=⟨h,hf,ht,hn,hc⟩
 have cI:Calls Tryz.prog 31 #[ptr fb,.int .i64 d] w fun e w'=>e=.returned (.bool (isDir s d))/\Below w.heap.size w w':=by
  obtain ⟨sb,ub,B,hM⟩:=h
  exact isDir8 hM hf (by omega) d hd
 cases hk:isDir s d with
 | false =>
  have HP:Hid (∀ w',Below w.heap.size w w'->PReach s d w (.returned (.slice none 0 0)) w'):=fun w' hb=>⟨_,[],rfl,⟨rfl,.inl ⟨rfl,rfl⟩⟩,hb,.inl ⟨hk,rfl⟩⟩
  generalize PReach s d w=Post at *;rw [hk] at cI;clear h hf ht hn hc HFS;go_enter Tryz.func14,Tryz.ntmps14;go_wp2_with fail;refine cI.mono ?_;rintro e w1 ⟨rfl,hb⟩;have hz:=HP.out w1 hb;clear cI;go_wp2
  exact hz
 | true =>
  have HM:Hid (∃ m ∈ s.L,(m.ino:Int)=d):=by
   unfold isDir at hk
   cases hx:look s d with
   | none=>rw [hx] at hk;cases hk
   | some y =>
    obtain ⟨i,m⟩:=y;obtain ⟨h1,h2⟩:=look_mem hx
    exact ⟨m,h1,h2⟩
  have HK:Hid (isDir s d=true):=hk;obtain ⟨Post,hPost⟩:∃ Post,PReach s d w=Post:=⟨_,rfl⟩;rw [hPost];have HPost:Hid _:=hPost;rw [hk] at cI;have HD:Hid ((Lit.int .i64 d).wf=true):=hd;clear h hf ht hn hc hk hPost;go_enter Tryz.func14,Tryz.ntmps14;go_wp2_with fail;refine cI.mono ?_;rintro e w1 ⟨rfl,hb⟩;clear cI
  obtain ⟨w2,hup,HR0⟩:∃ w2,(Instr.mapUpdate 83 (.map (some w1.heap.size)) (.int .i64 d) (.agg #[])).run Tryz.prog (w1.alloc (.map #[] 0))=.ok () w2/\Hid (Wnt w w1.heap.size s d [d] 0 (.slice (some ⟨w2.heap.size,0,none⟩) 1 1) w2.heap.size (w2.alloc (.cells #[.int .i64 d] 3))):=by
   obtain ⟨m,hm,e⟩:=HM.out
   exact Wnt.start hb hd hm e
  have hmm:=@run_makeMap Tryz.prog;generalize hmb:w1.heap.size=mb at *;clear hb;go_wp2;clear hmm hup hmb
  go_loopg [6] s.L.length (fun g v6 wx=>Hid (∃ V p qb,g+p=s.L.length/\Wnt w mb s d V p v6 qb wx))
  case atStart=>exact ⟨[d],0,_,rfl,HR0.out⟩
  case round =>
   clear HR0;obtain ⟨V,p,qb,hgp,hri⟩:=hrel.out;clear hrel;obtain ⟨kk,hkk⟩:∃ kk,gk=kk:=⟨_,rfl⟩;subst gk;obtain ⟨off,cap,hv6,hq2,hq3,hq4,hq5⟩:=hri.que;obtain ⟨ln,hln⟩:∃ ln,(V.drop p).length=ln:=⟨_,rfl⟩;rw [hln] at hv6;subst hv6;have HRI:Hid (Wnt w mb s d V p (.slice (some ⟨qb,off,none⟩) ln cap) qb wr):=hri
   by_cases hp:p < V.length
   . have hdl:(V.drop p).length=V.length - p:=List.length_drop
     have c0:wr.cell? ⟨qb,off,none⟩=some (.int .i64 V[p]):=by
      have:=hq4 0 (by omega)
      rw [Nat.add_zero] at this;rw [this]
      simp
     have hgt:(0:Int) < (ln:Int):=by omega
     have hgn:0 < ln:=by omega
     have hll:ln<=100000:=by have:=hri.qi.len;have:=HFS.out.2.1.room;have:=HFS.out.2.1.most;omega
     have hlz:(ln:Int)<=100000:=by omega
     obtain ⟨x,hx⟩:∃ x,V[p]=x:=⟨_,rfl⟩
     have HXW:Hid ((Lit.int .i64 x).wf=true):=by
      obtain ⟨m,hm,e⟩:=hri.qi.isn _ (List.getElem_mem hp);have:=ino_wf HFS.out.2.1 HFS.out.2.2.2.2 hm;rwa [e,hx] at this
     have cL:Calls Tryz.prog 32 #[ptr fb,.int .i64 x,.int .i64 0,.int .i64 64] wr fun e w' => ∃ v E,e=.returned (.tuple #[v,.int .i64 E])/\NamesAt wr.heap.size w' v (names (entsOf s x))/\Below wr.heap.size wr w':=by
      obtain ⟨sb,ub,B,hM⟩:=HFS.out.1.on hri.on
      exact list8 hM HFS.out.2.1 HFS.out.2.2.1 (by have:=HFS.out.2.2.2.2;omega) x HXW.out
     rw [hx] at c0;have HHP:Hid (∃ hp:p < V.length,V[p]=x):=⟨hp,hx⟩;have HGP:Hid (kk+p=s.L.length):=hgp;clear hri hq2 hq3 hq4 hq5 hdl hx hp hgp hln;go_wp2_with fail;refine cL.mono ?_;rintro e w3 ⟨nv,E,rfl,hnm,hb3⟩
     have HRJ:Hid (Wnd w mb s d x nv 0 V p (.slice (some ⟨qb,off,none⟩) ln cap) qb w3):=by
      obtain ⟨hp,hx⟩:=HHP.out;subst hx
      exact Wnd.enter HRI.out hp hb3 hnm
     obtain ⟨pn,cn,hnv,_⟩:=hnm.slice;subst hnv;clear hnm hb3 cL HRI HHP c0
     have HES:Hid ((entsOf s x).length<=64):=by
      show (entsOf s x).length<=64
      by_cases e:entsOf s x=[]
      . rw [e];simp
      . obtain ⟨e1,he1⟩:=List.exists_mem_of_ne_nil _ e;obtain ⟨m,hm,_,h2⟩:=mem_ents he1;rw [<- h2];exact HFS.out.2.1.ds _ hm
     obtain ⟨nl,hnl⟩:∃ nl,(names (entsOf s x)).length=nl:=⟨_,rfl⟩;rw [hnl] at HRJ ⊢
     have HNL:Hid ((entsOf s x).length=nl):=by rw [<- hnl];exact (names_len _).symm
     have hn64:(nl:Int)<=64:=by have:=HES.out;have:=HNL.out;omega
     clear hnl HES hgt hgn hll hlz;go_wp2
     go_loopg [6,40] nl (fun g v6 v40 wx => ∃ i:Nat,i+g=nl/\v40=.int .i64 (i:Int)/\Hid (∃ V qb,Wnd w mb s d x (.slice pn nl cn) i V p v6 qb wx))
     case atStart=>exact ⟨0,by omega,rfl,⟨V,qb,HRJ.out⟩⟩
     case round =>
      clear HRJ;obtain ⟨i,hig,rfl,HI⟩:=hrel;obtain ⟨V,qb,hj⟩:=HI.out;clear HI
      cases gk with
      | zero =>
       obtain rfl:i=nl:=by omega
       have hnn:¬ (i:Int) < (i:Int):=by omega
       obtain ⟨v',hsl,hri'⟩:=hj.leave HFS.out.2.1 (by have:=HNL.out;omega)
       have HK2:Hid (∃ k2,kk=k2+1/\k2+(p+1)=s.L.length):=by
        obtain ⟨hp,_⟩:=hj.here;have:=hj.ri.qi.len;have:=HGP.out
        exact ⟨kk - 1,by omega,by omega⟩
       have HRI2:Hid _:=hri';clear hj hri';go_wp2;obtain ⟨k2,hk2,hk3⟩:=HK2.out;subst hk2
       go_roundg k2
       case rel=>exact ⟨_,p+1,_,hk3,HRI2.out⟩
       case measure=>omega
      | succ g =>
       have hil:i < nl:=by omega
       have hilz:(i:Int) < (nl:Int):=by omega
       have hie:i < (entsOf s x).length:=by have:=HNL.out;omega
       obtain ⟨hp,hVp⟩:=hj.here;obtain ⟨off,cap,hv6,hq2,hq3,hq4,hq5⟩:=hj.ri.que;obtain ⟨ln,hln⟩:∃ ln,(V.drop p).length=ln:=⟨_,rfl⟩;rw [hln] at hv6;subst hv6;have hdl:(V.drop p).length=V.length - p:=List.length_drop
       have c0:wr.cell? ⟨qb,off,none⟩=some (.int .i64 x):=by
        have:=hq4 0 (by omega)
        rw [Nat.add_zero] at this;rw [this]
        simp [hVp]
       have hgt:(0:Int) < (ln:Int):=by omega
       have hgn:0 < ln:=by omega
       obtain ⟨q,cq,hq,hqc⟩:=hj.nm.slice
       obtain ⟨gb,hgb,n0⟩:=hqc i (by rw [names_len];exact hie)
       simp at hq
       obtain ⟨rfl,h8,h9⟩:=hq;clear h8 h9;subst hgb;obtain ⟨nm,hnm⟩:∃ nm,(entsOf s x)[i].1=nm:=⟨_,rfl⟩;obtain ⟨y,hy⟩:∃ y,(entsOf s x)[i].2=y:=⟨_,rfl⟩
       have n1:wr.cell? ⟨gb,i,none⟩=some (.string nm):=by
        rw [n0,<- hnm]
        simp [names]
       have hlu:=luk_ent (U:=U) HFS.out.2.1 HFS.out.2.2.1 HFS.out.2.2.2.1 hie;rw [hnm,hy] at hlu
       have HYW:Hid ((Lit.int .i64 y).wf=true):=by
        obtain ⟨m,hm,_,h2⟩:=mem_ents (List.getElem_mem hie)
        obtain ⟨m',hm',e',_⟩:=HFS.out.2.2.1.there m hm _ (by rw [h2];exact List.getElem_mem hie)
        have:=ino_wf HFS.out.2.1 HFS.out.2.2.2.2 hm';rwa [<- e',hy] at this
       have cK:Calls Tryz.prog 33 #[ptr fb,.int .i64 x,.string nm] wr fun e w'=>(∃ E,e=.returned (.tuple #[.int .i64 y,.int .i64 E]))/\Below wr.heap.size wr w':=by
        obtain ⟨sb,ub,B,hM⟩:=HFS.out.1.on hj.ri.on
        refine (lookup8 hM HFS.out.2.1 HFS.out.2.2.1 (by have:=HFS.out.2.2.2.2;omega) x HXW.out nm hlu.2).mono ?_
        rintro e w' ⟨rfl,hb⟩
        exact ⟨⟨_,by rw [hlu.1]⟩,hb⟩
       have HJ:Hid (Wnd w mb s d x (.slice (some ⟨gb,0,none⟩) nl cn) i V p (.slice (some ⟨qb,off,none⟩) ln cap) qb wr):=hj;have HY:Hid (∃ hie:i < (entsOf s x).length,(entsOf s x)[i].2=y):=⟨hie,hy⟩;clear hj hie hVp hq2 hq3 hq4 hq5 hdl hln hqc n0 hnm hlu hy hp;go_wp2_with fail;refine cK.mono ?_;rintro e w1 ⟨⟨E2,rfl⟩,hb1⟩;have HJ1:Hid (Wnd w mb s d x (.slice (some ⟨gb,0,none⟩) nl cn) i V p (.slice (some ⟨qb,off,none⟩) ln cap) qb w1):=HJ.out.kept hb1;have hlk:=HJ1.out.ri.set.look HYW.out
       have HJ2:Hid (Wnd w mb s d x (.slice (some ⟨gb,0,none⟩) nl cn) i V p (.slice (some ⟨qb,off,none⟩) ln cap) qb (w1.alloc (.cells #[] 82))):=HJ1.out.kept (on_alloc _ _);clear cK c0 n1 HJ hb1 HJ1
       by_cases hyV:y ∈ V
       . rw [decide_eq_true hyV] at hlk
         have HJ3:Hid (Wnd w mb s d x (.slice (some ⟨gb,0,none⟩) nl cn) (i+1) V p (.slice (some ⟨qb,off,none⟩) ln cap) qb (w1.alloc (.cells #[] 82))):=by
          obtain ⟨hie,rfl⟩:=HY.out
          exact HJ2.out.known hie hyV
         clear HJ2 hyV;go_wp2
         go_roundg g
         case rel=>exact ⟨i+1,by omega,by go_num,⟨_,_,HJ3.out⟩⟩
         case measure=>omega
       . rw [decide_eq_false hyV] at hlk
         obtain ⟨w4,hup,v',w5,qb',hap,HJ3⟩:∃ w4,(Instr.mapUpdate 83 (.map (some mb)) (.int .i64 y) (.agg #[])).run Tryz.prog (w1.alloc (.cells #[] 82))=.ok () w4/\∃ v' w5 qb',(Builtin.append_ #[41,41] 41 #[.slice (some ⟨qb,off,none⟩) ln cap,.slice (some ⟨w4.heap.size,0,none⟩) 1 1]).run Tryz.prog (w4.alloc (.cells #[.int .i64 y] 3))=.ok v' w5/\Hid (Wnd w mb s d x (.slice (some ⟨gb,0,none⟩) nl cn) (i+1) (V ++ [y]) p v' qb' w5):=by
          obtain ⟨hie,rfl⟩:=HY.out
          exact HJ2.out.found HFS.out.2.1 HFS.out.2.2.1 hie hyV HYW.out
         clear HJ2 hyV
         go_wp2_with (at_builtin;refine wpList_run_append (by rfl) _ _ _ (by rfl) _ _ (by rfl) (by rfl) hap ?_)
         clear hap hup hlk;go_wp2
         go_roundg g
         case rel=>exact ⟨i+1,by omega,by go_num,⟨_,_,HJ3.out⟩⟩
         case measure=>omega
   . have hln0:ln=0:=by rw [<- hln,List.length_drop];omega
     subst hln0;have cK:=keys8 (some mb) wr
     have cS:=HRI.out.sorts HK.out HFS.out.2.1 (by omega)
     have HZ:Hid (PReach s d w=Post):=HPost;clear hri hq2 hq3 hq4 hq5 hp hgp hln HRI;go_wp2_with fail;refine cK.mono ?_;rintro e w3 ⟨rfl,rfl⟩;clear cK;go_wp2_with fail;refine cS.mono ?_;rintro e w4 ⟨v',rfl,hz⟩;rw [HZ.out] at hz;clear cS;go_wp2
     exact hz
end
open Go Go.RowKit
theorem in_true (p:Option Addr) (c:Nat) (l:List Int) (x:Int) (w:World) (hl:l.length<=1000000) (h1:At w p (intsV l)) (hx:x ∈ l):Calls Tryz.prog 16 #[.slice p l.length c,.int .i64 x] w fun e w'=>e=.returned (.bool true)/\Below w.heap.size w w':=by
 have HA:Hid (At w p (intsV l)):=h1;obtain ⟨i0,hi0,hxi⟩:=List.getElem_of_mem hx;have HX:Hid (∃ hi:i0 < l.length,l[i0]=x):=⟨hi0,hxi⟩;clear h1 hx hxi;go_enter Tryz.func16,Tryz.ntmps16;go_wp2
 go_loopw [5] (fun i wr => ∃ k:Nat,k<=i0/\i=.int .i64 k/\wr=w) (fun i _=>l.length - (intOf i).toNat)
 case atStart=>exact ⟨0,Nat.zero_le _,rfl,rfl⟩
 case round =>
  obtain ⟨k,hk,rfl,rfl⟩:=hrel
  have hlt:k < l.length:=by omega
  have hltz:(k:Int) < (l.length:Int):=by omega
  obtain ⟨b,off,rfl,_,_,hc⟩:=HA.out.place (k:=k) (by simpa using hlt)
  have hv:(intsV l)[k]? = some (.int .i64 l[k]):=by simp [hlt]
  have hck:=hc k _ hv;clear hc hv
  by_cases hy:l[k]=x
  . rw [hy] at hck;clear hy;go_wp2
    go_ret
    exact ⟨rfl,Below.refl _ _⟩
  . have hne:k ≠ i0:=fun e=>by
     obtain ⟨_,h⟩:=HX.out;subst e
     exact hy h
    have hyb:(l[k] == x)=false:=by simpa using hy
    clear hy;generalize l[k]=y at *;go_wp2;go_roundw
    case rel=>exact ⟨k+1,by omega,by go_num,trivial⟩
    case measure=>simp [intOf];omega
end Go.Proofs.YthlaoaaafafafaaGreat
