/- Ours. -/
import Derived.Test.YthlaoaaafafafaaGreatN3
set_option maxRecDepth 100000
set_option maxHeartbeats 16000000
namespace Go.Proofs.YthlaoaaafafafaaGreat.P
open Go Go.RowKit
end Go.Proofs.YthlaoaaafafafaaGreat.P
namespace Go.Proofs.YthlaoaaafafafaaGreat
open Go Go.RowKit Go.Maps
section
variable {s : SS} {U:Int->Int} {be fo pa:Bool} {k c:Nat} {part:ByteArray} {rest:List ByteArray} {dir:Int} {slash:Bool} {steps:Nat}
section
variable (h : dirE s dir=0) (hd:ddB part=false) (hE:lukE s dir part=0)
include h hd hE
end
end
def kid (s:SS) (x y:Int):Prop:=∃ m ∈ s.L,(m.ino:Int)=x/\∃ e ∈ m.ds,e.2=y
def Rn (s:SS) (d:Int):Nat->Int->Prop
 | 0,x=>x=d
 | n+1,x=>Rn s d n x ∨ ∃ y,Rn s d n y/\kid s y x
def Reach8 (s:SS) (d x:Int):Prop:=∃ n,Rn s d n x
section
variable {s : SS} {d x y:Int}
theorem reach_self (s:SS) (d:Int):Reach8 s d d:=⟨0,rfl⟩
theorem Reach8.step (h:Reach8 s d x) (k:kid s x y):Reach8 s d y:=by
 obtain ⟨n,h⟩:=h
 exact ⟨n+1,.inr ⟨x,h,k⟩⟩
theorem Reach8.ind {Q:Int->Prop} (h:Reach8 s d x) (h0:Q d) (hs:∀ a b,Q a->kid s a b->Q b):Q x:=by
 obtain ⟨n,h⟩:=h
 induction n generalizing x with
 | zero=>have:x=d:=h;subst this;exact h0
 | succ n ih =>
  rcases h with h | ⟨y,h1,h2⟩
  . exact ih h
  . exact hs y x (ih h1) h2
end
def cntT (B:List Bool):Nat:=B.count true
def leB (A B:List Bool):Prop:=A.length=B.length/\∀ i,A.getD i false=true->B.getD i false=true
theorem leB.refl (A:List Bool):leB A A:=⟨rfl,fun _ h=>h⟩
theorem leB.trans {A B C:List Bool} (h:leB A B) (k:leB B C):leB A C:=⟨h.1.trans k.1,fun i hi=>k.2 i (h.2 i hi)⟩
theorem leB.eq {A B:List Bool} (h:leB A B) (hc:cntT B<=cntT A):A=B:=by
 induction A generalizing B with
 | nil=>have:=h.1;cases B with | nil=>rfl | cons b r=>simp at this
 | cons a r ih =>
  cases B with
  | nil=>have:=h.1;simp at this
  | cons b t =>
   have hrt:leB r t:=⟨by have:=h.1;simpa using this,fun i hi=>h.2 (i+1) hi⟩
   have h0:a=true->b=true:=h.2 0
   have hle:cntT r<=cntT t:=by
    clear ih hc h h0
    induction r generalizing t with
    | nil=>simp [cntT]
    | cons x r ih2 =>
     cases t with
     | nil=>have:=hrt.1;simp at this
     | cons y t =>
      have h1:=ih2 (t:=t) ⟨by have:=hrt.1;simpa using this,fun i hi=>hrt.2 (i+1) hi⟩
      have h2:x=true->y=true:=hrt.2 0
      simp only [cntT,List.count_cons] at *
      cases x <;> cases y <;> simp_all <;> omega
   simp only [cntT,List.count_cons] at hc
   cases a <;> cases b
   . rw [ih hrt (by simpa [cntT] using hc)]
   . simp [cntT] at hc hle;omega
   . exact absurd (h0 rfl) (by simp)
   . rw [ih hrt (by simpa [cntT] using hc)]
theorem leB.cnt {A B:List Bool} (h:leB A B) (hne:A ≠ B):cntT A < cntT B:=by
 rcases Nat.lt_or_ge (cntT A) (cntT B) with h1 | h1
 . exact h1
 . exact absurd (h.eq h1) hne
def markB (B:List Bool) (j:Nat):List Bool:=B.set j true
theorem leB_mark (B:List Bool) (j:Nat):leB B (markB B j):=⟨by simp [markB],fun i hi=>by
 unfold markB
 by_cases e:j=i
 . subst e
   have hl:j < B.length:=by
    rcases Nat.lt_or_ge j B.length with h | h
    . exact h
    . simp [List.getD,h] at hi
   simp [List.getD,hl]
 . simpa [List.getD,List.getElem?_set_ne e] using hi⟩
def marksB (js:List Nat) (B:List Bool):List Bool:=js.foldl markB B
def nodeB (js:List Nat) (i:Nat) (B:List Bool):List Bool:=if B.getD i false=true then marksB js B else B
def sweepB (K:List (List Nat)):Nat->List Bool->List Bool:=fun i B=>match K with
 | []=>B
 | js :: r=>sweepB r (i+1) (nodeB js i B)
def roundsB (K:List (List Nat)):Nat->List Bool->List Bool
 | 0,B=>B
 | n+1,B=>roundsB K n (sweepB K 0 B)
theorem leB_marks : ∀ (js:List Nat) (B:List Bool),leB B (marksB js B)
 | [],B=>leB.refl B
 | j :: r,B=>(leB_mark B j).trans (leB_marks r _)
theorem leB_node (js:List Nat) (i:Nat) (B:List Bool):leB B (nodeB js i B):=by
 unfold nodeB
 split
 . exact leB_marks js B
 . exact leB.refl B
theorem leB_sweep : ∀ (K:List (List Nat)) (i:Nat) (B:List Bool),leB B (sweepB K i B)
 | [],_,B=>leB.refl B
 | js :: r,i,B=>(leB_node js i B).trans (leB_sweep r (i+1) _)
theorem leB_anti {A B:List Bool} (h:leB A B) (k:leB B A):A=B:=h.eq (by
 rcases Nat.lt_or_ge (cntT A) (cntT B) with h1 | h1
 . by_cases e:A=B
   . rw [e];exact Nat.le_refl _
   . have:=k.cnt (Ne.symm e);omega
 . exact h1)
theorem marks_fixed : ∀ {js:List Nat} {B:List Bool},marksB js B=B->∀ j ∈ js,j < B.length->B.getD j false=true
 | j :: r,B,h,x,hx,hl=>by
  have h1:markB B j=B:=leB_anti ((leB_marks r (markB B j)).trans (by rw [show marksB r (markB B j)=B from h];exact leB.refl B)) (leB_mark B j) |>.symm ▸ rfl
  rcases List.mem_cons.1 hx with rfl | hx
  . rw [<- h1]
    simp [markB,List.getD,hl]
  . refine marks_fixed (js:=r) ?_ x hx hl
    have:marksB r (markB B j)=B:=h;rwa [h1] at this
theorem sweep_fixed : ∀ {K:List (List Nat)} {i:Nat} {B:List Bool},sweepB K i B=B->∀ k (hk:k < K.length),B.getD (i+k) false=true->∀ j ∈ K[k],j < B.length->B.getD j false=true
 | js :: r,i,B,h,k,hk,hb,j,hj,hl=>by
  have h0:sweepB r (i+1) (nodeB js i B)=B:=h
  have h1:nodeB js i B=B:=leB_anti ((leB_sweep r (i+1) (nodeB js i B)).trans (by rw [h0];exact leB.refl B)) (leB_node js i B)
  cases k with
  | zero =>
   rw [Nat.add_zero] at hb;unfold nodeB at h1;rw [if_pos hb] at h1
   exact marks_fixed h1 j hj hl
  | succ k =>
   rw [h1] at h0
   exact sweep_fixed h0 k (by simpa using hk) (by rw [show i+1+k=i+(k+1) by omega];exact hb) j hj hl
theorem cntT_le (B:List Bool):cntT B<=B.length:=List.count_le_length
theorem rounds_fixed (K:List (List Nat)):∀ (n:Nat) (B:List Bool),B.length < cntT B+n->sweepB K 0 (roundsB K n B)=roundsB K n B
 | 0,B,h=>by have:=cntT_le B;omega
 | n+1,B,h=>by
  by_cases e:sweepB K 0 B=B
  . have key:∀ m,roundsB K m B=B:=fun m=>by
     induction m with
     | zero=>rfl
     | succ m ih=>show roundsB K m (sweepB K 0 B)=B;rw [e];exact ih
    rw [key,e]
  . have hl:=leB_sweep K 0 B;have hc:=hl.cnt (Ne.symm e)
    show sweepB K 0 (roundsB K n (sweepB K 0 B))=roundsB K n (sweepB K 0 B)
    exact rounds_fixed K n _ (by rw [<- hl.1];omega)
theorem leB_rounds (K:List (List Nat)):∀ (n:Nat) (B:List Bool),leB B (roundsB K n B)
 | 0,B=>leB.refl B
 | n+1,B=>(leB_sweep K 0 B).trans (leB_rounds K n _)
theorem marks_keep {Q:Nat->Prop}:∀ (js:List Nat) (B:List Bool),(∀ j ∈ js,Q j)->(∀ i,B.getD i false=true->Q i)->∀ i,(marksB js B).getD i false=true->Q i
 | [],B,_,hB,i,hi=>hB i hi
 | j :: r,B,hj,hB,i,hi=>by
  refine marks_keep r (markB B j) (fun x hx=>hj x (List.mem_cons_of_mem _ hx)) (fun x hx => ?_) i hi
  by_cases e:j=x
  . subst e;exact hj j List.mem_cons_self
  . refine hB x ?_
    simpa [markB,List.getD,List.getElem?_set_ne e] using hx
theorem sweep_keep {Q:Nat->Prop}:∀ (K:List (List Nat)) (i:Nat) (B:List Bool),(∀ k (hk:k < K.length),Q (i+k)->∀ j ∈ K[k],Q j)->(∀ i,B.getD i false=true->Q i)->∀ x,(sweepB K i B).getD x false=true->Q x
 | [],_,B,_,hB,x,hx=>hB x hx
 | js :: r,i,B,hK,hB,x,hx=>by
  refine sweep_keep r (i+1) (nodeB js i B) (fun k hk hq => ?_) (fun y hy => ?_) x hx
  . exact hK (k+1) (by simpa using hk) (by rw [show i+(k+1)=i+1+k by omega];exact hq)
  . unfold nodeB at hy
    split at hy
    . rename_i hb
      exact marks_keep js B (fun j hj=>hK 0 (by simp) (hB i hb) j hj) hB y hy
    . exact hB y hy
theorem rounds_keep {Q:Nat->Prop} (K:List (List Nat)) (hK:∀ k (hk:k < K.length),Q k->∀ j ∈ K[k],Q j):∀ (n:Nat) (B:List Bool),(∀ i,B.getD i false=true->Q i)->∀ x,(roundsB K n B).getD x false=true->Q x
 | 0,B,hB,x,hx=>hB x hx
 | n+1,B,hB,x,hx=>rounds_keep K hK n _ (sweep_keep K 0 B (fun k hk hq=>hK k hk (by simpa using hq)) hB) x hx
def plc (s:SS) (x:Int):Nat:=(ixZ s.L x).toNat
theorem plc_of {s:SS} {c:Nat} (hf:Wf s c) {m:Nd} (hm:m ∈ s.L):∃ h:plc s m.ino < s.L.length,s.L[plc s m.ino]=m/\ixZ s.L m.ino=(plc s m.ino:Nat):=by
 obtain ⟨i,hx⟩:=look_of hf hm;obtain ⟨hi,e,_,_⟩:=look_some hx;have h1:=ixZ_look_some hx
 have h2:plc s m.ino=i:=by unfold plc;rw [h1];rfl
 refine ⟨by rw [h2];exact hi,?_,by rw [h1,h2]⟩
 simp only [h2]
 exact e.symm
structure RBase (w:World) (rb gr cr:Nat) (s:SS) (E:Nat->List IEnt):Prop where
 x0:w.cell? ⟨rb,0,none⟩=some (.slice (some ⟨gr,0,none⟩) s.L.length cr)
 rl:rb < w.heap.size
 gl:gr < w.heap.size
 ino:∀ i (hi:i < s.L.length),w.cell? ⟨gr,i * 9,none⟩=some (.int .i64 (s.L[i].ino:Int))
 perm:∀ i (hi:i < s.L.length),(s.L[i].ds).Perm (E i)
 ents:∀ i,i < s.L.length->∃ p c,w.cell? ⟨gr,i * 9+8,none⟩=some (.slice p (E i).length c)/\∀ k (hk:k < (E i).length),∃ ge,p=some ⟨ge,0,none⟩/\ge < w.heap.size/\w.cell? ⟨ge,k * 2+1,none⟩=some (.int .i64 (E i)[k].2)
theorem RBase.on {w w':World} {rb gr cr:Nat} {s:SS} {E:Nat->List IEnt} (h:RBase w rb gr cr s E) (hb:Below w.heap.size w w'):RBase w' rb gr cr s E :=
 ⟨(hb.cell (p:=⟨rb,0,none⟩) h.rl).trans h.x0,Nat.lt_of_lt_of_le h.rl hb.size,Nat.lt_of_lt_of_le h.gl hb.size,fun i hi=>(hb.cell (p:=⟨gr,i * 9,none⟩) h.gl).trans (h.ino i hi),h.perm,fun i hi=>by
  obtain ⟨p,c,h1,h2⟩:=h.ents i hi
  refine ⟨p,c,(hb.cell (p:=⟨gr,i * 9+8,none⟩) h.gl).trans h1,fun k hk => ?_⟩
  obtain ⟨ge,h3,h4,h5⟩:=h2 k hk
  exact ⟨ge,h3,Nat.lt_of_lt_of_le h4 hb.size,(hb.cell (p:=⟨ge,k * 2+1,none⟩) h4).trans h5⟩⟩
theorem flat_num : ∀ {l:List IEnt} {k:Nat} (hk:k < l.length),(flat l)[k * 2+1]? = some (.int .i64 l[k].2)
 | x :: r,0,_=>rfl
 | x :: r,k+1,hk=>by
  rw [flat_cons,show (k+1) * 2+1=k * 2+1+2 by omega]
  simpa using flat_num (l:=r) (k:=k) (by simpa using hk)
theorem ent_cells {w:World} {v:Value} {ds:List IEnt} (h:EntM w v ds):∃ l:List IEnt,ds.Perm l/\∃ p c,v=.slice p l.length c/\∀ k (hk:k < l.length),∃ ge,p=some ⟨ge,0,none⟩/\ge < w.heap.size/\w.cell? ⟨ge,k * 2+1,none⟩=some (.int .i64 l[k].2):=by
 obtain ⟨l,hp,hr⟩:=h
 refine ⟨l,hp,?_⟩
 rcases hr.2 with ⟨rfl,h1⟩ | ⟨g,cap,cur,rfl,_,hg,hc,_,hs,ht⟩
 . exact ⟨none,0,by rw [h1],fun k hk=>by omega⟩
 . refine ⟨some ⟨g,0,none⟩,cap,rfl,fun k hk=>⟨g,rfl,(Array.getElem?_eq_some_iff.1 hg).1,?_⟩⟩
   have h2:(flat l)[k * 2+1]? = some (.int .i64 l[k].2):=flat_num hk
   rw [<- ht,List.getElem?_take_of_lt (by omega)] at h2
   simp only [World.cell?,hg]
   simpa using h2
theorem rbase {hi rb:Nat} {w:World} {s:SS} (h:RefAt6 hi w rb s) (ht:Tree s):∃ gr cr E,RBase w rb gr cr s E:=by
 obtain ⟨rv,Q,eQ,h⟩:=h;have hQ:=ix_map eQ;obtain ⟨n,hn,_⟩:=ht.root
 have hpos:0 < s.L.length:=List.length_pos_iff.2 fun e=>by rw [e] at hn;cases hn
 obtain ⟨gr,cr,rfl,_,hgl,_,_⟩:=h.place (k:=0) (by omega)
 have x0:=h.box.cell 0 rfl
 have hcell:∀ i (hi:i < s.L.length) j,j < 9->∀ v,((Q[i]'(by omega)).cells)[j]? = some v->w.cell? ⟨gr,i * 9+j,none⟩=some v:=fun i hi j hj v hv=>by
  obtain ⟨g2,c2,e2,_,_,_,hc⟩:=h.place (k:=i) (by omega)
  cases e2
  exact hc j hj v hv
 have hen:∀ i (hi:i < s.L.length),∃ l:List IEnt,(s.L[i].ds).Perm l/\∃ p c,w.cell? ⟨gr,i * 9+8,none⟩=some (.slice p l.length c)/\∀ k (hk:k < l.length),∃ ge,p=some ⟨ge,0,none⟩/\ge < w.heap.size/\w.cell? ⟨ge,k * 2+1,none⟩=some (.int .i64 l[k].2):=fun i hi=>by
  have he:=(h.node _ (List.getElem_mem (show i < Q.length by omega))).ents
  rw [show (Q[i]'(by omega)).n.ds=s.L[i].ds by rw [map_get eQ (by omega) hi]] at he
  obtain ⟨l,hp,p,c,hv,hk⟩:=ent_cells he
  refine ⟨l,hp,p,c,?_,hk⟩
  rw [<- hv]
  exact hcell i hi 8 (by omega) _ rfl
 refine ⟨gr,cr,fun i=>if hi:i < s.L.length then Classical.choose (hen i hi) else [],by rw [<- hQ];exact x0,World.block_lt_of_cell? w _ x0,hgl,fun i hi => ?_,fun i hi => ?_,fun i hi => ?_⟩
 . have:=hcell i hi 0 (by omega) _ rfl
   rw [show (Q[i]'(by omega)).n.ino=s.L[i].ino by rw [map_get eQ (by omega) hi]] at this
   exact this
 . rw [dif_pos hi]
   exact (Classical.choose_spec (hen i hi)).1
 . simp only [dif_pos hi]
   exact (Classical.choose_spec (hen i hi)).2
def kidsL (s:SS) (E:Nat->List IEnt):List (List Nat):=(List.range s.L.length).map fun i=>(E i).map fun e=>plc s e.2
theorem kidsL_len (s:SS) (E:Nat->List IEnt):(kidsL s E).length=s.L.length:=by simp [kidsL]
theorem kidsL_get (s:SS) (E:Nat->List IEnt) {i:Nat} (hi:i < (kidsL s E).length):(kidsL s E)[i]=(E i).map fun e=>plc s e.2:=by simp [kidsL]
def startB (s:SS) (d:Int):List Bool:=markB (List.replicate s.L.length false) (plc s d)
def marksOf (s:SS) (E:Nat->List IEnt) (d:Int):List Bool:=roundsB (kidsL s E) s.L.length (startB s d)
theorem marks_iff {w:World} {rb gr cr c:Nat} {s:SS} {E:Nat->List IEnt} (h:RBase w rb gr cr s E) (hf:Wf s c) (ht:Tree s) {m:Nd} (hm:m ∈ s.L) (i:Nat) (hi:i < s.L.length):(marksOf s E m.ino).getD i false=true ↔ Reach8 s m.ino (s.L[i].ino:Int):=by
 obtain ⟨hp,hpe,_⟩:=plc_of hf hm
 have hlen:(marksOf s E m.ino).length=s.L.length:=by
  unfold marksOf;rw [<- (leB_rounds _ _ _).1]
  simp [startB,markB]
 have hkid:∀ k (hk:k < s.L.length) j,j ∈ (E k).map (fun e=>plc s e.2)->∃ hj:j < s.L.length,kid s (s.L[k].ino:Int) (s.L[j].ino:Int):=fun k hk j hj=>by
  obtain ⟨e,he,rfl⟩:=List.mem_map.1 hj;have he2:e ∈ s.L[k].ds:=(h.perm k hk).mem_iff.2 he;obtain ⟨m2,hm2,e2,_⟩:=ht.there _ (List.getElem_mem hk) e he2;obtain ⟨h1,h2,_⟩:=plc_of hf hm2;rw [e2]
  exact ⟨h1,s.L[k],List.getElem_mem hk,rfl,e,he2,by rw [h2,e2]⟩
 constructor
 . intro hb
   have key:=rounds_keep (Q:=fun x => ∀ hx:x < s.L.length,Reach8 s m.ino (s.L[x].ino:Int)) (kidsL s E) (fun k hk hq j hj hx=>by
    have hk2:k < s.L.length:=by rw [kidsL_len] at hk;exact hk
    rw [kidsL_get] at hj;obtain ⟨_,hkd⟩:=hkid k hk2 j hj
    exact (hq hk2).step hkd) s.L.length (startB s m.ino) (fun x hx hx2=>by
     unfold startB markB at hx
     by_cases e:plc s m.ino=x
     . subst e;rw [hpe]
       exact reach_self _ _
     . rw [List.getD,List.getElem?_set_ne e] at hx
       simp [hx2] at hx) i hb
   exact key hi
 . intro hr
   have hcnt:1<=cntT (startB s m.ino):=by
    unfold cntT
    refine List.count_pos_iff.2 ?_
    unfold startB markB
    exact List.mem_iff_getElem.2 ⟨plc s m.ino,by simp [hp],by simp⟩
   have hfix:=rounds_fixed (kidsL s E) s.L.length (startB s m.ino) (by simp [startB,markB] at *;omega)
   have hst:(startB s m.ino).getD (plc s m.ino) false=true:=by unfold startB markB;simp [List.getD,hp]
   have key:∀ x,Reach8 s m.ino x->∃ n ∈ s.L,(n.ino:Int)=x/\(marksOf s E m.ino).getD (plc s x) false=true:=fun x hx =>
    hx.ind (Q:=fun x => ∃ n ∈ s.L,(n.ino:Int)=x/\(marksOf s E m.ino).getD (plc s x) false=true) ⟨m,hm,rfl,(leB_rounds (kidsL s E) s.L.length (startB s m.ino)).2 _ hst⟩ fun a b ⟨n,hn,e,hb⟩ ⟨q,hq,e1,en,he,e2⟩=>by
     have hnq:n=q:=hf.one hn hq (by omega)
     subst hnq;subst e;subst e2;obtain ⟨h1,h2,_⟩:=plc_of hf hn;obtain ⟨m2,hm2,e3,_⟩:=ht.there _ hn en he
     refine ⟨m2,hm2,e3.symm,?_⟩
     obtain ⟨h3,_,_⟩:=plc_of hf hm2;rw [<- e3] at h3
     have hk:plc s (n.ino:Int) < (kidsL s E).length:=by rw [kidsL_len];exact h1
     refine sweep_fixed hfix (plc s (n.ino:Int)) hk (by rw [Nat.zero_add];exact hb) (plc s en.2) ?_ (by show plc s en.2 < (marksOf s E m.ino).length;rw [hlen];exact h3)
     rw [kidsL_get]
     refine List.mem_map.2 ⟨en,(h.perm _ h1).mem_iff.1 ?_,rfl⟩
     rw [h2];exact he
   obtain ⟨n,hn,e,hb⟩:=key _ hr
   have hni:n=s.L[i]:=hf.one hn (List.getElem_mem hi) (by omega)
   subst hni;obtain ⟨i2,hx2⟩:=look_of hf (List.getElem_mem hi)
   have:plc s (s.L[i].ino:Int)=i:=by
    unfold plc;rw [ixZ_look_some (look_at hf hi)]
    rfl
   rwa [this] at hb
end Go.Proofs.YthlaoaaafafafaaGreat
