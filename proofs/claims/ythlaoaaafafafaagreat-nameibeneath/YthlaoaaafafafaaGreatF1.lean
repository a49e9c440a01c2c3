/- Ours. -/
import Derived.Test.YthlaoaaafafafaaGreatC5
import Derived.Test.YthlaoaaafafafaaGreatC7
set_option maxRecDepth 100000
set_option maxHeartbeats 16000000
namespace Go.Proofs.YthlaoaaafafafaaGreat
open Go Go.RowKit
theorem look_mem {s:SS} {x:Int} {i:Nat} {n:Nd} (h:look s x=some (i,n)):n ∈ s.L/\(n.ino:Int)=x:=by
 obtain ⟨hi,rfl,h1,_⟩:=look_some h
 exact ⟨List.getElem_mem hi,h1⟩
theorem look_of {s:SS} {c:Nat} (hf:Wf s c) {n:Nd} (hn:n ∈ s.L):∃ i,look s n.ino=some (i,n):=by
 obtain ⟨i,hi,rfl⟩:=List.getElem_of_mem hn
 exact ⟨i,look_at hf hi⟩
theorem look_is {s:SS} {c:Nat} (hf:Wf s c) {x:Int} {i:Nat} {n m:Nd} (h:look s x=some (i,n)) (hm:m ∈ s.L) (e:(m.ino:Int)=x):m=n:=by
 obtain ⟨h1,h2⟩:=look_mem h
 exact hf.one hm h1 (by omega)
def SS.upd (s:SS) (x:Int) (g:Nd->Nd):SS:={ s with L:=s.L.map fun n=>if (n.ino:Int)=x then g n else n }
theorem upd_none {s:SS} {x:Int} {g:Nd->Nd} (h:look s x=none):s.upd x g=s:=by
 have h1:=(look_none h).2
 have e:(s.L.map fun n=>if (n.ino:Int)=x then g n else n)=s.L:=by
  conv=>rhs;rw [<- List.map_id s.L]
  exact List.map_congr_left fun n hn=>if_neg (h1 n hn)
 unfold SS.upd;rw [e]
theorem upd_some {s:SS} {c:Nat} {x:Int} {i:Nat} {n:Nd} {g:Nd->Nd} (hf:Wf s c) (h:look s x=some (i,n)):s.upd x g=s.set i (g n):=by
 obtain ⟨hi,rfl,h1,_⟩:=look_some h
 have e:(s.L.map fun n=>if (n.ino:Int)=x then g n else n)=s.L.set i (g s.L[i]):=by
  refine List.ext_getElem (by simp) fun j h2 h3 => ?_
  have hj:j < s.L.length:=by simpa using h2
  rw [List.getElem_map,List.getElem_set]
  by_cases e:i=j
  . subst e;rw [if_pos h1,if_pos rfl]
  . rw [if_neg e,if_neg]
    intro e2
    exact e (ino_inj hf.sorted hi hj (by omega))
 unfold SS.upd SS.set;rw [e]
def Nd.dead (n:Nd):Bool:=n.links+n.holds == 0
def SS.gc (s:SS):SS:={ s with L:=s.L.filter fun n => !n.dead }
theorem gc_id {s:SS} (h:∀ n ∈ s.L,1<=n.links+n.holds):s.gc=s:=by
 have e:(s.L.filter fun n => !n.dead)=s.L:=List.filter_eq_self.2 fun n hn=>by
  have:=h n hn
  simp only [Nd.dead,Bool.not_eq_true',beq_eq_false_iff_ne,ne_eq]
  omega
 unfold SS.gc;rw [e]
theorem more_upd {s:SS} {c:Nat} {x:Int} {l:Bool} (hf:Wf s c) (he:moreE s x l=0):moreS s x l=s.upd x fun n=>n.cntd l (n.cnt l+1):=by
 unfold moreE at he;unfold moreS
 cases hx:look s x with
 | none=>rw [hx] at he;cases he
 | some y =>
  obtain ⟨i,n⟩:=y;rw [hx] at he
  by_cases h1:l=true/\32<=n.links
  . simp only [if_pos h1] at he;cases he
  . rw [upd_some hf hx]
    exact if_neg h1
theorem erase_filter {L:List Nd} {i:Nat} (hi:i < L.length) {n:Nd} (hd:n.dead=true) (h:∀ m ∈ L,1<=m.links+m.holds):((L.set i n).filter fun n => !n.dead)=L.eraseIdx i:=by
 have key:∀ m ∈ L,(!m.dead)=true:=fun m hm=>by
  have:=h m hm
  simp only [Nd.dead,Bool.not_eq_true',beq_eq_false_iff_ne,ne_eq]
  omega
 rw [List.set_eq_take_append_cons_drop,if_pos hi,List.filter_append,List.filter_cons,if_neg (by rw [hd];simp),List.eraseIdx_eq_take_drop_succ,
  List.filter_eq_self.2 fun m hm=>key m (List.mem_of_mem_take hm),List.filter_eq_self.2 fun m hm=>key m (List.mem_of_mem_drop hm)]
theorem less_gc {s:SS} {c:Nat} {x:Int} {l:Bool} (hf:Wf s c) (he:lessE s x l=0):lessS s x l=(s.upd x fun n=>n.cntd l (n.cnt l - 1)).gc:=by
 unfold lessE at he;unfold lessS
 cases hx:look s x with
 | none=>rw [hx] at he;cases he
 | some y =>
  obtain ⟨i,n⟩:=y;rw [hx] at he;obtain ⟨hi,rfl,_,_⟩:=look_some hx
  by_cases h0:s.L[i].cnt l=0
  . simp only [if_pos h0] at he;cases he
  . rw [upd_some hf hx]
    show (if _ then _ else if _ then _ else _)=_
    rw [if_neg h0]
    by_cases h1:s.L[i].links+s.L[i].holds=1
    . rw [if_pos h1];unfold SS.del SS.gc SS.set
      simp only
      rw [erase_filter hi ?_ hf.alive]
      cases l <;> simp [Nd.dead,Nd.cntd,Nd.cnt] at h0 ⊢ <;> omega
    . rw [if_neg h1,gc_id]
      intro m hm
      rcases List.mem_or_eq_of_mem_set hm with h7 | h7
      . exact hf.alive m h7
      . have:=hf.alive _ (List.getElem_mem hi);rw [h7]
        cases l <;> simp [Nd.cntd,Nd.cnt] at h0 ⊢ <;> omega
def cd (ds:List IEnt) (k:Nat):Nat:=ds.countP fun e=>decide (e.2=(k:Int))
def cntE (L:List Nd) (k:Nat):Nat:=(L.map fun n=>cd n.ds k).sum
theorem cd_perm {a b:List IEnt} (h:a.Perm b) (k:Nat):cd a k=cd b k:=h.countP_eq _
theorem cd_append (a b:List IEnt) (k:Nat):cd (a ++ b) k=cd a k+cd b k:=List.countP_append
theorem cd_mem {ds:List IEnt} {e:IEnt} {k:Nat} (h:e ∈ ds) (he:e.2=(k:Int)):1<=cd ds k:=List.countP_pos_iff.2 ⟨e,h,by simpa using he⟩
theorem cd_some {ds:List IEnt} {k:Nat} (h:1<=cd ds k):∃ e ∈ ds,e.2=(k:Int):=by
 obtain ⟨e,h1,h2⟩:=List.countP_pos_iff.1 h
 exact ⟨e,h1,by simpa using h2⟩
theorem cntE_mem {L:List Nd} {n:Nd} {k:Nat} (hn:n ∈ L) (h:1<=cd n.ds k):1<=cntE L k:=by
 unfold cntE
 induction L with
 | nil=>cases hn
 | cons a r ih =>
  rw [List.map_cons,List.sum_cons]
  rcases List.mem_cons.1 hn with rfl | h1
  . omega
  . have:=ih h1;omega
theorem cntE_some {L:List Nd} {k:Nat} (h:1<=cntE L k):∃ n ∈ L,∃ e ∈ n.ds,e.2=(k:Int):=by
 unfold cntE at h
 induction L with
 | nil=>simp at h
 | cons a r ih =>
  rw [List.map_cons,List.sum_cons] at h
  by_cases h0:1<=cd a.ds k
  . obtain ⟨e,h1,h2⟩:=cd_some h0
    exact ⟨a,List.mem_cons_self,e,h1,h2⟩
  . obtain ⟨n,hn,h1⟩:=ih (by omega)
    exact ⟨n,List.mem_cons_of_mem _ hn,h1⟩
theorem sum_one {L:List Nd} (hs:L.Pairwise fun a b=>a.ino < b.ino) {d:Nd} (hd:d ∈ L) (F F':Nd->Nat) (h:∀ n ∈ L,n.ino ≠ d.ino->F' n=F n):(L.map F').sum+F d=(L.map F).sum+F' d:=by
 induction L with
 | nil=>cases hd
 | cons a r ih =>
  obtain ⟨h1,h2⟩:=List.pairwise_cons.1 hs;rw [List.map_cons,List.map_cons,List.sum_cons,List.sum_cons]
  rcases List.mem_cons.1 hd with rfl | h3
  . have e:r.map F'=r.map F:=List.map_congr_left fun n hn=>h n (List.mem_cons_of_mem _ hn) (by have:=h1 n hn;omega)
    rw [e];omega
  . have e:=h a List.mem_cons_self (by have:=h1 d h3;omega)
    have:=ih h2 h3 fun n hn=>h n (List.mem_cons_of_mem _ hn)
    omega
theorem cntE_map (L:List Nd) (g:Nd->Nd) (k:Nat):cntE (L.map g) k=(L.map fun n=>cd (g n).ds k).sum:=by
 unfold cntE;rw [List.map_map];rfl
def nodeOf (L:List Nd) (x:Nat):Option Nd:=L.find? fun n=>n.ino == x
def up1 (L:List Nd) (x:Nat):Option Nat:=match nodeOf L x with | none=>none | some n=>if n.kind=2/\1<=n.links then some n.par.toNat else none
def upN (L:List Nd):Nat->Nat->Option Nat
 | 0,x=>some x
 | k+1,x=>(up1 L x).bind (upN L k)
def Up (L:List Nd) (x a:Nat):Prop:=∃ k,upN L k x=some a
theorem Up.refl (L:List Nd) (x:Nat):Up L x x:=⟨0,rfl⟩
theorem Up.step {L:List Nd} {x p a:Nat} (h:up1 L x=some p) (k:Up L p a):Up L x a:=by
 obtain ⟨j,hj⟩:=k
 exact ⟨j+1,by show (up1 L x).bind (upN L j)=_;rw [h];exact hj⟩
theorem Up.inv {L:List Nd} {x a:Nat} (h:Up L x a):x=a ∨ ∃ p,up1 L x=some p/\Up L p a:=by
 obtain ⟨j,hj⟩:=h
 cases j with
 | zero=>exact .inl (by simpa [upN] using hj)
 | succ j =>
  cases hu:up1 L x with
  | none=>simp [upN,hu] at hj
  | some p=>exact .inr ⟨p,rfl,j,by simpa [upN,hu] using hj⟩
theorem nodeOf_mem {L:List Nd} {x:Nat} {n:Nd} (h:nodeOf L x=some n):n ∈ L/\n.ino=x:=by
 have h1:=List.mem_of_find?_eq_some h;have h2:=List.find?_some h
 exact ⟨h1,by simpa using h2⟩
theorem nodeOf_of {s:SS} {c:Nat} (hf:Wf s c) {n:Nd} (hn:n ∈ s.L):nodeOf s.L n.ino=some n:=by
 cases h:nodeOf s.L n.ino with
 | none =>
  have:=List.find?_eq_none.1 h n hn
  simp at this
 | some m =>
  obtain ⟨h1,h2⟩:=nodeOf_mem h;rw [hf.one h1 hn h2]
theorem nodeOf_map {L:List Nd} {g:Nd->Nd} (hg:∀ n,(g n).ino=n.ino) (x:Nat):nodeOf (L.map g) x=(nodeOf L x).map g:=by
 unfold nodeOf;rw [List.find?_map]
 congr 2
 funext n
 simp [hg]
theorem up1_mem {L:List Nd} {x p:Nat} (h:up1 L x=some p):∃ n ∈ L,n.ino=x/\n.kind=2/\1<=n.links/\p=n.par.toNat:=by
 unfold up1 at h
 cases hn:nodeOf L x with
 | none=>rw [hn] at h;cases h
 | some n =>
  rw [hn] at h;obtain ⟨h1,h2⟩:=nodeOf_mem hn
  by_cases hk:n.kind=2/\1<=n.links
  . simp only [if_pos hk,Option.some.injEq] at h
    exact ⟨n,h1,h2,hk.1,hk.2,h.symm⟩
  . simp only [if_neg hk] at h;cases h
theorem up1_of {s:SS} {c:Nat} (hf:Wf s c) {n:Nd} (hn:n ∈ s.L) (hk:n.kind=2) (hl:1<=n.links):up1 s.L n.ino=some n.par.toNat:=by
 unfold up1;rw [nodeOf_of hf hn]
 exact if_pos ⟨hk,hl⟩
structure TreeX (s:SS) (X:Int):Prop where
 root:∃ n ∈ s.L,n.ino=1/\n.kind=2/\n.links=0/\1<=n.holds/\n.par=1
 sorted:∀ n ∈ s.L,Sorted n.ds
 dirs:∀ n ∈ s.L,n.ds ≠ []->n.kind=2/\(n.ino=1 ∨ 1<=n.links ∨ (n.ino:Int)=X)
 there:∀ n ∈ s.L,∀ e ∈ n.ds,∃ m ∈ s.L,e.2=(m.ino:Int)/\(m.kind=2->m.par=(n.ino:Int))
 links:∀ n ∈ s.L,n.links=cntE s.L n.ino
 one:∀ n ∈ s.L,n.kind=2->n.links<=1
 rank:∃ r:Nat->Nat,∀ x p,up1 s.L x=some p->r p < r x
 plain:∀ n ∈ s.L,n.kind ≠ 2->n.par=0
abbrev Tree (s:SS):Prop:=TreeX s 0
section
variable {s : SS} {X X':Int} {c:Nat}
theorem TreeX.map (h:TreeX s X) (g:Nd->Nd) (hi:∀ n,(g n).ino=n.ino) (hk:∀ n,(g n).kind=n.kind) (h0:∀ n ∈ s.L,n.ino=1->n.links=0->1<=n.holds->n.par=1->(g n).links=0/\1<=(g n).holds/\(g n).par=1)
 (hs:∀ n ∈ s.L,Sorted (g n).ds) (hd:∀ n ∈ s.L,(g n).ds ≠ []->n.kind=2/\(n.ino=1 ∨ 1<=(g n).links ∨ (n.ino:Int)=X')) (ht:∀ n ∈ s.L,∀ e ∈ (g n).ds,∃ m ∈ s.L,e.2=(m.ino:Int)/\(m.kind=2->(g m).par=(n.ino:Int)))
 (hl:∀ n ∈ s.L,(g n).links=(s.L.map fun m=>cd (g m).ds n.ino).sum) (h1:∀ n ∈ s.L,n.kind=2->(g n).links<=1) (hr:∃ r:Nat->Nat,∀ x p,up1 (s.L.map g) x=some p->r p < r x) (hp:∀ n ∈ s.L,n.kind ≠ 2->(g n).par=0):TreeX { s with L:=s.L.map g } X':=by
 refine ⟨?_,fun n hn => ?_,fun n hn h7 => ?_,fun n hn e he => ?_,fun n hn => ?_,fun n hn h7 => ?_,hr,fun n hn h7 => ?_⟩
 . obtain ⟨n,hn,e1,e2,e3,e4,e5⟩:=h.root;obtain ⟨h2,h3,h4⟩:=h0 n hn e1 e3 e4 e5
   exact ⟨g n,List.mem_map_of_mem hn,(hi n).trans e1,(hk n).trans e2,h2,h3,h4⟩
 . obtain ⟨m,hm,rfl⟩:=List.mem_map.1 hn
   exact hs m hm
 . obtain ⟨m,hm,rfl⟩:=List.mem_map.1 hn;rw [hk,hi]
   exact hd m hm h7
 . obtain ⟨m,hm,rfl⟩:=List.mem_map.1 hn;obtain ⟨q,hq,h2,h3⟩:=ht m hm e he
   exact ⟨g q,List.mem_map_of_mem hq,by rw [hi];exact h2,fun h7=>by rw [hi];exact h3 (by rw [<- hk];exact h7)⟩
 . obtain ⟨m,hm,rfl⟩:=List.mem_map.1 hn
   show (g m).links=cntE (s.L.map g) (g m).ino
   rw [hi,cntE_map]
   exact hl m hm
 . obtain ⟨m,hm,rfl⟩:=List.mem_map.1 hn
   exact h1 m hm (by rw [<- hk];exact h7)
 . obtain ⟨m,hm,rfl⟩:=List.mem_map.1 hn
   exact hp m hm (by rw [<- hk];exact h7)
theorem TreeX.rel (h:TreeX s X) (hf:Wf s c) {n:Nd} (hn:n ∈ s.L):DRelE n.ds n.ds :=
 ⟨.refl _,h.sorted n hn,fun e he=>by
  obtain ⟨m,hm,h1,_⟩:=h.there n hn e he;have:=(hf.num m hm).1
  omega,hf.ds n hn⟩
theorem TreeX.entry (h:TreeX s X) {n m:Nd} {e:IEnt} (hn:n ∈ s.L) (he:e ∈ n.ds) (hm:m ∈ s.L) (h1:e.2=(m.ino:Int)):1<=m.links:=by
 rw [h.links m hm]
 exact cntE_mem hn (cd_mem he h1)
theorem TreeX.parent (h:TreeX s X) (hf:Wf s c) {n:Nd} (hn:n ∈ s.L) (hk:n.kind=2) (hl:1<=n.links):∃ m ∈ s.L,n.par=(m.ino:Int)/\m.kind=2/\m.ds ≠ []/\∃ e ∈ m.ds,e.2=(n.ino:Int):=by
 rw [h.links n hn] at hl;obtain ⟨m,hm,e,he,h1⟩:=cntE_some hl
 have hne:m.ds ≠ []:=fun h7=>by rw [h7] at he;cases he
 obtain ⟨q,hq,h2,h3⟩:=h.there m hm e he
 have:q=n:=hf.one hq hn (by omega)
 subst this
 exact ⟨m,hm,h3 hk,(h.dirs m hm hne).1,hne,e,he,h1⟩
theorem Up.last (h:TreeX s X) (hf:Wf s c) {x a:Nat} (hu:Up s.L x a):x=a ∨ ∃ m ∈ s.L,m.ino=a/\m.ds ≠ []:=by
 obtain ⟨k,hk⟩:=hu
 induction k generalizing x with
 | zero=>exact .inl (by simpa [upN] using hk)
 | succ k ih =>
  cases hu:up1 s.L x with
  | none=>simp [upN,hu] at hk
  | some p =>
   rcases ih (by simpa [upN,hu] using hk) with rfl | h1
   . obtain ⟨n,hn,rfl,h2,h3,h4⟩:=up1_mem hu;obtain ⟨m,hm,h5,_,h6,_⟩:=h.parent hf hn h2 h3
     exact .inr ⟨m,hm,by omega,h6⟩
   . exact .inr h1
end
theorem add_perm {ds:List IEnt} {nm:ByteArray} {k:Int} (R:DRelE ds ds) (he:addE nm k ds=0):(addS nm k ds).Perm (ds ++ [(nm,k)])/\Sorted (addS nm k ds):=by
 have:=R.add (nm:=nm) (ino:=k)
 refine ⟨?_,this.sorted⟩
 have h1:=this.perm;unfold rAdd at h1;rw [<- R.addE,he,if_pos rfl] at h1
 exact h1
theorem cd_add {ds:List IEnt} {nm:ByteArray} {k:Int} (R:DRelE ds ds) (he:addE nm k ds=0) (j:Nat):cd (addS nm k ds) j=cd ds j+if k=(j:Int) then 1 else 0:=by
 rw [cd_perm (add_perm R he).1,cd_append]
 congr 1
 unfold cd
 by_cases h:k=(j:Int)
 . simp [h]
 . simp [h]
theorem mem_add {ds:List IEnt} {nm:ByteArray} {k:Int} (R:DRelE ds ds) (he:addE nm k ds=0) {e:IEnt} (h:e ∈ addS nm k ds):e ∈ ds ∨ e=(nm,k):=by
 rcases List.mem_append.1 ((add_perm R he).1.mem_iff.1 h) with h1 | h1
 . exact .inl h1
 . exact .inr (List.mem_singleton.1 h1)
theorem cd_rem {ds:List IEnt} {nm:ByteArray} (hs:Sorted ds) (hh:has nm ds=true) (j:Nat):cd (remS nm ds) j+(if find nm ds=(j:Int) then 1 else 0)=cd ds j:=by
 obtain ⟨hlt,_,h2⟩:=has_place hs hh;unfold remS;rw [hh,if_pos rfl,h2]
 conv=>rhs;rw [<- List.take_append_drop (under nm ds) ds,List.drop_eq_getElem_cons hlt]
 rw [cd_append,cd_append];unfold cd;rw [List.countP_cons]
 by_cases h:ds[under nm ds].2=(j:Int)
 . simp [h];omega
 . simp [h]
theorem mem_rem {ds:List IEnt} {nm:ByteArray} {e:IEnt} (h:e ∈ remS nm ds):e ∈ ds:=by
 unfold remS at h
 split at h
 . rcases List.mem_append.1 h with h1 | h1
   . exact List.mem_of_mem_take h1
   . exact List.mem_of_mem_drop h1
 . exact h
theorem sorted_rem {ds:List IEnt} {nm:ByteArray} (R:DRelE ds ds):Sorted (remS nm ds):=(R.rem (nm:=nm)).sorted
theorem find_mem {ds:List IEnt} {nm:ByteArray} (hs:Sorted ds) (hh:has nm ds=true):(nm,find nm ds) ∈ ds:=by
 obtain ⟨hlt,h1,h2⟩:=has_place hs hh
 rw [h2,show (nm,ds[under nm ds].2)=ds[under nm ds] from Prod.ext h1.symm rfl]
 exact List.getElem_mem hlt
theorem Up.mono {L L':List Nd} (h:∀ x p,up1 L' x=some p->up1 L x=some p) {x a:Nat} (hu:Up L' x a):Up L x a:=by
 obtain ⟨k,hk⟩:=hu
 induction k generalizing x with
 | zero=>exact ⟨0,hk⟩
 | succ k ih =>
  cases h1:up1 L' x with
  | none=>simp [upN,h1] at hk
  | some p=>exact Up.step (h x p h1) (ih (by simpa [upN,h1] using hk))
theorem up1_map {L:List Nd} {g:Nd->Nd} (hg:∀ n,(g n).ino=n.ino) (hk:∀ n,(g n).kind=n.kind) {x p:Nat} (h:up1 (L.map g) x=some p):∃ n ∈ L,n.ino=x/\n.kind=2/\nodeOf L x=some n/\1<=(g n).links/\p=(g n).par.toNat:=by
 unfold up1 at h;rw [nodeOf_map hg] at h
 cases hn:nodeOf L x with
 | none=>rw [hn] at h;cases h
 | some n =>
  rw [hn] at h;obtain ⟨h1,h2⟩:=nodeOf_mem hn
  simp only [Option.map_some] at h
  by_cases h3:(g n).kind=2/\1<=(g n).links
  . rw [if_pos h3] at h
    exact ⟨n,h1,h2,by rw [<- hk];exact h3.1,rfl,h3.2,by simpa using h.symm⟩
  . rw [if_neg h3] at h;cases h
theorem up1_is {L:List Nd} {x:Nat} {n:Nd} (h:nodeOf L x=some n) (hk:n.kind=2) (hl:1<=n.links):up1 L x=some n.par.toNat:=by
 unfold up1;rw [h]
 exact if_pos ⟨hk,hl⟩
def linkG (d k:Nat) (nm:ByteArray) (n:Nd):Nd:={ n with ds:=if n.ino=d then addS nm k n.ds else n.ds,links:=if n.ino=k then n.links+1 else n.links,par:=if n.ino=k/\n.kind=2 then (d:Int) else n.par }
theorem linkG_links (d k:Nat) (nm:ByteArray) (n:Nd):(linkG d k nm n).links=if n.ino=k then n.links+1 else n.links:=rfl
structure Wk (s:SS):Prop where
 sorted:s.L.Pairwise fun a b=>a.ino < b.ino
 num:∀ n ∈ s.L,1<=n.ino
 ds:∀ n ∈ s.L,n.ds.length<=64
theorem Wf.wk {s:SS} {c:Nat} (h:Wf s c):Wk s:=⟨h.sorted,fun n hn=>(h.num n hn).1,h.ds⟩
theorem Wk.one {s:SS} (h:Wk s) {a b:Nd} (ha:a ∈ s.L) (hb:b ∈ s.L) (e:a.ino=b.ino):a=b:=by
 obtain ⟨i,hi,rfl⟩:=List.getElem_of_mem ha;obtain ⟨j,hj,rfl⟩:=List.getElem_of_mem hb;have:=ino_inj h.sorted hi hj e;subst this
 rfl
theorem Wk.map {s:SS} (h:Wk s) (g:Nd->Nd) (hi:∀ n,(g n).ino=n.ino) (hd:∀ n ∈ s.L,(g n).ds.length<=64):Wk { s with L:=s.L.map g }:=by
 refine ⟨?_,fun n hn => ?_,fun n hn => ?_⟩
 . show (s.L.map g).Pairwise _
   rw [List.pairwise_map]
   exact h.sorted.imp fun {a b} hab=>by rw [hi,hi];exact hab
 . obtain ⟨m,hm,rfl⟩:=List.mem_map.1 hn;rw [hi];exact h.num m hm
 . obtain ⟨m,hm,rfl⟩:=List.mem_map.1 hn
   exact hd m hm
section
variable {s : SS} {X X':Int} {dn kn:Nd} {nm:ByteArray}
theorem TreeX.relK (h:TreeX s X) (hf:Wk s) {n:Nd} (hn:n ∈ s.L):DRelE n.ds n.ds :=
 ⟨.refl _,h.sorted n hn,fun e he=>by
  obtain ⟨m,hm,h1,_⟩:=h.there n hn e he;have:=hf.num m hm
  omega,hf.ds n hn⟩
theorem tree_linkK (hf:Wk s) (ht:TreeX s X) (hd:dn ∈ s.L) (hk:kn ∈ s.L) (hdk:dn.kind=2) (hgo:dn.ino=1 ∨ 1<=dn.links) (he:addE nm kn.ino dn.ds=0) (hdir:kn.kind=2->kn.links=0/\kn.ino ≠ 1/\¬ Up s.L dn.ino kn.ino) (hX:X=0 ∨ X=kn.ino) :
 TreeX { s with L:=s.L.map (linkG dn.ino kn.ino nm) } 0:=by
 have R:=ht.relK hf hd
 have isd:∀ n ∈ s.L,n.ino=dn.ino->n=dn:=fun n hn e=>hf.one hn hd e
 have isk:∀ n ∈ s.L,n.ino=kn.ino->n=kn:=fun n hn e=>hf.one hn hk e
 refine ht.map (X':=0) (linkG dn.ino kn.ino nm) (fun _=>rfl) (fun _=>rfl) ?_ ?_ ?_ ?_ ?_ ?_ ?_ ?_
 . intro n hn e1 e2 e3 e4
   have hne:n.ino ≠ kn.ino:=fun e=>by
    obtain ⟨m,hm,f1,f2,_⟩:=ht.root;have h1:=isk n hn e
    have h2:m=n:=hf.one hm hn (by omega)
    subst h1;rw [h2] at f2
    exact (hdir f2).2.1 e1
   refine ⟨?_,e3,?_⟩
   . show (if _ then _ else _)=_
     rw [if_neg hne];exact e2
   . show (if _ then _ else _)=_
     rw [if_neg fun h=>hne h.1];exact e4
 . intro n hn
   show Sorted (if _ then _ else _)
   split
   . rename_i e
     rw [isd n hn e]
     exact (add_perm R he).2
   . exact ht.sorted n hn
 . intro n hn h7
   by_cases e:n.ino=dn.ino
   . have:=isd n hn e;subst this
     refine ⟨hdk,?_⟩
     rcases hgo with h | h
     . exact .inl h
     . refine .inr (.inl ?_)
       rw [linkG_links]
       split <;> omega
   . have h8:n.ds ≠ []:=by
      have:(linkG dn.ino kn.ino nm n).ds=n.ds:=if_neg e;rwa [this] at h7
     obtain ⟨h1,h2⟩:=ht.dirs n hn h8
     refine ⟨h1,?_⟩
     rcases h2 with h2 | h2 | h2
     . exact .inl h2
     . refine .inr (.inl ?_)
       rw [linkG_links]
       split <;> omega
     . rcases hX with h3 | h3
       . have:=hf.num n hn;omega
       . refine .inr (.inl ?_)
         show 1<=if _ then _ else _
         rw [if_pos (by omega)];omega
 . intro n hn e hem
   have hem':e ∈ n.ds ∨ (n=dn/\e=(nm,(kn.ino:Int))):=by
    have hem2:e ∈ (if n.ino=dn.ino then addS nm kn.ino n.ds else n.ds):=hem
    by_cases h1:n.ino=dn.ino
    . rw [if_pos h1] at hem2;have:=isd n hn h1;subst this
      rcases mem_add R he hem2 with h2 | h2
      . exact .inl h2
      . exact .inr ⟨rfl,h2⟩
    . rw [if_neg h1] at hem2;exact .inl hem2
   rcases hem' with h1 | ⟨rfl,rfl⟩
   . obtain ⟨m,hm,h2,h3⟩:=ht.there n hn e h1
     refine ⟨m,hm,h2,fun hk2 => ?_⟩
     show (if _ then _ else _)=_
     rw [if_neg]
     . exact h3 hk2
     . intro h4
       have h5:=isk m hm h4.1;subst h5;have:=ht.entry hn h1 hm h2;have:=(hdir hk2).1
       omega
   . exact ⟨kn,hk,rfl,fun hk2=>if_pos ⟨rfl,hk2⟩⟩
 . intro n hn
   have h1:=sum_one hf.sorted hd (fun m=>cd m.ds n.ino) (fun m=>cd (linkG dn.ino kn.ino nm m).ds n.ino) fun m hm hne=>by
    show cd (if _ then _ else _) _=_
    rw [if_neg hne]
   have h2:cd (linkG dn.ino kn.ino nm dn).ds n.ino=cd dn.ds n.ino+if (kn.ino:Int)=(n.ino:Int) then 1 else 0:=by
    show cd (if _ then _ else _) _=_
    rw [if_pos rfl,cd_add R he]
   have h3:=ht.links n hn;unfold cntE at h3
   show (if _ then _ else _)=_
   by_cases e:n.ino=kn.ino
   . rw [if_pos e]
     rw [if_pos (by omega)] at h2
     omega
   . rw [if_neg e]
     rw [if_neg (by omega)] at h2
     omega
 . intro n hn hk2
   show (if _ then _ else _)<=1
   by_cases e:n.ino=kn.ino
   . rw [if_pos e];have:=isk n hn e;subst this;have:=(hdir hk2).1
     omega
   . rw [if_neg e];exact ht.one n hn hk2
 . obtain ⟨r,hr⟩:=ht.rank
   have key:∀ x p,up1 (s.L.map (linkG dn.ino kn.ino nm)) x=some p->(x=kn.ino/\kn.kind=2/\p=dn.ino) ∨ (x ≠ kn.ino/\up1 s.L x=some p):=fun x p h=>by
    obtain ⟨n,hn,e1,e2,e3,e4,e5⟩:=up1_map (g:=linkG dn.ino kn.ino nm) (fun _=>rfl) (fun _=>rfl) h
    by_cases e:n.ino=kn.ino
    . have:=isk n hn e;subst this
      refine .inl ⟨e1.symm,e2,?_⟩
      rw [e5]
      show (if _ then _ else _:Int).toNat=_
      rw [if_pos ⟨rfl,e2⟩];omega
    . refine .inr ⟨by omega,?_⟩
      have e4':1<=n.links:=by
       have:(linkG dn.ino kn.ino nm n).links=n.links:=if_neg e;rwa [this] at e4
      have e5':(linkG dn.ino kn.ino nm n).par=n.par:=if_neg fun h=>e h.1
      rw [e5,e5']
      exact up1_is e3 e2 e4'
   by_cases hk2:kn.kind=2
   . have hnu:=(hdir hk2).2.2
     classical
     refine ⟨fun x=>if Up s.L x kn.ino then r x+r dn.ino+1 else r x,fun x p h => ?_⟩
     rcases key x p h with ⟨rfl,_,rfl⟩ | ⟨hne,h1⟩
     . simp only [if_neg hnu,if_pos (Up.refl s.L kn.ino)]
       omega
     . have h2:=hr x p h1
       by_cases hu:Up s.L x kn.ino
       . rcases hu.inv with h3 | ⟨p',h3,h4⟩
         . exact absurd h3 hne
         . rw [h1] at h3
           cases h3
           simp only [if_pos hu,if_pos h4]
           omega
       . have h4:¬ Up s.L p kn.ino:=fun h5=>hu (Up.step h1 h5)
         simp only [if_neg hu,if_neg h4]
         exact h2
   . exact ⟨r,fun x p h=>by
      rcases key x p h with ⟨_,h1,_⟩ | ⟨_,h1⟩
      . exact absurd h1 hk2
      . exact hr x p h1⟩
 . intro n hn hk2
   show (if _ then _ else _)=_
   rw [if_neg fun h=>hk2 h.2]
   exact ht.plain n hn hk2
end
section
variable {s : SS} {X X':Int} {c:Nat} {dn kn:Nd} {nm:ByteArray}
theorem tree_link (hf:Wf s c) (ht:TreeX s X) (hd:dn ∈ s.L) (hk:kn ∈ s.L) (hdk:dn.kind=2) (hgo:dn.ino=1 ∨ 1<=dn.links) (he:addE nm kn.ino dn.ds=0) (hdir:kn.kind=2->kn.links=0/\kn.ino ≠ 1/\¬ Up s.L dn.ino kn.ino) (hX:X=0 ∨ X=kn.ino) :
 TreeX { s with L:=s.L.map (linkG dn.ino kn.ino nm) } 0:=tree_linkK hf.wk ht hd hk hdk hgo he hdir hX
end
def unlinkG (d k:Nat) (nm:ByteArray) (n:Nd):Nd:={ n with ds:=if n.ino=d then remS nm n.ds else n.ds,links:=if n.ino=k then n.links - 1 else n.links,par:=if n.ino=k then 0 else n.par }
theorem unlinkG_links (d k:Nat) (nm:ByteArray) (n:Nd):(unlinkG d k nm n).links=if n.ino=k then n.links - 1 else n.links:=rfl
section
variable {s : SS} {X X':Int} {dn kn:Nd} {nm:ByteArray}
theorem unlink_linksK (hf:Wk s) (ht:TreeX s X) (hd:dn ∈ s.L) (hh:has nm dn.ds=true) (hfd:find nm dn.ds=(kn.ino:Int)) {n:Nd} (hn:n ∈ s.L):(unlinkG dn.ino kn.ino nm n).links=(s.L.map fun m=>cd (unlinkG dn.ino kn.ino nm m).ds n.ino).sum:=by
 have h1:=sum_one hf.sorted hd (fun m=>cd m.ds n.ino) (fun m=>cd (unlinkG dn.ino kn.ino nm m).ds n.ino) fun m hm hne=>by
  show cd (if _ then _ else _) _=_
  rw [if_neg hne]
 have h2:cd (unlinkG dn.ino kn.ino nm dn).ds n.ino+(if (kn.ino:Int)=(n.ino:Int) then 1 else 0)=cd dn.ds n.ino:=by
  show cd (if _ then _ else _) _+_=_
  rw [if_pos rfl,<- hfd]
  exact cd_rem (ht.sorted dn hd) hh n.ino
 have h3:=ht.links n hn;unfold cntE at h3
 show (if _ then _ else _)=_
 by_cases e:n.ino=kn.ino
 . rw [if_pos e]
   rw [if_pos (by omega)] at h2
   omega
 . rw [if_neg e]
   rw [if_neg (by omega)] at h2
   omega
theorem up1_unlinkK (hf:Wk s) (ht:TreeX s X) (hk:kn ∈ s.L) (hl:1<=kn.links) {x p:Nat} (h:up1 (s.L.map (unlinkG dn.ino kn.ino nm)) x=some p):up1 s.L x=some p:=by
 obtain ⟨n,hn,e1,e2,e3,e4,e5⟩:=up1_map (g:=unlinkG dn.ino kn.ino nm) (fun _=>rfl) (fun _=>rfl) h
 by_cases e:n.ino=kn.ino
 . have h1:n=kn:=hf.one hn hk e;subst h1;have h2:(unlinkG dn.ino n.ino nm n).links=n.links - 1:=if_pos rfl;have h3:=ht.one n hn e2
   omega
 . have e4':1<=n.links:=by
    have:(unlinkG dn.ino kn.ino nm n).links=n.links:=if_neg e;rwa [this] at e4
   have e5':(unlinkG dn.ino kn.ino nm n).par=n.par:=if_neg e;rw [e5,e5']
   exact up1_is e3 e2 e4'
theorem tree_unlinkK (hf:Wk s) (ht:TreeX s X) (hd:dn ∈ s.L) (hk:kn ∈ s.L) (hh:has nm dn.ds=true) (hfd:find nm dn.ds=(kn.ino:Int)) (hX:(X'=X/\kn.ds=[]) ∨ (X=0/\X'=(kn.ino:Int))) :
 TreeX { s with L:=s.L.map (unlinkG dn.ino kn.ino nm) } X':=by
 have R:=ht.relK hf hd
 have isd:∀ n ∈ s.L,n.ino=dn.ino->n=dn:=fun n hn e=>hf.one hn hd e
 have isk:∀ n ∈ s.L,n.ino=kn.ino->n=kn:=fun n hn e=>hf.one hn hk e
 have hent:=find_mem (ht.sorted dn hd) hh;rw [hfd] at hent;have hkl:1<=kn.links:=ht.entry hd hent hk rfl
 have sub:∀ n,∀ e ∈ (unlinkG dn.ino kn.ino nm n).ds,e ∈ n.ds:=fun n e he=>by
  have he2:e ∈ (if n.ino=dn.ino then remS nm n.ds else n.ds):=he
  split at he2
  . exact mem_rem he2
  . exact he2
 refine ht.map (X':=X') (unlinkG dn.ino kn.ino nm) (fun _=>rfl) (fun _=>rfl) ?_ ?_ ?_ ?_ ?_ ?_ ?_ ?_
 . intro n hn e1 e2 e3 e4
   have hne:n.ino ≠ kn.ino:=fun e=>by
    rw [isk n hn e] at e2
    omega
   refine ⟨?_,e3,?_⟩
   . show (if _ then _ else _)=_
     rw [if_neg hne];exact e2
   . show (if _ then _ else _)=_
     rw [if_neg hne];exact e4
 . intro n hn
   show Sorted (if _ then _ else _)
   split
   . rename_i e
     rw [isd n hn e]
     exact sorted_rem R
   . exact ht.sorted n hn
 . intro n hn h7
   have h8:n.ds ≠ []:=fun h9=>by
    obtain ⟨e,he⟩:=List.exists_mem_of_ne_nil _ h7;have:=sub n e he;rw [h9] at this;cases this
   obtain ⟨h1,h2⟩:=ht.dirs n hn h8
   refine ⟨h1,?_⟩
   by_cases e:n.ino=kn.ino
   . have:=isk n hn e
     rcases hX with ⟨_,h3⟩ | ⟨_,h3⟩
     . rw [this,h3] at h8;exact absurd rfl h8
     . exact .inr (.inr (by omega))
   . rcases h2 with h2 | h2 | h2
     . exact .inl h2
     . refine .inr (.inl ?_)
       show 1<=if _ then _ else _
       rw [if_neg e];exact h2
     . rcases hX with ⟨h3,_⟩ | ⟨h3,_⟩
       . exact .inr (.inr (by rw [h3];exact h2))
       . have:=hf.num n hn;omega
 . intro n hn e hem
   obtain ⟨m,hm,h2,h3⟩:=ht.there n hn e (sub n e hem)
   refine ⟨m,hm,h2,fun hk2 => ?_⟩
   show (if _ then _ else _)=_
   rw [if_neg]
   . exact h3 hk2
   . intro h4
     have h5:=unlink_linksK (kn:=kn) hf ht hd hh hfd hm;have h6:(unlinkG dn.ino kn.ino nm m).links=m.links - 1:=if_pos h4;have h7:=ht.one m hm hk2;have h8:1<=cntE (s.L.map (unlinkG dn.ino kn.ino nm)) m.ino:=cntE_mem (List.mem_map_of_mem hn) (cd_mem hem h2);rw [cntE_map] at h8
     omega
 . exact fun n hn=>unlink_linksK hf ht hd hh hfd hn
 . intro n hn hk2
   have:=ht.one n hn hk2;rw [unlinkG_links]
   split <;> omega
 . obtain ⟨r,hr⟩:=ht.rank
   exact ⟨r,fun x p h=>hr x p (up1_unlinkK hf ht hk hkl h)⟩
 . intro n hn hk2
   show (if _ then _ else _)=_
   split
   . rfl
   . exact ht.plain n hn hk2
end
section
variable {s : SS} {X X':Int} {c:Nat} {dn kn:Nd} {nm:ByteArray}
theorem tree_unlink (hf:Wf s c) (ht:TreeX s X) (hd:dn ∈ s.L) (hk:kn ∈ s.L) (hh:has nm dn.ds=true) (hfd:find nm dn.ds=(kn.ino:Int)) (hX:(X'=X/\kn.ds=[]) ∨ (X=0/\X'=(kn.ino:Int))) :
 TreeX { s with L:=s.L.map (unlinkG dn.ino kn.ino nm) } X':=tree_unlinkK hf.wk ht hd hk hh hfd hX
theorem tree_gc (hf:∀ a ∈ s.L,∀ b ∈ s.L,a.ino=b.ino->a=b) (hp:∀ n ∈ s.L,1<=n.ino) (ht:TreeX s 0):TreeX s.gc 0:=by
 have mem:∀ n,n ∈ s.gc.L ↔ n ∈ s.L/\1<=n.links+n.holds:=fun n=>by
  show n ∈ s.L.filter _ ↔ _
  rw [List.mem_filter]
  simp only [Nd.dead,Bool.not_eq_true',beq_eq_false_iff_ne,ne_eq]
  constructor <;> rintro ⟨h1,h2⟩ <;> exact ⟨h1,by omega⟩
 obtain ⟨rn,hrn,e1,e2,e3,e4,e5⟩:=ht.root
 have dead:∀ n ∈ s.L,n.ds ≠ []->1<=n.links+n.holds:=fun n hn h7=>by
  rcases (ht.dirs n hn h7).2 with h | h | h
  . rw [hf n hn rn hrn (by omega)];omega
  . omega
  . have:=hp n hn;omega
 have cnt:∀ k,cntE s.gc.L k=cntE s.L k:=fun k=>by
  unfold cntE
  show ((s.L.filter fun n => !n.dead).map _).sum=_
  have:∀ L:List Nd,(∀ n ∈ L,n.ds ≠ []->1<=n.links+n.holds)->((L.filter fun n => !n.dead).map fun n=>cd n.ds k).sum=(L.map fun n=>cd n.ds k).sum:=fun L=>by
   induction L with
   | nil=>intro _;rfl
   | cons a r ih =>
    intro h
    have h1:=ih fun n hn=>h n (List.mem_cons_of_mem _ hn)
    rw [List.filter_cons,List.map_cons,List.sum_cons]
    by_cases hd:a.dead=true
    . rw [if_neg (by rw [hd];simp),h1]
      have h2:a.ds=[]:=by
       by_cases h3:a.ds=[]
       . exact h3
       . have:=h a List.mem_cons_self h3
         simp only [Nd.dead,beq_iff_eq] at hd
         omega
      rw [h2];simp [cd]
    . rw [if_pos (by simpa using hd),List.map_cons,List.sum_cons,h1]
  exact this s.L dead
 refine ⟨⟨rn,(mem rn).2 ⟨hrn,by omega⟩,e1,e2,e3,e4,e5⟩,fun n hn=>ht.sorted n ((mem n).1 hn).1,fun n hn=>ht.dirs n ((mem n).1 hn).1,fun n hn e he => ?_,fun n hn=>by rw [cnt];exact ht.links n ((mem n).1 hn).1,fun n hn=>ht.one n ((mem n).1 hn).1,?_,fun n hn=>ht.plain n ((mem n).1 hn).1⟩
 . obtain ⟨m,hm,h1,h2⟩:=ht.there n ((mem n).1 hn).1 e he;have:=ht.entry ((mem n).1 hn).1 he hm h1
   exact ⟨m,(mem m).2 ⟨hm,by omega⟩,h1,h2⟩
 . obtain ⟨r,hr⟩:=ht.rank
   refine ⟨r,fun x p h=>hr x p ?_⟩
   obtain ⟨n,hn,h1,h2,h3,h4⟩:=up1_mem h;have hnl:=((mem n).1 hn).1
   have h5:nodeOf s.L x=some n:=by
    cases hq:nodeOf s.L x with
    | none =>
     have:=List.find?_eq_none.1 hq n hnl
     simp [h1] at this
    | some m =>
     obtain ⟨h6,h7⟩:=nodeOf_mem hq
     rw [hf m h6 n hnl (by omega)]
   rw [h4]
   exact up1_is h5 h2 h3
theorem tree_add (hf:Wf s c) (ht:TreeX s 0) {n:Nd} (hi:n.ino=s.next) (hl:n.links=0) (hd:n.ds=[]) (hp:n.par=0):TreeX (s.add n) 0:=by
 have mem:∀ m,m ∈ (s.add n).L ↔ m ∈ s.L ∨ m=n:=fun m=>by simp [SS.add]
 have cnt:∀ k,cntE (s.add n).L k=cntE s.L k:=fun k=>by simp [SS.add,cntE,hd,cd]
 obtain ⟨rn,hrn,e1⟩:=ht.root
 refine ⟨⟨rn,(mem rn).2 (.inl hrn),e1⟩,fun m hm => ?_,fun m hm h7 => ?_,fun m hm e he => ?_,fun m hm => ?_,fun m hm hk => ?_,?_,fun m hm hk => ?_⟩
 . rcases (mem m).1 hm with h | rfl
   . exact ht.sorted m h
   . rw [hd];exact List.Pairwise.nil
 . rcases (mem m).1 hm with h | rfl
   . exact ht.dirs m h h7
   . exact absurd hd h7
 . rcases (mem m).1 hm with h | rfl
   . obtain ⟨q,hq,h1⟩:=ht.there m h e he
     exact ⟨q,(mem q).2 (.inl hq),h1⟩
   . rw [hd] at he;cases he
 . rw [cnt]
   rcases (mem m).1 hm with h | rfl
   . exact ht.links m h
   . rw [hl]
     by_cases h0:1<=cntE s.L m.ino
     . obtain ⟨q,hq,e,he,h1⟩:=cntE_some h0;obtain ⟨z,hz,h2,_⟩:=ht.there q hq e he;have:=(hf.num z hz).2
       omega
     . omega
 . rcases (mem m).1 hm with h | rfl
   . exact ht.one m h hk
   . omega
 . obtain ⟨r,hr⟩:=ht.rank
   refine ⟨r,fun x p h=>hr x p ?_⟩
   obtain ⟨m,hm,h1,h2,h3,h4⟩:=up1_mem h
   rcases (mem m).1 hm with h5 | rfl
   . rw [h4,<- h1];exact up1_of hf h5 h2 h3
   . omega
 . rcases (mem m).1 hm with h | rfl
   . exact ht.plain m h hk
   . exact hp
theorem tree_same (ht:TreeX s X) (g:Nd->Nd) (hg:∀ n,(g n).ino=n.ino/\(g n).kind=n.kind/\(g n).links=n.links/\(g n).ds=n.ds/\(g n).par=n.par) (h0:∀ n ∈ s.L,n.ino=1->1<=(g n).holds):TreeX { s with L:=s.L.map g } X:=by
 refine ht.map g (fun n=>(hg n).1) (fun n=>(hg n).2.1) ?_ ?_ ?_ ?_ ?_ ?_ ?_ ?_
 . intro n hn e1 e2 e3 e4
   exact ⟨by rw [(hg n).2.2.1];exact e2,h0 n hn e1,by rw [(hg n).2.2.2.2];exact e4⟩
 . intro n hn
   rw [(hg n).2.2.2.1];exact ht.sorted n hn
 . intro n hn h7
   rw [(hg n).2.2.2.1] at h7;rw [(hg n).2.2.1]
   exact ht.dirs n hn h7
 . intro n hn e he
   rw [(hg n).2.2.2.1] at he;obtain ⟨m,hm,h1,h2⟩:=ht.there n hn e he
   exact ⟨m,hm,h1,fun hk=>by rw [(hg m).2.2.2.2];exact h2 hk⟩
 . intro n hn
   rw [(hg n).2.2.1,ht.links n hn];unfold cntE
   congr 1
   exact List.map_congr_left fun m _=>by rw [(hg m).2.2.2.1]
 . intro n hn hk
   rw [(hg n).2.2.1];exact ht.one n hn hk
 . obtain ⟨r,hr⟩:=ht.rank
   refine ⟨r,fun x p h=>hr x p ?_⟩
   obtain ⟨n,hn,e1,e2,e3,e4,e5⟩:=up1_map (fun n=>(hg n).1) (fun n=>(hg n).2.1) h
   rw [(hg n).2.2.1] at e4;rw [e5,(hg n).2.2.2.2]
   exact up1_is e3 e2 e4
 . intro n hn hk
   rw [(hg n).2.2.2.2];exact ht.plain n hn hk
end
open Go Go.RowKit Go.Maps
theorem bl_withD {s:SS} {i:Nat} (hi:i < s.L.length) (ds:List IEnt):(s.set i (s.L[i].withD ds)).bl=s.bl:=by
 have:=sumB_set hi (s.L[i].withD ds);have e:(s.L[i].withD ds).f=s.L[i].f:=rfl;rw [e] at this;unfold SS.bl SS.set
 show (s.tot:Int) - (sumB (s.L.set i (s.L[i].withD ds)):Int)=_
 omega
theorem StoreB.dir {hi:Lo} {sb c i:Nat} {w:World} {s:SS} {B:Nat->Nat} {x:Int} {n:Nd} (h:StoreB hi w sb s B) (hf:Wf s c) (hx:look s x=some (i,n)) (hk:n.kind=2) :
 ∃ v,DirAt 0 w (B n.ino) v n.ds/\∀ w' v' ds',DirAt 0 w' (B n.ino) v' ds'->Goes (ownF (B n.ino) v) (ownF (B n.ino) v') w w'->StoreB hi w' sb (s.set i (n.withD ds')) B/\Turns isP hi w w':=by
 obtain ⟨mb,D,Fs,h,hB⟩:=h;obtain ⟨hi',rfl,_,_⟩:=look_some hx;have hm:=List.getElem_mem hi';obtain ⟨fp,dp,h1,hb⟩:=h.node _ hm;obtain ⟨cs,h2,h3⟩:=hB _ hm hk
 have ecs:cs=ndC s.L[i] fp dp:=by
  have:=h2.row.symm.trans h1.row
  simpa using this
 rcases hb with ⟨h4,_⟩ | ⟨_,rfl,h5,db,rfl,h6⟩ | h7
 . omega
 . have edb:db=B s.L[i].ino:=by
    rw [ecs] at h3
    simpa [ndC] using h3
   subst edb;obtain ⟨v,h7,h8,h9⟩:=h6
   refine ⟨v,⟨h7,h8,Nat.zero_le _⟩,fun w' v' ds' hd hg => ?_⟩
   have hg':Goes (Fs s.L[i].ino) (ownF (B s.L[i].ino) v') w w':=by rw [h9];exact hg
   refine ⟨⟨mb,D,fun k=>if k=s.L[i].ino then ownF (B s.L[i].ino) v' else Fs k,?_,fun m hm' hk' => ?_⟩,?_⟩
   . rw [bl_withD hi']
     exact h.dired (ds:=ds') hf.sorted hi' hk h1 h5 hg' ⟨v',hd.box,hd.row,rfl⟩
   . obtain ⟨m',hm2,e1,e2⟩:∃ m' ∈ s.L,m'.ino=m.ino/\m'.kind=2:=by
      rcases List.mem_or_eq_of_mem_set hm' with h10 | h10
      . exact ⟨m,h10,rfl,hk'⟩
      . exact ⟨s.L[i],hm,by rw [h10];rfl,hk⟩
     obtain ⟨cs',h10,h11⟩:=hB m' hm2 e2;rw [<- e1]
     exact ⟨cs',⟨(hg'.foot.block _ h10.lt fun e=>(h.F_ne hm e).2.2 _ hm2 rfl).trans h10.row⟩,h11⟩
   . exact Turns.of_foot hg'.foot fun x hx=>⟨(h.lo.2.2 _ hm).2 x hx,(h.isP (.inr (.inr ⟨_,hm,.inr hx⟩))).2⟩
 . exact absurd hk h7.2.1
def Lo.but (n u:Nat):Lo:=⟨fun x=>n<=x/\x ≠ u,max n (u+1),fun x h=>⟨by omega,by omega⟩⟩
def UpM (w:World) (ub c:Nat) (U:Int->Int):Prop:=∃ D:DataW Nat,w.ownsMap Tryz.prog 3 (plainElem Tryz.prog 3) ub c D/\∀ x:Int,D.atKey (.int .i64 x) (.lit (.int .i64 0))=.lit (.int .i64 (U x))
def updU (U:Int->Int) (x v:Int):Int->Int:=fun y=>if y=x then v else U y
section
variable {w w':World} {ub c d:Nat} {U:Int->Int}
theorem UpM.block (h:UpM w ub c U) (hb:w'.heap[ub]? = w.heap[ub]?):UpM w' ub c U:=by
 obtain ⟨D,h1,h2⟩:=h
 exact ⟨D,owns_block h1 hb,h2⟩
theorem UpM.lt (h:UpM w ub c U):ub < w.heap.size:=by
 obtain ⟨D,h1,_⟩:=h
 exact h1.lt
theorem UpM.on (h:UpM w ub c U) (hb:Below w.heap.size w w'):UpM w' ub c U:=h.block (hb.block ub h.lt)
theorem UpM.more (h:UpM w ub c U) (hd:c<=d):UpM w ub d U:=by
 obtain ⟨D,h1,h2⟩:=h
 exact ⟨D,h1.mono hd,h2⟩
theorem zeroInt (w:World):(zeroValue 3).run Tryz.prog w=.ok (.int .i64 0) w:=by kernel_rfl
theorem UpM.look (h:UpM w ub c U) {x:Int} (hw:(Lit.int .i64 x).wf=true):(Instr.lookup 101 (.map (some ub)) (.int .i64 x) false).run Tryz.prog w=.ok (.int .i64 (U x)) w:=by
 obtain ⟨D,h1,h2⟩:=h;obtain ⟨v,h3,h4,_⟩:=h1.lookup_int lawInt Tryz.underlying101 Tryz.underlying3 (zeroInt w) (keyOf_int_mk Tryz.underlying3 hw);rw [h2] at h4
 cases h4
 exact h3
theorem UpM.wf (h:UpM w ub c U) {x:Int} (hw:(Lit.int .i64 x).wf=true):(Lit.int .i64 (U x)).wf=true:=by
 obtain ⟨D,h1,h2⟩:=h;obtain ⟨v,h3,h4,h5⟩:=h1.lookup_int lawInt Tryz.underlying101 Tryz.underlying3 (zeroInt w) (keyOf_int_mk Tryz.underlying3 hw);rw [h2] at h4
 cases h4
 exact h5
theorem UpM.is (h:UpM w ub c U):∃ es clock,w.heap[ub]? = some (.map es clock):=by
 obtain ⟨D,h1,_⟩:=h
 exact owns_is h1
theorem UpM.put (h:UpM w ub c U) (hc:c<=100000) {x v:Int} (hw:(Lit.int .i64 x).wf=true) (hv:(Lit.int .i64 v).wf=true):∃ w',(Instr.mapUpdate 101 (.map (some ub)) (.int .i64 x) (.int .i64 v)).run Tryz.prog w=.ok () w'/\UpM w' ub (c+1) (updU U x v)/\w.grownBy w' (some ub):=by
 obtain ⟨D,h1,h2⟩:=h
 obtain ⟨w',h3,h4,h5⟩:=h1.update lawInt Tryz.underlying101 (by unfold maxLen;omega) (keyOf_int_mk (P:=Tryz.prog) (k:=3) Tryz.underlying3 hw) (plainElem_int Tryz.underlying3 hv)
 refine ⟨w',h3,⟨_,h4,fun y => ?_⟩,h5⟩
 unfold updU
 by_cases e:y=x
 . subst e;rw [if_pos rfl]
   exact atKey_put_same h1.isMap (show WideAt.IsKeyLit (.int .i64 y) from trivial) _ _
 . rw [if_neg e,atKey_put_other (by simpa using e)]
   exact h2 y
theorem UpM.del (h:UpM w ub c U) {x:Int} (hw:(Lit.int .i64 x).wf=true) (ty:TypeId):∃ w',(Builtin.delete_ #[101,3] ty #[.map (some ub),.int .i64 x]).run Tryz.prog w=.ok (.tuple #[]) w'/\UpM w' ub c (updU U x 0)/\w.grownBy w' (some ub):=by
 obtain ⟨D,h1,h2⟩:=h;obtain ⟨w',h3,h4,h5⟩:=h1.drop lawInt Tryz.underlying101 (keyOf_int_mk (P:=Tryz.prog) (k:=3) Tryz.underlying3 hw) ty
 refine ⟨w',h3,⟨_,h4,fun y => ?_⟩,h5.grown⟩
 unfold updU
 by_cases e:y=x
 . subst e;rw [if_pos rfl]
   exact atKey_del_same _
 . rw [if_neg e,atKey_del_other (by simpa using e)]
   exact h2 y
end
structure FsM (n:Nat) (w:World) (fb sb ub c:Nat) (s:SS) (B:Nat->Nat) (U:Int->Int):Prop where
 box:Blk w fb 103 [.pointer (some ⟨sb,0,none⟩),.map (some ub)]
 store:StoreB (Lo.but n ub) w sb s B
 up:UpM w ub c U
 lo:n<=ub
def FsAt (n:Nat) (w:World) (fb c:Nat) (s:SS) (U:Int->Int):Prop:=∃ sb ub B,FsM n w fb sb ub c s B U
section
variable {n fb sb ub c d:Nat} {w w':World} {s s':SS} {B B':Nat->Nat} {U U':Int->Int}
theorem FsM.at (h:FsM n w fb sb ub c s B U):FsAt n w fb c s U:=⟨sb,ub,B,h⟩
theorem FsM.on (h:FsM n w fb sb ub c s B U) (hb:Below w.heap.size w w'):FsM n w' fb sb ub c s B U:=⟨h.box.on hb,h.store.on hb,h.up.on hb,h.lo⟩
theorem FsAt.on (h:FsAt n w fb c s U) (hb:Below w.heap.size w w'):FsAt n w' fb c s U:=by
 obtain ⟨sb,ub,B,h⟩:=h
 exact (h.on hb).at
theorem FsAt.more (h:FsAt n w fb c s U) (hd:c<=d):FsAt n w fb d s U:=by
 obtain ⟨sb,ub,B,h⟩:=h
 exact ⟨sb,ub,B,h.box,h.store,h.up.more hd,h.lo⟩
theorem FsM.less (ht:Turns isP (Lo.but n ub) w w'):Turns isP (.up n) w w':=ht.lessL (fun _ h=>h) fun _ h=>h.1
theorem FsM.turned (h:FsM n w fb sb ub c s B U) (hs:StoreB (Lo.but n ub) w' sb s' B') (ht:Turns isP (Lo.but n ub) w w'):FsM n w' fb sb ub c s' B' U :=
 ⟨ht.blk h.box fun _ _=>rfl,hs,h.up.block (ht.block ub h.up.lt (.inl fun h7=>h7.2 rfl)),h.lo⟩
theorem FsM.upped (h:FsM n w fb sb ub c s B U) (hu:UpM w' ub d U') (hg:w.grownBy w' (some ub)):FsM n w' fb sb ub d s B U'/\Turns isP (.up n) w w':=by
 obtain ⟨es,clock,ho⟩:=h.up.is;have ht:Turns isP (.up n) w w':=Turns.of_grown hg ho rfl h.lo
 have hlt:∀ x o,w.heap[x]? = some o->x < w.heap.size:=fun x o ho=>(Array.getElem?_eq_some_iff.1 ho).1
 refine ⟨⟨ht.blk h.box fun _ _=>rfl,?_,hu,h.lo⟩,ht⟩
 obtain ⟨mb,D,Fs,h1,h2⟩:=h.store
 have key:∀ x,sfoot sb mb D Fs s.L x->w'.heap[x]? = w.heap[x]? := fun x hx=>by
  obtain ⟨h3,o,h4,_⟩:=h1.isP hx
  exact hg.block x (hlt x o h4) fun e=>h3.2 (by cases e;rfl)
 exact ⟨mb,D,Fs,h1.same hg.size key,h2.same fun n hn=>key _ (.inr (.inr ⟨n,hn,.inl rfl⟩))⟩
theorem FsAt.turnsR {hi:Lo} (h:FsAt n w fb c s U) (ht:Turns isR hi w w'):FsAt n w' fb c s U:=by
 obtain ⟨sb,ub,B,h⟩:=h;obtain ⟨es,clock,ho⟩:=h.up.is
 exact ⟨sb,ub,B,ht.blk h.box fun _ _=>rfl,h.store.turns ht fun o ho=>isP_isR ho,h.up.block (ht.block ub h.up.lt (.inr fun o ho'=>by rw [ho] at ho';cases ho';rfl)),h.lo⟩
end
end Go.Proofs.YthlaoaaafafafaaGreat
