/- Ours. -/
import Derived.Lib.Bytealg
import Derived.Laws.Strings
import Derived.Test.YthlaoaaafafafaaGreatB3
set_option maxRecDepth 100000
set_option maxHeartbeats 16000000
namespace Go.Proofs.YthlaoaaafafafaaGreat
open Go
theorem less_irrefl : ∀ a:List UInt8,Op.bytesLess a a=false
 | []=>rfl
 | a :: x=>by simp [Op.bytesLess,less_irrefl x]
theorem less_trans : ∀ a b c:List UInt8,Op.bytesLess a b=true->Op.bytesLess b c=true->Op.bytesLess a c=true
 | _,[],_,h,_=>by simp [Op.bytesLess] at h
 | _,_ :: _,[],_,h=>by simp [Op.bytesLess] at h
 | [],_ :: _,_ :: _,_,_=>rfl
 | a :: x,b :: y,c :: z,h,k=>by
  simp only [Op.bytesLess,Bool.or_eq_true,Bool.and_eq_true,decide_eq_true_eq,beq_iff_eq] at h k ⊢
  rcases h with h | ⟨rfl,h⟩
  . rcases k with k | ⟨rfl,k⟩
    . exact .inl (UInt8.lt_trans h k)
    . exact .inl h
  . rcases k with k | ⟨rfl,k⟩
    . exact .inl k
    . exact .inr ⟨rfl,less_trans x y z h k⟩
theorem less_or : ∀ a b:List UInt8,a ≠ b->Op.bytesLess a b=true ∨ Op.bytesLess b a=true
 | [],[],h=>absurd rfl h
 | [],_ :: _,_=>.inl rfl
 | _ :: _,[],_=>.inr rfl
 | a :: x,b :: y,h=>by
  simp only [Op.bytesLess,Bool.or_eq_true,Bool.and_eq_true,decide_eq_true_eq,beq_iff_eq]
  by_cases e:a=b
  . subst e
    rcases less_or x y (fun e=>h (by rw [e])) with k | k
    . exact .inl (.inr ⟨rfl,k⟩)
    . exact .inr (.inr ⟨rfl,k⟩)
  . rcases UInt8.lt_or_lt_of_ne e with k | k
    . exact .inl (.inl k)
    . exact .inr (.inl k)
theorem cmp_gt : ∀ a b:List UInt8,decide (0 < Lib.compareBytes a b)=Op.bytesLess b a
 | [],[]=>rfl
 | [],_ :: _=>by simp [Lib.compareBytes,Op.bytesLess]
 | _ :: _,[]=>by simp [Lib.compareBytes,Op.bytesLess]
 | a :: x,b :: y=>by
  have ih:=cmp_gt x y
  simp only [Lib.compareBytes,Op.bytesLess]
  by_cases h:a < b
  . have h1:¬ b < a:=UInt8.lt_asymm h
    have h2:¬ b=a:=fun e=>by subst e;exact UInt8.lt_irrefl _ h
    simp [h,h1,h2]
  . by_cases h1:b < a
    . simp [h,h1]
    . have h2:b=a:=by
       by_cases e:b=a
       . exact e
       . rcases UInt8.lt_or_lt_of_ne e with k | k
         . exact absurd k h1
         . exact absurd k h
      subst h2
      simp [h,ih]
theorem cmp_eq : ∀ a b:List UInt8,(Lib.compareBytes a b == 0)=(a == b)
 | [],[]=>rfl
 | [],_ :: _=>rfl
 | _ :: _,[]=>rfl
 | a :: x,b :: y=>by
  have ih:=cmp_eq x y
  simp only [Lib.compareBytes]
  by_cases h:a < b
  . have h2:¬ a=b:=fun e=>by subst e;exact UInt8.lt_irrefl _ h
    simp [h,h2]
  . by_cases h1:b < a
    . have h2:¬ a=b:=fun e=>by subst e;exact UInt8.lt_irrefl _ h1
      simp [h,h1,h2]
    . have h2:a=b:=by
       by_cases e:a=b
       . exact e
       . rcases UInt8.lt_or_lt_of_ne e with k | k
         . exact absurd k h
         . exact absurd k h1
      subst h2
      simp [h,ih]
abbrev Ent := ByteArray × Int
theorem name_inj {a b:ByteArray} (h:a.toList=b.toList):a=b:=ByteArray.ext (Array.toList_inj.1 (by rwa [ByteArray.toList_eq,ByteArray.toList_eq] at h))
def lt (a b:ByteArray):Bool:=Op.bytesLess a.toList b.toList
def same (n:ByteArray) (x:Ent):Bool:=x.1.toList == n.toList
theorem same_iff {n:ByteArray} {x:Ent}:same n x=true ↔ x.1=n:=by
 unfold same;rw [beq_iff_eq]
 exact ⟨name_inj,fun e=>by rw [e]⟩
theorem lt_irrefl (a:ByteArray):lt a a=false:=less_irrefl _
theorem lt_trans {a b c:ByteArray} (h:lt a b=true) (k:lt b c=true):lt a c=true:=less_trans _ _ _ h k
theorem lt_or {a b:ByteArray} (h:a ≠ b):lt a b=true ∨ lt b a=true:=less_or _ _ fun e=>h (name_inj e)
def Sorted (S:List Ent):Prop:=S.Pairwise fun x y=>lt x.1 y.1=true
def under (n:ByteArray) (S:List Ent):Nat:=S.countP fun x=>lt x.1 n
def find (n:ByteArray) (l:List Ent):Int:=((l.find? (same n)).map (·.2)).getD 0
def has (n:ByteArray) (l:List Ent):Bool:=l.any (same n)
theorem under_le (n:ByteArray) (S:List Ent):under n S<=S.length:=List.countP_le_length
theorem sorted_under (n:ByteArray):∀ S:List Ent,Sorted S->∀ (k:Nat) (h:k < S.length),lt S[k].1 n=decide (k < under n S)
 | [],_,_,h=>absurd h (Nat.not_lt_zero _)
 | x :: r,hs,k,h=>by
  obtain ⟨h1,h2⟩:=List.pairwise_cons.1 hs;have ih:=sorted_under n r h2
  cases hx:lt x.1 n with
  | true =>
   have e:under n (x :: r)=under n r+1:=by simp [under,hx]
   rw [e]
   cases k with
   | zero=>simp [hx]
   | succ k=>simpa using ih k (by simpa using h)
  | false =>
   have hr:∀ y ∈ r,lt y.1 n=false:=fun y hy=>by
    cases hyn:lt y.1 n with
    | false=>rfl
    | true=>have:=lt_trans (h1 y hy) hyn;rw [hx] at this;cases this
   have e:under n (x :: r)=0:=by
    unfold under;rw [List.countP_eq_zero]
    intro y hy
    rcases List.mem_cons.1 hy with rfl | hy
    . simp [hx]
    . simp [hr y hy]
   rw [e];have:(x :: r)[k] ∈ x :: r:=List.getElem_mem _
   rcases List.mem_cons.1 this with e2 | h3
   . rw [e2,hx];rfl
   . rw [hr _ h3];rfl
theorem sorted_has {n:ByteArray} {S:List Ent} (hs:Sorted S):has n S=(if h:under n S < S.length then same n S[under n S] else false):=by
 have hu:=sorted_under n S hs
 cases hh:has n S with
 | true =>
  obtain ⟨x,hx,hsx⟩:=List.any_eq_true.1 hh;obtain ⟨k,hk,rfl⟩:=List.mem_iff_getElem.1 hx;have e:=same_iff.1 hsx
  have h1:¬ k < under n S:=fun h=>by
   have:=hu k hk;rw [e,lt_irrefl] at this
   simp [h] at this
  have h2:¬ under n S < k:=fun h=>by
   have h3:=List.pairwise_iff_getElem.1 hs (under n S) k (by omega) hk h
   have h4:=hu (under n S) (by omega)
   rw [e] at h3;rw [h3] at h4
   simp at h4
  have h3:under n S=k:=by omega
  rw [dif_pos (by omega)]
  simp only [h3,hsx]
 | false =>
  split
  . rename_i h
    have:=List.any_eq_false.1 hh _ (List.getElem_mem h)
    cases hq:same n S[under n S] with
    | true=>exact absurd hq this
    | false=>rfl
  . rfl
open Go Go.RowKit
def entC (x:Ent):List Value:=[.string x.1,.int .i64 x.2]
def flat (l:List Ent):List Value:=l.flatMap entC
theorem flat_nil : flat []=[]:=rfl
theorem flat_cons (x:Ent) (l:List Ent):flat (x :: l)=.string x.1 :: .int .i64 x.2 :: flat l:=rfl
theorem flat_append (l m:List Ent):flat (l ++ m)=flat l ++ flat m:=List.flatMap_append
theorem flat_one (x:Ent):flat [x]=entC x:=rfl
theorem flat_length : ∀ l:List Ent,(flat l).length=l.length * 2
 | []=>rfl
 | x :: l=>by rw [flat_cons,List.length_cons,List.length_cons,flat_length l,List.length_cons];omega
theorem flat_name : ∀ (l:List Ent) (k:Nat) (h:k < l.length),(flat l)[k * 2]? = some (.string l[k].1)
 | x :: l,0,_=>rfl
 | x :: l,k+1,h=>by
  have:=flat_name l k (by simpa using h)
  rw [show (k+1) * 2=k * 2+1+1 by omega,flat_cons,List.getElem?_cons_succ,List.getElem?_cons_succ,this];rfl
theorem flat_ino : ∀ (l:List Ent) (k:Nat) (h:k < l.length),(flat l)[k * 2+1]? = some (.int .i64 l[k].2)
 | x :: l,0,_=>rfl
 | x :: l,k+1,h=>by
  have:=flat_ino l k (by simpa using h)
  rw [show (k+1) * 2+1=k * 2+1+1+1 by omega,flat_cons,List.getElem?_cons_succ,List.getElem?_cons_succ,this];rfl
theorem flat_take : ∀ (l:List Ent) (k:Nat),(flat l).take (k * 2)=flat (l.take k)
 | [],k=>by simp [flat_nil]
 | x :: l,0=>by simp [flat_nil]
 | x :: l,k+1=>by rw [show (k+1) * 2=k * 2+1+1 by omega,flat_cons,List.take_succ_cons,List.take_succ_cons,flat_take l k];rfl
theorem flat_drop : ∀ (l:List Ent) (k:Nat),(flat l).drop (k * 2)=flat (l.drop k)
 | [],k=>by simp [flat_nil]
 | x :: l,0=>by simp
 | x :: l,k+1=>by rw [show (k+1) * 2=k * 2+1+1 by omega,flat_cons,List.drop_succ_cons,List.drop_succ_cons,flat_drop l k];rfl
theorem flat_set : ∀ (l:List Ent) (k:Nat) (h:k < l.length) (n:Int),(flat l).set (k * 2+1) (.int .i64 n)=flat (l.set k (l[k].1,n))
 | x :: l,0,_,n=>rfl
 | x :: l,k+1,h,n=>by
  have:=flat_set l k (by simpa using h) n
  rw [show (k+1) * 2+1=k * 2+1+1+1 by omega,flat_cons,List.set_cons_succ,List.set_cons_succ,this];rfl
theorem flat_cell (l:List Ent):∀ u ∈ flat l,u.oneCell'=true:=by
 intro u hu
 obtain ⟨x,_,hx⟩:=List.mem_flatMap.1 hu
 simp only [entC,List.mem_cons,List.not_mem_nil,or_false] at hx
 rcases hx with rfl | rfl <;> rfl
abbrev Row (hi:Nat) (e:TypeId) (w:World) (v:Value) (l:List Ent):Prop:=w.ownsRow hi e 2 v l.length (flat l)
structure DirAt (hi:Nat) (w:World) (d:Nat) (v:Value) (S:List Ent):Prop where
 box:Blk w d 173 [v]
 row:Row hi 170 w v S
 hid:hi<=d
open Go Go.RowKit Go.Maps
abbrev IEnt := ByteArray × Int
structure Nd where
 ino:Nat
 kind:Nat
 links:Nat
 holds:Nat
 par:Int
 f:St
 tgt:ByteArray
 ds:List IEnt
def St.no : St:=⟨0,fun _=>0,fun _=>false⟩
theorem St.no_blocks : St.no.blocks=0:=cntF_none fun _=>rfl
structure SS where
 L:List Nd
 most:Nat
 tot:Nat
 next:Nat
def sumB : List Nd->Nat
 | []=>0
 | n :: r=>n.f.blocks+sumB r
theorem sumB_append (l m:List Nd):sumB (l ++ m)=sumB l+sumB m:=by
 induction l with
 | nil=>simp [sumB]
 | cons n r ih=>simp only [List.cons_append,sumB,ih];omega
def SS.bl (s:SS):Int:=(s.tot:Int) - (sumB s.L:Int)
def hasK (L:List Nd) (k:Nat):Bool:=L.any fun n=>n.ino == k
theorem hasK_iff {L:List Nd} {k:Nat}:hasK L k=true ↔ ∃ n ∈ L,n.ino=k:=by simp [hasK]
theorem hasK_of {L:List Nd} {n:Nd} (h:n ∈ L):hasK L n.ino=true:=hasK_iff.2 ⟨n,h,rfl⟩
theorem hasK_not {L:List Nd} {k:Nat}:hasK L k=false ↔ ∀ n ∈ L,n.ino ≠ k:=by
 rw [<- Bool.not_eq_true,hasK_iff]
 exact ⟨fun h n hn e=>h ⟨n,hn,e⟩,fun h ⟨n,hn,e⟩=>h n hn e⟩
def ix (L:List Nd) (x:Int):Option Nat:=L.findIdx? fun n=>decide ((n.ino:Int)=x)
theorem ix_some {L:List Nd} {x:Int} {i:Nat} (h:ix L x=some i):∃ hi:i < L.length,((L[i].ino:Nat):Int)=x:=by
 obtain ⟨h1,h2,_⟩:=List.findIdx?_eq_some_iff_getElem.1 h
 exact ⟨h1,by simpa using h2⟩
theorem ix_none {L:List Nd} {x:Int} (h:ix L x=none):∀ n ∈ L,(n.ino:Int) ≠ x:=by
 have:=List.findIdx?_eq_none_iff.1 h
 intro n hn
 simpa using this n hn
structure Wf (s:SS) (c:Nat):Prop where
 sorted:s.L.Pairwise fun a b=>a.ino < b.ino
 num:∀ n ∈ s.L,1<=n.ino/\n.ino < s.next
 next:1<=s.next/\s.next<=c+1
 most:s.most<=256
 room:s.L.length<=s.most
 tot:s.tot<=4096
 sum:sumB s.L<=s.tot
 links:∀ n ∈ s.L,n.links<=32
 holds:∀ n ∈ s.L,n.holds<=c+1
 alive:∀ n ∈ s.L,1<=n.links+n.holds
 kind:∀ n ∈ s.L,1<=n.kind/\n.kind<=4
 tgt:∀ n ∈ s.L,n.tgt.size<=256
 tgt3:∀ n ∈ s.L,n.kind ≠ 3->n.tgt=ByteArray.empty
 ds:∀ n ∈ s.L,n.ds.length<=64
 file:∀ n ∈ s.L,n.f.sz<=65536
theorem Wf.more {s:SS} {c d:Nat} (h:Wf s c) (hc:c<=d):Wf s d :=
 ⟨h.sorted,h.num,⟨h.next.1,by have:=h.next.2;omega⟩,h.most,h.room,h.tot,h.sum,h.links,fun n hn=>by have:=h.holds n hn;omega,h.alive,h.kind,h.tgt,h.tgt3,h.ds,h.file⟩
theorem Wf.one {s:SS} {c:Nat} (h:Wf s c) {a b:Nd} (ha:a ∈ s.L) (hb:b ∈ s.L) (e:a.ino=b.ino):a=b:=by
 obtain ⟨i,hi,rfl⟩:=List.getElem_of_mem ha;obtain ⟨j,hj,rfl⟩:=List.getElem_of_mem hb;have hp:=List.pairwise_iff_getElem.1 h.sorted
 rcases Nat.lt_trichotomy i j with h1 | h1 | h1
 . have:=hp i j hi hj h1;omega
 . subst h1;rfl
 . have:=hp j i hj hi h1;omega
theorem ino_inj {L:List Nd} (h:L.Pairwise fun a b=>a.ino < b.ino) {i j:Nat} (hi:i < L.length) (hj:j < L.length) (e:L[i].ino=L[j].ino):i=j:=by
 have hp:=List.pairwise_iff_getElem.1 h
 rcases Nat.lt_trichotomy i j with h1 | h1 | h1
 . have:=hp i j hi hj h1;omega
 . exact h1
 . have:=hp j i hj hi h1;omega
theorem ix_at {L:List Nd} (h:L.Pairwise fun a b=>a.ino < b.ino) {i:Nat} (hi:i < L.length):ix L (L[i].ino:Nat)=some i:=by
 refine List.findIdx?_eq_some_iff_getElem.2 ⟨hi,by simp,fun j hj => ?_⟩
 have:=List.pairwise_iff_getElem.1 h j i (by omega) hi hj
 simp;omega
theorem sumB_split {L:List Nd} {i:Nat} (hi:i < L.length):sumB L=sumB (L.take i)+L[i].f.blocks+sumB (L.drop (i+1)):=by
 conv=>lhs;rw [<- List.take_append_drop i L,sumB_append,List.drop_eq_getElem_cons hi,sumB]
 omega
theorem sumB_set {L:List Nd} {i:Nat} (hi:i < L.length) (n:Nd):sumB (L.set i n)+L[i].f.blocks=sumB L+n.f.blocks:=by
 rw [sumB_split hi,List.set_eq_take_append_cons_drop,if_pos hi,sumB_append,sumB]
 omega
theorem sumB_erase {L:List Nd} {i:Nat} (hi:i < L.length):sumB (L.eraseIdx i)+L[i].f.blocks=sumB L:=by
 rw [sumB_split hi,List.eraseIdx_eq_take_drop_succ,sumB_append]
 omega
def SS.set (s:SS) (i:Nat) (n:Nd):SS:={ s with L:=s.L.set i n }
def SS.del (s:SS) (i:Nat):SS:={ s with L:=s.L.eraseIdx i }
def SS.add (s:SS) (n:Nd):SS:={ s with L:=s.L ++ [n],next:=s.next+1 }
theorem inos_set {L:List Nd} {i:Nat} (hi:i < L.length) {n:Nd} (e:n.ino=L[i].ino):(L.set i n).map Nd.ino=L.map Nd.ino:=by
 rw [List.map_set,e]
 refine List.ext_getElem (by simp) fun j h1 h2 => ?_
 rw [List.getElem_set]
 split
 . rename_i h;subst h;simp
 . rfl
theorem sorted_inos (L:List Nd):(L.Pairwise fun a b=>a.ino < b.ino) ↔ (L.map Nd.ino).Pairwise (· < ·):=by rw [List.pairwise_map]
theorem hasK_inos (L:List Nd) (k:Nat):hasK L k=(L.map Nd.ino).contains k:=by
 induction L with
 | nil=>rfl
 | cons n r ih =>
  simp only [hasK,List.any_cons,List.map_cons,List.contains_cons] at *
  rw [ih,Bool.beq_comm]
theorem hasK_set {L:List Nd} {i:Nat} (hi:i < L.length) {n:Nd} (e:n.ino=L[i].ino) (k:Nat):hasK (L.set i n) k=hasK L k:=by
 rw [hasK_inos,hasK_inos,inos_set hi e]
theorem hasK_add (L:List Nd) (n:Nd) (k:Nat):hasK (L ++ [n]) k=if k=n.ino then true else hasK L k:=by
 simp only [hasK,List.any_append,List.any_cons,List.any_nil,Bool.or_false]
 by_cases h:k=n.ino
 . subst h;simp
 . rw [if_neg h,show (n.ino == k)=false by simp;omega,Bool.or_false]
theorem mem_erase_of {L:List Nd} (h:L.Pairwise fun a b=>a.ino < b.ino) {i:Nat} (hi:i < L.length) {m:Nd}:m ∈ L.eraseIdx i ↔ m ∈ L/\m.ino ≠ L[i].ino:=by
 rw [List.mem_eraseIdx_iff_getElem]
 constructor
 . rintro ⟨j,hj,hne,rfl⟩
   exact ⟨List.getElem_mem hj,fun e=>hne (ino_inj h hj hi e)⟩
 . rintro ⟨hm,hne⟩;obtain ⟨j,hj,rfl⟩:=List.getElem_of_mem hm
   exact ⟨j,hj,fun e=>by subst e;exact hne rfl,rfl⟩
theorem hasK_erase {L:List Nd} (h:L.Pairwise fun a b=>a.ino < b.ino) {i:Nat} (hi:i < L.length) (k:Nat):hasK (L.eraseIdx i) k=if k=L[i].ino then false else hasK L k:=by
 by_cases e:k=L[i].ino
 . rw [if_pos e,hasK_not]
   intro n hn
   rw [e]
   exact ((mem_erase_of h hi).1 hn).2
 . rw [if_neg e,Bool.eq_iff_iff,hasK_iff,hasK_iff]
   constructor
   . rintro ⟨n,hn,rfl⟩
     exact ⟨n,((mem_erase_of h hi).1 hn).1,rfl⟩
   . rintro ⟨n,hn,rfl⟩
     exact ⟨n,(mem_erase_of h hi).2 ⟨hn,e⟩,rfl⟩
theorem mem_set_of {L:List Nd} (h:L.Pairwise fun a b=>a.ino < b.ino) {i:Nat} (hi:i < L.length) {n m:Nd} (hm:m ∈ L.set i n):m=n ∨ (m ∈ L/\m.ino ≠ L[i].ino):=by
 obtain ⟨j,hj,rfl⟩:=List.getElem_of_mem hm;rw [List.getElem_set]
 split
 . exact .inl rfl
 . rename_i hne
   rw [List.length_set] at hj
   exact .inr ⟨List.getElem_mem hj,fun e=>hne (ino_inj h hj hi e).symm⟩
theorem Wf.set {s:SS} {c:Nat} (h:Wf s c) {i:Nat} (hi:i < s.L.length) {n:Nd} (e:n.ino=s.L[i].ino) (hb:sumB (s.L.set i n)<=s.tot) (hl:n.links<=32) (hh:n.holds<=c+2) (ha:1<=n.links+n.holds) (hk:n.kind=s.L[i].kind) (ht:n.tgt=s.L[i].tgt) (hd:n.ds.length<=64) (hf:n.f.sz<=65536):Wf (s.set i n) (c+1):=by
 have key:∀ (p:Nd->Prop),p n->(∀ m ∈ s.L,p m)->∀ m ∈ s.L.set i n,p m:=fun p h1 h2 m hm=>by
  rcases List.mem_or_eq_of_mem_set hm with h7 | h7
  . exact h2 m h7
  . rw [h7];exact h1
 have hmem:=List.getElem_mem hi
 refine ⟨?_,key _ ?_ h.num,⟨h.next.1,by have:=h.next.2;simp only [SS.set];omega⟩,h.most,by simp only [SS.set,List.length_set];exact h.room,h.tot,hb,key _ hl h.links,key _ hh fun m hm=>by have:=h.holds m hm;omega,key _ ha h.alive,key _ ?_ h.kind,key _ ?_ h.tgt,key _ ?_ h.tgt3,key _ hd h.ds,key _ hf h.file⟩
 . show (s.L.set i n).Pairwise _
   rw [sorted_inos,inos_set hi e,<- sorted_inos];exact h.sorted
 . rw [e];exact h.num _ hmem
 . rw [hk];exact h.kind _ hmem
 . rw [ht];exact h.tgt _ hmem
 . rw [hk,ht];exact h.tgt3 _ hmem
theorem Wf.del {s:SS} {c:Nat} (h:Wf s c) {i:Nat} (hi:i < s.L.length):Wf (s.del i) (c+1):=by
 have key:∀ (p:Nd->Prop),(∀ m ∈ s.L,p m)->∀ m ∈ s.L.eraseIdx i,p m:=fun p h2 m hm=>h2 m (List.mem_of_mem_eraseIdx hm)
 have h1:=sumB_erase hi;have hs:=h.sum
 refine ⟨h.sorted.sublist (List.eraseIdx_sublist _ _),key _ h.num,⟨h.next.1,by have:=h.next.2;simp only [SS.del];omega⟩,h.most,?_,h.tot,by show sumB (s.L.eraseIdx i)<=s.tot;omega,key _ h.links,key _ fun m hm=>by have:=h.holds m hm;omega,key _ h.alive,key _ h.kind,key _ h.tgt,key _ h.tgt3,key _ h.ds,key _ h.file⟩
 have:=h.room
 simp only [SS.del,List.length_eraseIdx]
 split <;> omega
theorem Wf.add {s:SS} {c:Nat} (h:Wf s c) {n:Nd} (e:n.ino=s.next) (hr:s.L.length < s.most) (hf:n.f.blocks=0) (hz:n.f.sz<=65536) (hl:n.links=0) (hh:n.holds=1) (hk:1<=n.kind/\n.kind<=4) (ht:n.tgt.size<=256) (ht3:n.kind ≠ 3->n.tgt=ByteArray.empty) (hd:n.ds=[]):Wf (s.add n) (c+1):=by
 have key:∀ (p:Nd->Prop),p n->(∀ m ∈ s.L,p m)->∀ m ∈ s.L ++ [n],p m:=fun p h1 h2 m hm=>by
  rcases List.mem_append.1 hm with h7 | h7
  . exact h2 m h7
  . rw [List.mem_singleton.1 h7];exact h1
 have hn:=h.next
 refine ⟨?_,key _ ?_ fun m hm => ?_,⟨by simp only [SS.add];omega,by simp only [SS.add];omega⟩,h.most,by simp only [SS.add,List.length_append,List.length_singleton];omega,h.tot,?_,key _ (by omega) h.links,key _ (by omega) fun m hm=>by have:=h.holds m hm;omega,key _ (by omega) h.alive,key _ hk h.kind,key _ ht h.tgt,key _ ht3 h.tgt3,key _ (by rw [hd];simp) h.ds,key _ hz h.file⟩
 . show (s.L ++ [n]).Pairwise _
   rw [List.pairwise_append]
   refine ⟨h.sorted,by simp,fun a ha b hb => ?_⟩
   rw [List.mem_singleton.1 hb,e]
   exact (h.num a ha).2
 . simp only [SS.add];omega
 . have:=h.num m hm
   simp only [SS.add];omega
 . show sumB (s.L ++ [n])<=s.tot
   have:=h.sum;rw [sumB_append]
   simp only [sumB]
   omega
def nulIn (t:ByteArray):Bool:=t.data.toList.contains 0
def wrongT (t:ByteArray):Nat:=if t.size=0 then 2 else if 256 < t.size then 63 else if nulIn t then 22 else 0
def wrongK (kind:Int) (t:ByteArray):Nat:=if kind=3 then wrongT t else if (kind=1 ∨ kind=2 ∨ kind=4)/\t.size=0 then 0 else 22
def freshN (ino:Nat) (kind:Int) (t:ByteArray):Nd:=⟨ino,kind.toNat,0,1,0,St.no,t,[]⟩
def makeE (s:SS) (kind:Int) (t:ByteArray):Nat:=if wrongK kind t ≠ 0 then wrongK kind t else if s.most<=s.L.length then 28 else 0
def makeN (s:SS) (kind:Int) (t:ByteArray):Nat:=if makeE s kind t=0 then s.next else 0
def makeS (s:SS) (kind:Int) (t:ByteArray):SS:=if makeE s kind t=0 then s.add (freshN s.next kind t) else s
theorem empty_of_nil {t:ByteArray} (h:t.size=0):t=ByteArray.empty:=ByteArray.ext (Array.eq_empty_of_size_eq_zero h)
theorem wrongK_ok {kind:Int} {t:ByteArray} (h:wrongK kind t=0):1<=kind/\kind<=4/\t.size<=256/\(kind ≠ 3->t=ByteArray.empty):=by
 unfold wrongK at h
 by_cases h3:kind=3
 . rw [if_pos h3] at h;unfold wrongT at h
   by_cases h1:t.size=0
   . rw [if_pos h1] at h;cases h
   . rw [if_neg h1] at h
     by_cases h2:256 < t.size
     . rw [if_pos h2] at h;cases h
     . exact ⟨by omega,by omega,by omega,fun e=>absurd h3 e⟩
 . rw [if_neg h3] at h
   by_cases h1:(kind=1 ∨ kind=2 ∨ kind=4)/\t.size=0
   . have:=empty_of_nil h1.2
     refine ⟨by omega,by omega,?_,fun _=>this⟩
     rw [this];decide
   . rw [if_neg h1] at h;cases h
theorem Wf.make {s:SS} {c:Nat} (h:Wf s c) (kind:Int) (t:ByteArray):Wf (makeS s kind t) (c+1):=by
 unfold makeS
 split
 . rename_i he
   unfold makeE at he
   by_cases hw:wrongK kind t=0
   . rw [if_neg (by simpa using hw)] at he
     by_cases hr:s.most<=s.L.length
     . rw [if_pos hr] at he;cases he
     . obtain ⟨h1,h2,h3,h4⟩:=wrongK_ok hw
       exact h.add rfl (by omega) St.no_blocks (by show (0:Nat)<=_;omega) rfl rfl ⟨by simp only [freshN];omega,by simp only [freshN];omega⟩ h3 (fun e=>h4 (by simp only [freshN] at e;omega)) rfl
   . rw [if_pos hw] at he;exact absurd he hw
 . exact h.more (by omega)
def Nd.cnt (n:Nd) (l:Bool):Nat:=if l then n.links else n.holds
def Nd.cntd (n:Nd) (l:Bool) (v:Nat):Nd:=if l then { n with links:=v } else { n with holds:=v }
def look (s:SS) (x:Int):Option (Nat × Nd):=match ix s.L x with | none=>none | some i=>(s.L[i]?).map fun n=>(i,n)
theorem look_some {s:SS} {x:Int} {i:Nat} {n:Nd} (h:look s x=some (i,n)):∃ hi:i < s.L.length,n=s.L[i]/\((n.ino:Nat):Int)=x/\ix s.L x=some i:=by
 unfold look at h
 cases hx:ix s.L x with
 | none=>rw [hx] at h;cases h
 | some j =>
  obtain ⟨hj,e⟩:=ix_some hx;rw [hx] at h
  simp only [List.getElem?_eq_getElem hj,Option.map_some,Option.some.injEq,Prod.mk.injEq] at h
  obtain ⟨rfl,rfl⟩:=h
  exact ⟨hj,rfl,e,rfl⟩
theorem look_none {s:SS} {x:Int} (h:look s x=none):ix s.L x=none/\∀ n ∈ s.L,(n.ino:Int) ≠ x:=by
 unfold look at h
 cases hx:ix s.L x with
 | none=>exact ⟨rfl,ix_none hx⟩
 | some j =>
  obtain ⟨hj,e⟩:=ix_some hx;rw [hx] at h
  simp [List.getElem?_eq_getElem hj] at h
theorem look_at {s:SS} {c:Nat} (h:Wf s c) {i:Nat} (hi:i < s.L.length):look s (s.L[i].ino:Nat)=some (i,s.L[i]):=by
 unfold look;rw [ix_at h.sorted hi]
 simp only [List.getElem?_eq_getElem hi,Option.map_some]
def moreE (s:SS) (x:Int) (l:Bool):Nat:=match look s x with | none=>2 | some (_,n)=>if l=true/\32<=n.links then 31 else 0
def moreS (s:SS) (x:Int) (l:Bool):SS:=match look s x with | none=>s | some (i,n)=>if l=true/\32<=n.links then s else s.set i (n.cntd l (n.cnt l+1))
def lessE (s:SS) (x:Int) (l:Bool):Nat:=match look s x with | none=>2 | some (_,n)=>if n.cnt l=0 then 22 else 0
def lessS (s:SS) (x:Int) (l:Bool):SS:=match look s x with | none=>s | some (i,n)=>if n.cnt l=0 then s else if n.links+n.holds=1 then s.del i else s.set i (n.cntd l (n.cnt l - 1))
theorem cntd_ino (n:Nd) (l:Bool) (v:Nat):(n.cntd l v).ino=n.ino/\(n.cntd l v).kind=n.kind/\(n.cntd l v).f=n.f/\(n.cntd l v).tgt=n.tgt/\(n.cntd l v).ds=n.ds/\(n.cntd l v).par=n.par:=by
 cases l <;> exact ⟨rfl,rfl,rfl,rfl,rfl,rfl⟩
theorem sumB_cntd {L:List Nd} {i:Nat} (hi:i < L.length) (l:Bool) (v:Nat):sumB (L.set i (L[i].cntd l v))=sumB L:=by
 have:=sumB_set hi (L[i].cntd l v);rw [(cntd_ino L[i] l v).2.2.1] at this
 omega
theorem Wf.cntd {s:SS} {c:Nat} (h:Wf s c) {i:Nat} (hi:i < s.L.length) (l:Bool) (v:Nat) (h1:l=true->v<=32) (h2:l=false->v<=c+2) (h3:1<=(s.L[i].cntd l v).links+(s.L[i].cntd l v).holds):Wf (s.set i (s.L[i].cntd l v)) (c+1):=by
 obtain ⟨e1,e2,e3,e4,e5,_⟩:=cntd_ino s.L[i] l v;have hm:=List.getElem_mem hi
 refine h.set hi e1 (by rw [sumB_cntd];exact h.sum) ?_ ?_ h3 e2 e4 (by rw [e5];exact h.ds _ hm) (by rw [e3];exact h.file _ hm)
 . cases l
   . have:=h.links _ hm
     show s.L[i].links<=32
     exact this
   . exact h1 rfl
 . cases l
   . exact h2 rfl
   . have:=h.holds _ hm
     show s.L[i].holds<=_
     omega
theorem Wf.more1 {s:SS} {c:Nat} (h:Wf s c) (x:Int) (l:Bool):Wf (moreS s x l) (c+1):=by
 unfold moreS
 cases hx:look s x with
 | none=>exact h.more (by omega)
 | some y =>
  obtain ⟨i,n⟩:=y;obtain ⟨hi,rfl,_,_⟩:=look_some hx
  show Wf (if _ then _ else _) _
  split
  . exact h.more (by omega)
  . rename_i h32
    have hm:=List.getElem_mem hi;have h1:=h.holds _ hm
    refine h.cntd hi l _ (fun e => ?_) (fun e => ?_) ?_
    . subst e;simp at h32;simp [Nd.cnt];omega
    . subst e;simp [Nd.cnt];omega
    . cases l <;> simp [Nd.cntd,Nd.cnt] <;> omega
theorem Wf.less1 {s:SS} {c:Nat} (h:Wf s c) (x:Int) (l:Bool):Wf (lessS s x l) (c+1):=by
 unfold lessS
 cases hx:look s x with
 | none=>exact h.more (by omega)
 | some y =>
  obtain ⟨i,n⟩:=y;obtain ⟨hi,rfl,_,_⟩:=look_some hx
  show Wf (if _ then _ else if _ then _ else _) _
  split
  . exact h.more (by omega)
  . rename_i h0
    split
    . exact h.del hi
    . rename_i hne
      have hm:=List.getElem_mem hi;have h1:=h.holds _ hm;have h2:=h.links _ hm
      refine h.cntd hi l _ (fun e => ?_) (fun e => ?_) ?_
      . subst e;simp [Nd.cnt];omega
      . subst e;simp [Nd.cnt];omega
      . cases l <;> simp [Nd.cntd,Nd.cnt] at h0 ⊢ <;> omega
def fileE (s:SS) (x:Int):Nat:=match look s x with | none=>2 | some (_,n)=>if n.kind=1 then 0 else 22
def Nd.withF (n:Nd) (f:St):Nd:={ n with f:=f }
def Nd.withD (n:Nd) (ds:List IEnt):Nd:={ n with ds:=ds }
def writeE (s:SS) (x off:Int) (B:List UInt8):Nat:=match look s x with | none=>2 | some (_,n)=>if n.kind=1 then wrF n.f.h off B.length s.bl else 22
def writeS (s:SS) (x off:Int) (B:List UInt8):SS:=match look s x with | none=>s | some (i,n)=>if n.kind=1 then s.set i (n.withF (n.f.wrote off B s.bl)) else s
def truncE (s:SS) (x m:Int):Nat:=match look s x with | none=>2 | some (_,n)=>if n.kind=1 then cutE m else 22
def truncS (s:SS) (x m:Int):SS:=match look s x with | none=>s | some (i,n)=>if n.kind=1 then s.set i (n.withF (n.f.cut m)) else s
theorem wroteN_le (f:St) (off:Int) (n:Nat) (room:Int) (hr:0<=room):(f.wroteN off n room:Int)<=room:=by
 unfold St.wroteN
 split
 . rename_i h
   have:=(wrF_in h).2.2
   omega
 . omega
theorem St.wrote_sz (f:St) (off:Int) (B:List UInt8) (room:Int) (h:f.sz<=65536):(f.wrote off B room).sz<=65536:=by
 unfold St.wrote
 split
 . rename_i h1
   have:=wrF_in h1.1
   show max _ _<=_
   omega
 . exact h
theorem St.cut_sz (f:St) (m:Int) (h:f.sz<=65536):(f.cut m).sz<=65536:=by
 unfold St.cut
 split
 . rename_i h1
   have:=cutE_in h1
   show m.toNat<=_
   omega
 . exact h
theorem cntF_mono {n:Nat} {h g:Nat->Bool} (hh:∀ k,h k=true->g k=true):cntF n h<=cntF n g:=by
 unfold cntF
 exact List.countP_mono_left fun k _ hk=>hh k hk
theorem St.cut_blocks (f:St) (m:Int):(f.cut m).blocks<=f.blocks:=by
 unfold St.cut
 split
 . exact cntF_mono fun k hk=>by
    simp only [cutH,Bool.and_eq_true] at hk
    exact hk.1
 . exact Nat.le_refl _
theorem sumB_withF {L:List Nd} {i:Nat} (hi:i < L.length) (f:St):(sumB (L.set i (L[i].withF f)):Int)=(sumB L:Int)+(f.blocks:Int) - (L[i].f.blocks:Int):=by
 have:=sumB_set hi (L[i].withF f)
 simp only [Nd.withF] at this ⊢
 omega
theorem Wf.withF {s:SS} {c:Nat} (h:Wf s c) {i:Nat} (hi:i < s.L.length) (f:St) (hb:(f.blocks:Int) - (s.L[i].f.blocks:Int)<=s.bl) (hf:f.sz<=65536):Wf (s.set i (s.L[i].withF f)) (c+1):=by
 have hm:=List.getElem_mem hi
 refine h.set hi rfl ?_ (h.links s.L[i] hm) (by have:=h.holds _ hm;show s.L[i].holds<=_;omega) (h.alive s.L[i] hm) rfl rfl (h.ds s.L[i] hm) hf
 have:=sumB_withF hi f;unfold SS.bl at hb
 omega
theorem Wf.bl {s:SS} {c:Nat} (h:Wf s c):0<=s.bl/\s.bl<=4096:=by
 have h1:=h.sum;have h2:=h.tot;unfold SS.bl
 omega
theorem Wf.write1 {s:SS} {c:Nat} (h:Wf s c) (x off:Int) (B:List UInt8):Wf (writeS s x off B) (c+1):=by
 unfold writeS
 cases hx:look s x with
 | none=>exact h.more (by omega)
 | some y =>
  obtain ⟨i,n⟩:=y;obtain ⟨hi,rfl,_,_⟩:=look_some hx
  show Wf (if _ then _ else _) _
  split
  . refine h.withF hi _ ?_ (St.wrote_sz _ _ _ _ (h.file _ (List.getElem_mem hi)))
    have:=wroteN_le s.L[i].f off B.length s.bl h.bl.1;rw [St.wrote_blocks]
    omega
  . exact h.more (by omega)
theorem Wf.trunc1 {s:SS} {c:Nat} (h:Wf s c) (x m:Int):Wf (truncS s x m) (c+1):=by
 unfold truncS
 cases hx:look s x with
 | none=>exact h.more (by omega)
 | some y =>
  obtain ⟨i,n⟩:=y;obtain ⟨hi,rfl,_,_⟩:=look_some hx
  show Wf (if _ then _ else _) _
  split
  . refine h.withF hi _ ?_ (St.cut_sz _ _ (h.file _ (List.getElem_mem hi)))
    have:=St.cut_blocks s.L[i].f m;have:=h.bl
    omega
  . exact h.more (by omega)
theorem bl_withF {s:SS} {i:Nat} (hi:i < s.L.length) (f:St):(s.set i (s.L[i].withF f)).bl=s.bl - ((f.blocks:Int) - (s.L[i].f.blocks:Int)):=by
 have:=sumB_withF hi f;unfold SS.bl SS.set
 show (s.tot:Int) - (sumB (s.L.set i (s.L[i].withF f)):Int)=_
 rw [this];omega
theorem bl_cntd {s:SS} {i:Nat} (hi:i < s.L.length) (l:Bool) (v:Nat):(s.set i (s.L[i].cntd l v)).bl=s.bl:=by
 unfold SS.bl SS.set
 show (s.tot:Int) - (sumB (s.L.set i (s.L[i].cntd l v)):Int)=_
 rw [sumB_cntd hi]
theorem bl_del {s:SS} {i:Nat} (hi:i < s.L.length):(s.del i).bl=s.bl+(s.L[i].f.blocks:Int):=by
 have:=sumB_erase hi;unfold SS.bl SS.del
 show (s.tot:Int) - (sumB (s.L.eraseIdx i):Int)=_
 omega
theorem bl_add {s:SS} {n:Nd} (h:n.f.blocks=0):(s.add n).bl=s.bl:=by
 unfold SS.bl SS.add
 show (s.tot:Int) - (sumB (s.L ++ [n]):Int)=_
 rw [sumB_append]
 simp only [sumB,h]
 omega
def newS (most tot:Nat):SS:=⟨[],most,tot,1⟩
theorem wf_new {most tot:Nat} (h1:most<=256) (h2:tot<=4096):Wf (newS most tot) 0 :=
 ⟨.nil,(fun n h=>by cases h),⟨Nat.le_refl _,Nat.le_refl _⟩,h1,Nat.zero_le _,h2,Nat.zero_le _,(fun n h=>by cases h),(fun n h=>by cases h),(fun n h=>by cases h),(fun n h=>by cases h),(fun n h=>by cases h),(fun n h=>by cases h),(fun n h=>by cases h),(fun n h=>by cases h)⟩
def isP : Obj->Bool
 | .cells _ t _=>t == 142 || t == 179 || t == 222 || t == 246 || t == 173 || t == 170
 | .map _ _=>true
 | _=>false
def isR : Obj->Bool
 | .cells _ t _=>t == 77 || t == 79 || t == 74
 | _=>false
theorem isP_isR {o:Obj} (h:isP o=true):isR o=false:=by
 cases o <;> simp [isP,isR] at h ⊢
 rcases h with ((((h | h) | h) | h) | h) | h <;> rw [h] <;> decide
structure Lo where
 ok:Nat->Prop
 top:Nat
 new:∀ x,top<=x->ok x
def Lo.up (n:Nat):Lo:=⟨fun x=>n<=x,n,fun _ h=>h⟩
structure Turns (q:Obj->Bool) (hi:Lo) (w w':World):Prop where
 os:w'.os=w.os
 tape:w'.tape=w.tape
 output:w'.output=w.output
 size:w.heap.size<=w'.heap.size
 block:∀ k,k < w.heap.size->(¬ hi.ok k ∨ ∀ o,w.heap[k]? = some o->q o=false)->w'.heap[k]? = w.heap[k]?
section
variable {q q':Obj->Bool} {hi hi':Lo} {n n' B:Nat} {w w0 w1 w2 w':World}
theorem Turns.on (h:Below w.heap.size w w'):Turns q hi w w':=⟨h.os,h.tape,h.output,h.size,fun k hk _=>h.block k hk⟩
theorem Turns.refl (q:Obj->Bool) (hi:Lo) (w:World):Turns q hi w w:=.on (Below.refl _ _)
theorem Turns.trans (h:Turns q hi w w1) (k:Turns q hi w1 w2):Turns q hi w w2 :=
 ⟨k.os.trans h.os,k.tape.trans h.tape,k.output.trans h.output,Nat.le_trans h.size k.size,fun j hj hc=>by
  have h1:=h.block j hj hc
  refine (k.block j (Nat.lt_of_lt_of_le hj h.size) ?_).trans h1
  rcases hc with hc | hc
  . exact .inl hc
  . rw [h1];exact .inr hc⟩
theorem Turns.belowL (h:Turns q hi w w1) (h0:Below B w0 w) (hB:∀ k,k < B->¬ hi.ok k) (hs:B<=w.heap.size):Below B w0 w1 :=
 ⟨h.os.trans h0.os,h.tape.trans h0.tape,h.output.trans h0.output,Nat.le_trans h0.size h.size,fun k hk=>(h.block k (by omega) (.inl (hB k hk))).trans (h0.block k hk)⟩
theorem Turns.below (h:Turns q (.up n) w w1) (h0:Below B w0 w) (hB:B<=n) (hs:B<=w.heap.size):Below B w0 w1 :=
 h.belowL h0 (fun k hk (h7:n<=k)=>by omega) hs
theorem Turns.lessL (h:Turns q hi w w') (hq:∀ o,q o=true->q' o=true) (hl:∀ x,hi.ok x->hi'.ok x):Turns q' hi' w w' :=
 ⟨h.os,h.tape,h.output,h.size,fun k hk hc=>h.block k hk (by
  rcases hc with hc | hc
  . exact .inl fun h7=>hc (hl k h7)
  . refine .inr fun o ho => ?_
    cases hh:q o
    . rfl
    . have h1:=hc o ho;rw [hq o hh] at h1;cases h1)⟩
theorem Turns.less (h:Turns q (.up n) w w') (hq:∀ o,q o=true->q' o=true) (hl:n'<=n):Turns q' (.up n') w w':=h.lessL hq fun x (h7:n<=x)=>Nat.le_trans hl h7
theorem Turns.of_but {b:Nat} {o:Obj} (h:But b w w') (ho:w.heap[b]? = some o) (hq:q o=true) (hb:hi.ok b):Turns q hi w w' :=
 ⟨h.os,h.tape,h.output,by rw [h.size];exact Nat.le_refl _,fun k _ hc=>h.block k fun e=>by
  subst e
  rcases hc with hc | hc
  . exact hc hb
  . rw [hc o ho] at hq;cases hq⟩
theorem Turns.of_grown {b:Nat} {o:Obj} (h:w.grownBy w' (some b)) (ho:w.heap[b]? = some o) (hq:q o=true) (hb:hi.ok b):Turns q hi w w' :=
 ⟨h.os,h.tape,h.output,h.size,fun k hk hc=>h.block k hk fun e=>by
  cases e
  rcases hc with hc | hc
  . exact hc hb
  . rw [hc o ho] at hq;cases hq⟩
theorem Turns.of_foot {F:Nat->Prop} (h:Foot F w w') (hF:∀ x,F x->hi.ok x/\∃ o,w.heap[x]? = some o/\q o=true):Turns q hi w w' :=
 ⟨h.os,h.tape,h.output,h.size,fun k hk hc=>h.block k hk fun e=>by
  obtain ⟨h1,o,ho,hq⟩:=hF k e
  rcases hc with hc | hc
  . exact hc h1
  . rw [hc o ho] at hq;cases hq⟩
theorem Turns.blk {b:Nat} {t:TypeId} {cs:List Value} (h:Turns q hi w w') (hb:Blk w b t cs) (hq:∀ a f,q (.cells a t f)=false):Blk w' b t cs :=
 ⟨(h.block b hb.lt (.inr fun o ho=>by rw [hb.row] at ho;cases ho;exact hq _ _)).trans hb.row⟩
theorem Turns.rowS {e:TypeId} {size n lo:Nat} {v:Value} {s:List Value} (h:Turns q hi w w') (hr:w.ownsRow lo e size v n s) (hq:∀ a f,q (.cells a e f)=false):w'.ownsRow lo e size v n s:=by
 refine ⟨hr.1,?_⟩
 rcases hr.2 with h0 | ⟨g,cap,cur,rfl,hbs,hg,h3⟩
 . exact .inl h0
 . exact .inr ⟨g,cap,cur,rfl,hbs,(h.block g (Array.getElem?_eq_some_iff.1 hg).1 (.inr fun o ho=>by rw [hg] at ho;cases ho;exact hq _ _)).trans hg,h3⟩
theorem Turns.drewN (h:Turns q hi w w') (m:Nat):Turns q hi w (w'.drewN m):=⟨h.os,h.tape,h.output,h.size,h.block⟩
end
section
variable {w w':World} {fb sz:Nat} {mv:Value} {D:DataW Nat} {C:Nat->UInt8} {h:Nat->Bool} {F:Nat->Prop}
theorem FileM.isP (f:FileM w fb mv D sz C h) {x:Nat} (hx:foot fb mv D h x):∃ o,w.heap[x]? = some o/\isP o=true:=by
 rcases hx with rfl | hx | ⟨k,hk,rfl⟩
 . exact ⟨_,f.box.row,by simp [Go.Proofs.YthlaoaaafafafaaGreat.isP]⟩
 . rcases f.map with ⟨e,_⟩ | ⟨mb,e,hm⟩
   . rw [e] at hx;cases hx
   . rw [e] at hx;cases hx;obtain ⟨es,clock,hb⟩:=owns_is hm
     exact ⟨_,hb,rfl⟩
 . exact ⟨_,(f.blk k hk).row,by simp [Go.Proofs.YthlaoaaafafafaaGreat.isP]⟩
theorem FileAt.isP (f:FileAt w fb F sz C h) {x:Nat} (hx:F x):∃ o,w.heap[x]? = some o/\isP o=true:=by
 obtain ⟨mv,D,f,rfl⟩:=f
 exact f.isP hx
theorem FileAt.same (f:FileAt w fb F sz C h) (hs:∀ x,F x->w'.heap[x]? = w.heap[x]?):FileAt w' fb F sz C h:=by
 obtain ⟨mv,D,f,rfl⟩:=f
 exact ⟨mv,D,f.same hs,rfl⟩
end
def DirM (w:World) (db:Nat) (F:Nat->Prop) (ds:List IEnt):Prop:=∃ v,Blk w db 173 [v]/\Row 0 170 w v ds/\F=fun x=>x=db ∨ v.ownBlock=some x
theorem row_block {e:TypeId} {w:World} {v:Value} {l:List IEnt} {x:Nat} (h:Row 0 e w v l) (hx:v.ownBlock=some x):∃ cs,w.heap[x]? = some (.cells cs e (0,0)):=by
 rcases h.2 with ⟨rfl,_⟩ | ⟨g,cap,cur,rfl,_,h3,_⟩
 . simp [Value.ownBlock] at hx
 . simp [Value.ownBlock] at hx
   subst hx
   exact ⟨_,h3⟩
theorem row_same {e:TypeId} {w w':World} {v:Value} {l:List IEnt} (h:Row 0 e w v l) (hs:∀ x,v.ownBlock=some x->w'.heap[x]? = w.heap[x]?):Row 0 e w' v l:=by
 refine ⟨h.1,?_⟩
 rcases h.2 with h2 | ⟨g,cap,cur,rfl,h2,h3,h4⟩
 . exact .inl h2
 . exact .inr ⟨g,cap,cur,rfl,h2,(hs g rfl).trans h3,h4⟩
theorem DirM.same {w w':World} {db:Nat} {F:Nat->Prop} {ds:List IEnt} (h:DirM w db F ds) (hs:∀ x,F x->w'.heap[x]? = w.heap[x]?):DirM w' db F ds:=by
 obtain ⟨v,h1,h2,rfl⟩:=h
 exact ⟨v,⟨(hs db (.inl rfl)).trans h1.row⟩,row_same h2 fun x hx=>hs x (.inr hx),rfl⟩
theorem DirM.isP {w:World} {db:Nat} {F:Nat->Prop} {ds:List IEnt} (h:DirM w db F ds) {x:Nat} (hx:F x):∃ o,w.heap[x]? = some o/\isP o=true/\∀ cs t fr,o=.cells cs t fr->t ≠ 142/\t ≠ 179:=by
 obtain ⟨v,h1,h2,rfl⟩:=h
 rcases hx with rfl | hx
 . exact ⟨_,h1.row,by simp [Go.Proofs.YthlaoaaafafafaaGreat.isP],fun cs t fr e=>by cases e;exact ⟨by decide,by decide⟩⟩
 . obtain ⟨cs,h3⟩:=row_block h2 hx
   exact ⟨_,h3,by simp [Go.Proofs.YthlaoaaafafafaaGreat.isP],fun cs t fr e=>by cases e;exact ⟨by decide,by decide⟩⟩
def Body (w:World) (fp dp:Value) (F:Nat->Prop) (n:Nd):Prop :=
 (n.kind=1/\dp=.pointer none/\n.ds=[]/\∃ fb,fp=.pointer (some ⟨fb,0,none⟩)/\n.f.at w fb F) ∨
 (n.kind=2/\fp=.pointer none/\n.f=St.no/\∃ db,dp=.pointer (some ⟨db,0,none⟩)/\DirM w db F n.ds) ∨
 (n.kind ≠ 1/\n.kind ≠ 2/\fp=.pointer none/\dp=.pointer none/\n.f=St.no/\n.ds=[]/\F=fun _=>False)
section
variable {w w':World} {fp dp:Value} {F:Nat->Prop} {n m:Nd}
theorem Body.same (h:Body w fp dp F n) (hs:∀ x,F x->w'.heap[x]? = w.heap[x]?):Body w' fp dp F n:=by
 rcases h with ⟨h1,h2,h3,fb,h4,h5⟩ | ⟨h1,h2,h3,db,h4,h5⟩ | h
 . exact .inl ⟨h1,h2,h3,fb,h4,h5.1.same hs,h5.2⟩
 . exact .inr (.inl ⟨h1,h2,h3,db,h4,h5.same hs⟩)
 . exact .inr (.inr h)
theorem Body.of (h:Body w fp dp F n) (h1:m.kind=n.kind) (h2:m.f=n.f) (h3:m.ds=n.ds):Body w fp dp F m:=by
 unfold Body at *;rw [h1,h2,h3];exact h
theorem Body.isP (h:Body w fp dp F n) {x:Nat} (hx:F x):∃ o,w.heap[x]? = some o/\isP o=true/\∀ cs t fr,o=.cells cs t fr->t ≠ 142/\t ≠ 179:=by
 rcases h with ⟨h1,h2,h3,fb,h4,h5⟩ | ⟨h1,h2,h3,db,h4,h5⟩ | h
 . obtain ⟨o,ho,hp⟩:=h5.1.isP hx
   refine ⟨o,ho,hp,fun cs t fr e => ?_⟩
   subst e
   rcases h5.1.kind hx ho with h7 | h7 <;> rw [h7] <;> exact ⟨by decide,by decide⟩
 . exact h5.isP hx
 . rw [h.2.2.2.2.2.2] at hx;exact hx.elim
theorem Body.hs (h:Body w fp dp F n):Hs w fp n.f.sz n.f.C n.f.h:=by
 rcases h with ⟨h1,h2,h3,fb,h4,h5⟩ | ⟨h1,h2,h3,db,h4,h5⟩ | h
 . exact .inr ⟨fb,F,h4,h5.1⟩
 . rw [h3];exact .inl ⟨h2,rfl,fun _=>rfl⟩
 . rw [h.2.2.2.2.1];exact .inl ⟨h.2.2.1,rfl,fun _=>rfl⟩
end
def ndC (n:Nd) (fp dp:Value):List Value:=[.int .i64 n.kind,.int .i64 n.links,.int .i64 n.holds,fp,dp,.string n.tgt]
structure StoreM (hi:Lo) (w:World) (sb mb:Nat) (D:DataW Nat) (Fs:Nat->Nat->Prop) (L:List Nd) (most bl next:Int):Prop where
 box:Blk w sb 142 [.map (some mb),.int .i64 most,.int .i64 bl,.int .i64 next]
 map:w.ownsMap Tryz.prog 3 ptrElem mb (Maps.size D) D
 is:MapIs D (hasK L)
 node:∀ n ∈ L,∃ fp dp,Blk w (gOf D n.ino) 179 (ndC n fp dp)/\Body w fp dp (Fs n.ino) n
 apart:∀ a ∈ L,∀ b ∈ L,a.ino ≠ b.ino->∀ x,Fs a.ino x->¬ Fs b.ino x
 out:∀ n ∈ L,¬ Fs n.ino mb
 top:hi.top<=w.heap.size
 lo:hi.ok sb/\hi.ok mb/\∀ n ∈ L,hi.ok (gOf D n.ino)/\∀ x,Fs n.ino x->hi.ok x
def sfoot (sb mb:Nat) (D:DataW Nat) (Fs:Nat->Nat->Prop) (L:List Nd) (x:Nat):Prop:=x=sb ∨ x=mb ∨ ∃ n ∈ L,x=gOf D n.ino ∨ Fs n.ino x
def StoreAt (hi:Lo) (w:World) (sb:Nat) (s:SS):Prop:=∃ mb D Fs,StoreM hi w sb mb D Fs s.L s.most s.bl s.next
section
variable {hi : Lo} {sb mb:Nat} {w w':World} {D:DataW Nat} {Fs:Nat->Nat->Prop} {L:List Nd} {most bl next:Int}
theorem StoreM.isP (h:StoreM hi w sb mb D Fs L most bl next) {x:Nat} (hx:sfoot sb mb D Fs L x):hi.ok x/\∃ o,w.heap[x]? = some o/\isP o=true:=by
 rcases hx with rfl | rfl | ⟨n,hn,rfl | hx⟩
 . exact ⟨h.lo.1,_,h.box.row,by simp [Go.Proofs.YthlaoaaafafafaaGreat.isP]⟩
 . obtain ⟨es,clock,hb⟩:=owns_is h.map
   exact ⟨h.lo.2.1,_,hb,rfl⟩
 . obtain ⟨fp,dp,h1,h2⟩:=h.node n hn
   exact ⟨(h.lo.2.2 n hn).1,_,h1.row,by simp [Go.Proofs.YthlaoaaafafafaaGreat.isP]⟩
 . obtain ⟨fp,dp,h1,h2⟩:=h.node n hn;obtain ⟨o,ho,hp,_⟩:=h2.isP hx
   exact ⟨(h.lo.2.2 n hn).2 x hx,o,ho,hp⟩
theorem StoreM.same (h:StoreM hi w sb mb D Fs L most bl next) (hz:w.heap.size<=w'.heap.size) (hs:∀ x,sfoot sb mb D Fs L x->w'.heap[x]? = w.heap[x]?):StoreM hi w' sb mb D Fs L most bl next:=by
 refine ⟨⟨(hs sb (.inl rfl)).trans h.box.row⟩,owns_block h.map (hs mb (.inr (.inl rfl))),h.is,fun n hn => ?_,h.apart,h.out,Nat.le_trans h.top hz,h.lo⟩
 obtain ⟨fp,dp,h1,h2⟩:=h.node n hn
 exact ⟨fp,dp,⟨(hs _ (.inr (.inr ⟨n,hn,.inl rfl⟩))).trans h1.row⟩,h2.same fun x hx=>hs x (.inr (.inr ⟨n,hn,.inr hx⟩))⟩
theorem StoreM.turns {q:Obj->Bool} {hi':Lo} (h:StoreM hi w sb mb D Fs L most bl next) (ht:Turns q hi' w w') (hq:∀ o,Go.Proofs.YthlaoaaafafafaaGreat.isP o=true->q o=false):StoreM hi w' sb mb D Fs L most bl next :=
 h.same ht.size fun x hx=>by
  obtain ⟨_,o,ho,hp⟩:=h.isP hx
  exact ht.block x (Array.getElem?_eq_some_iff.1 ho).1 (.inr fun o' ho'=>by rw [ho] at ho';cases ho';exact hq o hp)
theorem StoreM.on (h:StoreM hi w sb mb D Fs L most bl next) (hb:Below w.heap.size w w'):StoreM hi w' sb mb D Fs L most bl next :=
 h.turns (q:=fun _=>false) (hi':=.up 0) (.on hb) fun _ _=>rfl
theorem StoreM.lower {hi':Lo} (h:StoreM hi w sb mb D Fs L most bl next) (ht:hi'.top<=w.heap.size) (hl:∀ x,x < w.heap.size->hi.ok x->hi'.ok x):StoreM hi' w sb mb D Fs L most bl next:=by
 have key:∀ x,sfoot sb mb D Fs L x->hi'.ok x:=fun x hx=>by
  obtain ⟨h1,o,ho,_⟩:=h.isP hx
  exact hl x (Array.getElem?_eq_some_iff.1 ho).1 h1
 exact ⟨h.box,h.map,h.is,h.node,h.apart,h.out,ht,key _ (.inl rfl),key _ (.inr (.inl rfl)),fun n hn=>⟨key _ (.inr (.inr ⟨n,hn,.inl rfl⟩)),fun x hx=>key x (.inr (.inr ⟨n,hn,.inr hx⟩))⟩⟩
theorem StoreM.sb_mb (h:StoreM hi w sb mb D Fs L most bl next):sb ≠ mb:=fun e=>by
 obtain ⟨es,clock,hb⟩:=owns_is h.map;rw [<- e,h.box.row] at hb;cases hb
theorem StoreM.sb_g (h:StoreM hi w sb mb D Fs L most bl next) {n:Nd} (hn:n ∈ L):gOf D n.ino ≠ sb:=fun e=>by
 obtain ⟨fp,dp,h1,_⟩:=h.node n hn;have h2:=h1.row;rw [e,h.box.row] at h2
 simp at h2
theorem StoreM.mb_g (h:StoreM hi w sb mb D Fs L most bl next) {n:Nd} (hn:n ∈ L):gOf D n.ino ≠ mb:=fun e=>by
 obtain ⟨fp,dp,h1,_⟩:=h.node n hn;obtain ⟨es,clock,hb⟩:=owns_is h.map;rw [<- e,h1.row] at hb;cases hb
theorem StoreM.F_ne (h:StoreM hi w sb mb D Fs L most bl next) {n:Nd} (hn:n ∈ L) {x:Nat} (hx:Fs n.ino x):x ≠ sb/\x ≠ mb/\∀ m ∈ L,x ≠ gOf D m.ino:=by
 obtain ⟨fp,dp,_,h2⟩:=h.node n hn;obtain ⟨o,ho,_,hk⟩:=h2.isP hx
 refine ⟨fun e => ?_,fun e => ?_,fun m hm e => ?_⟩
 . rw [e,h.box.row] at ho
   cases ho
   exact (hk _ _ _ rfl).1 rfl
 . exact h.out n hn (e ▸ hx)
 . obtain ⟨fp',dp',h1,_⟩:=h.node m hm;rw [e,h1.row] at ho
   cases ho
   exact (hk _ _ _ rfl).2 rfl
theorem StoreM.g_ne (h:StoreM hi w sb mb D Fs L most bl next) {a b:Nd} (ha:a ∈ L) (hb:b ∈ L) (e:a.ino ≠ b.ino):gOf D a.ino ≠ gOf D b.ino:=fun e'=>e (h.is.inj _ _ (hasK_of ha) (hasK_of hb) e')
theorem StoreM.boxed {most' bl' next':Int} (h:StoreM hi w sb mb D Fs L most bl next) (hb:But sb w w') (hB:Blk w' sb 142 [.map (some mb),.int .i64 most',.int .i64 bl',.int .i64 next']):StoreM hi w' sb mb D Fs L most' bl' next':=by
 refine ⟨hB,owns_block h.map (hb.block mb fun e=>h.sb_mb e.symm),h.is,fun n hn => ?_,h.apart,h.out,by rw [hb.size];exact h.top,h.lo⟩
 obtain ⟨fp,dp,h1,h2⟩:=h.node n hn
 exact ⟨fp,dp,h1.but hb (h.sb_g hn),h2.same fun x hx=>hb.block x (h.F_ne hn hx).1⟩
theorem StoreM.counted {i:Nat} {n:Nd} {fp dp:Value} (h:StoreM hi w sb mb D Fs L most bl next) (hs:L.Pairwise fun a b=>a.ino < b.ino) (hi':i < L.length) (e:n.ino=L[i].ino) (hk:n.kind=L[i].kind) (hf:n.f=L[i].f) (hd:n.ds=L[i].ds) (hbd:Body w fp dp (Fs L[i].ino) L[i]) (hb:But (gOf D L[i].ino) w w') (hB:Blk w' (gOf D L[i].ino) 179 (ndC n fp dp)):StoreM hi w' sb mb D Fs (L.set i n) most bl next:=by
 have hm:=List.getElem_mem hi'
 have hin:∀ m ∈ L.set i n,∃ m' ∈ L,m'.ino=m.ino:=fun m hm'=>by
  rcases mem_set_of hs hi' hm' with rfl | ⟨h1,_⟩
  . exact ⟨_,hm,e.symm⟩
  . exact ⟨m,h1,rfl⟩
 refine ⟨h.box.but hb fun e'=>h.sb_g hm e'.symm,owns_block h.map (hb.block mb fun e'=>h.mb_g hm e'.symm),?_,fun m hm' => ?_,fun a ha b hb' hne => ?_,fun m hm' => ?_,by rw [hb.size];exact h.top,h.lo.1,h.lo.2.1,fun m hm' => ?_⟩
 . rw [show hasK (L.set i n)=hasK L from funext fun k=>hasK_set hi' e k];exact h.is
 . rcases mem_set_of hs hi' hm' with rfl | ⟨h1,hne⟩
   . refine ⟨fp,dp,by rw [e];exact hB,?_⟩
     rw [e]
     exact (hbd.same fun x hx=>hb.block x ((h.F_ne hm hx).2.2 _ hm)).of hk hf hd
   . obtain ⟨fp',dp',h2,h3⟩:=h.node m h1
     exact ⟨fp',dp',h2.but hb (h.g_ne h1 hm hne),h3.same fun x hx=>hb.block x ((h.F_ne h1 hx).2.2 _ hm)⟩
 . obtain ⟨a',ha',e1⟩:=hin a ha;obtain ⟨b',hb'',e2⟩:=hin b hb';rw [<- e1,<- e2] at hne ⊢
   exact h.apart a' ha' b' hb'' hne
 . obtain ⟨m',h1,e1⟩:=hin m hm';rw [<- e1];exact h.out m' h1
 . obtain ⟨m',h1,e1⟩:=hin m hm';rw [<- e1];exact h.lo.2.2 m' h1
theorem StoreM.filed {i fb:Nat} {f:St} {F':Nat->Prop} (h:StoreM hi w sb mb D Fs L most bl next) (hs:L.Pairwise fun a b=>a.ino < b.ino) (hi':i < L.length) (hk:L[i].kind=1) (hfp:Blk w (gOf D L[i].ino) 179 (ndC L[i] (.pointer (some ⟨fb,0,none⟩)) (.pointer none))) (hds:L[i].ds=[])
 (hg:Goes (Fs L[i].ino) F' w w') (hf:f.at w' fb F'):StoreM hi w' sb mb D (fun k=>if k=L[i].ino then F' else Fs k) (L.set i (L[i].withF f)) most bl next:=by
 have hm:=List.getElem_mem hi'
 have hlt:∀ x,sfoot sb mb D Fs L x->x < w.heap.size:=fun x hx=>by
  obtain ⟨_,o,ho,_⟩:=h.isP hx
  exact (Array.getElem?_eq_some_iff.1 ho).1
 have hbk:∀ x,sfoot sb mb D Fs L x->¬ Fs L[i].ino x->w'.heap[x]? = w.heap[x]? := fun x hx hn=>hg.foot.block x (hlt x hx) hn
 have hin:∀ m ∈ L.set i (L[i].withF f),∃ m' ∈ L,m'.ino=m.ino:=fun m hm'=>by
  rcases mem_set_of hs hi' hm' with rfl | ⟨h1,_⟩
  . exact ⟨_,hm,rfl⟩
  . exact ⟨m,h1,rfl⟩
 have hnew:∀ m ∈ L,m.ino ≠ L[i].ino->∀ x,F' x->¬ Fs m.ino x:=fun m hm' hne x hx hx'=>by
  rcases hg.new x hx with h7 | h7
  . exact h.apart _ hm m hm' hne.symm x h7 hx'
  . have:=hlt x (.inr (.inr ⟨m,hm',.inr hx'⟩))
    omega
 refine ⟨⟨(hbk sb (.inl rfl) fun e=>(h.F_ne hm e).1 rfl).trans h.box.row⟩,owns_block h.map (hbk mb (.inr (.inl rfl)) (h.out _ hm)),?_,fun m hm' => ?_,fun a ha b hb' hne => ?_,fun m hm' => ?_,Nat.le_trans h.top hg.foot.size,h.lo.1,h.lo.2.1,fun m hm' => ?_⟩
 . rw [show hasK (L.set i (L[i].withF f))=hasK L from funext fun k=>hasK_set (n:=L[i].withF f) hi' rfl k];exact h.is
 . rcases mem_set_of hs hi' hm' with rfl | ⟨h1,hne⟩
   . refine ⟨_,_,⟨(hbk _ (.inr (.inr ⟨_,hm,.inl rfl⟩)) fun e=>(h.F_ne hm e).2.2 _ hm rfl).trans hfp.row⟩,?_⟩
     have:(L[i].withF f).ino=L[i].ino:=rfl;rw [if_pos this]
     exact .inl ⟨hk,rfl,hds,fb,rfl,hf⟩
   . obtain ⟨fp',dp',h2,h3⟩:=h.node m h1;rw [if_neg hne]
     exact ⟨fp',dp',⟨(hbk _ (.inr (.inr ⟨m,h1,.inl rfl⟩)) fun e=>(h.F_ne hm e).2.2 _ h1 rfl).trans h2.row⟩,h3.same fun x hx=>hbk x (.inr (.inr ⟨m,h1,.inr hx⟩)) (h.apart m h1 _ hm hne x hx)⟩
 . obtain ⟨a',ha',e1⟩:=hin a ha;obtain ⟨b',hb'',e2⟩:=hin b hb';rw [<- e1,<- e2] at hne ⊢
   intro x
   by_cases ea:a'.ino=L[i].ino
   . have eb:b'.ino ≠ L[i].ino:=fun e=>hne (ea.trans e.symm)
     rw [if_pos ea,if_neg eb]
     exact hnew b' hb'' eb x
   . rw [if_neg ea]
     by_cases eb:b'.ino=L[i].ino
     . rw [if_pos eb]
       exact fun h1 h2=>hnew a' ha' ea x h2 h1
     . rw [if_neg eb]
       exact h.apart a' ha' b' hb'' hne x
 . obtain ⟨m',h1,e1⟩:=hin m hm';rw [<- e1]
   by_cases ea:m'.ino=L[i].ino
   . rw [if_pos ea]
     intro hx
     rcases hg.new mb hx with h7 | h7
     . exact h.out _ hm h7
     . have:=hlt mb (.inr (.inl rfl));omega
   . rw [if_neg ea];exact h.out m' h1
 . obtain ⟨m',h1,e1⟩:=hin m hm';rw [<- e1]
   refine ⟨(h.lo.2.2 m' h1).1,fun x hx => ?_⟩
   by_cases ea:m'.ino=L[i].ino
   . rw [if_pos ea] at hx
     rcases hg.new x hx with h7 | h7
     . exact (h.lo.2.2 _ hm).2 x h7
     . exact hi.new x (Nat.le_trans h.top h7)
   . rw [if_neg ea] at hx;exact (h.lo.2.2 m' h1).2 x hx
theorem StoreM.dired {i db:Nat} {ds:List IEnt} {F':Nat->Prop} (h:StoreM hi w sb mb D Fs L most bl next) (hs:L.Pairwise fun a b=>a.ino < b.ino) (hi':i < L.length) (hk:L[i].kind=2) (hfp:Blk w (gOf D L[i].ino) 179 (ndC L[i] (.pointer none) (.pointer (some ⟨db,0,none⟩)))) (hfn:L[i].f=St.no)
 (hg:Goes (Fs L[i].ino) F' w w') (hf:DirM w' db F' ds):StoreM hi w' sb mb D (fun k=>if k=L[i].ino then F' else Fs k) (L.set i (L[i].withD ds)) most bl next:=by
 have hm:=List.getElem_mem hi'
 have hlt:∀ x,sfoot sb mb D Fs L x->x < w.heap.size:=fun x hx=>by
  obtain ⟨_,o,ho,_⟩:=h.isP hx
  exact (Array.getElem?_eq_some_iff.1 ho).1
 have hbk:∀ x,sfoot sb mb D Fs L x->¬ Fs L[i].ino x->w'.heap[x]? = w.heap[x]? := fun x hx hn=>hg.foot.block x (hlt x hx) hn
 have hin:∀ m ∈ L.set i (L[i].withD ds),∃ m' ∈ L,m'.ino=m.ino:=fun m hm'=>by
  rcases mem_set_of hs hi' hm' with rfl | ⟨h1,_⟩
  . exact ⟨_,hm,rfl⟩
  . exact ⟨m,h1,rfl⟩
 have hnew:∀ m ∈ L,m.ino ≠ L[i].ino->∀ x,F' x->¬ Fs m.ino x:=fun m hm' hne x hx hx'=>by
  rcases hg.new x hx with h7 | h7
  . exact h.apart _ hm m hm' hne.symm x h7 hx'
  . have:=hlt x (.inr (.inr ⟨m,hm',.inr hx'⟩))
    omega
 refine ⟨⟨(hbk sb (.inl rfl) fun e=>(h.F_ne hm e).1 rfl).trans h.box.row⟩,owns_block h.map (hbk mb (.inr (.inl rfl)) (h.out _ hm)),?_,fun m hm' => ?_,fun a ha b hb' hne => ?_,fun m hm' => ?_,Nat.le_trans h.top hg.foot.size,h.lo.1,h.lo.2.1,fun m hm' => ?_⟩
 . rw [show hasK (L.set i (L[i].withD ds))=hasK L from funext fun k=>hasK_set (n:=L[i].withD ds) hi' rfl k];exact h.is
 . rcases mem_set_of hs hi' hm' with rfl | ⟨h1,hne⟩
   . refine ⟨_,_,⟨(hbk _ (.inr (.inr ⟨_,hm,.inl rfl⟩)) fun e=>(h.F_ne hm e).2.2 _ hm rfl).trans hfp.row⟩,?_⟩
     have:(L[i].withD ds).ino=L[i].ino:=rfl;rw [if_pos this]
     exact .inr (.inl ⟨hk,rfl,hfn,db,rfl,hf⟩)
   . obtain ⟨fp',dp',h2,h3⟩:=h.node m h1;rw [if_neg hne]
     exact ⟨fp',dp',⟨(hbk _ (.inr (.inr ⟨m,h1,.inl rfl⟩)) fun e=>(h.F_ne hm e).2.2 _ h1 rfl).trans h2.row⟩,h3.same fun x hx=>hbk x (.inr (.inr ⟨m,h1,.inr hx⟩)) (h.apart m h1 _ hm hne x hx)⟩
 . obtain ⟨a',ha',e1⟩:=hin a ha;obtain ⟨b',hb'',e2⟩:=hin b hb';rw [<- e1,<- e2] at hne ⊢
   intro x
   by_cases ea:a'.ino=L[i].ino
   . have eb:b'.ino ≠ L[i].ino:=fun e=>hne (ea.trans e.symm)
     rw [if_pos ea,if_neg eb]
     exact hnew b' hb'' eb x
   . rw [if_neg ea]
     by_cases eb:b'.ino=L[i].ino
     . rw [if_pos eb]
       exact fun h1 h2=>hnew a' ha' ea x h2 h1
     . rw [if_neg eb]
       exact h.apart a' ha' b' hb'' hne x
 . obtain ⟨m',h1,e1⟩:=hin m hm';rw [<- e1]
   by_cases ea:m'.ino=L[i].ino
   . rw [if_pos ea]
     intro hx
     rcases hg.new mb hx with h7 | h7
     . exact h.out _ hm h7
     . have:=hlt mb (.inr (.inl rfl));omega
   . rw [if_neg ea];exact h.out m' h1
 . obtain ⟨m',h1,e1⟩:=hin m hm';rw [<- e1]
   refine ⟨(h.lo.2.2 m' h1).1,fun x hx => ?_⟩
   by_cases ea:m'.ino=L[i].ino
   . rw [if_pos ea] at hx
     rcases hg.new x hx with h7 | h7
     . exact (h.lo.2.2 _ hm).2 x h7
     . exact hi.new x (Nat.le_trans h.top h7)
   . rw [if_neg ea] at hx;exact (h.lo.2.2 m' h1).2 x hx
theorem upd_hasK_erase {i:Nat} (hs:L.Pairwise fun a b=>a.ino < b.ino) (hi':i < L.length):upd (hasK L) L[i].ino false=hasK (L.eraseIdx i):=by
 funext k
 rw [hasK_erase hs hi']
 rfl
theorem upd_hasK_add (n:Nd):upd (hasK L) n.ino true=hasK (L ++ [n]):=by
 funext k
 rw [hasK_add]
 rfl
theorem StoreM.deled {i m:Nat} (h:StoreM hi w sb mb D Fs L most bl next) (hs:L.Pairwise fun a b=>a.ino < b.ino) (hi':i < L.length) (ho:w'.ownsMap Tryz.prog 3 ptrElem mb m (D.del (ky L[i].ino))) (hg:w.grownBy w' (some mb)):StoreM hi w' sb mb (D.del (ky L[i].ino)) Fs (L.eraseIdx i) most bl next:=by
 have hlt:∀ x,sfoot sb mb D Fs L x->x < w.heap.size:=fun x hx=>by
  obtain ⟨_,o,ho,_⟩:=h.isP hx
  exact (Array.getElem?_eq_some_iff.1 ho).1
 have hbk:∀ x,sfoot sb mb D Fs L x->x ≠ mb->w'.heap[x]? = w.heap[x]? := fun x hx hn=>hg.block x (hlt x hx) fun e=>hn (by cases e;rfl)
 have hin:∀ a ∈ L.eraseIdx i,a ∈ L/\a.ino ≠ L[i].ino:=fun a ha=>(mem_erase_of hs hi').1 ha
 refine ⟨⟨(hbk sb (.inl rfl) h.sb_mb).trans h.box.row⟩,owns_exact ho,?_,fun a ha => ?_,fun a ha b hb=>h.apart a (hin a ha).1 b (hin b hb).1,fun a ha=>h.out a (hin a ha).1,Nat.le_trans h.top hg.size,h.lo.1,h.lo.2.1,fun a ha => ?_⟩
 . rw [<- upd_hasK_erase hs hi']
   exact h.is.del (hasK_of (List.getElem_mem hi'))
 . obtain ⟨h1,hne⟩:=hin a ha;obtain ⟨fp,dp,h2,h3⟩:=h.node a h1;rw [gOf_del_other hne]
   exact ⟨fp,dp,⟨(hbk _ (.inr (.inr ⟨a,h1,.inl rfl⟩)) (h.mb_g h1)).trans h2.row⟩,h3.same fun x hx=>hbk x (.inr (.inr ⟨a,h1,.inr hx⟩)) (h.F_ne h1 hx).2.1⟩
 . obtain ⟨h1,hne⟩:=hin a ha;rw [gOf_del_other hne]
   exact h.lo.2.2 a h1
theorem StoreM.added {n:Nd} {g m:Nat} {fp dp:Value} {F:Nat->Prop} {w0:World} (h:StoreM hi w sb mb D Fs L most bl next) (hk:hasK L n.ino=false) (hl:n.ino < 1024) (hB:Blk w g 179 (ndC n fp dp)) (hbd:Body w fp dp F n) (hg:hi.ok g) (hF:∀ x,F x->hi.ok x)
 (hnew:∀ x,sfoot sb mb D Fs L x->x < w0.heap.size) (hgn:w0.heap.size<=g) (hFn:∀ x,F x->w0.heap.size<=x)
 (ho:w'.ownsMap Tryz.prog 3 ptrElem mb m (D.put (ky n.ino) (.held g))) (hgr:w.grownBy w' (some mb)):StoreM hi w' sb mb (D.put (ky n.ino) (.held g)) (fun k=>if k=n.ino then F else Fs k) (L ++ [n]) most bl next:=by
 have hlt:∀ x,sfoot sb mb D Fs L x->x < w.heap.size:=fun x hx=>by
  obtain ⟨_,o,ho,_⟩:=h.isP hx
  exact (Array.getElem?_eq_some_iff.1 ho).1
 have hbk:∀ x,x < w.heap.size->x ≠ mb->w'.heap[x]? = w.heap[x]? := fun x hx hn=>hgr.block x hx fun e=>hn (by cases e;rfl)
 have hmb:mb < w0.heap.size:=hnew mb (.inr (.inl rfl))
 have hne:∀ a ∈ L,a.ino ≠ n.ino:=fun a ha e=>by
  have:=hasK_not.1 hk a ha
  exact this e
 have hgk:gOf (D.put (ky n.ino) (.held g)) n.ino=g:=gOf_put h.is.tidy.isMap _ _
 have hsp:∀ a ∈ L ++ [n],a ∈ L ∨ a=n:=fun a ha=>by
  rcases List.mem_append.1 ha with h1 | h1
  . exact .inl h1
  . exact .inr (List.mem_singleton.1 h1)
 refine ⟨⟨(hbk sb (hlt sb (.inl rfl)) h.sb_mb).trans h.box.row⟩,owns_exact ho,?_,fun a ha => ?_,fun a ha b hb hab x => ?_,fun a ha => ?_,Nat.le_trans h.top hgr.size,h.lo.1,h.lo.2.1,fun a ha => ?_⟩
 . rw [<- upd_hasK_add]
   refine h.is.put hk hl fun j hj e => ?_
   obtain ⟨a,ha,rfl⟩:=hasK_iff.1 hj;have:=hnew _ (.inr (.inr ⟨a,ha,.inl rfl⟩))
   omega
 . rcases hsp a ha with h1 | rfl
   . obtain ⟨fp',dp',h2,h3⟩:=h.node a h1;rw [gOf_put_other _ (hne a h1),if_neg (hne a h1)]
     exact ⟨fp',dp',⟨(hbk _ (hlt _ (.inr (.inr ⟨a,h1,.inl rfl⟩))) (h.mb_g h1)).trans h2.row⟩,h3.same fun x hx=>hbk x (hlt x (.inr (.inr ⟨a,h1,.inr hx⟩))) (h.F_ne h1 hx).2.1⟩
   . rw [hgk,if_pos rfl]
     refine ⟨fp,dp,⟨(hbk g hB.lt (by omega)).trans hB.row⟩,hbd.same fun x hx=>hbk x ?_ (by have:=hFn x hx;omega)⟩
     obtain ⟨o,ho',_⟩:=hbd.isP hx
     exact (Array.getElem?_eq_some_iff.1 ho').1
 . rcases hsp a ha with h1 | rfl
   . rw [if_neg (hne a h1)]
     rcases hsp b hb with h2 | rfl
     . rw [if_neg (hne b h2)];exact h.apart a h1 b h2 hab x
     . rw [if_pos rfl]
       intro hx hx'
       have h3:=hnew x (.inr (.inr ⟨a,h1,.inr hx⟩));have h4:=hFn x hx'
       omega
   . rw [if_pos rfl]
     rcases hsp b hb with h2 | rfl
     . rw [if_neg (hne b h2)]
       intro hx hx'
       have h3:=hnew x (.inr (.inr ⟨b,h2,.inr hx'⟩));have h4:=hFn x hx
       omega
     . exact absurd rfl hab
 . rcases hsp a ha with h1 | rfl
   . rw [if_neg (hne a h1)];exact h.out a h1
   . rw [if_pos rfl]
     intro hx
     have:=hFn mb hx
     omega
 . rcases hsp a ha with h1 | rfl
   . rw [gOf_put_other _ (hne a h1),if_neg (hne a h1)];exact h.lo.2.2 a h1
   . rw [hgk,if_pos rfl];exact ⟨hg,hF⟩
end
def Boxes (w:World) (D:DataW Nat) (L:List Nd) (B:Nat->Nat):Prop:=∀ n ∈ L,n.kind=2->∃ cs,Blk w (gOf D n.ino) 179 cs/\cs[4]? = some (.pointer (some ⟨B n.ino,0,none⟩))
def StoreB (hi:Lo) (w:World) (sb:Nat) (s:SS) (B:Nat->Nat):Prop:=∃ mb D Fs,StoreM hi w sb mb D Fs s.L s.most s.bl s.next/\Boxes w D s.L B
section
variable {hi : Lo} {sb mb:Nat} {w w':World} {D:DataW Nat} {Fs:Nat->Nat->Prop} {L:List Nd} {most bl next:Int} {s:SS} {B:Nat->Nat}
theorem StoreB.at (h:StoreB hi w sb s B):StoreAt hi w sb s:=by
 obtain ⟨mb,D,Fs,h,_⟩:=h
 exact ⟨mb,D,Fs,h⟩
theorem StoreM.boxes (h:StoreM hi w sb mb D Fs L most bl next):∃ B,Boxes w D L B:=by
 have key:∀ k:Nat,∃ b:Nat,∀ n ∈ L,n.ino=k->n.kind=2->∃ cs,Blk w (gOf D n.ino) 179 cs/\cs[4]? = some (.pointer (some ⟨b,0,none⟩)):=fun k=>by
  by_cases hk:∃ n ∈ L,n.ino=k/\n.kind=2
  . obtain ⟨n,hn,rfl,h2⟩:=hk;obtain ⟨fp,dp,h1,hb⟩:=h.node n hn
    rcases hb with ⟨h3,_⟩ | ⟨_,_,_,db,h4,_⟩ | h7
    . omega
    . refine ⟨db,fun m _ e _=>⟨_,by rw [e];exact h1,by rw [h4];rfl⟩⟩
    . exact absurd h2 h7.2.1
  . exact ⟨0,fun n hn e h2=>absurd ⟨n,hn,e,h2⟩ hk⟩
 exact ⟨fun k=>(key k).choose,fun n hn h2=>(key n.ino).choose_spec n hn rfl h2⟩
theorem StoreAt.boxes (h:StoreAt hi w sb s):∃ B,StoreB hi w sb s B:=by
 obtain ⟨mb,D,Fs,h⟩:=h;obtain ⟨B,hB⟩:=h.boxes
 exact ⟨B,mb,D,Fs,h,hB⟩
theorem Boxes.same (h:Boxes w D L B) (hs:∀ n ∈ L,w'.heap[gOf D n.ino]? = w.heap[gOf D n.ino]?):Boxes w' D L B:=fun n hn hk=>by
 obtain ⟨cs,h1,h2⟩:=h n hn hk
 exact ⟨cs,⟨(hs n hn).trans h1.row⟩,h2⟩
theorem StoreB.on (h:StoreB hi w sb s B) (hb:Below w.heap.size w w'):StoreB hi w' sb s B:=by
 obtain ⟨mb,D,Fs,h,h2⟩:=h
 exact ⟨mb,D,Fs,h.on hb,fun n hn hk=>by
  obtain ⟨cs,h3,h4⟩:=h2 n hn hk
  exact ⟨cs,h3.on hb,h4⟩⟩
theorem StoreB.turns {q:Obj->Bool} {hi':Lo} (h:StoreB hi w sb s B) (ht:Turns q hi' w w') (hq:∀ o,Go.Proofs.YthlaoaaafafafaaGreat.isP o=true->q o=false):StoreB hi w' sb s B:=by
 obtain ⟨mb,D,Fs,h,h2⟩:=h
 refine ⟨mb,D,Fs,h.turns ht hq,fun n hn hk => ?_⟩
 obtain ⟨cs,h3,h4⟩:=h2 n hn hk
 exact ⟨cs,ht.blk h3 fun a f=>hq _ (by simp [Go.Proofs.YthlaoaaafafafaaGreat.isP]),h4⟩
end
end Go.Proofs.YthlaoaaafafafaaGreat
