/- Ours. -/
import Derived.Test.YthlaoaaafafafaaGreatF7
import Derived.Test.YthlaoaaafafafaaGreatF5
set_option maxRecDepth 100000
set_option maxHeartbeats 16000000
namespace Go.Proofs.YthlaoaaafafafaaGreat
open Go Go.RowKit Go.Maps
def bareN (n:Nd):Nd:={ n with par:=0 }
structure SameB (s s':SS):Prop where
 most:s.most=s'.most
 tot:s.tot=s'.tot
 next:s.next=s'.next
 list:s.L.map bareN=s'.L.map bareN
theorem SameB.symm {s s':SS} (h:SameB s s'):SameB s' s:=⟨h.most.symm,h.tot.symm,h.next.symm,h.list.symm⟩
theorem SameB.mem {s s':SS} (h:SameB s s') {n:Nd} (hn:n ∈ s'.L):∃ m ∈ s.L,m.ino=n.ino/\m.kind=n.kind/\m.links=n.links/\m.holds=n.holds/\m.f=n.f/\m.tgt=n.tgt/\m.ds=n.ds:=by
 have:bareN n ∈ s.L.map bareN:=by rw [h.list];exact List.mem_map_of_mem hn
 obtain ⟨m,hm,e⟩:=List.mem_map.1 this;unfold bareN at e
 simp only [Nd.mk.injEq] at e
 exact ⟨m,hm,e.1,e.2.1,e.2.2.1,e.2.2.2.1,e.2.2.2.2.2.1,e.2.2.2.2.2.2.1,e.2.2.2.2.2.2.2⟩
theorem sumB_bare (L:List Nd):sumB (L.map bareN)=sumB L:=by
 induction L with
 | nil=>rfl
 | cons a r ih=>simp only [List.map_cons,sumB,ih];rfl
theorem SameB.bl {s s':SS} (h:SameB s s'):s'.bl=s.bl:=by
 unfold SS.bl;rw [<- h.tot,<- sumB_bare s'.L,<- h.list,sumB_bare]
theorem SameB.has {s s':SS} (h:SameB s s'):hasK s'.L=hasK s.L:=by
 funext k
 rw [Bool.eq_iff_iff,hasK_iff,hasK_iff]
 constructor
 . rintro ⟨n,hn,rfl⟩;obtain ⟨m,hm,e,_⟩:=h.mem hn
   exact ⟨m,hm,e⟩
 . rintro ⟨n,hn,rfl⟩;obtain ⟨m,hm,e,_⟩:=h.symm.mem hn
   exact ⟨m,hm,e⟩
theorem StoreB.bare {hi:Lo} {w:World} {sb:Nat} {s s':SS} {B:Nat->Nat} (h:StoreB hi w sb s B) (hs:SameB s s'):StoreB hi w sb s' B:=by
 obtain ⟨mb,D,Fs,h,hB⟩:=h
 refine ⟨mb,D,Fs,⟨?_,h.map,?_,fun n hn => ?_,fun a ha b hb hne => ?_,fun n hn => ?_,h.top,h.lo.1,h.lo.2.1,fun n hn => ?_⟩,fun n hn hk => ?_⟩
 . rw [<- hs.most,<- hs.next,hs.bl];exact h.box
 . rw [hs.has];exact h.is
 . obtain ⟨m,hm,e1,e2,e3,e4,e5,e6,e7⟩:=hs.mem hn;obtain ⟨fp,dp,h1,h2⟩:=h.node m hm;rw [<- e1]
   refine ⟨fp,dp,?_,h2.of e2.symm e5.symm e7.symm⟩
   unfold ndC at h1 ⊢;rw [<- e2,<- e3,<- e4,<- e6];exact h1
 . obtain ⟨a',ha',e1,_⟩:=hs.mem ha;obtain ⟨b',hb',e2,_⟩:=hs.mem hb;rw [<- e1,<- e2] at hne ⊢
   exact h.apart a' ha' b' hb' hne
 . obtain ⟨m,hm,e1,_⟩:=hs.mem hn;rw [<- e1];exact h.out m hm
 . obtain ⟨m,hm,e1,_⟩:=hs.mem hn;rw [<- e1];exact h.lo.2.2 m hm
 . obtain ⟨m,hm,e1,e2,_⟩:=hs.mem hn
   rw [<- e1];exact hB m hm (by rw [e2];exact hk)
theorem FsAt.bare {n fb c:Nat} {w:World} {s s':SS} {U:Int->Int} (h:FsAt n w fb c s U) (hs:SameB s s'):FsAt n w fb c s' U:=by
 obtain ⟨sb,ub,B,h⟩:=h
 exact ⟨sb,ub,B,h.box,h.store.bare hs,h.up,h.lo⟩
def rootN : Nd:=⟨1,2,0,1,1,St.no,ByteArray.empty,[]⟩
def newF (a b:Nat):SS:=⟨[rootN],a,b,2⟩
def newU : Int->Int:=updU (fun _=>0) 1 1
theorem wf_newF {a b:Nat} (h:1<=a/\a<=256/\b<=4096):Wf (newF a b) 1:=by
 have hr:∀ {P:Nd->Prop},P rootN->∀ n ∈ (newF a b).L,P n:=fun hp n hn=>by
  rw [List.mem_singleton.1 hn];exact hp
 refine ⟨List.pairwise_singleton _ _,hr (P:=fun n=>1<=n.ino/\n.ino < 2) ⟨by decide,by decide⟩,⟨show 1<=2 by decide,show 2<=2 by decide⟩,h.2.1,h.1,h.2.2,?_,hr (by decide),hr (by decide),hr (by decide),hr (by decide),hr (by decide),hr (fun _=>rfl),hr (by decide),hr (by decide)⟩
 have h0:rootN.f.blocks=0:=St.no_blocks
 have:sumB (newF a b).L=0:=by simp only [newF,sumB,h0]
 rw [this];exact Nat.zero_le _
theorem tree_newF (a b:Nat):Tree (newF a b):=by
 have hr:∀ {P:Nd->Prop},P rootN->∀ n ∈ (newF a b).L,P n:=fun hp n hn=>by
  rw [List.mem_singleton.1 hn];exact hp
 refine ⟨⟨rootN,List.mem_singleton.2 rfl,rfl,rfl,rfl,by decide,rfl⟩,hr List.Pairwise.nil,hr (fun h=>absurd rfl h),hr (fun e he=>by cases he),hr rfl,hr (fun _=>by decide),⟨fun _=>0,fun x p h => ?_⟩,hr (fun h=>absurd rfl h)⟩
 obtain ⟨n,hn,_,_,h3,_⟩:=up1_mem h;rw [List.mem_singleton.1 hn] at h3
 exact absurd h3 (by decide)
theorem agree_newF (a b:Nat):Agree (newF a b) newU:=fun m hm _ _=>by
 rw [List.mem_singleton.1 hm];rfl
theorem same_newF {a b:Nat} (h:1<=a):SameB (makeS (newS a b) 2 ByteArray.empty) (newF a b):=by
 have he:makeE (newS a b) 2 ByteArray.empty=0:=by
  unfold makeE
  rw [if_neg (by decide),if_neg (by show ¬ a<=0;omega)]
 have e:makeS (newS a b) 2 ByteArray.empty=(newS a b).add (freshN 1 2 ByteArray.empty):=by unfold makeS;rw [he];rfl
 rw [e]
 exact ⟨rfl,rfl,rfl,rfl⟩
def NewPost (a b:Nat) (w:World) (e:Ending) (w':World):Prop:=∃ fb,e=.returned (ptr fb)/\FsAt w.heap.size w' fb 1 (newF a b) newU/\Below w.heap.size w w'
theorem new7 (a b:Nat) (w:World) (h:1<=a/\a<=256/\b<=4096):Calls Tryz.prog 19 #[.int .i64 a,.int .i64 b] w (NewPost a b w):=by
 have c1:=empty_yes a b w h
 have HM:Hid (∀ w1 sb,StoreAt (.up w.heap.size) w1 sb (newS a b)->Below w.heap.size w w1->Calls Tryz.prog 41 #[ptr sb,.int .i64 2,.string ⟨#[]⟩] w1 fun e w2=>(∃ r,e=.returned r)/\∃ w3,(Instr.mapUpdate 101 (.map (some w2.heap.size)) (.int .i64 1) (.int .i64 1)).run Tryz.prog (w2.alloc (.map #[] 0))=.ok () w3/\NewPost a b w (.returned (ptr w3.heap.size)) (w3.alloc (.cells #[ptr sb,.map (some w2.heap.size)] 103))):=fun w1 sb h1 hb=>by
  obtain ⟨B,h2⟩:=h1.boxes
  refine (make_any7 h2 (wf_new h.2.1 h.2.2) (by omega) 2 ByteArray.empty (by decide)).mono ?_
  rintro e w2 ⟨rfl,⟨B',h3,_⟩,h4⟩
  refine ⟨⟨_,rfl⟩,?_⟩
  have h5:=h3.bare (same_newF h.1);have hb2:=h4.below hb (Nat.le_refl _) hb.size
  have hU:UpM (w2.alloc (.map #[] 0)) w2.heap.size 0 fun _=>0:=⟨_,World.ownsMap_made w2 _ _ _,fun x=>rfl⟩
  obtain ⟨w3,h6,h7,h8⟩:=hU.put (by omega) (x:=1) (v:=1) (by decide) (by decide)
  have hal:=on_alloc w2 (.map #[] 0);have hb3:=on_alloc w3 (.cells #[ptr sb,.map (some w2.heap.size)] 103)
  have hsz:w2.heap.size+1<=w3.heap.size:=by
   have:=h8.size
   simpa using this
  have hkeep:∀ x,x < w2.heap.size->w3.heap[x]? = w2.heap[x]? := fun x hx=>(h8.block x (by simp;omega) fun e=>by cases e;omega).trans (hal.block x hx)
  refine ⟨w3,h6,_,rfl,⟨sb,w2.heap.size,B',Blk.new w3 _ [_,_],StoreB.on ?_ hb3,h7.on hb3,hb2.size⟩,?_⟩
  . obtain ⟨mb,D,Fs,h10,h11⟩:=h5
    have hlt:∀ x,sfoot sb mb D Fs (newF a b).L x->x < w2.heap.size:=fun x hx=>by
     obtain ⟨_,o,ho,_⟩:=h10.isP hx
     exact (Array.getElem?_eq_some_iff.1 ho).1
    have hok:∀ x,sfoot sb mb D Fs (newF a b).L x->(Lo.but w.heap.size w2.heap.size).ok x:=fun x hx=>⟨(h10.isP hx).1,by have:=hlt x hx;omega⟩
    have k:=h10.same (w':=w3) (by omega) fun x hx=>hkeep x (hlt x hx)
    refine ⟨mb,D,Fs,⟨k.box,k.map,k.is,k.node,k.apart,k.out,?_,hok _ (.inl rfl),hok _ (.inr (.inl rfl)),fun n hn=>⟨hok _ (.inr (.inr ⟨n,hn,.inl rfl⟩)),fun x hx=>hok x (.inr (.inr ⟨n,hn,.inr hx⟩))⟩⟩,h11.same fun n hn=>hkeep _ (hlt _ (.inr (.inr ⟨n,hn,.inl rfl⟩)))⟩
    show max w.heap.size (w2.heap.size+1)<=w3.heap.size
    have:=hb2.size
    omega
  . exact on_trans ⟨h8.os.trans (hal.os.trans hb2.os),h8.tape.trans (hal.tape.trans hb2.tape),h8.output.trans (hal.output.trans hb2.output),by have:=hb2.size;omega,fun x hx=>(hkeep x (Nat.lt_of_lt_of_le hx hb2.size)).trans (hb2.block x hx)⟩ hb3
 generalize NewPost a b w=Post at *;clear h;go_enter Tryz.func19,Tryz.ntmps19;go_wp2_with fail;refine c1.mono ?_;rintro e w1 ⟨sb,rfl,h1,hb⟩;have c2:=HM.out w1 sb h1 hb;clear h1 HM c1 hb;go_wp2_with fail;refine c2.mono ?_;rintro e w2 ⟨⟨r,rfl⟩,w3,hup,hfin⟩;have hmm:=@run_makeMap Tryz.prog;clear c2;go_wp2
 exact hfin
end Go.Proofs.YthlaoaaafafafaaGreat
