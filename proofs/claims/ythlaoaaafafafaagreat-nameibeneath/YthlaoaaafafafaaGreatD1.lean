/- Ours. -/
import Derived.Test.YthlaoaaafafafaaGreatC7
set_option maxRecDepth 100000
set_option maxHeartbeats 16000000
namespace Go.Proofs.YthlaoaaafafafaaGreat
open Go Go.RowKit
def EntM (w:World) (v:Value) (ds:List IEnt):Prop:=∃ l:List IEnt,ds.Perm l/\Row 0 92 w v l
theorem EntM.slice {w:World} {v:Value} {ds:List IEnt} (h:EntM w v ds):∃ p c,v=.slice p ds.length c:=by
 obtain ⟨l,h1,h2⟩:=h;rw [h1.length_eq]
 rcases h2.2 with ⟨h3,h4⟩ | ⟨g,cap,cur,h3,_⟩
 . exact ⟨none,0,by rw [h3,h4]⟩
 . exact ⟨_,cap,h3⟩
theorem EntM.nil (w:World):EntM w (.slice none 0 0) []:=⟨[],.refl _,World.ownsRow_nil _ _ _ _⟩
theorem EntM.turns {q:Obj->Bool} {hi:Lo} {w w':World} {v:Value} {ds:List IEnt} (h:EntM w v ds) (ht:Turns q hi w w') (hq:∀ a t f,isR (.cells a t f)=false->isP (.cells a t f)=false->q (.cells a t f)=false):EntM w' v ds:=by
 obtain ⟨l,h1,h2⟩:=h
 exact ⟨l,h1,ht.rowS h2 fun a f=>hq a _ f rfl rfl⟩
def RB (w:World) (b:Nat) (cs:List Value):Prop:=∃ t,(t=77 ∨ t=79)/\Blk w b t cs
section
variable {w w':World} {b:Nat} {cs:List Value}
theorem RB.lt (h:RB w b cs):b < w.heap.size:=by
 obtain ⟨t,_,h⟩:=h
 exact h.lt
theorem RB.cell (h:RB w b cs) (i:Nat) {v:Value} (hi:cs[i]? = some v):w.cell? ⟨b,i,none⟩=some v:=by
 obtain ⟨t,_,h⟩:=h
 exact h.cell i hi
theorem RB.free (h:RB w b cs) (k:Nat):w.frozen? ⟨b,k,none⟩=false:=by
 obtain ⟨t,_,h⟩:=h
 exact h.free k
theorem RB.on (h:RB w b cs) (hb:Below w.heap.size w w'):RB w' b cs:=by
 obtain ⟨t,h0,h⟩:=h
 exact ⟨t,h0,h.on hb⟩
theorem RB.but {c:Nat} (h:RB w c cs) (k:But b w w') (hne:c ≠ b):RB w' c cs:=by
 obtain ⟨t,h0,h⟩:=h
 exact ⟨t,h0,h.but k hne⟩
theorem RB.set (h:RB w b cs) (i:Nat) (v:Value):RB (w.setCell ⟨b,i,none⟩ v) b (cs.set i v):=by
 obtain ⟨t,h0,h⟩:=h
 exact ⟨t,h0,h.set i v⟩
theorem RB.turn {hi:Nat} (h:RB w b cs) (hb:But b w w') (hl:hi<=b):Turns isR (.up hi) w w':=by
 obtain ⟨t,h0,h⟩:=h
 exact Turns.of_but hb h.row (by rcases h0 with rfl | rfl <;> simp [isR]) hl
theorem RB.turns {q:Obj->Bool} {hi:Lo} (h:RB w b cs) (ht:Turns q hi w w') (hq:∀ o,isP o=false->q o=false):RB w' b cs:=by
 obtain ⟨t,h0,h⟩:=h
 exact ⟨t,h0,ht.blk h fun a f=>hq _ (by rcases h0 with rfl | rfl <;> rfl)⟩
theorem RB.grow {hi:Nat} (h:RB w b cs) (hg:RowGrow hi 74 w w'):RB w' b cs:=by
 obtain ⟨t,h0,h⟩:=h
 exact ⟨t,h0,hg.blk h (by rcases h0 with rfl | rfl <;> decide)⟩
theorem RB.node {g:Nat} {ca:Array Value} {fr:Nat × Nat} (h:RB w b cs) (hg:w.heap[g]? = some (.cells ca 74 fr)):g ≠ b:=fun e=>by
 obtain ⟨t,h0,h⟩:=h;rw [e,h.row] at hg
 rcases h0 with rfl | rfl <;> simp at hg
end
structure RN where
 n:Nd
 vB:Value
 vH:Value
 vL:Value
def RN.cells (x:RN):List Value:=[.int .i64 x.n.ino,.int .i64 x.n.kind,.int .i64 x.n.links,.int .i64 x.n.holds,.int .i64 x.n.par,x.vB,x.vH,.string x.n.tgt,x.vL]
def rcells (Q:List RN):List Value:=Q.flatMap RN.cells
theorem rcells_len (Q:List RN):(rcells Q).length=Q.length * 9:=by
 induction Q with
 | nil=>rfl
 | cons x r ih=>simp only [rcells,List.flatMap_cons,List.length_append,List.length_cons] at *;rw [ih];simp [RN.cells];omega
theorem rcells_get {Q:List RN} {k i:Nat} (hk:k < Q.length) (hi:i < 9):(rcells Q)[k * 9+i]? = (Q[k].cells)[i]? := by
 induction Q generalizing k with
 | nil=>simp at hk
 | cons x r ih =>
  simp only [rcells,List.flatMap_cons]
  have hx:x.cells.length=9:=rfl
  cases k with
  | zero=>rw [List.getElem?_append_left (by omega)];simp
  | succ k =>
   rw [List.getElem?_append_right (by omega),hx,show (k+1) * 9+i - 9=k * 9+i by omega]
   exact ih (by simpa using hk)
theorem rcells_set {Q:List RN} {k i:Nat} (hk:k < Q.length) (hi:i < 9) (v:Value) (y:RN) (hy:y.cells=Q[k].cells.set i v):(rcells Q).set (k * 9+i) v=rcells (Q.set k y):=by
 induction Q generalizing k with
 | nil=>simp at hk
 | cons x r ih =>
  have hx:x.cells.length=9:=rfl
  cases k with
  | zero =>
   simp only [rcells,List.flatMap_cons,List.set_cons_zero]
   rw [List.set_append_left _ _ (by omega),hy]
   simp
  | succ k =>
   simp only [rcells,List.flatMap_cons,List.set_cons_succ]
   rw [List.set_append_right _ _ (by omega),hx,show (k+1) * 9+i - 9=k * 9+i by omega]
   congr 1
   exact ih (by simpa using hk) (by simpa using hy)
theorem rcells_append (a b:List RN):rcells (a ++ b)=rcells a ++ rcells b:=List.flatMap_append
theorem rcells_take : ∀ (Q:List RN) (k:Nat),(rcells Q).take (k * 9)=rcells (Q.take k)
 | [],k=>by simp [rcells]
 | x :: l,0=>by simp [rcells]
 | x :: l,k+1=>by
  have hx:x.cells.length=9:=rfl;have:=rcells_take l k
  simp only [rcells,List.flatMap_cons,List.take_succ_cons] at *
  rw [List.take_append,hx,show (k+1) * 9 - 9=k * 9 by omega,this,List.take_of_length_le (by omega)]
theorem rcells_drop : ∀ (Q:List RN) (k:Nat),(rcells Q).drop (k * 9)=rcells (Q.drop k)
 | [],k=>by simp [rcells]
 | x :: l,0=>by simp [rcells]
 | x :: l,k+1=>by
  have hx:x.cells.length=9:=rfl;have:=rcells_drop l k
  simp only [rcells,List.flatMap_cons,List.drop_succ_cons] at *
  rw [List.drop_append,hx,show (k+1) * 9 - 9=k * 9 by omega,this,List.drop_of_length_le (by omega),List.nil_append]
structure RNodeAt (w:World) (x:RN):Prop where
 file:∃ B H,Rel x.n.f B H/\OwnV 0 5 w x.vB (bytesV B)/\OwnV 0 4 w x.vH (boolsV H)
 ents:EntM w x.vL x.n.ds
structure RefM (hi:Nat) (w:World) (rb:Nat) (rv:Value) (Q:List RN) (next most tot:Int):Prop where
 box:RB w rb [rv,.int .i64 next,.int .i64 most,.int .i64 tot]
 row:w.ownsRow hi 74 9 rv Q.length (rcells Q)
 node:∀ x ∈ Q,RNodeAt w x
 lo:hi<=rb
def RefAt6 (hi:Nat) (w:World) (rb:Nat) (s:SS):Prop:=∃ rv Q,Q.map RN.n=s.L/\RefM hi w rb rv Q s.next s.most s.tot
section
variable {q : Obj->Bool} {hi rb:Nat} {hi':Lo} {w w':World} {rv:Value} {Q:List RN} {next most tot:Int} {x:RN}
theorem RNodeAt.turns (h:RNodeAt w x) (ht:Turns q hi' w w') (hq:∀ a t f,isR (.cells a t f)=false->isP (.cells a t f)=false->q (.cells a t f)=false):RNodeAt w' x:=by
 obtain ⟨B,H,h1,h2,h3⟩:=h.file
 exact ⟨⟨B,H,h1,ht.rowS h2 fun a f=>hq _ _ _ rfl rfl,ht.rowS h3 fun a f=>hq _ _ _ rfl rfl⟩,h.ents.turns ht hq⟩
theorem RNodeAt.on (h:RNodeAt w x) (hb:Below w.heap.size w w'):RNodeAt w' x:=h.turns (q:=fun _=>false) (hi':=.up 0) (.on hb) fun _ _ _ _ _=>rfl
theorem RefM.turns (h:RefM hi w rb rv Q next most tot) (ht:Turns q hi' w w') (hq:∀ o,isP o=false->q o=false):RefM hi w' rb rv Q next most tot :=
 ⟨h.box.turns ht hq,ht.rowS h.row fun _a _f=>hq _ rfl,fun x hx=>(h.node x hx).turns ht fun _ _ _ _ h=>hq _ h,h.lo⟩
theorem RefM.on (h:RefM hi w rb rv Q next most tot) (hb:Below w.heap.size w w'):RefM hi w' rb rv Q next most tot:=h.turns (q:=fun _=>false) (hi':=.up 0) (.on hb) fun _ _=>rfl
theorem RefAt6.turns {s:SS} (h:RefAt6 hi w rb s) (ht:Turns isP hi' w w'):RefAt6 hi w' rb s:=by
 obtain ⟨rv,Q,e,h⟩:=h
 exact ⟨rv,Q,e,h.turns ht fun _ h=>h⟩
theorem RefAt6.on {s:SS} (h:RefAt6 hi w rb s) (hb:Below w.heap.size w w'):RefAt6 hi w' rb s:=by
 obtain ⟨rv,Q,e,h⟩:=h
 exact ⟨rv,Q,e,h.on hb⟩
theorem RefM.place (h:RefM hi w rb rv Q next most tot) {k:Nat} (hk:k < Q.length):∃ g cap,rv=.slice (some ⟨g,0,none⟩) Q.length cap/\hi<=g/\g < w.heap.size/\g ≠ rb/\∀ i,i < 9->∀ v,(Q[k].cells)[i]? = some v->w.cell? ⟨g,k * 9+i,none⟩=some v:=by
 have hr:=h.row
 rcases h.row.2 with ⟨_,h1⟩ | ⟨g,cap,cur,rfl,hb,hg,hc,hm,hs,ht⟩
 . omega
 . refine ⟨g,cap,rfl,hb,(Array.getElem?_eq_some_iff.1 hg).1,fun e => ?_,fun i hi v hv => ?_⟩
   . exact h.box.node hg e
   . obtain ⟨cs,hB,hcl,hn,_,_,htk⟩:=rowS_blk hr
     refine hB.cell (k * 9+i) ?_
     rw [<- rcells_get hk hi,<- htk,List.getElem?_take_of_lt (by omega)] at hv
     exact hv
theorem RefM.slice (h:RefM hi w rb rv Q next most tot):∃ p cap,rv=.slice p Q.length cap:=by
 obtain ⟨p,cap,e,_⟩:=rowS_at h.row
 exact ⟨p,cap,e⟩
end
theorem ix_map {Q:List RN} {L:List Nd} (e:Q.map RN.n=L):Q.length=L.length:=by rw [<- e];simp
theorem map_get {Q:List RN} {L:List Nd} (e:Q.map RN.n=L) {i:Nat} (h:i < Q.length) (h':i < L.length):Q[i].n=L[i]:=by subst e;simp
def ixZ (L:List Nd) (x:Int):Int:=match ix L x with | none => -1 | some i=>(i:Int)
theorem ixZ_from {L:List Nd} {x:Int} {k:Nat} (hk:k < L.length) (hb:∀ j,(h:j < k)->((L[j]'(by omega)).ino:Int) ≠ x) (he:((L[k].ino:Nat):Int)=x):ixZ L x=(k:Int):=by
 have:ix L x=some k:=List.findIdx?_eq_some_iff_getElem.2 ⟨hk,by simpa using he,fun j hj=>by simpa using hb j hj⟩
 unfold ixZ;rw [this]
theorem ixZ_none {L:List Nd} {x:Int} (hb:∀ j,(h:j < L.length)->((L[j]).ino:Int) ≠ x):ixZ L x = -1:=by
 have:ix L x=none:=List.findIdx?_eq_none_iff.2 fun n hn=>by
  obtain ⟨j,hj,rfl⟩:=List.getElem_of_mem hn
  simpa using hb j hj
 unfold ixZ;rw [this]
theorem ixZ_look_some {s:SS} {x:Int} {i:Nat} {n:Nd} (h:look s x=some (i,n)):ixZ s.L x=(i:Int):=by
 obtain ⟨_,_,_,h1⟩:=look_some h;unfold ixZ;rw [h1]
theorem ixZ_look_none {s:SS} {x:Int} (h:look s x=none):ixZ s.L x = -1:=by
 unfold ixZ;rw [(look_none h).1]
theorem rat_any {hi rb:Nat} {w:World} {s:SS} (h:RefAt6 hi w rb s) (x:Int) (hl:s.L.length<=1000000):Calls Tryz.prog 29 #[ptr rb,.int .i64 x] w fun e w'=>e=.returned (.int .i64 (ixZ s.L x))/\w'=w:=by
 obtain ⟨rv,Q,eQ,h⟩:=h;have hQ:=ix_map eQ;have HE:Hid (Q.map RN.n=s.L):=eQ;have HR:Hid (RefM hi w rb rv Q s.next s.most s.tot):=h;have x0:=h.box.cell 0 rfl;obtain ⟨p,cap,rfl⟩:=h.slice;rw [hQ] at x0;obtain ⟨r,hr⟩:∃ r,Hid (ixZ s.L x=r):=⟨_,rfl⟩;rw [hr.out];clear h eQ;go_enter Tryz.func29,Tryz.ntmps29;go_wp2
 go_loop [5] (fun iv => ∃ k:Nat,k<=s.L.length/\iv=.int .i64 k/\Hid (∀ j,(h:j < s.L.length)->j < k->(s.L[j].ino:Int) ≠ x)) (fun iv=>s.L.length - (intOf iv).toNat)
 case atStart=>exact ⟨0,Nat.zero_le _,rfl,fun j _ h=>by omega⟩
 case round =>
  obtain ⟨k,hk,rfl,HB⟩:=hrel
  by_cases hlt:k < s.L.length
  . have hltz:(k:Int) < (s.L.length:Int):=by omega
    obtain ⟨g,cap',e,_,_,_,hc⟩:=HR.out.place (k:=k) (by omega)
    cases e
    have c0:=hc 0 (by omega) _ rfl
    rw [show (Q[k]'(by omega)).n.ino=s.L[k].ino by rw [map_get HE.out (by omega) hlt]] at c0
    simp only [Nat.add_zero] at c0
    clear hc
    by_cases hx:(s.L[k].ino:Int)=x
    . have HZ:Hid ((k:Int)=r):=by rw [<- hr.out];exact (ixZ_from hlt (fun j hj=>HB.out j (by omega) hj) hx).symm
      have hxb:((s.L[k].ino:Int) == x)=true:=by simpa using hx
      go_wp2
      go_ret
      exact ⟨by rw [HZ.out];rfl,rfl⟩
    . have HB2:Hid (∀ j,(h:j < s.L.length)->j < k+1->(s.L[j].ino:Int) ≠ x):=fun j hj hjk=>by
       by_cases e:j=k
       . subst e;exact hx
       . exact HB.out j hj (by omega)
      go_wp2
      go_round
      case rel=>exact ⟨k+1,by omega,by go_num,HB2⟩
      case measure=>simp [intOf];omega
  . obtain rfl:k=s.L.length:=by omega
    have hltz:¬ (s.L.length:Int) < (s.L.length:Int):=by omega
    have HZ:Hid ((-1:Int)=r):=by rw [<- hr.out];exact (ixZ_none fun j hj=>HB.out j hj hj).symm
    go_wp2
    go_ret
    exact ⟨by rw [HZ.out];rfl,rfl⟩
theorem RNodeAt.slices {w:World} {x:RN} (h:RNodeAt w x):∃ p c q d B H,x.vB=.slice p (B:List UInt8).length c/\x.vH=.slice q (H:List Bool).length d/\Rel x.n.f B H/\At w p (bytesV B)/\At w q (boolsV H):=by
 obtain ⟨B,H,h1,h2,h3⟩:=h.file;obtain ⟨p,c,e1,a1,_⟩:=ownV_at h2;obtain ⟨q,d,e2,a2,_⟩:=ownV_at h3;rw [List.length_map] at e1 e2
 exact ⟨p,c,q,d,B,H,e1,e2,h1,a1,a2⟩
def newOk (n b:Int):Bool:=decide (1<=n) && decide (n<=256) && decide (0<=b) && decide (b<=4096)
theorem infoRS : (Tryz.prog.info? 77).map (·.size)=some 4:=by kernel_rfl
theorem rnew_any (n b:Int) (w:World):Calls Tryz.prog 42 #[.int .i64 n,.int .i64 b] w fun e w'=>e=.returned (.tuple #[.agg #[.slice none 0 0,.int .i64 1,.int .i64 n,.int .i64 b],.bool (newOk n b)])/\Below w.heap.size w w':=by
 have HB:Hid (Below w.heap.size w (w.alloc (.cells #[.slice none 0 0,.int .i64 1,.int .i64 n,.int .i64 b] 77))):=on_alloc w _;have HX:Hid (Blk (w.alloc (.cells #[.slice none 0 0,.int .i64 1,.int .i64 n,.int .i64 b] 77)) w.heap.size 77 [.slice none 0 0,.int .i64 1,.int .i64 n,.int .i64 b]):=Blk.new w _ [.slice none 0 0,.int .i64 1,.int .i64 n,.int .i64 b];have HN:Hid (newOk n b=(decide (1<=n) && decide (n<=256) && decide (0<=b) && decide (b<=4096))):=rfl;obtain ⟨r,hr⟩:∃ r,newOk n b=r:=⟨_,rfl⟩
 rw [hr] at HN ⊢;clear hr
 by_cases h1:1<=n
 . by_cases h2:n<=256
   . by_cases h3:0<=b
     . by_cases h4:b<=4096
       . have e:r=true:=by rw [HN.out];simp [h1,h2,h3,h4]
         subst e;go_enter Tryz.func42,Tryz.ntmps42;go_wp2
         exact bodyPost_ret (results_blkT (cs:=[.slice none 0 0,.int .i64 1,.int .i64 n,.int .i64 b]) Tryz.isAgg77 infoRS rfl _ _ rfl rfl HX.out) rfl ⟨rfl,HB.out⟩
       . have e:r=false:=by rw [HN.out];simp [h1,h2,h3,h4]
         subst e;go_enter Tryz.func42,Tryz.ntmps42;go_wp2
         exact bodyPost_ret (results_blkT (cs:=[.slice none 0 0,.int .i64 1,.int .i64 n,.int .i64 b]) Tryz.isAgg77 infoRS rfl _ _ rfl rfl HX.out) rfl ⟨rfl,HB.out⟩
     . have e:r=false:=by rw [HN.out];simp [h3]
       subst e;go_enter Tryz.func42,Tryz.ntmps42;go_wp2
       exact bodyPost_ret (results_blkT (cs:=[.slice none 0 0,.int .i64 1,.int .i64 n,.int .i64 b]) Tryz.isAgg77 infoRS rfl _ _ rfl rfl HX.out) rfl ⟨rfl,HB.out⟩
   . have e:r=false:=by rw [HN.out];simp [h2]
     subst e;go_enter Tryz.func42,Tryz.ntmps42;go_wp2
     exact bodyPost_ret (results_blkT (cs:=[.slice none 0 0,.int .i64 1,.int .i64 n,.int .i64 b]) Tryz.isAgg77 infoRS rfl _ _ rfl rfl HX.out) rfl ⟨rfl,HB.out⟩
 . have e:r=false:=by rw [HN.out];simp [h1]
   subst e;go_enter Tryz.func42,Tryz.ntmps42;go_wp2
   exact bodyPost_ret (results_blkT (cs:=[.slice none 0 0,.int .i64 1,.int .i64 n,.int .i64 b]) Tryz.isAgg77 infoRS rfl _ _ rfl rfl HX.out) rfl ⟨rfl,HB.out⟩
theorem refM_new {hi:Nat} {w:World} {rb n b:Nat} (h:RB w rb [.slice none 0 0,.int .i64 1,.int .i64 n,.int .i64 b]) (hl:hi<=rb):RefAt6 hi w rb (newS n b) :=
 ⟨.slice none 0 0,[],rfl,h,World.ownsRow_nil _ _ _ _,(fun x hx=>by cases hx),hl⟩
theorem rfile_any {hi rb:Nat} {w:World} {s:SS} (h:RefAt6 hi w rb s) (x:Int) (hl:s.L.length<=1000000):Calls Tryz.prog 107 #[ptr rb,.int .i64 x] w fun e w'=>e=.returned (.tuple #[.int .i64 (if fileE s x=0 then ixZ s.L x else 0),.int .i64 (fileE s x:Nat)])/\w'=w:=by
 have c:=rat_any h x hl;unfold fileE
 cases hx:look s x with
 | none =>
  rw [ixZ_look_none hx] at c;clear h hx;go_enter Tryz.func107,Tryz.ntmps107;go_wp2_with fail;refine c.mono ?_;rintro e w1 ⟨rfl,hw1⟩;subst w1;go_wp2
  go_ret2
  exact ⟨rfl,rfl⟩
 | some y =>
  obtain ⟨i,n⟩:=y;obtain ⟨hi',rfl,_,_⟩:=look_some hx;rw [ixZ_look_some hx] at c ⊢;obtain ⟨rv,Q,eQ,h⟩:=h;have hQ:=ix_map eQ
  obtain ⟨g,cap,rfl,_,_,_,hc⟩:=h.place (k:=i) (by omega)
  have x0:=h.box.cell 0 rfl
  have c1:=hc 1 (by omega) _ rfl
  rw [show (Q[i]'(by omega)).n.kind=s.L[i].kind by rw [map_get eQ (by omega) hi']] at c1
  rw [hQ] at x0
  have hiz:(i:Int) < (s.L.length:Int):=by omega
  have hiz2:¬ (i:Int) < 0:=by omega
  clear h hc hx eQ hQ
  show Calls _ _ _ _ fun e w'=>e=.returned (.tuple #[.int .i64 (if (if s.L[i].kind=1 then 0 else 22)=0 then (i:Int) else 0),.int .i64 ((if s.L[i].kind=1 then 0 else 22:Nat):Int)])/\w'=w
  generalize s.L[i].kind=k at *
  by_cases hk:k=1
  . subst hk;rw [if_pos rfl,if_pos rfl];go_enter Tryz.func107,Tryz.ntmps107;go_wp2_with fail;refine c.mono ?_;rintro e w1 ⟨rfl,hw1⟩;subst w1;go_wp2
    go_ret2
    exact ⟨rfl,rfl⟩
  . rw [if_neg hk,if_neg (by simp)]
    have hkz:¬ (k:Int)=1:=by omega
    generalize (k:Int)=kz at *;go_enter Tryz.func107,Tryz.ntmps107;go_wp2_with fail;refine c.mono ?_;rintro e w1 ⟨rfl,hw1⟩;subst w1;go_wp2
    go_ret2
    exact ⟨rfl,rfl⟩
theorem sumB_take {L:List Nd} {k:Nat} (h:k < L.length):sumB (L.take (k+1))=sumB (L.take k)+L[k].f.blocks:=by
 rw [List.take_add_one,List.getElem?_eq_getElem h,sumB_append]
 simp [sumB]
theorem sumB_take_le (L:List Nd) (k:Nat):sumB (L.take k)<=sumB L:=by
 conv=>rhs;rw [<- List.take_append_drop k L,sumB_append]
 omega
theorem rroom_any {hi rb c:Nat} {w:World} {s:SS} (h:RefAt6 hi w rb s) (hf:Wf s c):Calls Tryz.prog 108 #[ptr rb] w fun e w'=>e=.returned (.tuple #[.int .i64 ((s.most:Int) - (s.L.length:Int)),.int .i64 s.bl])/\Below w.heap.size w w':=by
 obtain ⟨rv,Q,eQ,h⟩:=h;have hQ:=ix_map eQ;have HE:Hid (Q.map RN.n=s.L):=eQ;have HR:Hid (RefM hi w rb rv Q s.next s.most s.tot):=h;have x3:=h.box.cell 3 rfl;have hm:=hf.most;have hro:=hf.room;have htot:=hf.tot
 have HSum:Hid (∀ k,sumB (s.L.take k)<=s.tot):=fun k=>Nat.le_trans (sumB_take_le _ _) hf.sum
 have HBL:Hid ((s.tot:Int) - (sumB (s.L.take s.L.length):Int)=s.bl):=by rw [List.take_length];rfl
 obtain ⟨p,cap,rfl⟩:=h.slice;generalize s.bl=bl at *;clear h eQ hf;go_enter Tryz.func108,Tryz.ntmps108;go_wp2
 go_loopw [4,5] (fun nv iv wr => ∃ k:Nat,k<=s.L.length/\iv=.int .i64 k/\nv=.int .i64 ((s.tot:Int) - (sumB (s.L.take k):Int))/\Hid (Below w.heap.size w wr)) (fun _ iv _=>s.L.length - (intOf iv).toNat)
 case atStart=>exact ⟨0,Nat.zero_le _,rfl,by simp [sumB],Below.refl _ _⟩
 case round =>
  obtain ⟨k,hk,rfl,rfl,HB⟩:=hrel;have hR:=HR.out.on HB.out;have x0:=hR.box.cell 0 rfl;have x2:=hR.box.cell 2 rfl;rw [hQ] at x0
  by_cases hlt:k < s.L.length
  . have hltz:(k:Int) < (s.L.length:Int):=by omega
    obtain ⟨g,cap',e,_,_,_,hc⟩:=hR.place (k:=k) (by omega)
    cases e
    obtain ⟨pB,cB,qH,dH,B,H,e1,e2,hRel,_,hH⟩:=(hR.node (Q[k]'(by omega)) (List.getElem_mem _)).slices
    have c5:=hc 5 (by omega) _ rfl
    have c6:=hc 6 (by omega) _ rfl
    rw [e1] at c5;rw [e2] at c6
    have cBl:=blocks_any pB qH cB dH B.length H wr (by have:=hRel.lenH;omega) hH
    have hfb:many H=s.L[k].f.blocks:=by rw [<- hRel.blocks,map_get HE.out (by omega) hlt]
    rw [hfb] at cBl;have hst:=sumB_take hlt;have h1:=HSum.out k;have h2:=HSum.out (k+1)
    have HN:Hid ((s.tot:Int) - (sumB (s.L.take k):Int) - (s.L[k].f.blocks:Int)=(s.tot:Int) - (sumB (s.L.take (k+1)):Int)):=show _=_ by omega
    have hbz:0<=(s.tot:Int) - (sumB (s.L.take k):Int) - (s.L[k].f.blocks:Int)/\(s.tot:Int) - (sumB (s.L.take k):Int) - (s.L[k].f.blocks:Int)<=4096:=by omega
    clear hc e1 e2 hRel hH hfb hst h1 h2 hR;generalize (s.tot:Int) - (sumB (s.L.take k):Int)=a at *;generalize (s.L[k].f.blocks:Int)=b at *;go_wp2_with fail;refine cBl.mono ?_;rintro e w2 ⟨rfl,hb2⟩;have HB2:Hid (Below w.heap.size w w2):=on_trans HB.out hb2;clear hb2 cBl HB;go_wp2;go_roundw
    case rel=>exact ⟨k+1,by omega,by go_num,by rw [HN.out],HB2⟩
    case measure=>simp [intOf];omega
  . obtain rfl:k=s.L.length:=by omega
    have hltz:¬ (s.L.length:Int) < (s.L.length:Int):=by omega
    rw [HBL.out];clear hR;go_wp2;go_quiet (fail);go_wp2
    go_ret2
    exact ⟨rfl,on_drewN HB.out _⟩
theorem own_at {e:TypeId} {w:World} {p:Option Addr} {n c hi:Nat} {s:List Value} (h:OwnV hi e w (.slice p n c) s):At w p s:=by
 obtain ⟨p',c',e',ha,_⟩:=ownV_at h
 cases e'
 exact ha.at
theorem ref_write_own (s:St) (p q r:Option Addr) (c d k:Nat) (B D:List UInt8) (H:List Bool) (off room:Int) (w:World) (R:Rel s B H) (hD:D.length<=1000000) (hp:OwnV 0 5 w (.slice p B.length c) (bytesV B)) (hq:OwnV 0 4 w (.slice q H.length d) (boolsV H)) (hr:At w r (bytesV D)) :
 Calls Tryz.prog 109 #[fileV p q c d B.length H.length,.int .i64 off,.slice r D.length k,.int .i64 room] w fun e w' => ∃ v B' H',e=.returned (.tuple #[v,.int .i64 (s.wroteN off D.length room:Nat),.int .i64 (wrF s.h off D.length room:Nat)])/\OwnFile 0 w' v B' H'/\Rel (s.wrote off D room) B' H'/\Below w.heap.size w w':=by
 have hlH:=R.lenH
 by_cases hbad:wrF s.h off D.length room ≠ 0 ∨ D.length=0
 . have hw:=ref_write_bad p q r c d k B D H off room (wrF s.h off D.length room) w (by omega) (by omega) (own_at hq) (wrE_wrF R off _ room) hbad
   refine hw.mono ?_;rintro e w' ⟨rfl,hb⟩
   have e1:s.wrote off D room=s:=if_neg fun h=>by
    rcases hbad with h7 | h7
    . exact h7 h.1
    . exact h.2 (List.eq_nil_of_length_eq_zero h7)
   have e2:s.wroteN off D.length room=0:=by
    unfold St.wroteN
    split
    . rename_i h7
      rcases hbad with h8 | h8
      . exact absurd h7 h8
      . rw [h8];exact needF_zero s.h off
    . rfl
   rw [e1,e2]
   exact ⟨_,B,H,rfl,⟨_,_,rfl,ownV_on hp hb,ownV_on hq hb⟩,R,hb⟩
 . have hw:wrF s.h off D.length room=0:=by
    rcases Nat.eq_zero_or_pos (wrF s.h off D.length room) with h | h
    . exact h
    . exact absurd (.inl (by omega)) hbad
   have hp0:0 < D.length:=by
    rcases Nat.eq_zero_or_pos D.length with h | h
    . exact absurd (.inr h) hbad
    . exact h
   have hne:D ≠ []:=fun e=>by rw [e] at hp0;simp at hp0
   obtain ⟨h1,h2,h3⟩:=wrF_in hw
   have hz:((off.toNat:Nat):Int)=off:=by omega
   have hd:=ref_write_do p q r c d k B D H off.toNat room w R.lenB R.lenH (own_at hp) (own_at hq) hr hp0 (by omega) (by rw [hz,R.need];omega)
   rw [hz] at hd;refine hd.mono ?_;rintro e w' ⟨v,rfl,ho,hb⟩;have e2:s.wroteN off D.length room=needF s.h off D.length:=if_pos hw;rw [e2,hw,R.need]
   exact ⟨v,_,_,rfl,ho.less (Nat.zero_le _),R.wrote hw hne,hb⟩
theorem ref_cut_own (s:St) (p q:Option Addr) (c d:Nat) (B:List UInt8) (H:List Bool) (n:Int) (w:World) (R:Rel s B H) (hp:OwnV 0 5 w (.slice p B.length c) (bytesV B)) (hq:OwnV 0 4 w (.slice q H.length d) (boolsV H)) :
 Calls Tryz.prog 111 #[fileV p q c d B.length H.length,.int .i64 n] w fun e w' => ∃ v B' H',e=.returned (.tuple #[v,.int .i64 (s.cutN n),.int .i64 (cutE n:Nat)])/\OwnFile 0 w' v B' H'/\Rel (s.cut n) B' H'/\Below w.heap.size w w':=by
 by_cases he:cutE n=0
 . have h3:=cutE_in he
   have hz:((n.toNat:Nat):Int)=n:=by omega
   have hd:=ref_cut_do p q c d B H n.toNat w (by omega) R.lenB R.lenH (own_at hp) (own_at hq)
   rw [hz] at hd;refine hd.mono ?_;rintro e w' ⟨v,rfl,ho,hb⟩;have e1:s.cut n=⟨n.toNat,cutC s.C n.toNat,cutH s.h n.toNat⟩:=if_pos he
   have R2:=R.cut (n:=n.toNat) (by omega)
   rw [<- e1] at R2
   refine ⟨v,_,_,?_,ho.less (Nat.zero_le _),R2,hb⟩
   unfold St.cutN;rw [R.blocks,R2.blocks,he]
   rfl
 . have hb0:n < 0 ∨ 65536 < n:=by
    by_cases h4:n < 0
    . exact .inl h4
    . by_cases h5:65536 < n
      . exact .inr h5
      . exact absurd (by unfold cutE;rw [if_neg h4,if_neg h5]) he
   refine (ref_cut_bad p q c d B H n w hb0).mono ?_
   rintro e w' ⟨rfl,hb⟩;have e1:s.cut n=s:=if_neg he
   have e2:s.cutN n=0:=by unfold St.cutN;rw [e1,Int.sub_self]
   have e3:cutE n=if n < 0 then 22 else 27:=by
    unfold cutE
    by_cases h4:n < 0
    . rw [if_pos h4,if_pos h4]
    . rw [if_neg h4,if_neg h4,if_pos (by omega)]
   rw [e1,e2,e3]
   exact ⟨_,B,H,rfl,⟨_,_,rfl,ownV_on hp hb,ownV_on hq hb⟩,R,hb⟩
theorem RNodeAt.owns {w:World} {x:RN} (h:RNodeAt w x):∃ p c q d B H,x.vB=.slice p (B:List UInt8).length c/\x.vH=.slice q (H:List Bool).length d/\Rel x.n.f B H/\OwnV 0 5 w (.slice p B.length c) (bytesV B)/\OwnV 0 4 w (.slice q H.length d) (boolsV H):=by
 obtain ⟨B,H,h1,h2,h3⟩:=h.file;obtain ⟨p,c,e1,_,_⟩:=ownV_at h2;obtain ⟨q,d,e2,_,_⟩:=ownV_at h3;rw [List.length_map] at e1 e2
 exact ⟨p,c,q,d,B,H,e1,e2,h1,by rw [<- e1];exact h2,by rw [<- e2];exact h3⟩
theorem rowS_set {w:World} {hi n size cap g k:Nat} {e:TypeId} {xs:List Value} (h:w.ownsRow hi e size (.slice (some ⟨g,0,none⟩) n cap) n xs) (v:Value):(w.setCell ⟨g,k,none⟩ v).ownsRow hi e size (.slice (some ⟨g,0,none⟩) n cap) n (xs.set k v):=by
 have hx:=h.1;obtain ⟨cs,h1,h2,h3,h4,h5,h6⟩:=rowS_blk h
 refine rowS_of (h1.set k v) (by rw [List.length_set];exact h2) h3 h4 h5 ?_ (by rw [List.length_set];exact hx)
 rw [<- h6,List.take_set]
theorem rowS_obj {w:World} {hi n size cap g:Nat} {e:TypeId} {xs:List Value} (h:w.ownsRow hi e size (.slice (some ⟨g,0,none⟩) n cap) n xs):∃ cs fr,w.heap[g]? = some (.cells cs e fr):=by
 obtain ⟨cs,h1,_⟩:=rowS_blk h
 exact ⟨_,_,h1.row⟩
theorem RefM.turned {hi rb:Nat} {w w':World} {rv rv':Value} {Q:List RN} {next most tot:Int} {k:Nat} (h:RefM hi w rb rv Q next most tot) (y:RN) (hrow:w'.ownsRow hi 74 9 rv' Q.length (rcells (Q.set k y))) (hbox:RB w' rb [rv',.int .i64 next,.int .i64 most,.int .i64 tot]) (ht:Turns isR (.up hi) w w') (hn:RNodeAt w' y):RefM hi w' rb rv' (Q.set k y) next most tot:=by
 refine ⟨hbox,by rw [List.length_set];exact hrow,fun x hx => ?_,h.lo⟩
 rcases List.mem_or_eq_of_mem_set hx with h1 | h1
 . exact (h.node x h1).turns ht fun _ _ _ h _=>h
 . rw [h1];exact hn
theorem map_set_n {Q:List RN} {L:List Nd} (e:Q.map RN.n=L) (k:Nat) (y:RN):(Q.set k y).map RN.n=L.set k y.n:=by rw [List.map_set,e]
theorem rn_but {hi rb g:Nat} {w w':World} {Q:List RN} {next most tot:Int} {cap:Nat} (h:RefM hi w rb (.slice (some ⟨g,0,none⟩) Q.length cap) Q next most tot) (hb:But g w w') (hg:g ≠ rb) (hlo:hi<=g):Turns isR (.up hi) w w'/\RB w' rb [.slice (some ⟨g,0,none⟩) Q.length cap,.int .i64 next,.int .i64 most,.int .i64 tot]:=by
 obtain ⟨cs,fr,ho⟩:=rowS_obj h.row
 exact ⟨Turns.of_but hb ho (by simp [isR]) hlo,h.box.but hb fun e=>hg e.symm⟩
def setS (w:World) (g k:Nat) (vs:List Value) (f:Bool) (W:World):Prop:=(f=true->∃ q,W=w.drewN q)/\(f=false->∃ q,W=putL (w.drewN q) g k vs)
theorem ref_filed {hi rb g i cap:Nat} {w:World} {Q:List RN} {s:SS} {v1 v2:Value} {B':List UInt8} {H':List Bool} {f:St} (h:RefM hi w rb (.slice (some ⟨g,0,none⟩) Q.length cap) Q s.next s.most s.tot) (eQ:Q.map RN.n=s.L) (hi':i < s.L.length) (hg:g ≠ rb) (hlo:hi<=g) (ho:OwnFile 0 w (.agg #[v1,v2]) B' H') (R:Rel f B' H') :
 RefAt6 hi (putL w g (i * 9+5) [v1,v2]) rb (s.set i (s.L[i].withF f))/\Turns isR (.up hi) w (putL w g (i * 9+5) [v1,v2]):=by
 have hQ:=ix_map eQ;have hb:=but_putL g [v1,v2] w (i * 9+5);obtain ⟨ht,hbox⟩:=rn_but h hb hg hlo
 have hiQ:i < Q.length:=by omega
 obtain ⟨u1,u2,e,o1,o2⟩:=ho
 injection e with e
 injection e with e
 injection e with e1 e
 injection e with e2 _
 subst e1 e2
 refine ⟨⟨_,Q.set i ⟨s.L[i].withF f,v1,v2,Q[i].vL⟩,map_set_n eQ _ _,h.turned _ ?_ hbox ht ?_⟩,ht⟩
 . have r1:=rowS_set (k:=i * 9+5) h.row v1;have r2:=rowS_set (k:=i * 9+6) r1 v2;have y1:(⟨Q[i].n,v1,Q[i].vH,Q[i].vL⟩:RN).cells=Q[i].cells.set 5 v1:=rfl
   rw [rcells_set hiQ (by omega) v1 _ y1,rcells_set (by simpa using hiQ) (by omega) v2 ⟨s.L[i].withF f,v1,v2,Q[i].vL⟩ ?_] at r2
   . rw [List.set_set] at r2
     exact r2
   . have e3:Q[i].n=s.L[i]:=map_get eQ hiQ hi'
     simp only [List.getElem_set_self,RN.cells,e3,Nd.withF]
     rfl
 . exact (RNodeAt.turns (q:=isR) (x:=⟨s.L[i].withF f,v1,v2,Q[i].vL⟩) (w:=w) ⟨⟨B',H',R,o1,o2⟩,by
    have e3:Q[i].n=s.L[i]:=map_get eQ hiQ hi';have:=(h.node Q[i] (List.getElem_mem hiQ)).ents;rw [e3] at this
    exact this⟩ ht fun _ _ _ h _=>h)
def RPost (hi rb:Nat) (s:SS) (E:Nat) (w:World) (e:Ending) (w':World):Prop:=e=.returned (.int .i64 (E:Nat))/\RefAt6 hi w' rb s/\Turns isR (.up hi) w w'
theorem infoRF : (Tryz.prog.info? 71).map (·.size)=some 2:=by kernel_rfl
theorem rwrite_any {hi rb c:Nat} {w:World} {s:SS} (h:RefAt6 hi w rb s) (hf:Wf s c) (x off:Int) (p:Option Addr) (cd:Nat) (D:List UInt8) (hD:D.length<=1000000) (hat:At w p (bytesV D)):Calls Tryz.prog 60 #[ptr rb,.int .i64 x,.int .i64 off,.slice p D.length cd] w (RPost hi rb (writeS s x off D) (writeE s x off D) w):=by
 have hlL:s.L.length<=1000000:=by have:=hf.room;have:=hf.most;omega
 have c1:=rfile_any h x hlL
 cases hx:look s x with
 | none =>
  have e0:fileE s x=2:=by unfold fileE;rw [hx]
  rw [e0,if_neg (by simp)] at c1
  rw [show writeS s x off D=s by unfold writeS;rw [hx],show writeE s x off D=2 by unfold writeE;rw [hx]]
  have HP:Hid (RPost hi rb s 2 w (.returned (.int .i64 2)) w):=⟨rfl,h,.refl _ _ _⟩;generalize RPost hi rb s 2 w=Post at *;clear h hf e0 hx hat;go_enter Tryz.func60,Tryz.ntmps60;go_wp2_with fail;refine c1.mono ?_;rintro e w1 ⟨rfl,hw1⟩;subst w1;go_wp2
  exact HP.out
 | some y =>
  obtain ⟨i,n⟩:=y;obtain ⟨hi',rfl,_,_⟩:=look_some hx
  by_cases hk:s.L[i].kind=1
  . have e0:fileE s x=0:=by unfold fileE;rw [hx];exact if_pos hk
    rw [e0,if_pos rfl,ixZ_look_some hx] at c1
    rw [show writeS s x off D=s.set i (s.L[i].withF (s.L[i].f.wrote off D s.bl)) by unfold writeS;rw [hx];exact if_pos hk,show writeE s x off D=wrF s.L[i].f.h off D.length s.bl by unfold writeE;rw [hx];exact if_pos hk]
    have cRoom:=rroom_any h hf
    have H0:Hid (∀ w2,Below w.heap.size w w2->RefAt6 hi w2 rb s/\At w2 p (bytesV D)):=fun w2 hb=>⟨h.on hb,hat.on hb⟩
    have HP:Hid (∀ (Q:List RN) (g cap:Nat) (w3 w4:World) (v1 v2:Value) B' H',Below w.heap.size w w3->RefM hi w3 rb (.slice (some ⟨g,0,none⟩) Q.length cap) Q s.next s.most s.tot->Q.map RN.n=s.L->g ≠ rb->hi<=g->Below w3.heap.size w3 w4->OwnFile 0 w4 (.agg #[v1,v2]) B' H'->Rel (s.L[i].f.wrote off D s.bl) B' H'->RPost hi rb (s.set i (s.L[i].withF (s.L[i].f.wrote off D s.bl))) (wrF s.L[i].f.h off D.length s.bl) w (.returned (.int .i64 (wrF s.L[i].f.h off D.length s.bl:Nat))) (putL w4 g (i * 9+5) [v1,v2])):=fun Q g cap w3 w4 v1 v2 B' H' hb h3 eQ hg hlo hb4 ho R=>by
     have:=ref_filed (h3.on hb4) eQ hi' hg hlo ho R
     exact ⟨rfl,this.1,(Turns.on (on_trans hb hb4)).trans this.2⟩
    generalize RPost hi rb (s.set i (s.L[i].withF (s.L[i].f.wrote off D s.bl))) (wrF s.L[i].f.h off D.length s.bl) w=Post at *;clear h hf e0 hx hat;go_enter Tryz.func60,Tryz.ntmps60;go_wp2_with fail;refine c1.mono ?_;rintro e w1 ⟨rfl,hw1⟩;subst w1;go_wp2_with fail;refine cRoom.mono ?_;rintro e w3 ⟨rfl,hb3⟩;obtain ⟨⟨rv,Q,eQ,h3⟩,hat3⟩:=H0.out w3 hb3;have HB3:Hid (Below w.heap.size w w3):=hb3;have hQ:=ix_map eQ
    obtain ⟨g,cap,rfl,hlo,_,hgr,hc⟩:=h3.place (k:=i) (by omega)
    obtain ⟨pB,cB,qH,dH,B,H,e1,e2,hRel,hB,hH⟩:=(h3.node (Q[i]'(by omega)) (List.getElem_mem _)).owns
    have x0:=h3.box.cell 0 rfl
    have c5:=hc 5 (by omega) _ rfl
    have c6:=hc 6 (by omega) _ rfl
    rw [e1] at c5;rw [e2] at c6
    rw [map_get eQ (by omega) hi'] at hRel
    rw [hQ] at x0;have cW:=ref_write_own s.L[i].f pB qH p cB dH cd B D H off s.bl w3 hRel hD hB hH hat3;have HM:Hid (RefM hi w3 rb (.slice (some ⟨g,0,none⟩) Q.length cap) Q s.next s.most s.tot/\Q.map RN.n=s.L/\g ≠ rb/\hi<=g):=⟨h3,eQ,hgr,hlo⟩
    have hiz:(i:Int) < (s.L.length:Int):=by omega
    have hiz0:0<=(i:Int):=by omega
    have HLen:Hid (Q.length=s.L.length):=hQ;clear hc e1 e2 hRel hB hH h3 eQ hat3 hb3 cRoom c1;generalize hEE:(wrF s.L[i].f.h off D.length s.bl)=EE at *;generalize hNN:(s.L[i].f.wroteN off D.length s.bl:Nat)=NN at *;clear hEE hNN;go_wp2_with fail;refine cW.mono ?_;rintro e w4 ⟨v,B',H',rfl,ho,R,hb4⟩;obtain ⟨v1,v2,rfl,o1,o2⟩:=ho
    have HV1:Hid (∃ p n d,v1=.slice p n d):=by obtain ⟨p,c,e,_⟩:=ownV_at o1;exact ⟨p,_,c,e⟩
    have HV2:Hid (∃ p n d,v2=.slice p n d):=by obtain ⟨p,c,e,_⟩:=ownV_at o2;exact ⟨p,_,c,e⟩
    obtain ⟨len,HLn⟩:∃ len,Hid (s.L.length=len):=⟨_,rfl⟩;have hal:=on_alloc w4 (.cells #[v1,v2] 71);have hr5:=HM.out.1.on (on_trans hb4 hal);have z0:=hr5.box.cell 0 rfl;rw [HLen.out,HLn.out] at z0
    obtain ⟨g',cap',ee,_,_,_,hc5⟩:=hr5.place (k:=i) (by rw [HLen.out];exact hi')
    cases ee
    have k5:=hc5 5 (by omega) _ rfl
    have k6:=hc5 6 (by omega) _ rfl
    obtain ⟨csr,fr,hobj⟩:=rowS_obj hr5.row
    have hbk:∃ cs,Blk (w4.alloc (.cells #[v1,v2] 71)) g 74 cs:=by obtain ⟨cs,h1,_⟩:=rowS_blk hr5.row;exact ⟨cs,h1⟩
    obtain ⟨csb,hbk⟩:=hbk;have kf5:=hbk.free (i * 9+5);have kf6:=hbk.free (i * 9+6);have HB2:Hid (Blk (w4.alloc (.cells #[v1,v2] 71)) w4.heap.size 71 [v1,v2]):=Blk.new w4 _ [v1,v2]
    have HZ:Hid (∀ q,Post (.returned (.int .i64 (EE:Nat))) (putL ((w4.alloc (.cells #[v1,v2] 71)).drewN q) g (i * 9+5) [v1,v2])):=fun q=>HP.out Q g cap w3 _ v1 v2 B' H' HB3.out HM.out.1 HM.out.2.1 HM.out.2.2.1 HM.out.2.2.2 (on_drewN (on_trans hb4 hal) q) (OwnFile.on ⟨v1,v2,rfl,o1,o2⟩ (on_drewN hal q)) R
    clear HP HM hr5 hc5 hobj hbk o1 o2 R hb4 cW hal x0 c5 c6;rw [HLn.out] at hiz;have HV1b:Hid (∃ p n d,v1=.slice p n d):=HV1;have HV2b:Hid (∃ p n d,v2=.slice p n d):=HV2;obtain ⟨p1,n1,d1,rfl⟩:=HV1b.out;obtain ⟨p2,n2,d2,rfl⟩:=HV2b.out;go_wp2;generalize w4.alloc (.cells #[.slice p1 n1 d1,.slice p2 n2 d2] 71)=w5 at *;generalize w4.heap.size=b2 at *
    refine wp_region_two (S:=setS w5 g (i * 9+5) [.slice p1 n1 d1,.slice p2 n2 d2]) (u:=8) (Keep:=KeepU 8)
     (g:=fun jj vv WW=>(([.is (ptr rb),.is (ptr rb),.is (.pointer (some ⟨rb,0,none⟩)),.is (.slice (some ⟨g,0,none⟩) len cap),.is (.int .i64 (i:Int)),.is (.agg #[.slice p1 n1 d1,.slice p2 n2 d2]),.is (.pointer (some ⟨g,i * 9,none⟩)),.is (.pointer (some ⟨g,i * 9+5,none⟩)),.any]:List (Kd 0)).getD jj Kd.any).ok vv WW)
     (tab:=[[(0,none)],[(46,some 0)],[(47,some 1)],[(48,some 2)],[(9,none)],[(13,none)],[(49,some 3),(50,some 4)],[(52,some 6)],[(53,some 7),(51,some 5)]]) (tl:=[]) (n:=55)
     (by kernel_rfl) rfl (by kernel_rfl) (keep_u ?k) ⟨fun _=>⟨1,rfl⟩,(fun e=>by cases e)⟩ ?st ?en
    case k =>
     intro j hj
     match j,hj with
     | 0,_ | 1,_ | 2,_ | 3,_ | 4,_ | 5,_ | 6,_ | 7,_=>exact .inr (pure_is _)
     | 8,hj=>exact absurd rfl hj
     | j+9,_=>exact .inr pure_any
    case st =>
     refine ⟨?_,?_,?_,?_,?_,?_,?_,?_,?_,trivial⟩ <;> intro ρ W f hf hr hS hs
     . exact step_plain rfl (leaves_move _ rfl ⟨hs.1,by simpa using hS,.inr (Below.refl _ _)⟩)
     . have h46:ρ (.tmp 46)=ptr rb:=hs.1
       refine step_plain rfl (leaves_value (w':=W) ?_ ⟨rfl,by simpa using hS,.inr (Below.refl _ _)⟩)
       simp [go_sem,h46]
     . have h47:ρ (.tmp 47)=ptr rb:=hs.1
       refine step_plain rfl (leaves_value (w':=W) ?_ ⟨rfl,by simpa using hS,.inr (Below.refl _ _)⟩)
       simp [go_sem,h47]
     . have h48:ρ (.tmp 48)=.pointer (some ⟨rb,0,none⟩):=hs.1
       refine step_plain rfl (leaves_value (w':=W) ?_ ⟨rfl,by simpa using hS,.inr (Below.refl _ _)⟩)
       obtain rfl:f=true:=hf (by kernel_rfl)
       obtain ⟨q,rfl⟩:=hS.1 rfl
       simp [go_sem,h48,z0]
     . exact step_plain rfl (leaves_move _ rfl ⟨hs.1,by simpa using hS,.inr (Below.refl _ _)⟩)
     . have h13:ρ (.tmp 13)=ptr b2:=hs.1
       obtain rfl:f=true:=hf (by kernel_rfl)
       obtain ⟨q,rfl⟩:=hS.1 rfl
       exact step_plain rfl (leaves_load (cs:=[.slice p1 n1 d1,.slice p2 n2 d2]) Tryz.isAgg71 infoRF (.tmp 13) rfl h13 (HB2.out.on (on_drewN (Below.refl _ _) q)) ⟨rfl,by simpa using hS,.inr (Below.refl _ _)⟩)
     . have h49:ρ (.tmp 49)=.slice (some ⟨g,0,none⟩) len cap:=hs.1;have h50:ρ (.tmp 50)=.int .i64 (i:Int):=hs.2.1
       refine step_plain rfl (leaves_value (w':=W) ?_ ⟨rfl,by simpa using hS,.inr (Below.refl _ _)⟩)
       simp [go_sem,h49,h50,hiz,hiz0]
     . have h52:ρ (.tmp 52)=.pointer (some ⟨g,i * 9,none⟩):=hs.1
       refine step_plain rfl (leaves_value (w':=W) ?_ ⟨rfl,by simpa using hS,.inr (Below.refl _ _)⟩)
       simp [go_sem,h52]
     . have h53:ρ (.tmp 53)=.pointer (some ⟨g,i * 9+5,none⟩):=hs.1;have h51:ρ (.tmp 51)=.agg #[.slice p1 n1 d1,.slice p2 n2 d2]:=hs.2.1
       obtain rfl:f=true:=hf (by kernel_rfl)
       obtain ⟨q,rfl⟩:=hS.1 rfl
       refine step_plain rfl (leaves_skip (w':=putL (w5.drewN q) g (i * 9+5) [.slice p1 n1 d1,.slice p2 n2 d2]) ?_ ⟨trivial,⟨(fun e=>by cases e),fun _=>⟨q,rfl⟩⟩,.inl rfl⟩)
       simp [go_sem,h53,h51,putL,k5,k6,kf5,kf6]
    case en =>
     intro f W hf hS v0 h0 v1 h1 v2 h2 v3 h3 v4 h4 v5 h5 v6 h6 v7 h7 h8
     obtain rfl:f=false:=hf (by decide)
     clear hf;obtain rfl:v0=ptr rb:=h0 rfl;obtain rfl:v1=ptr rb:=h1 rfl;obtain rfl:v2=.pointer (some ⟨rb,0,none⟩):=h2 rfl;obtain rfl:v3=.slice (some ⟨g,0,none⟩) len cap:=h3 rfl;obtain rfl:v4=.int .i64 (i:Int):=h4 rfl;obtain rfl:v5=.agg #[.slice p1 n1 d1,.slice p2 n2 d2]:=h5 rfl;obtain rfl:v6=.pointer (some ⟨g,i * 9,none⟩):=h6 rfl;obtain rfl:v7=.pointer (some ⟨g,i * 9+5,none⟩):=h7 rfl;clear h0 h1 h2 h3 h4 h5 h6 h7 h8
     simp only [ends,Act.put,List.setIfInBounds_toArray,List.set_cons_succ,List.set_cons_zero]
     obtain ⟨q,rfl⟩:=hS.2 rfl;have HZ2:Hid _:=HZ.out q;clear HZ hS;go_wp2
     exact HZ2.out
  . have e0:fileE s x=22:=by unfold fileE;rw [hx];exact if_neg hk
    rw [e0,if_neg (by simp)] at c1
    rw [show writeS s x off D=s by unfold writeS;rw [hx];exact if_neg hk,show writeE s x off D=22 by unfold writeE;rw [hx];exact if_neg hk]
    have HP:Hid (RPost hi rb s 22 w (.returned (.int .i64 22)) w):=⟨rfl,h,.refl _ _ _⟩;generalize RPost hi rb s 22 w=Post at *;clear h hf e0 hx hat;go_enter Tryz.func60,Tryz.ntmps60;go_wp2_with fail;refine c1.mono ?_;rintro e w1 ⟨rfl,hw1⟩;subst w1;go_wp2
    exact HP.out
theorem rtruncate_any {hi rb c:Nat} {w:World} {s:SS} (h:RefAt6 hi w rb s) (hf:Wf s c) (x m:Int):Calls Tryz.prog 62 #[ptr rb,.int .i64 x,.int .i64 m] w (RPost hi rb (truncS s x m) (truncE s x m) w):=by
 have hlL:s.L.length<=1000000:=by have:=hf.room;have:=hf.most;omega
 have c1:=rfile_any h x hlL
 cases hx:look s x with
 | none =>
  have e0:fileE s x=2:=by unfold fileE;rw [hx]
  rw [e0,if_neg (by simp)] at c1
  rw [show truncS s x m=s by unfold truncS;rw [hx],show truncE s x m=2 by unfold truncE;rw [hx]]
  have HP:Hid (RPost hi rb s 2 w (.returned (.int .i64 2)) w):=⟨rfl,h,.refl _ _ _⟩;generalize RPost hi rb s 2 w=Post at *;clear h hf e0 hx;go_enter Tryz.func62,Tryz.ntmps62;go_wp2_with fail;refine c1.mono ?_;rintro e w1 ⟨rfl,hw1⟩;subst w1;go_wp2
  exact HP.out
 | some y =>
  obtain ⟨i,n⟩:=y;obtain ⟨hi',rfl,_,_⟩:=look_some hx
  by_cases hk:s.L[i].kind=1
  . have e0:fileE s x=0:=by unfold fileE;rw [hx];exact if_pos hk
    rw [e0,if_pos rfl,ixZ_look_some hx] at c1
    rw [show truncS s x m=s.set i (s.L[i].withF (s.L[i].f.cut m)) by unfold truncS;rw [hx];exact if_pos hk,show truncE s x m=cutE m by unfold truncE;rw [hx];exact if_pos hk]
    have H0:Hid (RefAt6 hi w rb s):=h
    have HP:Hid (∀ (Q:List RN) (g cap:Nat) (w3 w4:World) (v1 v2:Value) B' H',Below w.heap.size w w3->RefM hi w3 rb (.slice (some ⟨g,0,none⟩) Q.length cap) Q s.next s.most s.tot->Q.map RN.n=s.L->g ≠ rb->hi<=g->Below w3.heap.size w3 w4->OwnFile 0 w4 (.agg #[v1,v2]) B' H'->Rel (s.L[i].f.cut m) B' H'->RPost hi rb (s.set i (s.L[i].withF (s.L[i].f.cut m))) (cutE m) w (.returned (.int .i64 (cutE m:Nat))) (putL w4 g (i * 9+5) [v1,v2])):=fun Q g cap w3 w4 v1 v2 B' H' hb h3 eQ hg hlo hb4 ho R=>by
     have:=ref_filed (h3.on hb4) eQ hi' hg hlo ho R
     exact ⟨rfl,this.1,(Turns.on (on_trans hb hb4)).trans this.2⟩
    generalize RPost hi rb (s.set i (s.L[i].withF (s.L[i].f.cut m))) (cutE m) w=Post at *;clear h hf e0 hx;go_enter Tryz.func62,Tryz.ntmps62;go_wp2_with fail;refine c1.mono ?_;rintro e w1 ⟨rfl,hw1⟩;subst w1;obtain ⟨rv,Q,eQ,h3⟩:=H0.out;have HB3:Hid (Below w.heap.size w w):=Below.refl _ _;have hQ:=ix_map eQ
    obtain ⟨g,cap,rfl,hlo,_,hgr,hc⟩:=h3.place (k:=i) (by omega)
    obtain ⟨pB,cB,qH,dH,B,H,e1,e2,hRel,hB,hH⟩:=(h3.node (Q[i]'(by omega)) (List.getElem_mem _)).owns
    have x0:=h3.box.cell 0 rfl
    have c5:=hc 5 (by omega) _ rfl
    have c6:=hc 6 (by omega) _ rfl
    rw [e1] at c5;rw [e2] at c6
    rw [map_get eQ (by omega) hi'] at hRel
    rw [hQ] at x0;have cW:=ref_cut_own s.L[i].f pB qH cB dH B H m w hRel hB hH;have HM:Hid (RefM hi w rb (.slice (some ⟨g,0,none⟩) Q.length cap) Q s.next s.most s.tot/\Q.map RN.n=s.L/\g ≠ rb/\hi<=g):=⟨h3,eQ,hgr,hlo⟩
    have hiz:(i:Int) < (s.L.length:Int):=by omega
    have hiz0:0<=(i:Int):=by omega
    have HLen:Hid (Q.length=s.L.length):=hQ;clear hc e1 e2 hRel hB hH h3 eQ c1;generalize hEE:(cutE m)=EE at *;generalize hNN:(s.L[i].f.cutN m)=NN at *;clear hEE hNN;go_wp2_with fail;refine cW.mono ?_;rintro e w4 ⟨v,B',H',rfl,ho,R,hb4⟩;obtain ⟨v1,v2,rfl,o1,o2⟩:=ho
    have HV1:Hid (∃ p n d,v1=.slice p n d):=by obtain ⟨p,c,e,_⟩:=ownV_at o1;exact ⟨p,_,c,e⟩
    have HV2:Hid (∃ p n d,v2=.slice p n d):=by obtain ⟨p,c,e,_⟩:=ownV_at o2;exact ⟨p,_,c,e⟩
    obtain ⟨len,HLn⟩:∃ len,Hid (s.L.length=len):=⟨_,rfl⟩;have hal:=on_alloc w4 (.cells #[v1,v2] 71);have hr5:=HM.out.1.on (on_trans hb4 hal);have z0:=hr5.box.cell 0 rfl;rw [HLen.out,HLn.out] at z0
    obtain ⟨g',cap',ee,_,_,_,hc5⟩:=hr5.place (k:=i) (by rw [HLen.out];exact hi')
    cases ee
    have k5:=hc5 5 (by omega) _ rfl
    have k6:=hc5 6 (by omega) _ rfl
    obtain ⟨csr,fr,hobj⟩:=rowS_obj hr5.row
    have hbk:∃ cs,Blk (w4.alloc (.cells #[v1,v2] 71)) g 74 cs:=by obtain ⟨cs,h1,_⟩:=rowS_blk hr5.row;exact ⟨cs,h1⟩
    obtain ⟨csb,hbk⟩:=hbk;have kf5:=hbk.free (i * 9+5);have kf6:=hbk.free (i * 9+6);have HB2:Hid (Blk (w4.alloc (.cells #[v1,v2] 71)) w4.heap.size 71 [v1,v2]):=Blk.new w4 _ [v1,v2]
    have HZ:Hid (∀ q,Post (.returned (.int .i64 (EE:Nat))) (putL ((w4.alloc (.cells #[v1,v2] 71)).drewN q) g (i * 9+5) [v1,v2])):=fun q=>HP.out Q g cap w _ v1 v2 B' H' HB3.out HM.out.1 HM.out.2.1 HM.out.2.2.1 HM.out.2.2.2 (on_drewN (on_trans hb4 hal) q) (OwnFile.on ⟨v1,v2,rfl,o1,o2⟩ (on_drewN hal q)) R
    clear HP HM hr5 hc5 hobj hbk o1 o2 R hb4 cW hal x0 c5 c6;rw [HLn.out] at hiz;have HV1b:Hid (∃ p n d,v1=.slice p n d):=HV1;have HV2b:Hid (∃ p n d,v2=.slice p n d):=HV2;obtain ⟨p1,n1,d1,rfl⟩:=HV1b.out;obtain ⟨p2,n2,d2,rfl⟩:=HV2b.out;go_wp2;generalize w4.alloc (.cells #[.slice p1 n1 d1,.slice p2 n2 d2] 71)=w5 at *;generalize w4.heap.size=b2 at *
    refine wp_region_two (S:=setS w5 g (i * 9+5) [.slice p1 n1 d1,.slice p2 n2 d2]) (u:=8) (Keep:=KeepU 8)
     (g:=fun jj vv WW=>(([.is (ptr rb),.is (ptr rb),.is (.pointer (some ⟨rb,0,none⟩)),.is (.slice (some ⟨g,0,none⟩) len cap),.is (.int .i64 (i:Int)),.is (.agg #[.slice p1 n1 d1,.slice p2 n2 d2]),.is (.pointer (some ⟨g,i * 9,none⟩)),.is (.pointer (some ⟨g,i * 9+5,none⟩)),.any]:List (Kd 0)).getD jj Kd.any).ok vv WW)
     (tab:=[[(0,none)],[(35,some 0)],[(36,some 1)],[(37,some 2)],[(7,none)],[(9,none)],[(38,some 3),(39,some 4)],[(41,some 6)],[(42,some 7),(40,some 5)]]) (tl:=[]) (n:=44)
     (by kernel_rfl) rfl (by kernel_rfl) (keep_u ?k) ⟨fun _=>⟨1,rfl⟩,(fun e=>by cases e)⟩ ?st ?en
    case k =>
     intro j hj
     match j,hj with
     | 0,_ | 1,_ | 2,_ | 3,_ | 4,_ | 5,_ | 6,_ | 7,_=>exact .inr (pure_is _)
     | 8,hj=>exact absurd rfl hj
     | j+9,_=>exact .inr pure_any
    case st =>
     refine ⟨?_,?_,?_,?_,?_,?_,?_,?_,?_,trivial⟩ <;> intro ρ W f hf hr hS hs
     . exact step_plain rfl (leaves_move _ rfl ⟨hs.1,by simpa using hS,.inr (Below.refl _ _)⟩)
     . have h35:ρ (.tmp 35)=ptr rb:=hs.1
       refine step_plain rfl (leaves_value (w':=W) ?_ ⟨rfl,by simpa using hS,.inr (Below.refl _ _)⟩)
       simp [go_sem,h35]
     . have h36:ρ (.tmp 36)=ptr rb:=hs.1
       refine step_plain rfl (leaves_value (w':=W) ?_ ⟨rfl,by simpa using hS,.inr (Below.refl _ _)⟩)
       simp [go_sem,h36]
     . have h37:ρ (.tmp 37)=.pointer (some ⟨rb,0,none⟩):=hs.1
       refine step_plain rfl (leaves_value (w':=W) ?_ ⟨rfl,by simpa using hS,.inr (Below.refl _ _)⟩)
       obtain rfl:f=true:=hf (by kernel_rfl)
       obtain ⟨q,rfl⟩:=hS.1 rfl
       simp [go_sem,h37,z0]
     . exact step_plain rfl (leaves_move _ rfl ⟨hs.1,by simpa using hS,.inr (Below.refl _ _)⟩)
     . have h9:ρ (.tmp 9)=ptr b2:=hs.1
       obtain rfl:f=true:=hf (by kernel_rfl)
       obtain ⟨q,rfl⟩:=hS.1 rfl
       exact step_plain rfl (leaves_load (cs:=[.slice p1 n1 d1,.slice p2 n2 d2]) Tryz.isAgg71 infoRF (.tmp 9) rfl h9 (HB2.out.on (on_drewN (Below.refl _ _) q)) ⟨rfl,by simpa using hS,.inr (Below.refl _ _)⟩)
     . have h38:ρ (.tmp 38)=.slice (some ⟨g,0,none⟩) len cap:=hs.1;have h39:ρ (.tmp 39)=.int .i64 (i:Int):=hs.2.1
       refine step_plain rfl (leaves_value (w':=W) ?_ ⟨rfl,by simpa using hS,.inr (Below.refl _ _)⟩)
       simp [go_sem,h38,h39,hiz,hiz0]
     . have h41:ρ (.tmp 41)=.pointer (some ⟨g,i * 9,none⟩):=hs.1
       refine step_plain rfl (leaves_value (w':=W) ?_ ⟨rfl,by simpa using hS,.inr (Below.refl _ _)⟩)
       simp [go_sem,h41]
     . have h42:ρ (.tmp 42)=.pointer (some ⟨g,i * 9+5,none⟩):=hs.1;have h40:ρ (.tmp 40)=.agg #[.slice p1 n1 d1,.slice p2 n2 d2]:=hs.2.1
       obtain rfl:f=true:=hf (by kernel_rfl)
       obtain ⟨q,rfl⟩:=hS.1 rfl
       refine step_plain rfl (leaves_skip (w':=putL (w5.drewN q) g (i * 9+5) [.slice p1 n1 d1,.slice p2 n2 d2]) ?_ ⟨trivial,⟨(fun e=>by cases e),fun _=>⟨q,rfl⟩⟩,.inl rfl⟩)
       simp [go_sem,h42,h40,putL,k5,k6,kf5,kf6]
    case en =>
     intro f W hf hS v0 h0 v1 h1 v2 h2 v3 h3 v4 h4 v5 h5 v6 h6 v7 h7 h8
     obtain rfl:f=false:=hf (by decide)
     clear hf;obtain rfl:v0=ptr rb:=h0 rfl;obtain rfl:v1=ptr rb:=h1 rfl;obtain rfl:v2=.pointer (some ⟨rb,0,none⟩):=h2 rfl;obtain rfl:v3=.slice (some ⟨g,0,none⟩) len cap:=h3 rfl;obtain rfl:v4=.int .i64 (i:Int):=h4 rfl;obtain rfl:v5=.agg #[.slice p1 n1 d1,.slice p2 n2 d2]:=h5 rfl;obtain rfl:v6=.pointer (some ⟨g,i * 9,none⟩):=h6 rfl;obtain rfl:v7=.pointer (some ⟨g,i * 9+5,none⟩):=h7 rfl;clear h0 h1 h2 h3 h4 h5 h6 h7 h8
     simp only [ends,Act.put,List.setIfInBounds_toArray,List.set_cons_succ,List.set_cons_zero]
     obtain ⟨q,rfl⟩:=hS.2 rfl;have HZ2:Hid _:=HZ.out q;clear HZ hS;go_wp2
     exact HZ2.out
  . have e0:fileE s x=22:=by unfold fileE;rw [hx];exact if_neg hk
    rw [e0,if_neg (by simp)] at c1
    rw [show truncS s x m=s by unfold truncS;rw [hx];exact if_neg hk,show truncE s x m=22 by unfold truncE;rw [hx];exact if_neg hk]
    have HP:Hid (RPost hi rb s 22 w (.returned (.int .i64 22)) w):=⟨rfl,h,.refl _ _ _⟩;generalize RPost hi rb s 22 w=Post at *;clear h hf e0 hx;go_enter Tryz.func62,Tryz.ntmps62;go_wp2_with fail;refine c1.mono ?_;rintro e w1 ⟨rfl,hw1⟩;subst w1;go_wp2
    exact HP.out
end Go.Proofs.YthlaoaaafafafaaGreat
