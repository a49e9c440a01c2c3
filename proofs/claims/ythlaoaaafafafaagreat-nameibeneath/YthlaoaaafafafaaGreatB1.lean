/- Ours. -/
import Derived.Test.YthlaoaaafafafaaGreatProg
import Derived.Test.YthlaoaaafafafaaGreatA2
import Derived.Maps.OwnSet
import Derived.Maps.RangeWalk
set_option maxRecDepth 100000
set_option maxHeartbeats 16000000
namespace Go.Proofs.YthlaoaaafafafaaGreat
open Go Go.RowKit
def byteV (c:UInt8):Value:=.int .u8 (c.toNat:Int)
abbrev bytesV (l:List UInt8):List Value:=l.map byteV
abbrev boolsV (l:List Bool):List Value:=l.map Value.bool
theorem bytesV_get {l:List UInt8} {j:Nat} (h:j < l.length):(bytesV l)[j]? = some (.int .u8 ((l.getD j 0).toNat:Int)):=by simp [byteV,List.getD,h]
theorem boolsV_get {l:List Bool} {j:Nat} (h:j < l.length):(boolsV l)[j]? = some (.bool (l.getD j false)):=by simp [List.getD,h]
theorem elemByte : ElemOk Tryz.prog 68 5 (.int .u8 0) 1:=⟨Tryz.underlying68,by kernel_rfl,rfl,by decide⟩
theorem elemBool : ElemOk Tryz.prog 69 4 (.bool false) 1:=⟨Tryz.underlying69,by kernel_rfl,rfl,by decide⟩
theorem infoRef : (Tryz.prog.info? 71).map (·.size)=some 2:=by kernel_rfl
def cnt (H:List Bool) (k0:Nat):Nat->Nat
 | 0=>0
 | k+1=>cnt H k0 k+(if k0<=k/\H.getD k false=false then 1 else 0)
theorem cnt_zero (H:List Bool) (k0:Nat):∀ k,k<=k0->cnt H k0 k=0
 | 0,_=>rfl
 | k+1,h=>by rw [cnt,cnt_zero H k0 k (by omega),if_neg (by omega)]
theorem cnt_has {H:List Bool} {k0 k:Nat} (h:H.getD k false=true):cnt H k0 (k+1)=cnt H k0 k:=by rw [cnt,if_neg (by rw [h];simp)];rfl
theorem cnt_not {H:List Bool} {k0 k:Nat} (hk:k0<=k) (h:H.getD k false=false):cnt H k0 (k+1)=cnt H k0 k+1:=by rw [cnt,if_pos ⟨hk,h⟩]
theorem cnt_le (H:List Bool) (k0:Nat):∀ k,cnt H k0 k<=k
 | 0=>Nat.le_refl _
 | k+1=>by
  have:=cnt_le H k0 k;rw [cnt]
  split <;> omega
def outOf (off n:Int):Bool:=decide (off < 0) || decide (n < 1) || decide (65536 < off) || decide (65536 - off < n)
def needN (H:List Bool) (off n:Int):Nat:=if outOf off n then 0 else cnt H (off.toNat / 64) ((off.toNat+n.toNat+63) / 64)
theorem has_any (p q:Option Addr) (c d n:Nat) (H:List Bool) (k:Nat) (w:World) (_hk:k<=9000000000) (_hH:H.length<=9000000000) (h:At w q (boolsV H)) :
 Calls Tryz.prog 174 #[.agg #[.slice p n c,.slice q H.length d],.int .i64 k] w fun e w'=>e=.returned (.bool (H.getD k false))/\Below w.heap.size w w':=by
 have HB:Hid (Below w.heap.size w (w.alloc (.cells #[.slice p n c,.slice q H.length d] 71))):=on_alloc w _
 by_cases hlt:k < H.length
 . have hltz:(k:Int) < (H.length:Int):=by omega
   obtain ⟨b,off,rfl,_,hb,hc⟩:=h.place (k:=k) (by simpa using hlt)
   have hck:=(HB.out.cell (p:=⟨b,off+k,none⟩) hb).trans (hc k _ (boolsV_get hlt));generalize H.getD k false=r at *;clear h hc;go_enter Tryz.func174,Tryz.ntmps174;go_wp2
   go_ret
   exact ⟨rfl,HB.out⟩
 . have hltz:¬ (k:Int) < (H.length:Int):=by omega
   have e:H.getD k false=false:=by simp [List.getD,show H.length<=k by omega]
   rw [e];clear h e;go_enter Tryz.func174,Tryz.ntmps174;go_wp2
   go_ret
   exact ⟨rfl,HB.out⟩
def many (H:List Bool):Nat:=H.countP id
theorem many_snoc {H:List Bool} {k:Nat} (h:k < H.length):many (H.take (k+1))=many (H.take k)+(if H.getD k false then 1 else 0):=by
 unfold many;rw [List.take_add_one,List.countP_append]
 simp only [List.getD,List.getElem?_eq_getElem h,Option.toList_some,Option.getD_some]
 cases H[k] <;> rfl
theorem many_le (H:List Bool):many H<=H.length:=List.countP_le_length
theorem blocks_any (p q:Option Addr) (c d n:Nat) (H:List Bool) (w:World) (hH:H.length<=9000000000) (h:At w q (boolsV H)) :
 Calls Tryz.prog 144 #[.agg #[.slice p n c,.slice q H.length d]] w fun e w'=>e=.returned (.int .i64 (many H:Nat))/\Below w.heap.size w w':=by
 have HB:Hid (Below w.heap.size w (w.alloc (.cells #[.slice p n c,.slice q H.length d] 71))):=on_alloc w _;have HX:Hid (Blk (w.alloc (.cells #[.slice p n c,.slice q H.length d] 71)) w.heap.size 71 [.slice p n c,.slice q H.length d]):=Blk.new w _ [.slice p n c,.slice q H.length d];have HA:Hid (At (w.alloc (.cells #[.slice p n c,.slice q H.length d] 71)) q (boolsV H)):=h.on HB.out;clear h;go_enter Tryz.func144,Tryz.ntmps144;go_wp2;generalize w.alloc (.cells #[.slice p n c,.slice q H.length d] 71)=w0 at *
 have x1:=HX.out.cell 1 rfl
 go_loop [3,4] (fun s i => ∃ k:Nat,k<=H.length/\i=.int .i64 k/\s=.int .i64 (many (H.take k):Nat)) (fun _ i=>H.length - (intOf i).toNat)
 case atStart=>exact ⟨0,Nat.zero_le _,rfl,rfl⟩
 case round =>
  obtain ⟨k,hk,rfl,rfl⟩:=hrel;have hml:=many_le (H.take k)
  have hml2:(H.take k).length<=H.length:=by simp;omega
  by_cases hlt:k < H.length
  . have hltz:(k:Int) < (H.length:Int):=by omega
    obtain ⟨b,off,hp,_,hb,hc⟩:=HA.out.place (k:=k) (by simpa using hlt)
    subst hp;have hck:=hc k _ (boolsV_get hlt)
    have HS:Hid (many (H.take (k+1))=many (H.take k)+(if H.getD k false then 1 else 0)):=many_snoc hlt
    clear hc
    cases hr:H.getD k false with
    | true =>
     rw [hr] at hck HS;have HS2:Hid (many (H.take (k+1))=many (H.take k)+1):=HS.out;clear HS hr;generalize many (H.take k)=mk at *;go_wp2
     go_round
     case rel=>exact ⟨k+1,by omega,by go_num,by rw [HS2.out];go_num⟩
     case measure=>simp [intOf];omega
    | false =>
     rw [hr] at hck HS;have HS2:Hid (many (H.take (k+1))=many (H.take k)):=HS.out;clear HS hr;generalize many (H.take k)=mk at *;go_wp2
     go_round
     case rel=>exact ⟨k+1,by omega,by go_num,by rw [HS2.out]⟩
     case measure=>simp [intOf];omega
  . obtain rfl:k=H.length:=by omega
    have hltz:¬ (H.length:Int) < (H.length:Int):=by omega
    rw [List.take_length];go_wp2
    go_ret
    exact ⟨rfl,HB.out⟩
open Go Go.RowKit Go.Maps
def upd (h:Nat->Bool) (k:Nat) (b:Bool):Nat->Bool:=fun j=>if j=k then b else h j
theorem upd_same (h:Nat->Bool) (k:Nat) (b:Bool):upd h k b k=b:=by simp [upd]
theorem upd_other {h:Nat->Bool} {j k:Nat} (b:Bool) (e:j ≠ k):upd h k b j=h j:=by simp [upd,e]
theorem upd_id {h:Nat->Bool} {k:Nat} {b:Bool} (e:h k=b):upd h k b=h:=by
 funext j
 by_cases ej:j=k
 . subst ej;rw [upd_same,e]
 . rw [upd_other b ej]
def cntF (n:Nat) (h:Nat->Bool):Nat:=(List.range n).countP h
theorem cntF_succ (n:Nat) (h:Nat->Bool):cntF (n+1) h=cntF n h+(if h n then 1 else 0):=by
 unfold cntF;rw [List.range_succ,List.countP_append]
 cases hn:h n <;> simp [hn]
theorem cntF_out {n k:Nat} (h:Nat->Bool) (b:Bool) (hk:n<=k):cntF n (upd h k b)=cntF n h:=by
 induction n with
 | zero=>rfl
 | succ n ih=>rw [cntF_succ,cntF_succ,ih (by omega),upd_other b (by omega)]
theorem cntF_true {n k:Nat} {h:Nat->Bool} (hk:k < n) (hf:h k=false):cntF n (upd h k true)=cntF n h+1:=by
 induction n with
 | zero=>omega
 | succ n ih =>
  rw [cntF_succ,cntF_succ]
  by_cases e:k=n
  . subst e;rw [cntF_out h true (Nat.le_refl _),upd_same,hf];simp
  . rw [ih (by omega),upd_other true (fun e'=>e e'.symm)];omega
theorem cntF_false {n k:Nat} {h:Nat->Bool} (hk:k < n) (hf:h k=true):cntF n (upd h k false)+1=cntF n h:=by
 induction n with
 | zero=>omega
 | succ n ih =>
  rw [cntF_succ,cntF_succ]
  by_cases e:k=n
  . subst e;rw [cntF_out h false (Nat.le_refl _),upd_same,hf];simp
  . rw [<- ih (by omega),upd_other false (fun e'=>e e'.symm)];omega
theorem cntF_le (n:Nat) (h:Nat->Bool):cntF n h<=n:=by
 have:=List.countP_le_length (p:=h) (l:=List.range n)
 simpa [cntF] using this
theorem cntF_none {n:Nat} {h:Nat->Bool} (hn:∀ k,h k=false):cntF n h=0:=by
 induction n with
 | zero=>rfl
 | succ n ih=>rw [cntF_succ,ih,hn];rfl
def ptrElem (v:Value):Option (DataW Nat × List MemPlace) :=
 match v with
 | .pointer none=>some (.nil,[])
 | .pointer (some ⟨g,0,none⟩)=>some (.held g,[])
 | _=>none
theorem ptrElem_nil : ptrElem (.pointer none)=some (.nil,[]):=rfl
theorem ptrElem_mk (g:Nat):ptrElem (.pointer (some ⟨g,0,none⟩))=some (.held g,[]):=rfl
theorem ptrElem_inv {v:Value} {d:DataW Nat} {ps:List MemPlace} (h:ptrElem v=some (d,ps)):(v=.pointer none/\d=.nil) ∨ ∃ g,v=.pointer (some ⟨g,0,none⟩)/\d=.held g:=by
 unfold ptrElem at h
 split at h
 . simp at h;exact .inl ⟨rfl,h.1.symm⟩
 . simp at h;exact .inr ⟨_,rfl,h.1.symm⟩
 . cases h
theorem ptrElem_of_nil {v:Value} {ps:List MemPlace} (h:ptrElem v=some (.nil,ps)):v=.pointer none:=by
 rcases ptrElem_inv h with ⟨h1,_⟩ | ⟨g,_,h2⟩
 . exact h1
 . cases h2
theorem ptrElem_of_held {v:Value} {g:Nat} {ps:List MemPlace} (h:ptrElem v=some (.held g,ps)):v=.pointer (some ⟨g,0,none⟩):=by
 rcases ptrElem_inv h with ⟨_,h2⟩ | ⟨g',h1,h2⟩
 . cases h2
 . cases h2;exact h1
abbrev ky (k:Nat):Lit:=.int .i64 (k:Int)
theorem ky_inj {j k:Nat} (h:ky j=ky k):j=k:=by
 unfold ky at h
 simp at h
 omega
theorem ky_ne {j k:Nat} (h:j ≠ k):ky j ≠ ky k:=fun e=>h (ky_inj e)
theorem ky_key (k:Nat):WideAt.IsKeyLit (ky k):=trivial
def gOf (D:DataW Nat) (k:Nat):Nat:=match D.atKey (ky k) .nil with | .held g=>g | _=>0
structure MapIs (D:DataW Nat) (h:Nat->Bool):Prop where
 tidy:Tidy D
 keys:∀ kl,Maps.has D kl=true->∃ k:Nat,kl=ky k/\h k=true
 held:∀ k,h k=true->Maps.has D (ky k)=true/\D.atKey (ky k) .nil=.held (gOf D k)
 inj:∀ j k,h j=true->h k=true->gOf D j=gOf D k->j=k
 small:∀ k,h k=true->k < 1024
 count:Maps.size D=cntF 1024 h
theorem MapIs.not {D:DataW Nat} {h:Nat->Bool} (m:MapIs D h) {k:Nat} (hk:h k=false):Maps.has D (ky k)=false:=by
 cases hh:Maps.has D (ky k)
 . rfl
 . obtain ⟨j,e,hj⟩:=m.keys _ hh;rw [ky_inj e] at hk;rw [hk] at hj;cases hj
theorem MapIs.none {D:DataW Nat} {h:Nat->Bool} (m:MapIs D h) {x:Int} (hk:∀ k:Nat,x=k->h k=false):D.atKey (.int .i64 x) .nil=.nil:=by
 refine atKey_of_not_has ?_ _
 cases hh:Maps.has D (.int .i64 x)
 . rfl
 . obtain ⟨j,e,hj⟩:=m.keys _ hh
   have e':x=(j:Int):=by unfold ky at e;simpa using e
   rw [hk j e'] at hj;cases hj
theorem mapIs_empty : MapIs (.map []) (fun _=>false) :=
 ⟨tidy_empty,fun kl h=>by simp [Maps.has] at h,fun k h=>by simp at h,fun j k h=>by simp at h,fun k h=>by simp at h,(cntF_none fun _=>rfl).symm⟩
theorem gOf_put {D:DataW Nat} (hD:IsMap D) (k g:Nat):gOf (D.put (ky k) (.held g)) k=g:=by
 unfold gOf;rw [atKey_put_same hD (ky_key k)]
theorem gOf_put_other {D:DataW Nat} {j k:Nat} (g:Nat) (e:j ≠ k):gOf (D.put (ky k) (.held g)) j=gOf D j:=by
 unfold gOf;rw [atKey_put_other (ky_ne e)]
theorem gOf_del_other {D:DataW Nat} {j k:Nat} (e:j ≠ k):gOf (D.del (ky k)) j=gOf D j:=by
 unfold gOf;rw [atKey_del_other (ky_ne e)]
theorem MapIs.put {D:DataW Nat} {h:Nat->Bool} (m:MapIs D h) {k g:Nat} (hk:h k=false) (hl:k < 1024) (hg:∀ j,h j=true->gOf D j ≠ g):MapIs (D.put (ky k) (.held g)) (upd h k true):=by
 refine ⟨m.tidy.put (ky_key k) _,fun kl hh => ?_,fun j hj => ?_,fun i j hi hj e => ?_,fun j hj => ?_,?_⟩
 . by_cases e:kl=ky k
   . exact ⟨k,e,upd_same _ _ _⟩
   . rw [has_put_other e] at hh;obtain ⟨j,ej,hj⟩:=m.keys kl hh;subst ej
     exact ⟨j,rfl,by rw [upd_other true fun e'=>e (by rw [e'])];exact hj⟩
 . by_cases e:j=k
   . subst e;rw [gOf_put m.tidy.isMap]
     exact ⟨has_put_same m.tidy.isMap (ky_key j) _,atKey_put_same m.tidy.isMap (ky_key j) _ _⟩
   . rw [upd_other true e] at hj;rw [gOf_put_other g e,has_put_other (ky_ne e),atKey_put_other (ky_ne e)]
     exact m.held j hj
 . by_cases ei:i=k
   . by_cases ej:j=k
     . rw [ei,ej]
     . subst ei;rw [gOf_put m.tidy.isMap,gOf_put_other g ej] at e;rw [upd_other true ej] at hj
       exact absurd e.symm (hg j hj)
   . rw [upd_other true ei] at hi
     by_cases ej:j=k
     . subst ej;rw [gOf_put m.tidy.isMap,gOf_put_other g ei] at e
       exact absurd e (hg i hi)
     . rw [upd_other true ej] at hj;rw [gOf_put_other g ei,gOf_put_other g ej] at e
       exact m.inj i j hi hj e
 . by_cases e:j=k
   . omega
   . rw [upd_other true e] at hj;exact m.small j hj
 . rw [size_put m.tidy,m.not hk,cntF_true hl hk,m.count];rfl
theorem MapIs.del {D:DataW Nat} {h:Nat->Bool} (m:MapIs D h) {k:Nat} (hk:h k=true):MapIs (D.del (ky k)) (upd h k false):=by
 refine ⟨m.tidy.del _,fun kl hh => ?_,fun j hj => ?_,fun i j hi hj e => ?_,fun j hj => ?_,?_⟩
 . by_cases e:kl=ky k
   . subst e;rw [has_del_same] at hh;cases hh
   . rw [has_del_other e] at hh;obtain ⟨j,ej,hj⟩:=m.keys kl hh;subst ej
     exact ⟨j,rfl,by rw [upd_other false fun e'=>e (by rw [e'])];exact hj⟩
 . by_cases e:j=k
   . subst e;rw [upd_same] at hj;cases hj
   . rw [upd_other false e] at hj;rw [gOf_del_other e,has_del_other (ky_ne e),atKey_del_other (ky_ne e)]
     exact m.held j hj
 . have ei:i ≠ k:=fun e'=>by subst e';rw [upd_same] at hi;cases hi
   have ej:j ≠ k:=fun e'=>by subst e';rw [upd_same] at hj;cases hj
   rw [upd_other false ei] at hi;rw [upd_other false ej] at hj;rw [gOf_del_other ei,gOf_del_other ej] at e
   exact m.inj i j hi hj e
 . have ej:j ≠ k:=fun e'=>by subst e';rw [upd_same] at hj;cases hj
   rw [upd_other false ej] at hj
   exact m.small j hj
 . have h1:=size_del (k:=ky k) m.tidy;rw [(m.held k hk).1] at h1;have h2:=cntF_false (m.small k hk) hk;rw [<- m.count] at h2
   simp at h1
   omega
theorem owns_exact {P:Program} {k:TypeId} {R:Value->Option (DataW Nat × List MemPlace)} {w:World} {b n:Nat} {D:DataW Nat} (h:w.ownsMap P k R b n D):w.ownsMap P k R b (Maps.size D) D:=by
 obtain ⟨es,clock,hb,F,hs,rfl⟩:=h
 exact ⟨es,clock,hb,F,by simp [Maps.size,length_sorted],rfl⟩
theorem owns_block {P:Program} {k:TypeId} {R:Value->Option (DataW Nat × List MemPlace)} {w w':World} {b n:Nat} {D:DataW Nat} (h:w.ownsMap P k R b n D) (e:w'.heap[b]? = w.heap[b]?):w'.ownsMap P k R b n D:=by
 obtain ⟨es,clock,hb,r⟩:=h
 exact ⟨es,clock,e.trans hb,r⟩
theorem owns_is {P:Program} {k:TypeId} {R:Value->Option (DataW Nat × List MemPlace)} {w:World} {b n:Nat} {D:DataW Nat} (h:w.ownsMap P k R b n D):∃ es clock,w.heap[b]? = some (.map es clock):=by
 obtain ⟨es,clock,hb,_⟩:=h
 exact ⟨es,clock,hb⟩
structure Foot (F:Nat->Prop) (w w':World):Prop where
 os:w'.os=w.os
 tape:w'.tape=w.tape
 output:w'.output=w.output
 size:w.heap.size<=w'.heap.size
 block:∀ k,k < w.heap.size->¬ F k->w'.heap[k]? = w.heap[k]?
structure Goes (F F':Nat->Prop) (w w':World):Prop where
 foot:Foot F w w'
 new:∀ x,F' x->F x ∨ w.heap.size<=x
section
variable {F F1 F2:Nat->Prop} {w w0 w1 w2 w':World} {b base:Nat}
theorem Foot.of_below (h:Below w.heap.size w w'):Foot F w w':=⟨h.os,h.tape,h.output,h.size,fun k hk _=>h.block k hk⟩
theorem Foot.of_but (h:But b w w') (hb:F b):Foot F w w':=⟨h.os,h.tape,h.output,by rw [h.size];exact Nat.le_refl _,fun k _ hk=>h.block k fun e=>hk (e ▸ hb)⟩
theorem Goes.refl (F:Nat->Prop) (w:World):Goes F F w w:=⟨.of_below (Below.refl _ _),fun _ h=>.inl h⟩
theorem Goes.trans (h:Goes F F1 w w1) (k:Goes F1 F2 w1 w2):Goes F F2 w w2:=by
 refine ⟨⟨k.foot.os.trans h.foot.os,k.foot.tape.trans h.foot.tape,k.foot.output.trans h.foot.output,Nat.le_trans h.foot.size k.foot.size,fun j hj hn => ?_⟩,fun x hx => ?_⟩
 . refine (k.foot.block j (Nat.lt_of_lt_of_le hj h.foot.size) fun e => ?_).trans (h.foot.block j hj hn)
   rcases h.new j e with h1 | h1
   . exact hn h1
   . omega
 . rcases k.new x hx with h1 | h1
   . exact h.new x h1
   . exact .inr (Nat.le_trans h.foot.size h1)
theorem Goes.of_below (h:Below w.heap.size w w'):Goes F F w w':=⟨.of_below h,fun _ h=>.inl h⟩
end
def blkB (C:Nat->UInt8) (k:Nat):List UInt8:=(List.range 64).map fun i=>C (64 * k+i)
theorem blkB_len (C:Nat->UInt8) (k:Nat):(blkB C k).length=64:=by simp [blkB]
theorem blkB_congr {C C':Nat->UInt8} {k:Nat} (h:∀ i,i / 64=k->C' i=C i):blkB C' k=blkB C k:=by
 unfold blkB
 refine List.map_congr_left fun i hi=>h _ ?_
 have:=List.mem_range.1 hi
 omega
theorem blkB_get {C:Nat->UInt8} {k j:Nat} (h:j < 64):(blkB C k)[j]? = some (C (64 * k+j)):=by simp [blkB,h]
def foot (fb:Nat) (mv:Value) (D:DataW Nat) (h:Nat->Bool) (x:Nat):Prop:=x=fb ∨ mv=.map (some x) ∨ ∃ k,h k=true/\x=gOf D k
structure FileM (w:World) (fb:Nat) (mv:Value) (D:DataW Nat) (sz:Nat) (C:Nat->UInt8) (h:Nat->Bool):Prop where
 box:Blk w fb 222 [mv,.int .i64 sz]
 map:(mv=.map none/\D=.map []) ∨ ∃ mb,mv=.map (some mb)/\w.ownsMap Tryz.prog 3 ptrElem mb (Maps.size D) D
 is:MapIs D h
 blk:∀ k,h k=true->Blk w (gOf D k) 246 (bytesV (blkB C k))
 zero:∀ i,h (i / 64)=false->C i=0
def FileAt (w:World) (fb:Nat) (F:Nat->Prop) (sz:Nat) (C:Nat->UInt8) (h:Nat->Bool):Prop:=∃ mv D,FileM w fb mv D sz C h/\F=foot fb mv D h
section
variable {w w':World} {fb sz:Nat} {mv:Value} {D:DataW Nat} {C C':Nat->UInt8} {h:Nat->Bool} {F:Nat->Prop}
theorem FileM.lt (f:FileM w fb mv D sz C h) {x:Nat} (hx:foot fb mv D h x):x < w.heap.size:=by
 rcases hx with rfl | hx | ⟨k,hk,rfl⟩
 . exact f.box.lt
 . rcases f.map with ⟨e,_⟩ | ⟨mb,e,hm⟩
   . rw [e] at hx;cases hx
   . rw [e] at hx;cases hx;exact hm.lt
 . exact (f.blk k hk).lt
theorem FileM.kind (f:FileM w fb mv D sz C h) {x:Nat} (hx:foot fb mv D h x) {cs:Array Value} {t:TypeId} {fr:Nat × Nat} (e:w.heap[x]? = some (.cells cs t fr)):t=222 ∨ t=246:=by
 rcases hx with rfl | hx | ⟨k,hk,rfl⟩
 . rw [f.box.row] at e;simp at e;exact .inl e.2.1.symm
 . rcases f.map with ⟨e',_⟩ | ⟨mb,e',hm⟩
   . rw [e'] at hx;cases hx
   . rw [e'] at hx;cases hx;obtain ⟨es,clock,hb⟩:=owns_is hm;rw [hb] at e;cases e
 . rw [(f.blk k hk).row] at e;simp at e;exact .inr e.2.1.symm
theorem FileM.same (f:FileM w fb mv D sz C h) (hs:∀ x,foot fb mv D h x->w'.heap[x]? = w.heap[x]?):FileM w' fb mv D sz C h:=by
 refine ⟨⟨(hs fb (.inl rfl)).trans f.box.row⟩,?_,f.is,fun k hk=>⟨(hs _ (.inr (.inr ⟨k,hk,rfl⟩))).trans (f.blk k hk).row⟩,f.zero⟩
 rcases f.map with h0 | ⟨mb,e,hm⟩
 . exact .inl h0
 . exact .inr ⟨mb,e,owns_block hm (hs mb (.inr (.inl e)))⟩
theorem FileM.on (f:FileM w fb mv D sz C h) (hb:Below w.heap.size w w'):FileM w' fb mv D sz C h:=f.same fun x hx=>hb.block x (f.lt hx)
theorem FileAt.on (f:FileAt w fb F sz C h) (hb:Below w.heap.size w w'):FileAt w' fb F sz C h:=by
 obtain ⟨mv,D,f,e⟩:=f
 exact ⟨mv,D,f.on hb,e⟩
theorem FileAt.drewN (f:FileAt w fb F sz C h) (q:Nat):FileAt (w.drewN q) fb F sz C h:=f.on (on_drewN (Below.refl _ _) q)
theorem Goes.drewN {F F':Nat->Prop} {w w':World} (g:Goes F F' w w') (q:Nat):Goes F F' w (w'.drewN q):=⟨⟨g.foot.os,g.foot.tape,g.foot.output,g.foot.size,g.foot.block⟩,g.new⟩
theorem FileAt.kind (f:FileAt w fb F sz C h) {x:Nat} (hx:F x) {cs:Array Value} {t:TypeId} {fr:Nat × Nat} (e:w.heap[x]? = some (.cells cs t fr)):t=222 ∨ t=246:=by
 obtain ⟨mv,D,f,rfl⟩:=f
 exact f.kind hx e
theorem FileAt.self (f:FileAt w fb F sz C h):F fb:=by
 obtain ⟨mv,D,f,rfl⟩:=f
 exact .inl rfl
theorem FileAt.box (f:FileAt w fb F sz C h):∃ mv,Blk w fb 222 [mv,.int .i64 sz]:=by
 obtain ⟨mv,D,f,rfl⟩:=f
 exact ⟨mv,f.box⟩
theorem FileM.fb_map (f:FileM w fb mv D sz C h) {mb:Nat} (e:mv=.map (some mb)):fb ≠ mb:=fun e'=>by
 subst e'
 rcases f.map with ⟨e2,_⟩ | ⟨mb',e2,hm⟩
 . rw [e] at e2;cases e2
 . rw [e] at e2;cases e2;obtain ⟨es,clock,hb⟩:=owns_is hm;rw [f.box.row] at hb;cases hb
theorem FileM.fb_blk (f:FileM w fb mv D sz C h) {k:Nat} (hk:h k=true):gOf D k ≠ fb:=fun e=>by
 have h1:=(f.blk k hk).row;rw [e,f.box.row] at h1
 simp at h1
theorem FileM.map_blk (f:FileM w fb mv D sz C h) {mb:Nat} (e:mv=.map (some mb)) {k:Nat} (hk:h k=true):gOf D k ≠ mb:=fun e'=>by
 rcases f.map with ⟨e2,_⟩ | ⟨mb',e2,hm⟩
 . rw [e] at e2;cases e2
 . rw [e] at e2;cases e2;obtain ⟨es,clock,hb⟩:=owns_is hm;rw [<- e',(f.blk k hk).row] at hb;cases hb
theorem FileM.owns (f:FileM w fb mv D sz C h) {mb:Nat} (e:mv=.map (some mb)):w.ownsMap Tryz.prog 3 ptrElem mb (Maps.size D) D:=by
 rcases f.map with ⟨e2,_⟩ | ⟨mb',e2,hm⟩
 . rw [e] at e2;cases e2
 . rw [e] at e2;cases e2;exact hm
theorem FileM.size_le (f:FileM w fb mv D sz C h):Maps.size D<=1024:=by rw [f.is.count];exact cntF_le _ _
theorem FileM.sized (f:FileM w fb mv D sz C h) (s:Nat):FileM (w.setCell ⟨fb,1,none⟩ (.int .i64 s)) fb mv D s C h:=by
 have hb:=but_set w fb 1 (.int .i64 s)
 refine ⟨f.box.set 1 _,?_,f.is,fun k hk=>(f.blk k hk).but hb (f.fb_blk hk),f.zero⟩
 rcases f.map with h0 | ⟨mb,e,hm⟩
 . exact .inl h0
 . exact .inr ⟨mb,e,owns_block hm (hb.block mb fun e'=>f.fb_map e e'.symm)⟩
theorem FileAt.sized (f:FileAt w fb F sz C h) (s:Nat):FileAt (w.setCell ⟨fb,1,none⟩ (.int .i64 s)) fb F s C h/\Goes F F w (w.setCell ⟨fb,1,none⟩ (.int .i64 s)):=by
 have hs:=f.self;obtain ⟨mv,D,f,e⟩:=f
 exact ⟨⟨mv,D,f.sized s,e⟩,.of_but (but_set w fb 1 _) hs,fun _ h=>.inl h⟩
theorem fileM_new (w:World):FileM (w.alloc (.cells #[.map none,.int .i64 0] 222)) w.heap.size (.map none) (.map []) 0 (fun _=>0) (fun _=>false) :=
 ⟨Blk.new w _ [.map none,.int .i64 0],.inl ⟨rfl,rfl⟩,mapIs_empty,(fun _ h=>by cases h),fun _ _=>rfl⟩
theorem FileM.mapped (f:FileM w fb (.map none) D sz C h):FileM ((w.alloc (.map #[] 0)).setCell ⟨fb,0,none⟩ (.map (some w.heap.size))) fb (.map (some w.heap.size)) D sz C h:=by
 have hD:D=.map []:=by
  rcases f.map with h0 | ⟨mb,e,_⟩
  . exact h0.2
  . cases e
 have hb:=but_set (w.alloc (.map #[] 0)) fb 0 (.map (some w.heap.size));have hlt:=f.box.lt
 refine ⟨(f.box.alloc _).set 0 _,.inr ⟨_,rfl,?_⟩,f.is,fun k hk=>((f.blk k hk).alloc _).but hb (f.fb_blk hk),f.zero⟩
 rw [hD]
 exact owns_block (World.ownsMap_made w _ _ _) (hb.block _ (by omega))
theorem FileM.laid {mb g:Nat} {w2:World} {cs:Array Value} (f:FileM w fb (.map (some mb)) D sz C h) {k:Nat} (hk:h k=false) (hl:k < 1024) (hgs:w.heap.size=g) (hcs:cs=(bytesV (List.replicate 64 0)).toArray)
 (ho:w2.ownsMap Tryz.prog 3 ptrElem mb (Maps.size D+1) (D.put (ky k) (.held g)))
 (hg:(w.alloc (.cells cs 246)).grownBy w2 (some mb)) :
 FileM w2 fb (.map (some mb)) (D.put (ky k) (.held g)) sz C (upd h k true)/\gOf (D.put (ky k) (.held g)) k=g:=by
 subst hgs hcs;have hal:=on_alloc w (.cells (bytesV (List.replicate 64 0)).toArray 246)
 have hsz:(w.alloc (.cells (bytesV (List.replicate 64 0)).toArray 246)).heap.size=w.heap.size+1:=by simp
 have hm:=(f.owns rfl).lt;have hgk:gOf (D.put (ky k) (.held w.heap.size)) k=w.heap.size:=gOf_put f.is.tidy.isMap k _
 refine ⟨⟨⟨?_⟩,.inr ⟨mb,rfl,owns_exact ho⟩,f.is.put hk hl fun j hj e => ?_,fun j hj => ?_,fun i hi=>f.zero i ?_⟩,hgk⟩
 . rw [hg.block fb (by rw [hsz];have:=f.box.lt;omega) fun e=>f.fb_map rfl (by simpa using e)]
   exact (f.box.alloc _).row
 . have:=(f.blk j hj).lt
   omega
 . by_cases e:j=k
   . subst e;rw [hgk]
     have hz:blkB C j=List.replicate 64 0:=by
      refine List.ext_getElem? fun i => ?_
      by_cases hi:i < 64
      . rw [blkB_get hi,f.zero _ (by rw [show (64 * j+i) / 64=j by omega];exact hk),List.getElem?_replicate,if_pos hi]
      . rw [List.getElem?_eq_none (by rw [blkB_len];omega),List.getElem?_eq_none (by simp;omega)]
     rw [hz]
     refine ⟨(hg.block _ (by omega) fun e => ?_).trans (Blk.new w _ _).row⟩
     simp at e;omega
   . rw [upd_other true e] at hj;rw [gOf_put_other _ e]
     refine ⟨(hg.block _ (by rw [hsz];have:=(f.blk j hj).lt;omega) fun e => ?_).trans ((f.blk j hj).alloc _).row⟩
     exact f.map_blk rfl hj (by simpa using e)
 . by_cases e:i / 64=k
   . rw [e,upd_same] at hi;cases hi
   . rw [upd_other true e] at hi;exact hi
theorem FileM.wrote (f:FileM w fb mv D sz C h) {k:Nat} (hk:h k=true) (hb:But (gOf D k) w w') (hr:Blk w' (gOf D k) 246 (bytesV (blkB C' k))) (ho:∀ i,i / 64 ≠ k->C' i=C i):FileM w' fb mv D sz C' h:=by
 refine ⟨f.box.but hb fun e=>f.fb_blk hk e.symm,?_,f.is,fun j hj => ?_,fun i hi => ?_⟩
 . rcases f.map with h0 | ⟨mb,e,hm⟩
   . exact .inl h0
   . exact .inr ⟨mb,e,owns_block hm (hb.block mb fun e'=>f.map_blk e hk e'.symm)⟩
 . by_cases e:j=k
   . subst e;exact hr
   . rw [blkB_congr fun i hi=>ho i (by omega)]
     exact (f.blk j hj).but hb fun e'=>e (f.is.inj j k hj hk e')
 . have:i / 64 ≠ k:=fun e=>by rw [e,hk] at hi;cases hi
   rw [ho i this];exact f.zero i hi
theorem FileM.struck {mb m:Nat} (f:FileM w fb (.map (some mb)) D sz C h) {k:Nat} (hk:h k=true) (ho:w'.ownsMap Tryz.prog 3 ptrElem mb m (D.del (ky k))) (hg:w.grownBy w' (some mb)) (hz:∀ i,i / 64=k->C' i=0) (hc:∀ i,i / 64 ≠ k->C' i=C i) :
 FileM w' fb (.map (some mb)) (D.del (ky k)) sz C' (upd h k false):=by
 refine ⟨⟨?_⟩,.inr ⟨mb,rfl,owns_exact ho⟩,f.is.del hk,fun j hj => ?_,fun i hi => ?_⟩
 . rw [hg.block fb f.box.lt fun e=>f.fb_map rfl (by simpa using e)]
   exact f.box.row
 . have e:j ≠ k:=fun e=>by subst e;rw [upd_same] at hj;cases hj
   rw [upd_other false e] at hj
   rw [gOf_del_other e,blkB_congr fun i hi=>hc i (by omega)]
   refine ⟨(hg.block _ (f.blk j hj).lt fun e => ?_).trans (f.blk j hj).row⟩
   exact f.map_blk rfl hj (by simpa using e)
 . by_cases e:i / 64=k
   . exact hz i e
   . rw [upd_other false e] at hi;rw [hc i e];exact f.zero i hi
end
theorem lawInt : Keyed Tryz.prog 3:=int_keyed Tryz.underlying3
theorem zeroPtr (w:World):(zeroValue 228).run Tryz.prog w=.ok (.pointer none) w:=by kernel_rfl
theorem ky_wf {k:Nat} (h:k<=9000000000):(ky k).wf=true:=WalkArith.wf_i64 (by omega)
section
variable {w : World} {fb sz:Nat} {mv:Value} {D:DataW Nat} {C:Nat->UInt8} {h:Nat->Bool} {F:Nat->Prop}
theorem FileM.look_yes (f:FileM w fb mv D sz C h) {k:Nat} (hk:h k=true):(Instr.lookup 220 mv (.int .i64 k) false).run Tryz.prog w=.ok (.pointer (some ⟨gOf D k,0,none⟩)) w:=by
 have hl:=f.is.small k hk;obtain ⟨h1,h2⟩:=f.is.held k hk
 rcases f.map with ⟨_,rfl⟩ | ⟨mb,rfl,hm⟩
 . simp [Maps.has] at h1
 . obtain ⟨v,ps,hrun,hv⟩:=hm.lookup lawInt Tryz.underlying220 (zeroPtr w) ptrElem_nil (keyOf_int_mk Tryz.underlying3 (ky_wf (k:=k) (by omega)))
   rw [h2] at hv;rw [ptrElem_of_held hv] at hrun
   exact hrun
theorem FileM.look_no (f:FileM w fb mv D sz C h) {x:Int} (hw:(Lit.int .i64 x).wf=true) (hk:∀ k:Nat,x=k->h k=false):(Instr.lookup 220 mv (.int .i64 x) false).run Tryz.prog w=.ok (.pointer none) w:=by
 rcases f.map with ⟨rfl,_⟩ | ⟨mb,rfl,hm⟩
 . have:=Maps.look_nil (w:=w) false lawInt Tryz.underlying220 (zeroPtr w) (keyOf_int_mk Tryz.underlying3 hw)
   simpa using this
 . obtain ⟨v,ps,hrun,hv⟩:=hm.lookup lawInt Tryz.underlying220 (zeroPtr w) ptrElem_nil (keyOf_int_mk Tryz.underlying3 hw);rw [f.is.none hk] at hv;rw [ptrElem_of_nil hv] at hrun
   exact hrun
theorem FileM.len (f:FileM w fb mv D sz C h) (ty:TypeId):(Builtin.len_ #[220] ty #[mv]).run Tryz.prog w=.ok (.int .i64 (cntF 1024 h:Nat)) w:=by
 rw [<- f.is.count]
 rcases f.map with ⟨rfl,rfl⟩ | ⟨mb,rfl,hm⟩
 . exact Maps.len_nil Tryz.underlying220 ty
 . exact hm.len Tryz.underlying220 ty
end
def Hs (w:World) (v:Value) (sz:Nat) (C:Nat->UInt8) (h:Nat->Bool):Prop :=
 (v=.pointer none/\sz=0/\∀ k,h k=false) ∨ ∃ fb F,v=.pointer (some ⟨fb,0,none⟩)/\FileAt w fb F sz C h
theorem Hs.on {w w':World} {v:Value} {sz:Nat} {C:Nat->UInt8} {h:Nat->Bool} (f:Hs w v sz C h) (hb:Below w.heap.size w w'):Hs w' v sz C h:=by
 rcases f with h0 | ⟨fb,F,e,f⟩
 . exact .inl h0
 . exact .inr ⟨fb,F,e,f.on hb⟩
theorem new_any (w:World):Calls Tryz.prog 132 #[] w fun e w'=>e=.returned (.pointer (some ⟨w.heap.size,0,none⟩))/\FileAt w' w.heap.size (fun x=>x=w.heap.size) 0 (fun _=>0) (fun _=>false)/\Below w.heap.size w w':=by
 have HF:Hid (FileAt (w.alloc (.cells #[.map none,.int .i64 0] 222)) w.heap.size (fun x=>x=w.heap.size) 0 (fun _=>0) (fun _=>false)) :=
  ⟨_,_,fileM_new w,by funext x;simp [foot]⟩
 have HB:Hid (Below w.heap.size w (w.alloc (.cells #[.map none,.int .i64 0] 222))):=on_alloc w _;go_enter Tryz.func132,Tryz.ntmps132;go_wp2
 go_ret
 exact ⟨rfl,HF.out,HB.out⟩
theorem size_any (v:Value) (sz:Nat) (C:Nat->UInt8) (h:Nat->Bool) (w:World) (f:Hs w v sz C h):Calls Tryz.prog 128 #[v] w fun e w'=>e=.returned (.int .i64 sz)/\w'=w:=by
 rcases f with ⟨rfl,rfl,_⟩ | ⟨fb,F,rfl,mv,D,f,_⟩
 . go_enter Tryz.func128,Tryz.ntmps128;go_wp2
   go_ret
   exact ⟨rfl,rfl⟩
 . have x1:=f.box.cell 1 rfl;clear f;go_enter Tryz.func128,Tryz.ntmps128;go_wp2
   go_ret
   exact ⟨rfl,rfl⟩
theorem blocks_of (v:Value) (sz:Nat) (C:Nat->UInt8) (h:Nat->Bool) (w:World) (f:Hs w v sz C h):Calls Tryz.prog 129 #[v] w fun e w'=>e=.returned (.int .i64 (cntF 1024 h:Nat))/\w'=w:=by
 rcases f with ⟨rfl,rfl,h0⟩ | ⟨fb,F,rfl,mv,D,f,_⟩
 . rw [cntF_none h0];go_enter Tryz.func129,Tryz.ntmps129;go_wp2
   go_ret
   exact ⟨rfl,rfl⟩
 . have x0:=f.box.cell 0 rfl;have hlen:=f.len;generalize cntF 1024 h=n at *;clear f;go_enter Tryz.func129,Tryz.ntmps129;go_wp2
   go_ret
   exact ⟨rfl,rfl⟩
def hasZ (h:Nat->Bool) (x:Int):Bool:=decide (0<=x) && h x.toNat
theorem hasZ_nat (h:Nat->Bool) (k:Nat):hasZ h k=h k:=by simp [hasZ]
theorem has_of (v:Value) (sz:Nat) (C:Nat->UInt8) (h:Nat->Bool) (x:Int) (w:World) (hw:(Lit.int .i64 x).wf=true) (f:Hs w v sz C h):Calls Tryz.prog 190 #[v,.int .i64 x] w fun e w'=>e=.returned (.bool (hasZ h x))/\w'=w:=by
 rcases f with ⟨rfl,rfl,h0⟩ | ⟨fb,F,rfl,mv,D,f,_⟩
 . have e:hasZ h x=false:=by simp [hasZ,h0]
   rw [e];go_enter Tryz.func190,Tryz.ntmps190;go_wp2
   go_ret
   exact ⟨rfl,rfl⟩
 . have x0:=f.box.cell 0 rfl
   cases hz:hasZ h x with
   | true =>
    have hz':0<=x/\h x.toNat=true:=by simpa [hasZ] using hz
    have hlk:=f.look_yes hz'.2
    rw [show ((x.toNat:Nat):Int)=x by omega] at hlk
    clear f;go_enter Tryz.func190,Tryz.ntmps190;go_wp2
    go_ret
    exact ⟨rfl,rfl⟩
   | false =>
    have hlk:=f.look_no hw (fun k e=>by subst e;rw [hasZ_nat] at hz;exact hz)
    clear f;go_enter Tryz.func190,Tryz.ntmps190;go_wp2
    go_ret
    exact ⟨rfl,rfl⟩
theorem after_any (i:Nat) (w:World) (hi:i<=9000000000):Calls Tryz.prog 184 #[.int .i64 i] w fun e w'=>e=.returned (.int .i64 ((i / 64+1) * 64:Nat))/\w'=w:=by
 have hz:(((i / 64+1) * 64:Nat):Int)=((i:Int) / 64+1) * 64:=by omega
 rw [hz];go_enter Tryz.func184,Tryz.ntmps184;go_wp2
 go_ret
 exact ⟨rfl,rfl⟩
theorem tooBig_any (x n:Int) (w:World) (hn:0<=n/\n<=9223372036854775807):Calls Tryz.prog 171 #[.int .i64 x,.int .i64 n] w fun e w'=>e=.returned (.bool (decide (65536 - n < x)))/\w'=w:=by
 go_enter Tryz.func171,Tryz.ntmps171;go_wp2
 go_ret
 exact ⟨rfl,rfl⟩
open Go Go.RowKit
theorem outOf_not {off n:Int} (h:outOf off n=false):0<=off/\1<=n/\off<=65536/\n<=65536 - off:=by
 simp only [outOf,Bool.or_eq_false_iff,decide_eq_false_iff_not] at h
 omega
theorem need_in (p q:Option Addr) (c d n:Nat) (H:List Bool) (o m:Nat) (w:World) (hH:H.length<=9000000000) (h:At w q (boolsV H)) (hm:1<=m) (hom:o+m<=65536) :
 Calls Tryz.prog 145 #[.agg #[.slice p n c,.slice q H.length d],.int .i64 o,.int .i64 m] w fun e w'=>e=.returned (.int .i64 (cnt H (o / 64) ((o+m+63) / 64):Nat))/\Below w.heap.size w w':=by
 have HB:Hid (Below w.heap.size w (w.alloc (.cells #[.slice p n c,.slice q H.length d] 71))):=on_alloc w _;have HX:Hid (Blk (w.alloc (.cells #[.slice p n c,.slice q H.length d] 71)) w.heap.size 71 [.slice p n c,.slice q H.length d]):=Blk.new w _ [.slice p n c,.slice q H.length d];have HA:Hid (At w q (boolsV H)):=h
 have z1:¬ (o:Int) < 0:=by omega
 have z2:¬ (m:Int) < 1:=by omega
 have z3:¬ (65536:Int) < (o:Int):=by omega
 have z4:¬ (65536:Int) - (o:Int) < (m:Int):=by omega
 clear h
 have HK:Hid (∀ k:Nat,(k:Int) * 64 < (o:Int)+(m:Int) ↔ k < (o+m+63) / 64):=fun k=>by omega
 have HC:Hid (∀ k,cnt H (o / 64) k<=k):=cnt_le H _
 have h0K:o / 64<=(o+m+63) / 64:=by omega
 have hK:(o+m+63) / 64<=2000:=by omega
 have HZ:Hid ((o:Int) / 64=((o / 64:Nat):Int)):=show (o:Int) / 64=((o / 64:Nat):Int) by omega
 generalize o / 64=k0 at *;generalize (o+m+63) / 64=K at *;go_enter Tryz.func145,Tryz.ntmps145;go_wp2;generalize w.alloc (.cells #[.slice p n c,.slice q H.length d] 71)=w0 at *
 go_loopw [7,8] (fun s i wr => ∃ k:Nat,k0<=k/\k<=K/\i=.int .i64 k/\s=.int .i64 (cnt H k0 k:Nat)/\Hid (Blk wr w.heap.size 71 [.slice p n c,.slice q H.length d])/\Hid (Below w.heap.size w wr)) (fun _ i _=>K - (intOf i).toNat)
 case atStart=>exact ⟨k0,Nat.le_refl _,h0K,by rw [HZ.out],by rw [cnt_zero H k0 k0 (Nat.le_refl _)];rfl,HX,HB⟩
 case round =>
  clear HX HB;obtain ⟨k,hk1,hk2,rfl,rfl,HX,HB⟩:=hrel;have hkz:=HK.out k;have hcl:=HC.out k
  by_cases hlt:k < K
  . have hltz:(k:Int) * 64 < (o:Int)+(m:Int):=hkz.2 hlt;clear hkz;have x0:=HX.out.cell 0 rfl;have x1:=HX.out.cell 1 rfl
    have hcall:=has_any p q c d n H k wr (by omega) hH (HA.out.on HB.out)
    have HXs:Hid (∀ w',Below wr.heap.size wr w'->Hid (Blk w' w.heap.size 71 [.slice p n c,.slice q H.length d])/\Hid (Below w.heap.size w w')):=fun w' hb=>⟨HX.out.on hb,on_trans HB.out hb⟩
    cases hr:H.getD k false with
    | true =>
     have HS:Hid (cnt H k0 (k+1)=cnt H k0 k):=cnt_has hr;rw [hr] at hcall;clear hr;generalize cnt H k0 k=ck at *;go_wp2_with fail;refine hcall.mono ?_;rintro e w2 ⟨rfl,hb⟩;obtain ⟨HX2,HB2⟩:=HXs.out w2 hb;go_wp2;go_roundw
     case rel=>exact ⟨k+1,by omega,by omega,by go_num,by rw [HS.out],HX2,HB2⟩
     case measure=>simp [intOf];omega
    | false =>
     have HS:Hid (cnt H k0 (k+1)=cnt H k0 k+1):=cnt_not hk1 hr;rw [hr] at hcall;clear hr;generalize cnt H k0 k=ck at *;go_wp2_with fail;refine hcall.mono ?_;rintro e w2 ⟨rfl,hb⟩;obtain ⟨HX2,HB2⟩:=HXs.out w2 hb;go_wp2;go_roundw
     case rel=>exact ⟨k+1,by omega,by omega,by go_num,by rw [HS.out];go_num,HX2,HB2⟩
     case measure=>simp [intOf];omega
  . obtain rfl:k=K:=by omega
    have hltz:¬ (k:Int) * 64 < (o:Int)+(m:Int):=fun h=>hlt (hkz.1 h)
    clear hkz;go_wp2
    go_ret
    exact ⟨rfl,HB.out⟩
theorem need_any (p q:Option Addr) (c d n:Nat) (H:List Bool) (off m:Int) (w:World) (hH:H.length<=9000000000) (h:At w q (boolsV H)) :
 Calls Tryz.prog 145 #[.agg #[.slice p n c,.slice q H.length d],.int .i64 off,.int .i64 m] w fun e w'=>e=.returned (.int .i64 (needN H off m:Nat))/\Below w.heap.size w w':=by
 cases ho:outOf off m with
 | false =>
  have:=outOf_not ho;unfold needN;rw [ho]
  have k:=need_in p q c d n H off.toNat m.toNat w hH h (by omega) (by omega)
  rw [show ((off.toNat:Nat):Int)=off by omega,show ((m.toNat:Nat):Int)=m by omega] at k
  exact k
 | true =>
  have e:needN H off m=0:=by unfold needN;rw [ho];rfl
  rw [e];have HB:Hid (Below w.heap.size w (w.alloc (.cells #[.slice p n c,.slice q H.length d] 71))):=on_alloc w _;clear e h
  simp only [outOf,Bool.or_eq_true,decide_eq_true_eq] at ho
  by_cases h1:off < 0
  . clear ho;go_enter Tryz.func145,Tryz.ntmps145;go_wp2
    go_ret
    exact ⟨rfl,HB.out⟩
  by_cases h2:m < 1
  . clear ho;go_enter Tryz.func145,Tryz.ntmps145;go_wp2
    go_ret
    exact ⟨rfl,HB.out⟩
  by_cases h3:65536 < off
  . clear ho;go_enter Tryz.func145,Tryz.ntmps145;go_wp2
    go_ret
    exact ⟨rfl,HB.out⟩
  . have h4:65536 - off < m:=by omega
    clear ho;go_enter Tryz.func145,Tryz.ntmps145;go_wp2
    go_ret
    exact ⟨rfl,HB.out⟩
open Go Go.RowKit Go.Maps
def cntN (h:Nat->Bool) (k0:Nat):Nat->Nat
 | 0=>0
 | k+1=>cntN h k0 k+(if k0<=k/\h k=false then 1 else 0)
theorem cntN_list (H:List Bool) (k0:Nat):∀ k,cnt H k0 k=cntN (fun j=>H.getD j false) k0 k
 | 0=>rfl
 | k+1=>by rw [cnt,cntN,cntN_list H k0 k]
theorem cntN_zero (h:Nat->Bool) (k0:Nat):∀ k,k<=k0->cntN h k0 k=0
 | 0,_=>rfl
 | k+1,e=>by rw [cntN,cntN_zero h k0 k (by omega),if_neg (by omega)]
theorem cntN_has {h:Nat->Bool} {k0 k:Nat} (e:h k=true):cntN h k0 (k+1)=cntN h k0 k:=by rw [cntN,if_neg (by rw [e];simp)];rfl
theorem cntN_not {h:Nat->Bool} {k0 k:Nat} (hk:k0<=k) (e:h k=false):cntN h k0 (k+1)=cntN h k0 k+1:=by rw [cntN,if_pos ⟨hk,e⟩]
theorem cntN_le (h:Nat->Bool) (k0:Nat):∀ k,cntN h k0 k<=k
 | 0=>Nat.le_refl _
 | k+1=>by
  have:=cntN_le h k0 k;rw [cntN]
  split <;> omega
def needF (h:Nat->Bool) (off n:Int):Nat:=if outOf off n then 0 else cntN h (off.toNat / 64) ((off.toNat+n.toNat+63) / 64)
theorem needF_list (H:List Bool) (off n:Int):needN H off n=needF (fun j=>H.getD j false) off n:=by
 unfold needN needF;rw [cntN_list]
theorem need_file_in (v:Value) (sz:Nat) (C:Nat->UInt8) (h:Nat->Bool) (o m:Nat) (w:World) (f:Hs w v sz C h) (hm:1<=m) (hom:o+m<=65536) :
 Calls Tryz.prog 172 #[v,.int .i64 o,.int .i64 m] w fun e w'=>e=.returned (.int .i64 (cntN h (o / 64) ((o+m+63) / 64):Nat))/\w'=w:=by
 have HF:Hid (Hs w v sz C h):=f
 have z1:¬ (o:Int) < 0:=by omega
 have z2:¬ (m:Int) < 1:=by omega
 have hbig:=tooBig_any o m w (by omega)
 rw [show decide ((65536:Int) - (m:Int) < (o:Int))=false by simp;omega] at hbig
 clear f;have HC:Hid (∀ k,cntN h (o / 64) k<=k):=cntN_le h _
 have HA:Hid (∀ k:Nat,k<=2000->∀ i:Nat,i / 64=k->Calls Tryz.prog 184 #[.int .i64 i] w fun e w'=>e=.returned (.int .i64 ((k+1) * 64:Nat))/\w'=w):=fun k hk i hi=>by
  have:=after_any i w (by omega)
  rw [hi] at this
  exact this
 have HK:Hid (∀ i k:Nat,i / 64=k->(i=o ∨ i=64 * k)->o / 64<=k->((i:Int) < (o:Int)+(m:Int) ↔ k < (o+m+63) / 64)):=fun i k h1 h2 h3=>by omega
 have h0K:o / 64<=(o+m+63) / 64:=by omega
 have hK:(o+m+63) / 64<=2000:=by omega
 obtain ⟨k0,HO⟩:∃ k0,Hid (o / 64=k0):=⟨_,rfl⟩;have hO:o / 64=k0:=HO.out;rw [hO] at HC HK h0K ⊢;clear hO;generalize (o+m+63) / 64=K at *
 have hoo:o<=65536:=by omega
 go_enter Tryz.func172,Tryz.ntmps172;go_wp2_with fail;refine hbig.mono ?_;rintro e w2 ⟨rfl,rfl⟩;clear hbig;go_wp2
 go_loopw [7,8] (fun s at_ wr => ∃ k i:Nat,k0<=k/\k<=K/\at_=.int .i64 i/\Hid (i / 64=k/\(i=o ∨ i=64 * k))/\s=.int .i64 (cntN h k0 k:Nat)/\wr=w2) (fun _ i _=>64 * K - (intOf i).toNat)
 case atStart=>exact ⟨k0,o,Nat.le_refl _,h0K,rfl,⟨HO.out,.inl rfl⟩,by rw [cntN_zero h k0 k0 (Nat.le_refl _)];rfl,rfl⟩
 case round =>
  obtain ⟨k,i,hk1,hk2,rfl,HI,rfl,rfl⟩:=hrel;have hkz:=HK.out i k HI.out.1 HI.out.2 hk1;have hcl:=HC.out k
  by_cases hlt:k < K
  . have hltz:(i:Int) < (o:Int)+(m:Int):=hkz.2 hlt;clear hkz
    have hi6:Hid ((i:Int) / 64=(k:Int)):=show (i:Int) / 64=(k:Int) by have:=HI.out.1;omega
    have hcall:=has_of v sz C h k wr (ky_wf (k:=k) (by omega)) HF.out
    rw [hasZ_nat,<- hi6.out] at hcall
    have hcal2:=HA.out k (by omega) i HI.out.1
    have hil:i < 64 * K:=by have:=HI.out.1;omega
    have HN:Hid ((k+1) * 64 / 64=k+1/\((k+1) * 64=o ∨ (k+1) * 64=64 * (k+1))):=⟨by omega,.inr (by omega)⟩
    have hmore:i < (k+1) * 64:=by have:=HI.out.1;omega
    cases hr:h k with
    | true =>
     have HS:Hid (cntN h k0 (k+1)=cntN h k0 k):=cntN_has hr;rw [hr] at hcall;clear hr;generalize cntN h k0 k=ck at *;go_wp2_with fail;refine hcall.mono ?_;rintro e w2 ⟨rfl,rfl⟩;go_wp2_with fail;refine hcal2.mono ?_;rintro e w2 ⟨rfl,rfl⟩;go_wp2;go_roundw
     case rel=>exact ⟨k+1,(k+1) * 64,by omega,by omega,rfl,HN,by rw [HS.out],by trivial⟩
     case measure=>simp [intOf];omega
    | false =>
     have HS:Hid (cntN h k0 (k+1)=cntN h k0 k+1):=cntN_not hk1 hr;rw [hr] at hcall;clear hr;generalize cntN h k0 k=ck at *;go_wp2_with fail;refine hcall.mono ?_;rintro e w2 ⟨rfl,rfl⟩;go_wp2_with fail;refine hcal2.mono ?_;rintro e w2 ⟨rfl,rfl⟩;go_wp2;go_roundw
     case rel=>exact ⟨k+1,(k+1) * 64,by omega,by omega,rfl,HN,by rw [HS.out];go_num,by trivial⟩
     case measure=>simp [intOf];omega
  . obtain rfl:k=K:=by omega
    have hltz:¬ (i:Int) < (o:Int)+(m:Int):=fun h=>hlt (hkz.1 h)
    clear hkz;go_wp2
    go_ret
    exact ⟨rfl,rfl⟩
theorem need_file (v:Value) (sz:Nat) (C:Nat->UInt8) (h:Nat->Bool) (off m:Int) (w:World) (f:Hs w v sz C h) (_hoff:(Lit.int .i64 off).wf=true) (hmm:(Lit.int .i64 m).wf=true) :
 Calls Tryz.prog 172 #[v,.int .i64 off,.int .i64 m] w fun e w'=>e=.returned (.int .i64 (needF h off m:Nat))/\w'=w:=by
 cases ho:outOf off m with
 | false =>
  have:=outOf_not ho;unfold needF;rw [ho]
  have k:=need_file_in v sz C h off.toNat m.toNat w f (by omega) (by omega)
  rw [show ((off.toNat:Nat):Int)=off by omega,show ((m.toNat:Nat):Int)=m by omega] at k
  exact k
 | true =>
  have e:needF h off m=0:=by unfold needF;rw [ho];rfl
  rw [e];clear e f
  have hm2:m<=9223372036854775807:=by
   simp [Lit.wf,IntKind.min,IntKind.max,IntKind.signed,IntKind.bits] at hmm
   omega
  simp only [outOf,Bool.or_eq_true,decide_eq_true_eq] at ho
  by_cases h2:m < 1
  . clear ho;go_enter Tryz.func172,Tryz.ntmps172;go_wp2
    go_ret
    exact ⟨rfl,rfl⟩
  by_cases h1:off < 0
  . clear ho;go_enter Tryz.func172,Tryz.ntmps172;go_wp2
    go_ret
    exact ⟨rfl,rfl⟩
  . have hbig:=tooBig_any off m w (by omega)
    rw [show decide (65536 - m < off)=true by simp;omega] at hbig
    clear ho;go_enter Tryz.func172,Tryz.ntmps172;go_wp2_with fail;refine hbig.mono ?_;rintro e w2 ⟨rfl,rfl⟩;go_wp2
    go_ret
    exact ⟨rfl,rfl⟩
theorem map_eq_none (w:World):(binOp .eql 220 (.map none) (.map none)).run Tryz.prog w=.ok (.bool true) w:=by kernel_rfl
theorem map_eq_some (mb:Nat) (w:World):(binOp .eql 220 (.map (some mb)) (.map none)).run Tryz.prog w=.ok (.bool false) w:=by kernel_rfl
theorem slice_arr (g r:Nat) (hr:r < 64) (w:World):(Instr.sliceAt 246 (.pointer (some ⟨g,0,none⟩)) (some (.int .i64 (r:Int))) none none).run Tryz.prog w=.ok (.slice (some ⟨g,r,none⟩) (64 - r) (64 - r)) w:=by
 have e1:Tryz.prog.arrayLen 246=64:=by kernel_rfl
 have e2:∀ w,(sizeOf (Tryz.prog.elem 246)).run Tryz.prog w=.ok 1 w:=fun w=>by kernel_rfl
 have hu:Tryz.prog.underlying 246=some (.array (Tryz.prog.arrayLen 246) (Tryz.prog.elem 246)):=by kernel_rfl
 rw [run_sliceAt_array_l w 246 ⟨g,0,none⟩ hu .i64 r (by omega) (by rw [e1];omega),e2,e1]
 simp only [Result.andThen,slicedAt,Int.toNat_natCast,Nat.mul_one]
 rw [if_neg (by omega)]
 simp [Addr.add]
 omega
theorem goes_mapped {w:World} {fb sz:Nat} {D:DataW Nat} {C:Nat->UInt8} {h:Nat->Bool} (_f:FileM w fb (.map none) D sz C h):Goes (foot fb (.map none) D h) (foot fb (.map (some w.heap.size)) D h) w ((w.alloc (.map #[] 0)).setCell ⟨fb,0,none⟩ (.map (some w.heap.size))):=by
 have hb:=but_set (w.alloc (.map #[] 0)) fb 0 (.map (some w.heap.size));have ha:=on_alloc w (.map #[] 0)
 refine ⟨⟨hb.os.trans ha.os,hb.tape.trans ha.tape,hb.output.trans ha.output,by rw [hb.size];exact ha.size,fun k hk hn=>(hb.block k fun e=>hn (.inl e)).trans (ha.block k hk)⟩,fun x hx => ?_⟩
 rcases hx with e | e | e
 . exact .inl (.inl e)
 . cases e;exact .inr (Nat.le_refl _)
 . exact .inl (.inr (.inr e))
theorem goes_laid {w w2:World} {fb mb g sz k:Nat} {D:DataW Nat} {C:Nat->UInt8} {h:Nat->Bool} {o:Obj} (f:FileM w fb (.map (some mb)) D sz C h) (hgs:w.heap.size=g) (hg:(w.alloc o).grownBy w2 (some mb)):Goes (foot fb (.map (some mb)) D h) (foot fb (.map (some mb)) (D.put (ky k) (.held g)) (upd h k true)) w w2:=by
 subst hgs;have ha:=on_alloc w o
 refine ⟨⟨hg.os.trans ha.os,hg.tape.trans ha.tape,hg.output.trans ha.output,Nat.le_trans ha.size hg.size,fun j hj hn=>(hg.block j (Nat.lt_of_lt_of_le hj ha.size) fun e=>hn (.inr (.inl (by cases e;rfl)))).trans (ha.block j hj)⟩,fun x hx => ?_⟩
 rcases hx with e | e | ⟨j,hj,e⟩
 . exact .inl (.inl e)
 . exact .inl (.inr (.inl e))
 . by_cases ej:j=k
   . subst ej;rw [gOf_put f.is.tidy.isMap] at e
     exact .inr (by omega)
   . rw [upd_other true ej] at hj;rw [gOf_put_other _ ej] at e
     exact .inl (.inr (.inr ⟨j,hj,e⟩))
theorem block_any (fb sz k:Nat) (mv:Value) (D:DataW Nat) (C:Nat->UInt8) (h:Nat->Bool) (w:World) (hk:k < 1024) (f:FileM w fb mv D sz C h) :
 Calls Tryz.prog 191 #[.pointer (some ⟨fb,0,none⟩),.int .i64 k] w fun e w' => ∃ mv' D',e=.returned (.pointer (some ⟨gOf D' k,0,none⟩))/\FileM w' fb mv' D' sz C (upd h k true)/\Goes (foot fb mv D h) (foot fb mv' D' (upd h k true)) w w':=by
 have hmk:=keyOf_int_mk (P:=Tryz.prog) (k:=3) Tryz.underlying3 (ky_wf (k:=k) (by omega))
 have x0:=f.box.cell 0 rfl;have hmm:=@run_makeMap Tryz.prog;have hen:=map_eq_none;have hes:=map_eq_some
 rcases f.map with ⟨rfl,hD⟩ | ⟨mb,rfl,hm⟩
 . have f1:=f.mapped;have hg0:=goes_mapped f
   have hh:h k=false:=by
    cases hh:h k
    . rfl
    . have:=(f.is.held k hh).1;rw [hD] at this
      simp [Maps.has] at this
   have x0':=x0;have fr:=(f.box.alloc (.map #[] 0)).free 0;have c0:=(f.box.alloc (.map #[] 0)).cell 0 rfl;have HF:Hid (FileM ((w.alloc (.map #[] 0)).setCell ⟨fb,0,none⟩ (.map (some w.heap.size))) fb (.map (some w.heap.size)) D sz C h):=f1;have HG:Hid (Goes (foot fb (.map none) D h) (foot fb (.map (some w.heap.size)) D h) w ((w.alloc (.map #[] 0)).setCell ⟨fb,0,none⟩ (.map (some w.heap.size)))):=hg0;have hsz:=f1.size_le
   have hlk:=f1.look_no (x:=(k:Int)) (ky_wf (k:=k) (by omega)) (fun j e=>by rw [<- Int.ofNat_inj.1 e];exact hh)
   have y0:=f1.box.cell 0 rfl;clear f f1 hg0 hD;go_enter Tryz.func191,Tryz.ntmps191
   go_wp2_with (first
    | (at_mapUpdate;refine wpList_mapUpdate_own _ rfl _ _ _ 220 rfl 3 228 lawInt Tryz.underlying220 ptrElem w.heap.size (Maps.size D) D rfl ((HF.out.owns rfl).alloc _) (by unfold maxLen;omega) _ _ (ky k) rfl rfl hmk (.held (w.heap.size+1)) [] (ptrElem_mk _) ?_;intro w2 hown hgr
       obtain ⟨f2,hgk⟩:=HF.out.laid hh hk (by simp [World.setCell]) (by rfl) hown hgr
       have HG2:Hid _:=goes_laid (k:=k) HF.out (g:=w.heap.size+1) (by simp [World.setCell]) hgr
       have z0:=f2.box.cell 0 rfl;have hl2:=f2.look_yes (upd_same h k true);have HF2:Hid _:=f2;clear f2 hown hgr)
    | go_in)
   go_ret
   exact ⟨_,_,by rw [hgk];rfl,HF2.out,HG.out.trans HG2.out⟩
 . have HF:Hid (FileM w fb (.map (some mb)) D sz C h):=f;have hsz:=f.size_le
   cases hh:h k with
   | true =>
    have hlk:=f.look_yes hh;clear f;go_enter Tryz.func191,Tryz.ntmps191;go_wp2
    go_ret
    rw [upd_id hh]
    exact ⟨_,_,rfl,HF.out,.refl _ _⟩
   | false =>
    have hlk:=f.look_no (x:=(k:Int)) (ky_wf (k:=k) (by omega)) (fun j e=>by rw [<- Int.ofNat_inj.1 e];exact hh)
    clear f;go_enter Tryz.func191,Tryz.ntmps191
    go_wp2_with (first
     | (at_mapUpdate;refine wpList_mapUpdate_own _ rfl _ _ _ 220 rfl 3 228 lawInt Tryz.underlying220 ptrElem mb (Maps.size D) D rfl ((HF.out.owns rfl).alloc _) (by unfold maxLen;omega) _ _ (ky k) rfl rfl hmk (.held w.heap.size) [] (ptrElem_mk _) ?_;intro w2 hown hgr
        obtain ⟨f2,hgk⟩:=HF.out.laid hh hk rfl (by rfl) hown hgr
        have HG2:Hid _:=goes_laid (k:=k) HF.out rfl hgr;have z0:=f2.box.cell 0 rfl;have hl2:=f2.look_yes (upd_same h k true);have HF2:Hid _:=f2;clear f2 hown hgr)
     | go_in)
    go_ret
    exact ⟨_,_,by rw [hgk];rfl,HF2.out,HG2.out⟩
open Go Go.RowKit
theorem one_bytes (B:List UInt8):∀ u ∈ bytesV B,u.oneCell'=true:=fun u hu=>by
 obtain ⟨x,_,rfl⟩:=List.mem_map.1 hu
 rfl
theorem one_bools (H:List Bool):∀ u ∈ boolsV H,u.oneCell'=true:=fun u hu=>by
 obtain ⟨x,_,rfl⟩:=List.mem_map.1 hu
 rfl
def OwnFile (hi:Nat) (w:World) (v:Value) (B:List UInt8) (H:List Bool):Prop:=∃ v1 v2,v=.agg #[v1,v2]/\OwnV hi 5 w v1 (bytesV B)/\OwnV hi 4 w v2 (boolsV H)
theorem OwnFile.on {hi:Nat} {w w':World} {v:Value} {B:List UInt8} {H:List Bool} (h:OwnFile hi w v B H) (hb:Below w.heap.size w w'):OwnFile hi w' v B H:=by
 obtain ⟨v1,v2,h1,h2,h3⟩:=h
 exact ⟨v1,v2,h1,ownV_on h2 hb,ownV_on h3 hb⟩
theorem OwnFile.but {hi b:Nat} {w w':World} {v:Value} {B:List UInt8} {H:List Bool} (h:OwnFile hi w v B H) (hb:But b w w') (hlt:b < hi):OwnFile hi w' v B H:=by
 obtain ⟨v1,v2,h1,h2,h3⟩:=h
 exact ⟨v1,v2,h1,ownV_but h2 hb hlt,ownV_but h3 hb hlt⟩
theorem OwnFile.less {hi hi':Nat} {w:World} {v:Value} {B:List UInt8} {H:List Bool} (h:OwnFile hi w v B H) (hl:hi'<=hi):OwnFile hi' w v B H:=by
 obtain ⟨v1,v2,h1,h2,h3⟩:=h
 exact ⟨v1,v2,h1,ownV_less h2 hl,ownV_less h3 hl⟩
def Kd.file {hi:Nat} (B:List UInt8) (H:List Bool):Kd hi:=⟨fun v W=>OwnFile hi W v B H,none,fun _ _ _ h hb=>h.on hb,fun _ _ _ _ h hb hlt _=>h.but hb hlt⟩
def Kd.inBox {hi:Nat} (b:Nat) (B:List UInt8) (H:List Bool):Kd hi :=
 ⟨fun _ W => ∃ v1 v2,Blk W b 71 [v1,v2]/\OwnFile hi W (.agg #[v1,v2]) B H,some b,fun _ _ _ ⟨v1,v2,h1,h2⟩ hb=>⟨v1,v2,h1.on hb,h2.on hb⟩,
  fun _ _ _ _ ⟨v1,v2,h1,h2⟩ hb hlt hne=>⟨v1,v2,h1.but hb fun e=>hne (congrArg some e),h2.but hb hlt⟩⟩
section
variable {o : Oper} {ρ:Operand->Value} {w:World} {post:Value->World->Prop} {b:Nat}
theorem leaves_field {k:Nat} (x:Operand) (ho:o.op=.fieldAddr 71 x k) (hk:k < 2) (hx:ρ x=.pointer (some ⟨b,0,none⟩)) (h:post (.pointer (some ⟨b,k,none⟩)) w):leaves Tryz.prog o ρ w post:=by
 refine leaves_value (v:=.pointer (some ⟨b,k,none⟩)) (w':=w) ?_ h
 obtain ⟨dst,op,ty,pos,after,guard⟩:=o
 simp only at ho
 subst ho
 match k,hk with
 | 0,_=>simp [go_sem,hx]
 | 1,_=>simp [go_sem,hx]
theorem leaves_put {u0 u1 v0 v1:Value} (x y:Operand) (hv0:∃ p n c,v0=.slice p n c) (hv1:∃ p n c,v1=.slice p n c) (ho:o.op=.store 71 x y) (hx:ρ x=.pointer (some ⟨b,0,none⟩)) (hy:ρ y=.agg #[v0,v1])
 (hb:Blk w b 71 [u0,u1]) (h:post undef (putL w b 0 [v0,v1])):leaves Tryz.prog o ρ w post:=by
 obtain ⟨p0,n0,c0,rfl⟩:=hv0;obtain ⟨p1,n1,c1,rfl⟩:=hv1
 refine leaves_skip (w':=putL w b 0 [.slice p0 n0 c0,.slice p1 n1 c1]) ?_ h
 have f0:=hb.free 0;have f1:=hb.free 1;have x0:=hb.cell 0 rfl;have x1:=hb.cell 1 rfl;obtain ⟨dst,op,ty,pos,after,guard⟩:=o
 simp only at ho
 subst ho
 simp [go_sem,hx,hy,f0,f1,x0,x1,putL]
end
theorem ref_own_any (p q:Option Addr) (c d:Nat) (B:List UInt8) (H:List Bool) (w:World) (hB:B.length<=1000000) (hH:H.length<=1000000) (hp:At w p (bytesV B)) (hq:At w q (boolsV H)) :
 Calls Tryz.prog 146 #[.agg #[.slice p B.length c,.slice q H.length d]] w fun e w' => ∃ v,e=.returned v/\OwnFile w.heap.size w' v B H/\Below w.heap.size w w':=by
 have hX:=(Blk.new w 71 [.slice p B.length c,.slice q H.length d]).alloc (.cells #[.slice none 0 0,.slice none 0 0] 71);have hY:=Blk.new (w.alloc (.cells #[.slice p B.length c,.slice q H.length d] 71)) 71 [.slice none 0 0,.slice none 0 0];have hBl:=on_trans (on_alloc w (.cells #[.slice p B.length c,.slice q H.length d] 71)) (on_alloc _ (.cells #[.slice none 0 0,.slice none 0 0] 71));rw [World.size_alloc] at hY
 change Blk ((w.alloc (.cells #[.slice p B.length c,.slice q H.length d] 71)).alloc (.cells #[.slice none 0 0,.slice none 0 0] 71)) _ _ _ at hX hY
 go_enter Tryz.func146,Tryz.ntmps146;go_wp2;generalize (w.alloc (.cells #[.slice p B.length c,.slice q H.length d] 71)).alloc (.cells #[.slice none 0 0,.slice none 0 0] 71)=w0 at *;have hlt:=hY.lt
 refine wp_region_left (S:=fun W=>w0.heap.size<=W.heap.size/\Blk W w.heap.size 71 [.slice p B.length c,.slice q H.length d]/\(∃ u0 u1,Blk W (w.heap.size+1) 71 [u0,u1])/\Below w.heap.size w W)
  (Keep:=KeepK [(9,w.heap.size+1)])
  (g:=fun i v W=>([Kd.mt 5,.is (.pointer (some ⟨w.heap.size,0,none⟩)),.is (.slice p B.length c),.own 5 (bytesV B),.mt 4,.is (.pointer (some ⟨w.heap.size,1,none⟩)),.is (.slice q H.length d),.own 4 (boolsV H),.file B H,.inBox (w.heap.size+1) B H].getD i (Kd.any (hi:=w.heap.size+2))).ok v W)
  (tab:=[[],[(1,none)],[(4,some 1)],[(3,some 0),(5,some 2)],[],[(1,none)],[(8,some 5)],[(7,some 4),(9,some 6)],[(6,some 3),(10,some 7)],[(2,none),(11,some 8)]]) (tl:=[]) (n:=12)
  (by kernel_rfl) rfl (by kernel_rfl) (keep_one (by omega) ?k) ⟨Nat.le_refl _,hX.drew,⟨_,_,hY.drew⟩,on_drew hBl⟩ ?_ ?_
 case k =>
  intro j hj
  match j,hj with
  | 0,_ | 1,_ | 2,_ | 3,_ | 4,_ | 5,_ | 6,_ | 7,_ | 8,_=>rfl
  | 9,hj=>exact absurd rfl hj
  | j+10,_=>rfl
 . refine ⟨?_,?_,?_,?_,?_,?_,?_,?_,?_,?_,trivial⟩ <;> intro ρ W hr hS hs
   . have hb:=on_alloc W (.cells #[] 5);have hsz:=hS.1
     refine step_plain rfl (leaves_value (v:=.slice (some ⟨W.heap.size,0,none⟩) 0 0) (w':=W.alloc (.cells #[] 5)) ?_ ⟨⟨⟨_,rfl⟩,ownV_empty W _ _ (by omega)⟩,⟨Nat.le_trans hS.1 hb.size,hS.2.1.on hb,?_,on_trans hS.2.2.2 hb⟩,hb⟩)
     . simp [go_sem]
     . obtain ⟨u0,u1,hu⟩:=hS.2.2.1
       exact ⟨u0,u1,hu.on hb⟩
   . exact step_plain rfl (leaves_field (.tmp 1) rfl (by decide) hs.1 ⟨rfl,hS,Below.refl _ _⟩)
   . exact step_plain rfl (leaves_cell Tryz.isAgg68 (.tmp 4) rfl hs.1 (hS.2.1.cell 0 rfl) ⟨rfl,hS,Below.refl _ _⟩)
   . obtain ⟨⟨⟨b,h5⟩,h6⟩,h7,_⟩:=hs
     have h7':ρ (.tmp 5)=.slice p (bytesV B).length c:=by rw [List.length_map];exact h7
     have h5':ρ (.tmp 3)=.slice (some ⟨b,0,none⟩) 0 0:=h5
     have h6':OwnV (w.heap.size+2) 5 W (.slice (some ⟨b,0,none⟩) 0 0) []:=by rw [<- h5'];exact h6
     have hsz:=hS.1
     obtain ⟨v',W',hrun,hb,ho⟩:=append_copy elemByte (w.heap.size+2) b p c (bytesV B) W (by simpa using hB) (one_bytes B) h6' (by omega) (hp.below hS.2.2.2 (Nat.le_refl _))
     refine step_plain rfl (leaves_append (v:=v') (w':=W') (.tmp 3) (.tmp 5) 68 rfl ?_ ⟨ho,⟨Nat.le_trans hS.1 hb.size,hS.2.1.on hb,?_,on_trans hS.2.2.2 hb⟩,hb⟩)
     . rw [h5',h7'];exact hrun
     . obtain ⟨u0,u1,hu⟩:=hS.2.2.1
       exact ⟨u0,u1,hu.on hb⟩
   . have hb:=on_alloc W (.cells #[] 4);have hsz:=hS.1
     refine step_plain rfl (leaves_value (v:=.slice (some ⟨W.heap.size,0,none⟩) 0 0) (w':=W.alloc (.cells #[] 4)) ?_ ⟨⟨⟨_,rfl⟩,ownV_empty W _ _ (by omega)⟩,⟨Nat.le_trans hS.1 hb.size,hS.2.1.on hb,?_,on_trans hS.2.2.2 hb⟩,hb⟩)
     . simp [go_sem]
     . obtain ⟨u0,u1,hu⟩:=hS.2.2.1
       exact ⟨u0,u1,hu.on hb⟩
   . exact step_plain rfl (leaves_field (.tmp 1) rfl (by decide) hs.1 ⟨rfl,hS,Below.refl _ _⟩)
   . exact step_plain rfl (leaves_cell Tryz.isAgg69 (.tmp 8) rfl hs.1 (hS.2.1.cell 1 rfl) ⟨rfl,hS,Below.refl _ _⟩)
   . obtain ⟨⟨⟨b,h5⟩,h6⟩,h7,_⟩:=hs
     have h7':ρ (.tmp 9)=.slice q (boolsV H).length d:=by rw [List.length_map];exact h7
     have h5':ρ (.tmp 7)=.slice (some ⟨b,0,none⟩) 0 0:=h5
     have h6':OwnV (w.heap.size+2) 4 W (.slice (some ⟨b,0,none⟩) 0 0) []:=by rw [<- h5'];exact h6
     have hsz:=hS.1
     obtain ⟨v',W',hrun,hb,ho⟩:=append_copy elemBool (w.heap.size+2) b q d (boolsV H) W (by simpa using hH) (one_bools H) h6' (by omega) (hq.below hS.2.2.2 (Nat.le_refl _))
     refine step_plain rfl (leaves_append (v:=v') (w':=W') (.tmp 7) (.tmp 9) 69 rfl ?_ ⟨ho,⟨Nat.le_trans hS.1 hb.size,hS.2.1.on hb,?_,on_trans hS.2.2.2 hb⟩,hb⟩)
     . rw [h5',h7'];exact hrun
     . obtain ⟨u0,u1,hu⟩:=hS.2.2.1
       exact ⟨u0,u1,hu.on hb⟩
   . obtain ⟨h6,h10,_⟩:=hs
     refine step_plain rfl (leaves_value (v:=.agg #[ρ (.tmp 6),ρ (.tmp 10)]) (w':=W) ?_ ⟨⟨_,_,rfl,h6,h10⟩,hS,Below.refl _ _⟩)
     have h6':OwnV (w.heap.size+2) 5 W (ρ (.tmp 6)) (bytesV B):=h6;have h10':OwnV (w.heap.size+2) 4 W (ρ (.tmp 10)) (boolsV H):=h10;obtain ⟨_,_,e1,_⟩:=ownV_at h6';obtain ⟨_,_,e2,_⟩:=ownV_at h10'
     simp [go_sem,e1,e2]
   . obtain ⟨h2,⟨v1,v2,h9,h10,h11⟩,_⟩:=hs;obtain ⟨u0,u1,hu⟩:=hS.2.2.1;have hbut:=but_putL (w.heap.size+1) [v1,v2] W 0;have hpt:=hu.put [v1,v2] rfl;obtain ⟨y1,z1,e1,_⟩:=ownV_at h10;obtain ⟨y2,z2,e2,_⟩:=ownV_at h11
     exact step_plain rfl (leaves_put (.tmp 2) (.tmp 11) ⟨_,_,_,e1⟩ ⟨_,_,_,e2⟩ rfl h2 h9 hu ⟨⟨v1,v2,hpt,v1,v2,rfl,ownV_but h10 hbut (by omega),ownV_but h11 hbut (by omega)⟩,⟨by rw [hbut.size];exact hS.1,hS.2.1.but hbut (by omega),⟨_,_,hpt⟩,below_but hS.2.2.2 hbut (by omega)⟩,hbut⟩)
 . intro W hS v0 h0 v1 h1 v2 h2 v3 h3 v4 h4 v5 h5 v6 h6 v7 h7 v8 h8 h9
   obtain ⟨y1,y2,hbx,hof⟩:=h9 rfl;clear h0 h1 h2 h3 h4 h5 h6 h7 h8 h9
   simp only [ends,Act.put,List.setIfInBounds_toArray,List.set_cons_succ,List.set_cons_zero]
   go_wp2
   exact bodyPost_ret (results_blk (cs:=[y1,y2]) Tryz.isAgg71 infoRef rfl _ _ rfl hbx) rfl ⟨_,rfl,hof.less (by omega),hS.2.2.2⟩
open Go Go.RowKit Go.Maps
def putC (C:Nat->UInt8) (o:Nat) (L:List UInt8) (d:Nat):Nat->UInt8:=fun i=>if o<=i/\i < o+d then L.getD (i - o) 0 else C i
def layH (h:Nat->Bool) (o d:Nat):Nat->Bool:=fun k=>h k || decide (0 < d/\o / 64<=k/\64 * k < o+d)
theorem putC_zero (C:Nat->UInt8) (o:Nat) (L:List UInt8):putC C o L 0=C:=by
 funext i
 simp [putC];omega
theorem layH_zero (h:Nat->Bool) (o:Nat):layH h o 0=h:=by
 funext k
 simp [layH]
section
variable {C : Nat->UInt8} {h:Nat->Bool} {o d n k r:Nat} {L:List UInt8}
theorem layH_step (hk:(o+d) / 64=k) (hn:0 < n) (hr:o+d+n<=64 * k+64):upd (layH h o d) k true=layH h o (d+n):=by
 funext j
 by_cases e:j=k
 . subst e;rw [upd_same]
   simp only [layH]
   rw [decide_eq_true (by omega)]
   simp
 . rw [upd_other true e]
   simp only [layH]
   congr 1
   rw [decide_eq_decide]
   omega
theorem putC_other (hk:(o+d) / 64=k) (hr:o+d+n<=64 * k+64) {i:Nat} (hi:i / 64 ≠ k):putC C o L (d+n) i=putC C o L d i:=by
 simp only [putC]
 by_cases h1:o<=i/\i < o+d
 . rw [if_pos h1,if_pos (by omega)]
 . rw [if_neg h1,if_neg (by omega)]
theorem putC_blk (hk:(o+d) / 64=k) (hm:(o+d) % 64=r) (hr:r+n<=64) (hL:d+n<=L.length) :
 blkB (putC C o L (d+n)) k=(blkB (putC C o L d) k).take r ++ (L.drop d).take n ++ (blkB (putC C o L d) k).drop (r+n):=by
 have hl1:((blkB (putC C o L d) k).take r).length=r:=by rw [List.length_take,blkB_len];omega
 have hl2:((L.drop d).take n).length=n:=by simp;omega
 refine List.ext_getElem? fun j => ?_
 by_cases hj:j < 64
 . rw [blkB_get hj,List.append_assoc]
   by_cases h1:j < r
   . rw [List.getElem?_append_left (by omega),List.getElem?_take_of_lt h1,blkB_get hj]
     simp only [putC]
     congr 1
     by_cases h2:o<=64 * k+j/\64 * k+j < o+d
     . rw [if_pos h2,if_pos (by omega)]
     . rw [if_neg h2,if_neg (by omega)]
   . rw [List.getElem?_append_right (by omega),hl1]
     by_cases h2:j - r < n
     . rw [List.getElem?_append_left (by omega),List.getElem?_take_of_lt h2,List.getElem?_drop]
       simp only [putC]
       rw [if_pos (by omega),List.getD_eq_getElem?_getD,show 64 * k+j - o=d+(j - r) by omega,List.getElem?_eq_getElem (by omega)]
       rfl
     . rw [List.getElem?_append_right (by omega),hl2,List.getElem?_drop,show r+n+(j - r - n)=j by omega,blkB_get hj]
       simp only [putC]
       rw [if_neg (by omega),if_neg (by omega)]
 . rw [List.getElem?_eq_none (by rw [blkB_len];omega),List.getElem?_eq_none]
   simp [blkB_len];omega
end
theorem goes_wrote {w w':World} {fb k:Nat} {mv:Value} {D:DataW Nat} {h:Nat->Bool} (hk:h k=true) (hb:But (gOf D k) w w'):Goes (foot fb mv D h) (foot fb mv D h) w w' :=
 ⟨.of_but hb (.inr (.inr ⟨k,hk,rfl⟩)),fun _ h=>.inl h⟩
theorem FileM.copied {w:World} {fb sz k r d n o sb so m sc:Nat} {mv:Value} {D:DataW Nat} {C:Nat->UInt8} {h:Nat->Bool} {L:List UInt8} (f:FileM w fb mv D sz (putC C o L d) h) (hk:(o+d) / 64=k) (hm:(o+d) % 64=r) (hh:h k=true) (hn:n=Nat.min m (64 - r)) (hL:d+m=L.length)
 (hsrc:∀ (j:Nat) v,(bytesV L)[j]? = some v->w.cell? ⟨sb,so+j,none⟩=some v) (dCap:Nat) :
 ∃ w',(∀ ty,(Builtin.copy_ #[68,68] ty #[.slice (some ⟨gOf D k,r,none⟩) (64 - r) dCap,.slice (some ⟨sb,so+d,none⟩) m sc]).run Tryz.prog w=.ok (.int .i64 (n:Nat)) w')/\FileM w' fb mv D sz (putC C o L (d+n)) h/\Goes (foot fb mv D h) (foot fb mv D h) w w':=by
 have hle1:n<=m:=by rw [hn];exact Nat.min_le_left _ _
 have hle2:n<=64 - r:=by rw [hn];exact Nat.min_le_right _ _
 have hbl:=f.blk k hh
 have hll:(bytesV ((L.drop d).take n)).length=n:=by simp;omega
 obtain ⟨w',h1,h2,h3⟩:=copy_into elemByte hbl r (64 - r) dCap m sc ⟨sb,so+d,none⟩ (bytesV ((L.drop d).take n)) (by rw [hll,hn]) (by simp [blkB_len];omega) (fun j v hj=>by
  have hjn:j < n:=by have:=(List.getElem?_eq_some_iff.1 hj).1;omega
  have e:(⟨sb,so+d,none⟩:Addr).add j=⟨sb,so+(d+j),none⟩:=by unfold Addr.add;split <;> simp_all;omega
  rw [e]
  refine hsrc (d+j) v ?_
  rw [<- hj]
  simp [List.getElem?_take_of_lt hjn]) (one_bytes _)
 rw [hll] at h1 h3
 refine ⟨w',h1,f.wrote hh h2 ?_ fun i hi=>putC_other hk (by omega) hi,goes_wrote hh h2⟩
 rw [putC_blk hk hm (by omega) (by omega)]
 have e:bytesV (List.take r (blkB (putC C o L d) k) ++ List.take n (List.drop d L) ++ List.drop (r+n) (blkB (putC C o L d) k))=(bytesV (blkB (putC C o L d) k)).take r ++ bytesV ((L.drop d).take n) ++ (bytesV (blkB (putC C o L d) k)).drop (r+n):=by
  simp [bytesV,List.map_take,List.map_drop]
 rw [e]
 exact h3
theorem Goes.cell {F F':Nat->Prop} {w w':World} (h:Goes F F' w w') {a:Addr} (h1:a.block < w.heap.size) (h2:¬ F a.block):w'.cell? a=w.cell? a:=by
 simp only [World.cell?,h.foot.block _ h1 h2]
theorem lay_any (fb sb so c sz o:Nat) (F:Nat->Prop) (C:Nat->UInt8) (h:Nat->Bool) (L:List UInt8) (w:World) (f:FileAt w fb F sz C h) (hsb:sb < w.heap.size) (hnF:¬ F sb)
 (hsrc:∀ (j:Nat) v,(bytesV L)[j]? = some v->w.cell? ⟨sb,so+j,none⟩=some v) (hoL:o+L.length<=65536) (hc:L.length<=c) :
 Calls Tryz.prog 173 #[.pointer (some ⟨fb,0,none⟩),.int .i64 o,.slice (some ⟨sb,so,none⟩) L.length c] w fun e w'=>e=.returned (.tuple #[])/\∃ F',FileAt w' fb F' sz (putC C o L L.length) (layH h o L.length)/\Goes F F' w w':=by
 have HS:Hid (∀ w' F',Goes F F' w w'->¬ F' sb/\sb < w'.heap.size/\∀ (j:Nat) v,(bytesV L)[j]? = some v->w'.cell? ⟨sb,so+j,none⟩=some v):=fun w' F' hg=>by
  refine ⟨fun e => ?_,Nat.lt_of_lt_of_le hsb hg.foot.size,fun j v hj=>(hg.cell (a:=⟨sb,so+j,none⟩) hsb hnF).trans (hsrc j v hj)⟩
  rcases hg.new sb e with h1 | h1
  . exact hnF h1
  . omega
 have HF:Hid (FileAt w fb F sz C h):=f;clear f hsrc hnF;generalize hN:L.length=N at *;have HN:Hid (L.length=N):=hN;clear hN;go_enter Tryz.func173,Tryz.ntmps173;go_wp2
 go_loopw [1,2] (fun ov bv wr => ∃ (d x:Nat) (F':Nat->Prop),d<=N/\ov=.int .i64 (o+d:Nat)/\bv=.slice (some ⟨sb,x,none⟩) (N - d) (c - d)/\Hid (d < N->x=so+d)/\Hid (FileAt wr fb F' sz (putC C o L d) (layH h o d)/\Goes F F' w wr)) (fun _ bv _=>match bv with | .slice _ n _=>n | _=>0)
 case atStart=>exact ⟨0,so,F,Nat.zero_le _,by simp,by simp,fun _=>rfl,by rw [putC_zero,layH_zero];exact HF.out,.refl _ _⟩
 case round =>
  clear HF;obtain ⟨d,x,F',hd,rfl,rfl,HX,HI⟩:=hrel
  by_cases hlt:d < N
  . have hz:(0:Int) < ((N - d:Nat):Int):=by omega
    obtain rfl:=HX.out hlt;clear HX;obtain ⟨k,HK⟩:∃ k,Hid ((o+d) / 64=k):=⟨_,rfl⟩;obtain ⟨r,HR⟩:∃ r,Hid ((o+d) % 64=r):=⟨_,rfl⟩;obtain ⟨n,HMin⟩:∃ n,Hid (n=Nat.min (N - d) (64 - r)):=⟨_,rfl⟩;obtain ⟨⟨mv,D,fm,rfl⟩,hg⟩:=HI.out
    have hkl:k < 1024:=by have:=HK.out;omega
    have hrl:r < 64:=by have:=HR.out;omega
    have hcall:=block_any fb sz k mv D _ _ wr hkl fm
    have hkz:((o+d:Nat):Int) / 64=(k:Int):=by have:=HK.out;omega
    have hrz:((o+d:Nat):Int) % 64=(r:Int):=by have:=HR.out;omega
    have hsl:=fun g w=>slice_arr g r hrl w
    have hnd:n<=N - d:=by rw [HMin.out];exact Nat.min_le_left _ _
    have hn6:n<=64 - r:=by rw [HMin.out];exact Nat.min_le_right _ _
    have hn0:0 < n:=by rw [HMin.out];exact Nat.lt_min.2 ⟨by omega,by omega⟩
    obtain ⟨x',hsx,HX⟩:∃ x',_/\Hid (n < c - d->x'=so+d+n):=slice_from elemByte sb (so+d) (N - d) (c - d) n hnd;have HG:Hid _:=hg;clear fm HI hg;obtain ⟨od,HOD⟩:∃ od,Hid (o+d=od):=⟨_,rfl⟩;have hod:o+d=od:=HOD.out
    have hol:od<=65536:=by omega
    rw [hod] at hkz hrz ⊢;clear hod;go_wp2_with fail;refine hcall.mono ?_;rintro e w2 ⟨mv',D',rfl,fm,hg2⟩;have HG2:Hid _:=HG.out.trans hg2
    obtain ⟨w3,hcp,fm2,hg3⟩:=fm.copied (n:=n) (m:=N - d) (sc:=c - d) HK.out HR.out (upd_same _ _ _) HMin.out (by have:=HN.out;omega) (HS.out w2 _ HG2.out).2.2 (64 - r)
    have HF3:Hid (∃ F',FileAt w3 fb F' sz (putC C o L (d+n)) (layH h o (d+n))/\Goes F F' w w3):=by
     rw [layH_step HK.out hn0 (by have:=HK.out;have:=HR.out;omega)] at fm2 hg3 HG2
     exact ⟨_,⟨_,_,fm2,rfl⟩,HG2.out.trans hg3⟩
    clear fm fm2 hg3 hg2 HG2 HG hcall;go_wp2;go_quiet (fail);go_wp2;obtain ⟨F3,f3,g3⟩:=HF3.out
    refine ⟨⟨d+n,x',F3,by omega,?_,?_,?_,f3.drewN nq,g3.drewN nq⟩,?_⟩
    . have:=HOD.out
      congr 1
      omega
    . rw [Nat.sub_sub,Nat.sub_sub]
    . exact fun h=>by rw [HX.out (by omega)];omega
    . show N - d - n < N - d
      omega
  . obtain rfl:d=N:=by omega
    have hz:¬ (0:Int) < ((d - d:Nat):Int):=by omega
    go_wp2
    go_end0
    obtain ⟨h1,h2⟩:=HI.out
    exact ⟨rfl,F',h1,h2⟩
end Go.Proofs.YthlaoaaafafafaaGreat
