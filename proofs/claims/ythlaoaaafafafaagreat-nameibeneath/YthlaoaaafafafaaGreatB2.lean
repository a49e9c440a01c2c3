/- Ours. -/
import Derived.Test.YthlaoaaafafafaaGreatB1
set_option maxRecDepth 100000
set_option maxHeartbeats 16000000
namespace Go.Proofs.YthlaoaaafafafaaGreat
open Go Go.RowKit Go.Maps
def wrF (h:Nat->Bool) (off:Int) (n:Nat) (room:Int):Nat :=
 if off < 0 then 22 else if 65536 - (n:Int) < off then 27 else if room < needF h off n then 28 else 0
theorem write_bad (fb sz n c:Nat) (F:Nat->Prop) (C:Nat->UInt8) (h:Nat->Bool) (off room:Int) (er:Nat) (p:Option Addr) (w:World) (f:FileAt w fb F sz C h) (hoff:(Lit.int .i64 off).wf=true) (hn:n<=9000000000) (he:wrF h off n room=er) (hbad:er ≠ 0 ∨ n=0) :
 Calls Tryz.prog 143 #[.pointer (some ⟨fb,0,none⟩),.int .i64 off,.slice p n c,.int .i64 room] w fun e w'=>e=.returned (.tuple #[.int .i64 0,.int .i64 er])/\w'=w:=by
 have hbig:=tooBig_any off n w (by omega)
 have hneed:=need_file (.pointer (some ⟨fb,0,none⟩)) sz C h off n w (.inr ⟨fb,F,rfl,f⟩) hoff (WalkArith.wf_i64 (by omega))
 clear f;unfold wrF at he
 by_cases h1:off < 0
 . rw [if_pos h1] at he;subst he;clear hbad hbig hneed;go_enter Tryz.func143,Tryz.ntmps143;go_wp2
   go_ret2
   exact ⟨rfl,rfl⟩
 rw [if_neg h1] at he
 by_cases h2:65536 - (n:Int) < off
 . rw [if_pos h2] at he;rw [decide_eq_true h2] at hbig;subst he;clear hbad hneed;go_enter Tryz.func143,Tryz.ntmps143;go_wp2_with fail;refine hbig.mono ?_;rintro e w2 ⟨rfl,rfl⟩;go_wp2
   go_ret2
   exact ⟨rfl,rfl⟩
 rw [if_neg h2] at he;rw [decide_eq_false h2] at hbig;generalize needF h off n=nd at *
 by_cases h3:room < nd
 . rw [if_pos h3] at he;subst he;clear hbad;go_enter Tryz.func143,Tryz.ntmps143;go_wp2_with fail;refine hbig.mono ?_;rintro e w2 ⟨rfl,rfl⟩;go_wp2_with fail;refine hneed.mono ?_;rintro e w2 ⟨rfl,rfl⟩;go_wp2
   go_ret2
   exact ⟨rfl,rfl⟩
 . rw [if_neg h3] at he;subst he
   obtain rfl:n=0:=by omega
   clear hbad;go_enter Tryz.func143,Tryz.ntmps143;go_wp2_with fail;refine hbig.mono ?_;rintro e w2 ⟨rfl,rfl⟩;go_wp2_with fail;refine hneed.mono ?_;rintro e w2 ⟨rfl,rfl⟩;go_wp2
   go_ret2
   exact ⟨rfl,rfl⟩
theorem write_do (fb sz sb so c o:Nat) (F:Nat->Prop) (C:Nat->UInt8) (h:Nat->Bool) (room:Int) (L:List UInt8) (w:World) (f:FileAt w fb F sz C h) (hsz:sz<=65536) (hsb:sb < w.heap.size) (hnF:¬ F sb)
 (hsrc:∀ (j:Nat) v,(bytesV L)[j]? = some v->w.cell? ⟨sb,so+j,none⟩=some v) (hL:0 < L.length) (hoL:o+L.length<=65536) (hc:L.length<=c) (hroom:(needF h o L.length:Int)<=room) :
 Calls Tryz.prog 143 #[.pointer (some ⟨fb,0,none⟩),.int .i64 o,.slice (some ⟨sb,so,none⟩) L.length c,.int .i64 room] w fun e w'=>e=.returned (.tuple #[.int .i64 (needF h o L.length:Nat),.int .i64 0]) ∧
  ∃ F',FileAt w' fb F' (max sz (o+L.length)) (putC C o L L.length) (layH h o L.length)/\Goes F F' w w':=by
 have hbig:=tooBig_any o L.length w (by omega)
 rw [decide_eq_false (by omega)] at hbig
 have hneed:=need_file (.pointer (some ⟨fb,0,none⟩)) sz C h o L.length w (.inr ⟨fb,F,rfl,f⟩) (WalkArith.wf_i64 (by omega)) (WalkArith.wf_i64 (by omega))
 have hlay:=lay_any fb sb so c sz o F C h L w f hsb hnF hsrc hoL hc
 have h3:¬ room < needF h o L.length:=by omega
 have h4:¬ (L.length:Int)=0:=by omega
 have h5:¬ L.length=0:=by omega
 clear f hsrc hnF hroom;generalize needF h o L.length=nd at *
 have h1:¬ (o:Int) < 0:=by omega
 generalize hM:putC C o L L.length=C' at *;generalize hM2:layH h o L.length=h' at *;generalize L.length=n at *;clear hM hM2;obtain ⟨m,HM⟩:∃ m:Nat,Hid (max sz (o+n)=m):=⟨_,rfl⟩
 have hm1:m<=65536:=by have:=HM.out;omega
 have hM:max sz (o+n)=m:=HM.out;rw [hM];clear hM;go_enter Tryz.func143,Tryz.ntmps143;go_wp2_with fail;refine hbig.mono ?_;rintro e w2 ⟨rfl,rfl⟩;go_wp2_with fail;refine hneed.mono ?_;rintro e w2 ⟨rfl,rfl⟩;go_wp2_with fail;refine hlay.mono ?_;rintro e w3 ⟨rfl,F',hf,hg⟩;obtain ⟨hf2,hg2⟩:=hf.sized m;obtain ⟨mv,hbx⟩:=hf.box;have x1:=hbx.cell 1 rfl;have f1:=hbx.free 1;have HF:Hid (FileAt (w3.setCell ⟨fb,1,none⟩ (.int .i64 m)) fb F' m C' h'):=hf2;have HG:Hid (Goes F F' w2 (w3.setCell ⟨fb,1,none⟩ (.int .i64 m))):=hg.trans hg2
 clear hf hg hf2 hg2 hbx hbig hneed hlay;go_wp2
 . have e:((o:Int)+(n:Int))=(m:Int):=by have:=HM.out;omega
   rw [e]
   go_ret2
   exact ⟨rfl,F',HF.out,HG.out⟩
 . have e:(sz:Int)=(m:Int):=by have:=HM.out;omega
   rw [e]
   go_ret2
   exact ⟨rfl,F',HF.out,HG.out⟩
def hl (h:Nat->Bool) (n:Nat) (left:Lit->Bool):Nat->Bool:=fun k=>h k && (decide (64 * k < n) || left (ky k))
def cutH (h:Nat->Bool) (n:Nat):Nat->Bool:=fun k=>h k && decide (64 * k < n)
def onlyC (C:Nat->UInt8) (h:Nat->Bool):Nat->UInt8:=fun i=>if h (i / 64) then C i else 0
def cutC (C:Nat->UInt8) (n:Nat):Nat->UInt8:=fun i=>if i < n then C i else 0
section
variable {C : Nat->UInt8} {h:Nat->Bool} {n k:Nat} {left:Lit->Bool} {D:DataW Nat}
theorem hl_start (m:MapIs D h):hl h n (Maps.has D)=h:=by
 funext j
 simp only [hl]
 cases hj:h j
 . rfl
 . rw [(m.held j hj).1];simp
theorem hl_end (hz:∀ kl,left kl=false):hl h n left=cutH h n:=by
 funext j
 simp [hl,cutH,hz]
theorem strike_other {j:Nat} (e:j ≠ k):(left (ky j) && !(ky j).sameKey (ky k))=left (ky j):=by rw [sameKey_ne (ky_ne e)];simp
theorem hl_struck (hk:¬ 64 * k < n):hl h n (fun z=>left z && !z.sameKey (ky k))=upd (hl h n left) k false:=by
 funext j
 by_cases e:j=k
 . subst e;rw [upd_same]
   simp [hl,hk,WideAt.sameKey_self (ky_key j)]
 . rw [upd_other false e]
   simp only [hl]
   rw [strike_other e]
theorem hl_stays (hk:64 * k < n):hl h n (fun z=>left z && !z.sameKey (ky k))=hl h n left:=by
 funext j
 by_cases e:j=k
 . subst e
   simp [hl,hk]
 . simp only [hl]
   rw [strike_other e]
theorem onlyC_id (hz:∀ i,h (i / 64)=false->C i=0):onlyC C h=C:=by
 funext i
 simp only [onlyC]
 split
 . rfl
 . rename_i e
   exact (hz i (by simpa using e)).symm
theorem onlyC_upd {g:Nat->Bool}:∀ i,i / 64 ≠ k->onlyC C (upd g k false) i=onlyC C g i:=fun i hi=>by simp only [onlyC];rw [upd_other false hi]
theorem onlyC_gone {g:Nat->Bool}:∀ i,i / 64=k->onlyC C (upd g k false) i=0:=fun i hi=>by simp only [onlyC];rw [hi,upd_same];rfl
theorem onlyC_none (hz:∀ i,h (i / 64)=false->C i=0) (hk:cutH h n (n / 64)=false):onlyC C (cutH h n)=cutC C n:=by
 funext i
 simp only [onlyC,cutC]
 by_cases hi:i < n
 . rw [if_pos hi]
   cases hh:h (i / 64)
   . rw [hz i hh];simp
   . rw [if_pos]
     simp only [cutH,hh]
     simp;omega
 . rw [if_neg hi,if_neg]
   intro hc
   by_cases e:i / 64=n / 64
   . rw [e,hk] at hc;cases hc
   . simp only [cutH,Bool.and_eq_true,decide_eq_true_eq] at hc
     omega
theorem cutC_other (hz:∀ i,h (i / 64)=false->C i=0) {i:Nat} (hi:i / 64 ≠ n / 64):cutC C n i=onlyC C (cutH h n) i:=by
 simp only [onlyC,cutC]
 by_cases hi:i < n
 . rw [if_pos hi]
   cases hh:h (i / 64)
   . rw [hz i hh];simp
   . rw [if_pos]
     simp only [cutH,hh]
     simp;omega
 . rw [if_neg hi,if_neg]
   intro hc
   simp only [cutH,Bool.and_eq_true,decide_eq_true_eq] at hc
   omega
theorem cutC_blk (hk:cutH h n (n / 64)=true):blkB (cutC C n) (n / 64)=(blkB (onlyC C (cutH h n)) (n / 64)).take (n % 64) ++ List.replicate (64 - n % 64) 0:=by
 have hl1:((blkB (onlyC C (cutH h n)) (n / 64)).take (n % 64)).length=n % 64:=by rw [List.length_take,blkB_len];omega
 refine List.ext_getElem? fun j => ?_
 by_cases hj:j < 64
 . rw [blkB_get hj]
   have e:(64 * (n / 64)+j) / 64=n / 64:=by omega
   by_cases h1:j < n % 64
   . rw [List.getElem?_append_left (by omega),List.getElem?_take_of_lt h1,blkB_get hj]
     simp only [cutC,onlyC]
     rw [if_pos (by omega),e,if_pos hk]
   . rw [List.getElem?_append_right (by omega),hl1,List.getElem?_replicate,if_pos (by omega)]
     simp only [cutC]
     rw [if_neg (by omega)]
 . rw [List.getElem?_eq_none (by rw [blkB_len];omega),List.getElem?_eq_none]
   simp [blkB_len];omega
end
def cutE (n:Int):Nat:=if n < 0 then 22 else if 65536 < n then 27 else 0
theorem trunc_bad (fb:Nat) (n:Int) (w:World) (he:cutE n ≠ 0):Calls Tryz.prog 147 #[.pointer (some ⟨fb,0,none⟩),.int .i64 n] w fun e w'=>e=.returned (.tuple #[.int .i64 0,.int .i64 (cutE n:Nat)])/\w'=w:=by
 unfold cutE at *
 by_cases h1:n < 0
 . rw [if_pos h1];clear he;go_enter Tryz.func147,Tryz.ntmps147;go_wp2
   go_ret2
   exact ⟨rfl,rfl⟩
 rw [if_neg h1] at he ⊢
 by_cases h2:65536 < n
 . rw [if_pos h2];clear he;go_enter Tryz.func147,Tryz.ntmps147;go_wp2
   go_ret2
   exact ⟨rfl,rfl⟩
 . rw [if_neg h2] at he
   exact absurd rfl he
theorem zeroByte (w:World):(zeroValue 5).run Tryz.prog w=.ok (.int .u8 0) w:=by kernel_rfl
structure CutI (w:World) (fb mb r m sz n:Nat) (F:Nat->Prop) (C:Nat->UInt8) (h:Nat->Bool) (left:Lit->Bool) (cnt:Nat) (D:DataW Nat) (wr:World):Prop where
 rg:wr.ranges Tryz.prog 3 ptrElem mb r m D left cnt
 fm:FileM wr fb (.map (some mb)) D sz (onlyC C (hl h n left)) (hl h n left)
 sub:∀ x,foot fb (.map (some mb)) D (hl h n left) x->F x
 go:Foot F w wr
section
variable {w wr w1:World} {fb mb r m sz n cnt cnt1 k:Nat} {F:Nat->Prop} {C:Nat->UInt8} {h:Nat->Bool} {left:Lit->Bool} {D:DataW Nat}
theorem CutI.next {left':Lit->Bool} (I:CutI w fb mb r m sz n F C h left cnt D wr) (hF:∀ x,F x->x ≠ r) (hr:w.heap.size<=r) (rg1:w1.ranges Tryz.prog 3 ptrElem mb r m D left' cnt1) (hg:wr.grownBy w1 (some r)) (he:hl h n left'=hl h n left):CutI w fb mb r m sz n F C h left' cnt1 D w1:=by
 refine ⟨rg1,?_,?_,?_⟩
 . rw [he]
   exact I.fm.same fun x hx=>hg.block x (I.fm.lt hx) fun e=>hF x (I.sub x hx) (by simpa using e)
 . rw [he];exact I.sub
 . exact ⟨hg.os.trans I.go.os,hg.tape.trans I.go.tape,hg.output.trans I.go.output,Nat.le_trans I.go.size hg.size,fun j hj hn=>(hg.block j (Nat.lt_of_lt_of_le hj I.go.size) fun e=>by simp at e;omega).trans (I.go.block j hj hn)⟩
theorem CutI.del {w2:World} {cnt2:Nat} (I:CutI w fb mb r m sz n F C h left cnt D wr) (hF:∀ x,F x->x ≠ r) (hr:w.heap.size<=r) (hk:hl h n left k=true) (hn:¬ 64 * k < n) (hg:wr.grownBy w1 (some r))
 (rg2:w2.ranges Tryz.prog 3 ptrElem mb r m (D.del (ky k)) (fun z=>left z && !z.sameKey (ky k)) cnt2) (hg2:w1.grownBy w2 (some mb)):CutI w fb mb r m sz n F C h (fun z=>left z && !z.sameKey (ky k)) cnt2 (D.del (ky k)) w2:=by
 have f1:FileM w1 fb (.map (some mb)) D sz (onlyC C (hl h n left)) (hl h n left):=I.fm.same fun x hx=>hg.block x (I.fm.lt hx) fun e=>hF x (I.sub x hx) (by simpa using e)
 refine ⟨rg2,?_,?_,?_⟩
 . rw [hl_struck hn]
   exact f1.struck hk rg2.owns hg2 onlyC_gone onlyC_upd
 . rw [hl_struck hn];rintro x (e | e | ⟨j,hj,e⟩)
   . exact I.sub x (.inl e)
   . exact I.sub x (.inr (.inl e))
   . have ej:j ≠ k:=fun e'=>by subst e';rw [upd_same] at hj;cases hj
     rw [upd_other false ej] at hj;rw [gOf_del_other ej] at e
     exact I.sub x (.inr (.inr ⟨j,hj,e⟩))
 . have h1:Foot F w w1:=⟨hg.os.trans I.go.os,hg.tape.trans I.go.tape,hg.output.trans I.go.output,Nat.le_trans I.go.size hg.size,fun j hj hn=>(hg.block j (Nat.lt_of_lt_of_le hj I.go.size) fun e=>by simp at e;omega).trans (I.go.block j hj hn)⟩
   exact ⟨hg2.os.trans h1.os,hg2.tape.trans h1.tape,hg2.output.trans h1.output,Nat.le_trans h1.size hg2.size,fun j hj hn=>(hg2.block j (Nat.lt_of_lt_of_le hj h1.size) fun e=>hn (I.sub j (.inr (.inl (by cases e;rfl))))).trans (h1.block j hj hn)⟩
end
theorem Foot.then {F:Nat->Prop} {w w1 w2:World} {b:Nat} (h:Foot F w w1) (k:But b w1 w2) (hb:F b):Foot F w w2 :=
 ⟨k.os.trans h.os,k.tape.trans h.tape,k.output.trans h.output,by rw [k.size];exact h.size,fun j hj hn=>(k.block j fun e=>hn (e ▸ hb)).trans (h.block j hj hn)⟩
theorem FileM.cleared {w:World} {fb sz n:Nat} {mv:Value} {D:DataW Nat} {C:Nat->UInt8} {h:Nat->Bool} (f:FileM w fb mv D sz (onlyC C (cutH h n)) (cutH h n)) (hz:∀ i,h (i / 64)=false->C i=0) (hk:cutH h n (n / 64)=true) :
 ∃ w',(∀ ty,(Builtin.clear_ #[68] ty #[.slice (some ⟨gOf D (n / 64),n % 64,none⟩) (64 - n % 64) (64 - n % 64)]).run Tryz.prog w=.ok (.tuple #[]) w')/\FileM w' fb mv D sz (cutC C n) (cutH h n)/\But (gOf D (n / 64)) w w':=by
 obtain ⟨w',h1,h2,h3⟩:=clear_end elemByte zeroByte rfl rfl (f.blk _ hk) (n % 64) (64 - n % 64) (64 - n % 64) (by simp [blkB_len];omega) (by omega)
 refine ⟨w',h1,f.wrote hk h2 ?_ fun i hi=>cutC_other hz hi,h2⟩
 rw [cutC_blk hk]
 have e:bytesV (List.take (n % 64) (blkB (onlyC C (cutH h n)) (n / 64)) ++ List.replicate (64 - n % 64) 0)=(bytesV (blkB (onlyC C (cutH h n)) (n / 64))).take (n % 64) ++ List.replicate (64 - n % 64) (.int .u8 0):=by
  simp [bytesV,List.map_take,byteV]
 rw [e]
 exact h3
theorem trunc_map (fb mb sz n:Nat) (D:DataW Nat) (C:Nat->UInt8) (h:Nat->Bool) (w:World) (f:FileM w fb (.map (some mb)) D sz C h) (hn:n<=65536) :
 Calls Tryz.prog 147 #[.pointer (some ⟨fb,0,none⟩),.int .i64 n] w fun e w'=>e=.returned (.tuple #[.int .i64 ((cntF 1024 h:Nat) - (cntF 1024 (cutH h n):Nat):Int),.int .i64 0]) ∧
  ∃ F',FileAt w' fb F' n (cutC C n) (cutH h n)/\Goes (foot fb (.map (some mb)) D h) F' w w':=by
 have x0:=f.box.cell 0 rfl;have hlen:=f.len;have hc1:=cntF_le 1024 h;have hc2:=cntF_le 1024 (cutH h n)
 have h1:¬ (n:Int) < 0:=by omega
 have h2:¬ (65536:Int) < (n:Int):=by omega
 have hown:=f.owns rfl;have HF:Hid (FileM w fb (.map (some mb)) D sz C h):=f
 have HL:Hid (∀ x,foot fb (.map (some mb)) D h x->x < w.heap.size):=fun x hx=>f.lt hx
 clear f;generalize cntF 1024 h=c1 at *;obtain ⟨c2,hC2⟩:∃ c2,Hid (cntF 1024 (cutH h n)=c2):=⟨_,rfl⟩;rw [hC2.out] at hc2 ⊢;go_enter Tryz.func147,Tryz.ntmps147
 go_wp2_with (first
  | (at_range;refine wpList_range_own _ rfl _ 220 rfl 3 228 lawInt Tryz.underlying220 _ mb (Maps.size D) D rfl hown ?_;intro w0 hrg0 hg0 hs0)
  | go_in)
 have HI0:Hid (CutI w fb mb w.heap.size (Maps.size D) sz n (foot fb (.map (some mb)) D h) C h (Maps.has D) (Maps.size D) D w0):=by
  refine ⟨hrg0,?_,?_,?_⟩
  . rw [hl_start HF.out.is,onlyC_id HF.out.zero]
    exact HF.out.same fun x hx=>hg0.block x (HL.out x hx) (by simp)
  . rw [hl_start HF.out.is];exact fun x hx=>hx
  . exact ⟨hg0.os,hg0.tape,hg0.output,hg0.size,fun j hj _=>hg0.block j hj (by simp)⟩
 clear hrg0 hg0
 go_loopw [7] (fun _ wr => ∃ (left:Lit->Bool) (cnt:Nat) (D':DataW Nat),Hid (CutI w fb mb w.heap.size (Maps.size D) sz n (foot fb (.map (some mb)) D h) C h left cnt D' wr)) (fun _ wr=>wr.rangeLeft mb w.heap.size)
 case atStart=>exact ⟨_,_,_,HI0⟩
 case round =>
  clear HI0;obtain ⟨left,cnt,D',HI⟩:=hrel
  go_wp2_with (first
   | (at_next;refine wpList_next_ranges (α:=Int) (β:=Value) _ rfl _ rfl 3 lawInt ptrElem (Value.int .i64) id (fun key kl hkey=>by obtain ⟨x,rfl,_⟩:=Maps.keyOf_int_inv Tryz.underlying3 hkey;exact ⟨x,rfl⟩) (fun v y _=>⟨v,rfl⟩) mb w.heap.size (Maps.size D) D' left cnt rfl HI.out.rg ?_ ?_)
   | go_in)
  . -- nothing is left
    intro _ hl0
    have I:=HI.out;have fm:=I.fm;have hsub:=I.sub;have hgo:=I.go;rw [hl_end hl0] at fm hsub;have hself:=hsub fb (.inl rfl);obtain ⟨k,HK⟩:∃ k,Hid (n / 64=k):=⟨_,rfl⟩
    have hkl:k<=1024:=by have:=HK.out;omega
    have hkz:(n:Int) / 64=(k:Int):=by have:=HK.out;omega
    have x0:=fm.box.cell 0 rfl;clear I HI
    cases hh:cutH h n (n / 64) with
    | false =>
     have hlk:=fm.look_no (x:=(k:Int)) (ky_wf (k:=k) (by omega)) (fun j e=>by rw [<- Int.ofNat_inj.1 e,<- HK.out];exact hh)
     rw [onlyC_none HF.out.zero hh] at fm;have f6:=fm.sized n;have f1:=fm.box.free 1;have c1':=fm.box.cell 1 rfl;have hl6:=f6.len;have y0:=f6.box.cell 0 rfl;have HF6:Hid (FileM (wr.setCell ⟨fb,1,none⟩ (.int .i64 n)) fb (.map (some mb)) D' n (cutC C n) (cutH h n)):=f6
     have HG6:Hid (Goes (foot fb (.map (some mb)) D h) (foot fb (.map (some mb)) D' (cutH h n)) w (wr.setCell ⟨fb,1,none⟩ (.int .i64 n))):=⟨hgo.then (but_set _ _ _ _) hself,fun x hx=>.inl (hsub x hx)⟩
     rw [hC2.out] at hl6;clear fm hsub hgo f6 hh;go_wp2
     go_ret2
     exact ⟨rfl,_,⟨_,_,HF6.out,rfl⟩,HG6.out⟩
    | true =>
     obtain ⟨r,HR⟩:∃ r,Hid (n % 64=r):=⟨_,rfl⟩
     have hrl:r < 64:=by have:=HR.out;omega
     have hrz:(n:Int) % 64=(r:Int):=by have:=HR.out;omega
     have hlk:=fm.look_yes hh
     have hsl:=fun w=>slice_arr (gOf D' (n / 64)) r hrl w
     obtain ⟨w5,hcl,f5,hb5⟩:=fm.cleared HF.out.zero hh;rw [HR.out] at hcl;have f6:=f5.sized n;have f1:=f5.box.free 1;have c1':=f5.box.cell 1 rfl;have hl6:=f6.len;have y0:=f6.box.cell 0 rfl;have HF6:Hid (FileM (w5.setCell ⟨fb,1,none⟩ (.int .i64 n)) fb (.map (some mb)) D' n (cutC C n) (cutH h n)):=f6
     have HG6:Hid (Goes (foot fb (.map (some mb)) D h) (foot fb (.map (some mb)) D' (cutH h n)) w (w5.setCell ⟨fb,1,none⟩ (.int .i64 n))) :=
      ⟨(hgo.then hb5 (hsub _ (.inr (.inr ⟨_,hh,rfl⟩)))).then (but_set _ _ _ _) hself,fun x hx=>.inl (hsub x hx)⟩
     rw [hC2.out] at hl6;clear fm hsub hgo f5 f6 hh hb5;rw [HK.out] at hlk hsl hcl;go_wp2
     go_ret2
     exact ⟨rfl,_,⟨_,_,HF6.out,rfl⟩,HG6.out⟩
  . -- an entry has come
    intro x v kl y ys w1 cnt1 hkey hlx hv hat hrg1 hlt hg1 hs1 hen
    obtain ⟨x',ex,ekl,hwx⟩:=Maps.keyOf_int_inv Tryz.underlying3 hkey
    cases ex
    have hhas:Maps.has D' kl=true:=has_true_of_atKey hat;obtain ⟨k,ek,hk⟩:=HI.out.fm.is.keys kl hhas;subst ekl
    obtain rfl:x=(k:Int):=by unfold ky at ek;simpa using ek
    have hkl:=HI.out.fm.is.small k hk
    have hF:∀ x,foot fb (.map (some mb)) D h x->x ≠ w.heap.size:=fun x hx=>by have:=HL.out x hx;omega
    have hcnt:=HI.out.rg.left_eq
    by_cases hnk:64 * k < n
    . have hz:¬ (n:Int)<=(k:Int) * 64:=by omega
      have HI2:Hid _:=HI.out.next hF (Nat.le_refl _) hrg1 hg1 (hl_stays hnk)
      have hlt2:Hid (w1.rangeLeft mb w.heap.size < wr.rangeLeft mb w.heap.size):=by rw [hcnt,hrg1.left_eq];exact hlt
      clear hrg1 hg1 HI hF hkey hv hat hhas hk ek hlx hlt hcnt;go_wp2;go_roundw
      case rel=>exact ⟨_,_,_,HI2⟩
      case measure=>exact hlt2.out
    . have hz:(n:Int)<=(k:Int) * 64:=by omega
      have f1:FileM w1 fb (.map (some mb)) D' sz (onlyC C (hl h n left)) (hl h n left):=HI.out.fm.same fun x hx=>hg1.block x (HI.out.fm.lt hx) fun e=>hF x (HI.out.sub x hx) (by simpa using e)
      have x0:=f1.box.cell 0 rfl
      have HL2:Hid (∀ w2 cnt2,w2.ranges Tryz.prog 3 ptrElem mb w.heap.size (Maps.size D) (D'.del (ky k)) (fun z=>left z && !z.sameKey (ky k)) cnt2->cnt2<=cnt1->w1.mapTurned w2 mb →
       Hid (CutI w fb mb w.heap.size (Maps.size D) sz n (foot fb (.map (some mb)) D h) C h (fun z=>left z && !z.sameKey (ky k)) cnt2 (D'.del (ky k)) w2)/\Hid (w2.rangeLeft mb w.heap.size < wr.rangeLeft mb w.heap.size)):=fun w2 cnt2 hr2 hle ht=>by
       refine ⟨HI.out.del hF (Nat.le_refl _) hk hnk hg1 hr2 ht.grown,?_⟩
       show _ < _
       rw [hcnt,hr2.left_eq];omega
      clear f1 HI hF hv hat hhas hk ek hlx hlt hcnt hg1
      go_wp2_with (first
       | (at_delete;refine wpList_delete_ranges _ rfl _ _ 220 3 rfl 228 lawInt Tryz.underlying220 _ mb w.heap.size (Maps.size D) _ _ _ rfl hrg1 _ _ rfl hkey ?_;intro w2 cnt2 hrg2 hle hturn;go_frame)
       | go_in)
      rw [strike_twice] at hrg2;obtain ⟨HI2,hlt2⟩:=HL2.out w2 cnt2 hrg2 hle hturn;go_roundw
      case rel=>exact ⟨_,_,_,HI2⟩
      case measure=>exact hlt2.out
theorem trunc_none (fb sz n:Nat) (D:DataW Nat) (C:Nat->UInt8) (h:Nat->Bool) (w:World) (f:FileM w fb (.map none) D sz C h) (hn:n<=65536) :
 Calls Tryz.prog 147 #[.pointer (some ⟨fb,0,none⟩),.int .i64 n] w fun e w'=>e=.returned (.tuple #[.int .i64 ((cntF 1024 h:Nat) - (cntF 1024 (cutH h n):Nat):Int),.int .i64 0]) ∧
  ∃ F',FileAt w' fb F' n (cutC C n) (cutH h n)/\Goes (foot fb (.map none) D h) F' w w':=by
 have hh:∀ k,h k=false:=fun k=>by
  have hD:D=.map []:=by
   rcases f.map with h0 | ⟨mb,e,_⟩
   . exact h0.2
   . cases e
  cases hk:h k
  . rfl
  . have:=(f.is.held k hk).1;rw [hD] at this
    simp [Maps.has] at this
 have hc:cutH h n=h:=by funext k;simp [cutH,hh]
 have hC:cutC C n=C:=by
  funext i
  simp only [cutC]
  split
  . rfl
  . exact (f.zero i (hh _)).symm
 have hcn:cntF 1024 h=0:=cntF_none hh;rw [hc,hC,hcn];have x0:=f.box.cell 0 rfl;have hlen:=f.len;rw [hcn] at hlen
 have h1:¬ (n:Int) < 0:=by omega
 have h2:¬ (65536:Int) < (n:Int):=by omega
 have fa:=f.on (on_alloc w (.mapIter none 0 #[] 0));have hrg:=run_range_nilMap (P:=Tryz.prog) w 220 3 228 Tryz.underlying220
 have hnx:∀ ty,(Instr.next (.pointer (some ⟨w.heap.size,0,none⟩)) false ty).run Tryz.prog (w.alloc (.mapIter none 0 #[] 0))=_:=fun ty=>run_next_nilMap w ty 0 0 #[]
 obtain ⟨k,HK⟩:∃ k,Hid (n / 64=k):=⟨_,rfl⟩
 have hkl:k<=1024:=by have:=HK.out;omega
 have hkz:(n:Int) / 64=(k:Int):=by have:=HK.out;omega
 have hlk:=fa.look_no (x:=(k:Int)) (ky_wf (k:=k) (by omega)) (fun j _=>hh j)
 have x0a:=fa.box.cell 0 rfl;have f6:=fa.sized n;have f1:=fa.box.free 1;have c1':=fa.box.cell 1 rfl;have hl6:=f6.len;rw [hcn] at hl6;have y0:=f6.box.cell 0 rfl;have HF6:Hid (FileM ((w.alloc (.mapIter none 0 #[] 0)).setCell ⟨fb,1,none⟩ (.int .i64 n)) fb (.map none) D n C h):=f6
 have HG6:Hid (Goes (foot fb (.map none) D h) (foot fb (.map none) D h) w ((w.alloc (.mapIter none 0 #[] 0)).setCell ⟨fb,1,none⟩ (.int .i64 n))):=⟨(Foot.of_below (on_alloc w _)).then (but_set _ _ _ _) (.inl rfl),fun x hx=>.inl hx⟩
 clear f fa f6 hc hC hcn hh;go_enter Tryz.func147,Tryz.ntmps147;go_wp2
 refine wp_loop_rounds 1 ?_
 rw [rounds_succ];go_wp2
 go_ret2
 exact ⟨rfl,_,⟨_,_,HF6.out,rfl⟩,HG6.out⟩
theorem trunc_do (fb sz n:Nat) (F:Nat->Prop) (C:Nat->UInt8) (h:Nat->Bool) (w:World) (f:FileAt w fb F sz C h) (hn:n<=65536) :
 Calls Tryz.prog 147 #[.pointer (some ⟨fb,0,none⟩),.int .i64 n] w fun e w'=>e=.returned (.tuple #[.int .i64 ((cntF 1024 h:Nat) - (cntF 1024 (cutH h n):Nat):Int),.int .i64 0]) ∧
  ∃ F',FileAt w' fb F' n (cutC C n) (cutH h n)/\Goes F F' w w':=by
 obtain ⟨mv,D,f,rfl⟩:=f
 rcases f.map with ⟨rfl,_⟩ | ⟨mb,rfl,_⟩
 . exact trunc_none fb sz n D C h w f hn
 . exact trunc_map fb mb sz n D C h w f hn
def AtC (F:Nat->Prop) (w:World) (p:Option Addr) (l:List Value):Prop :=
 l=[] ∨ ∃ b off,p=some ⟨b,off,none⟩/\¬ F b/\b < w.heap.size/\∀ (j:Nat) v,l[j]? = some v->w.cell? ⟨b,off+j,none⟩=some v
theorem cntF_span (h:Nat->Bool) (k0 K:Nat):∀ n,cntF n (fun k=>h k || decide (k0<=k/\k < K))=cntF n h+cntN h k0 (min n K)
 | 0=>by simp [cntF,cntN]
 | n+1=>by
  rw [cntF_succ,cntF_succ,cntF_span h k0 K n]
  by_cases hn:n < K
  . rw [show min (n+1) K=min n K+1 by omega,show min n K=n by omega]
    cases hh:h n
    . by_cases h7:k0<=n
      . rw [cntN_not h7 hh];simp [h7,hn];omega
      . have e:cntN h k0 (n+1)=cntN h k0 n:=by rw [cntN,if_neg fun h=>h7 h.1];rfl
        rw [e];simp [h7]
    . rw [cntN_has hh];simp;omega
  . rw [show min (n+1) K=min n K by omega]
    simp [hn]
    omega
theorem layH_span {h:Nat->Bool} {o d:Nat} (hd:0 < d):layH h o d=fun k=>h k || decide (o / 64<=k/\k < (o+d+63) / 64):=by
 funext k
 simp only [layH]
 congr 1
 rw [decide_eq_decide]
 omega
theorem layH_count {h:Nat->Bool} {o d:Nat} (hd:0 < d) (hl:o+d<=65536):cntF 1024 (layH h o d)=cntF 1024 h+needF h o d:=by
 rw [layH_span hd,cntF_span,show min 1024 ((o+d+63) / 64)=(o+d+63) / 64 by omega]
 have e:outOf o d=false:=by simp [outOf];omega
 unfold needF;rw [e]
 simp
structure St where
 sz:Nat
 C:Nat->UInt8
 h:Nat->Bool
def St.at (s:St) (w:World) (fb:Nat) (F:Nat->Prop):Prop:=FileAt w fb F s.sz s.C s.h/\s.sz<=65536
def St.blocks (s:St):Nat:=cntF 1024 s.h
def St.wrote (s:St) (off:Int) (B:List UInt8) (room:Int):St :=
 if wrF s.h off B.length room=0/\B ≠ [] then ⟨max s.sz (off.toNat+B.length),putC s.C off.toNat B B.length,layH s.h off.toNat B.length⟩ else s
def St.wroteN (s:St) (off:Int) (n:Nat) (room:Int):Nat:=if wrF s.h off n room=0 then needF s.h off n else 0
theorem needF_zero (h:Nat->Bool) (off:Int):needF h off 0=0:=by
 have e:outOf off 0=true:=by simp [outOf]
 unfold needF;rw [e];rfl
theorem needF_le (h:Nat->Bool) (off n:Int):needF h off n<=1024:=by
 unfold needF
 split
 . omega
 . rename_i e
   have:=outOf_not (by simpa using e)
   have h2:=cntN_le h (off.toNat / 64) ((off.toNat+n.toNat+63) / 64)
   omega
theorem St.wrote_blocks (s:St) (off:Int) (B:List UInt8) (room:Int):(s.wrote off B room).blocks=s.blocks+s.wroteN off B.length room:=by
 unfold St.wrote St.wroteN St.blocks
 by_cases h1:wrF s.h off B.length room=0
 . rw [if_pos h1]
   by_cases h2:B=[]
   . rw [if_neg (by simp [h2]),h2,List.length_nil]
     have:=needF_zero s.h off
     simp only [Int.natCast_zero] at *
     rw [this,Nat.add_zero]
   . rw [if_pos ⟨h1,h2⟩];have hp:0 < B.length:=List.length_pos_iff.2 h2
     have h3:¬ off < 0/\¬ 65536 - (B.length:Int) < off:=by
      unfold wrF at h1
      by_cases h4:off < 0
      . rw [if_pos h4] at h1;cases h1
      . rw [if_neg h4] at h1
        by_cases h5:65536 - (B.length:Int) < off
        . rw [if_pos h5] at h1;cases h1
        . exact ⟨h4,h5⟩
     rw [layH_count hp (by omega),show ((off.toNat:Nat):Int)=off by omega]
 . rw [if_neg h1,if_neg fun h=>h1 h.1,Nat.add_zero]
theorem write_all (fb:Nat) (s:St) (F:Nat->Prop) (off room:Int) (p:Option Addr) (c:Nat) (B:List UInt8) (w:World) (f:s.at w fb F) (hoff:(Lit.int .i64 off).wf=true) (hB:B.length<=1000000) (hc:B.length<=c) (hat:AtC F w p (bytesV B)) :
 Calls Tryz.prog 143 #[.pointer (some ⟨fb,0,none⟩),.int .i64 off,.slice p B.length c,.int .i64 room] w fun e w'=>e=.returned (.tuple #[.int .i64 (s.wroteN off B.length room:Nat),.int .i64 (wrF s.h off B.length room:Nat)]) ∧
  ∃ F',(s.wrote off B room).at w' fb F'/\Goes F F' w w':=by
 by_cases hbad:wrF s.h off B.length room ≠ 0 ∨ B.length=0
 . refine (write_bad fb s.sz B.length c F s.C s.h off room _ p w f.1 hoff (by omega) rfl hbad).mono ?_
   rintro e w' ⟨rfl,rfl⟩
   have e1:s.wrote off B room=s:=if_neg fun h=>by
    rcases hbad with h7 | h7
    . exact h7 h.1
    . exact h.2 (List.eq_nil_of_length_eq_zero h7)
   have e2:s.wroteN off B.length room=0:=by
    unfold St.wroteN
    split
    . rename_i h7
      rcases hbad with h8 | h8
      . exact absurd h7 h8
      . rw [h8];exact needF_zero s.h off
    . rfl
   rw [e1,e2]
   exact ⟨rfl,F,f,.refl _ _⟩
 . have hw:wrF s.h off B.length room=0:=by
    rcases Nat.eq_zero_or_pos (wrF s.h off B.length room) with h | h
    . exact h
    . exact absurd (.inl (by omega)) hbad
   have hp:0 < B.length:=by
    rcases Nat.eq_zero_or_pos B.length with h | h
    . exact absurd (.inr h) hbad
    . exact h
   have hne:B ≠ []:=fun e=>by rw [e] at hp;simp at hp
   have h3:¬ off < 0/\¬ 65536 - (B.length:Int) < off/\¬ room < needF s.h off B.length:=by
    unfold wrF at hw
    by_cases h4:off < 0
    . rw [if_pos h4] at hw;cases hw
    . rw [if_neg h4] at hw
      by_cases h5:65536 - (B.length:Int) < off
      . rw [if_pos h5] at hw;cases hw
      . rw [if_neg h5] at hw
        by_cases h6:room < needF s.h off B.length
        . rw [if_pos h6] at hw;cases hw
        . exact ⟨h4,h5,h6⟩
   obtain ⟨b,so,rfl,hnF,hb,hcell⟩:=hat.resolve_left (by simpa using hne)
   have hz:((off.toNat:Nat):Int)=off:=by omega
   have hd:=write_do fb s.sz b so c off.toNat F s.C s.h room B w f.1 f.2 hb hnF hcell hp (by omega) hc (by rw [hz];omega)
   rw [hz] at hd;refine hd.mono ?_;rintro e w' ⟨rfl,F',h1,h2⟩;have e1:s.wrote off B room=⟨max s.sz (off.toNat+B.length),putC s.C off.toNat B B.length,layH s.h off.toNat B.length⟩:=if_pos ⟨hw,hne⟩;have e2:s.wroteN off B.length room=needF s.h off B.length:=if_pos hw;rw [e1,e2,hw]
   exact ⟨rfl,F',⟨h1,by show max _ _<=_;have:=f.2;omega⟩,h2⟩
def St.cut (s:St) (n:Int):St:=if cutE n=0 then ⟨n.toNat,cutC s.C n.toNat,cutH s.h n.toNat⟩ else s
def St.cutN (s:St) (n:Int):Int:=(s.blocks:Int) - ((s.cut n).blocks:Int)
theorem trunc_all (fb:Nat) (s:St) (F:Nat->Prop) (n:Int) (w:World) (f:s.at w fb F) :
 Calls Tryz.prog 147 #[.pointer (some ⟨fb,0,none⟩),.int .i64 n] w fun e w'=>e=.returned (.tuple #[.int .i64 (s.cutN n),.int .i64 (cutE n:Nat)])/\∃ F',(s.cut n).at w' fb F'/\Goes F F' w w':=by
 by_cases he:cutE n=0
 . have h3:0<=n/\n<=65536:=by
    unfold cutE at he
    by_cases h4:n < 0
    . rw [if_pos h4] at he;cases he
    . rw [if_neg h4] at he
      by_cases h5:65536 < n
      . rw [if_pos h5] at he;cases he
      . omega
   have hd:=trunc_do fb s.sz n.toNat F s.C s.h w f.1 (by omega)
   rw [show ((n.toNat:Nat):Int)=n by omega] at hd
   refine hd.mono ?_;rintro e w' ⟨rfl,F',h1,h2⟩;have e1:s.cut n=⟨n.toNat,cutC s.C n.toNat,cutH s.h n.toNat⟩:=if_pos he
   refine ⟨?_,F',?_,h2⟩
   . unfold St.cutN;rw [e1,he];rfl
   . rw [e1];exact ⟨h1,by show n.toNat<=_;omega⟩
 . refine (trunc_bad fb n w he).mono ?_
   rintro e w' ⟨rfl,rfl⟩;have e1:s.cut n=s:=if_neg he
   refine ⟨?_,F,?_,.refl _ _⟩
   . unfold St.cutN;rw [e1,Int.sub_self]
   . rw [e1];exact f
end Go.Proofs.YthlaoaaafafafaaGreat
