/- Ours. -/
import Derived.Lib.AppendZeros
import Derived.Lib.AppendZerosOnto
import Derived.Test.YthlaoaaafafafaaGreatQ2
set_option maxRecDepth 100000
set_option maxHeartbeats 16000000
namespace Go.Proofs.YthlaoaaafafafaaGreat.P
open Go Go.RowKit
theorem append_any (hi:Nat) (v:Value) (s:List ByteArray) (p:Option Addr) (cap:Nat) (l:List ByteArray) (W:World) (hs:s.length<=10000) (hl:l.length<=10000) (hown:OwnL hi W v s) (h:At W p l) (hhi:hi<=W.heap.size) :
 ∃ v' W',(Builtin.append_ #[55,55] 55 #[v,.slice p l.length cap]).run Tryz.prog W=.ok v' W'/\OwnL hi W' v' (s ++ l)/\Below hi W W':=by
 cases p with
 | some a=>exact append_own hi v s a cap l W hs hl hown h hhi
 | none =>
  obtain rfl:l=[]:=by
   rcases h with e | ⟨b,off,e,_⟩
   . exact e
   . cases e
  obtain ⟨i0,hi0,_,_,_⟩:=info_parts infoStr
  refine ⟨v,W,?_,by rw [List.append_nil];exact hown,Below.refl _ _⟩
  rcases hown.2 with ⟨rfl,_⟩ | ⟨g,c,cur,rfl,_,_,hnc,_⟩
  . simp [Builtin.append_,run_underlying Tryz.underlying55,sizeOf,typeInfo,hi0,Builtin.lenOf,Builtin.firstCells]
  . simp [Builtin.append_,run_underlying Tryz.underlying55,sizeOf,typeInfo,hi0,Builtin.lenOf,Builtin.firstCells,hnc,storeCells]
theorem grow_any (n:Nat) (w:World) (hn:n<=10000) :
 Calls Tryz.prog 116 #[.slice none 0 0,.int .i64 n] w fun e w' => ∃ v,e=.returned v/\OwnL w.heap.size w' v []/\Below w.heap.size w w':=by
 have h0:¬ (n:Int) < 0:=by omega
 by_cases hp:0 < n
 . obtain ⟨i0,hi0,hz0,hz1,hz2⟩:=info_parts infoStr
   have hpz:(0:Int) < (n:Int):=by omega
   have hold:(Builtin.firstCells i0.size 0 (.slice none 0 0)).run Tryz.prog w.drew=.ok ([]:List Value).toArray w.drew:=by simp [Builtin.firstCells]
   have hr:=fun ty=>Lib.run_append_grow_zeros (P:=Tryz.prog) w 55 3 ty 9 i0 (.string ⟨#[]⟩) .i64 .i64 Tryz.underlying55 Tryz.underlying3 hi0 hz0 none 0 0 [] hold n hp (by omega) (by omega) (by omega) (by rw [hz2];omega)
    (growslice_fits (by omega) (by rw [hz2];omega))
   rw [Nat.zero_add] at hr;have hge:n<=grownCap w n 0 9:=grownCap_ge w n 0 9
   have hcm:grownCap w n 0 9<=maxLen:=grownCap_le_maxLen w n 0 9 (by unfold maxLen;omega)
   generalize grownCap w n 0 9=G at *
   have hG63:G<=9223372036854775807:=by unfold maxLen at hcm;omega
   have hGz:(0:Int)<=(G:Int):=by omega
   have HO:Hid (OwnL w.heap.size (w.drew.alloc (.cells (([]:List Value).toArray ++ Builtin.zeroCells (Value.string ⟨#[]⟩).cells n ++ Builtin.zeroCells (Value.string ⟨#[]⟩).cells (G - n)) 9)) (.slice (some ⟨w.heap.size,0,none⟩) 0 G) []) :=
    ⟨rfl,.inr ⟨w.heap.size,G,_,rfl,Nat.le_refl _,heap_alloc_new w.drew _,Nat.zero_le _,hcm,by
     simp only [Array.size_append,List.size_toArray,List.length_nil,size_zeroCells]
     show 0+n * 1+(G - n) * 1=G * 1
     omega,by simp⟩⟩
   have HB:Hid (Below w.heap.size w (w.drew.alloc (.cells (([]:List Value).toArray ++ Builtin.zeroCells (Value.string ⟨#[]⟩).cells n ++ Builtin.zeroCells (Value.string ⟨#[]⟩).cells (G - n)) 9))):=(on_drew (Below.refl _ w)).trans (on_alloc w.drew _);generalize w.drew.alloc (.cells (([]:List Value).toArray ++ Builtin.zeroCells (Value.string ⟨#[]⟩).cells n ++ Builtin.zeroCells (Value.string ⟨#[]⟩).cells (G - n)) 9)=W at *;clear hold hi0 hz0 hz1 hz2 hcm;go_enter Tryz.func116,Tryz.ntmps116
   go_wp2_with (at_builtin;refine Lib.wpList_append_run _ rfl _ _ _ _ rfl _ _ rfl rfl _ _ (hr _) ?_)
   go_ret
   exact ⟨_,rfl,HO.out,HB.out⟩
 . obtain rfl:n=0:=by omega
   clear h0;go_enter Tryz.func116,Tryz.ntmps116;go_wp2
   go_ret
   exact ⟨_,rfl,ownL_nil _ _,Below.refl _ _⟩
structure Pair (w:World) (g:Nat) (p q:Option Addr) (c d:Nat) (l m:List ByteArray):Prop where
 row:w.heap[g]? = some (.cells #[.slice p l.length c,.slice q m.length d] 55 (0,0))
 fst:At w p l
 snd:At w q m
theorem Pair.on {w w':World} {g:Nat} {p q:Option Addr} {c d:Nat} {l m:List ByteArray} (h:Pair w g p q c d l m) (hb:Below w.heap.size w w'):Pair w' g p q c d l m :=
 ⟨(hb.block g (Array.getElem?_eq_some_iff.1 h.row).1).trans h.row,h.fst.on hb,h.snd.on hb⟩
def CatSt (w:World) (s:List ByteArray) (v:Value) (W:World):Prop:=OwnL w.heap.size W v s/\Below w.heap.size w W
def RetCat (w:World) (l:List ByteArray) (e:Ending) (w':World):Prop:=Below w.heap.size w w'/\∃ p c,e=.returned (.slice p l.length c)/\AtF w.heap.size w' p l/\l.length<=c
theorem concat_any (g:Nat) (p q:Option Addr) (c d:Nat) (l m:List ByteArray) (w:World) (hl:l.length<=5000) (hm:m.length<=5000) (h:Pair w g p q c d l m) :
 Calls Tryz.prog 64 #[.slice (some ⟨g,0,none⟩) 2 2] w (RetCat w (l ++ m)):=by
 have HP:Hid (Pair w g p q c d l m):=h;have c0:w.cell? ⟨g,0,none⟩=some (.slice p l.length c):=cell_of_row _ _ 0 _ _ _ h.row;have c1:w.cell? ⟨g,1,none⟩=some (.slice q m.length d):=cell_of_row _ _ 1 _ _ _ h.row
 have n1:¬ (l.length:Int) < 0:=by omega
 have n2:¬ (l.length:Int)+(m.length:Int) < 0:=by omega
 have cG:=grow_any (l.length+m.length) w (by omega)
 clear h;go_enter Tryz.func64,Tryz.ntmps64;go_wp2
 go_loop [3,11] (fun s i=>(i=.int .i64 0/\s=.int .i64 0) ∨ (i=.int .i64 1/\s=.int .i64 (l.length:Int)) ∨ (i=.int .i64 2/\s=.int .i64 ((l.length+m.length:Nat):Int))) (fun _ i=>2 - (intOf i).toNat)
 case atStart=>exact .inl ⟨rfl,rfl⟩
 case round =>
  rcases hrel with ⟨rfl,rfl⟩ | ⟨rfl,rfl⟩ | ⟨rfl,rfl⟩
  . go_wp2
    go_round
    case rel=>exact .inr (.inl ⟨rfl,by simp⟩)
    case measure=>simp [intOf]
  . go_wp2
    go_round
    case rel=>exact .inr (.inr ⟨rfl,by simp⟩)
    case measure=>simp [intOf]
  . clear c0 c1 n1 n2;go_wp2_with fail;refine cG.mono ?_;rintro e w1 ⟨v1,rfl,hown,hb1⟩;have HS0:Hid (CatSt w [] v1 w1):=⟨hown,hb1⟩;clear cG hown hb1;go_wp2
    go_loopw [6,27] (fun sv si wr=>(si=.int .i64 0/\Hid (CatSt w [] sv wr)) ∨ (si=.int .i64 1/\Hid (CatSt w l sv wr)) ∨ (si=.int .i64 2/\Hid (CatSt w (l ++ m) sv wr))) (fun _ i _=>2 - (intOf i).toNat)
    case atStart=>exact .inl ⟨rfl,HS0⟩
    case round =>
     rcases hrel with ⟨rfl,HS⟩ | ⟨rfl,HS⟩ | ⟨rfl,HS⟩
     . obtain ⟨hown,hb⟩:=HS.out;have hp:=HP.out.on hb;have c0:wr.cell? ⟨g,0,none⟩=some (.slice p l.length c):=cell_of_row _ _ 0 _ _ _ hp.row
       obtain ⟨v',W',hrun,hown',hb'⟩:=append_any w.heap.size _ [] p c l wr (by simp) (by omega) hown hp.fst hb.size
       have HN:Hid (CatSt w (l) v' W'):=⟨by rw [List.nil_append] at hown';exact hown',hb.trans hb'⟩
       clear hown hb hp hown' hb'
       go_wp2_with (at_builtin;refine wpList_run_append (by rfl) _ _ _ (by rfl) _ _ (by rfl) (by rfl) hrun ?_)
       go_roundw
       case rel=>exact .inr (.inl ⟨rfl,HN⟩)
       case measure=>simp [intOf]
     . obtain ⟨hown,hb⟩:=HS.out;have hp:=HP.out.on hb;have c0:wr.cell? ⟨g,1,none⟩=some (.slice q m.length d):=cell_of_row _ _ 1 _ _ _ hp.row
       obtain ⟨v',W',hrun,hown',hb'⟩:=append_any w.heap.size _ l q d m wr (by omega) (by omega) hown hp.snd hb.size
       have HN:Hid (CatSt w (l ++ m) v' W'):=⟨hown',hb.trans hb'⟩;clear hown hb hp hown' hb'
       go_wp2_with (at_builtin;refine wpList_run_append (by rfl) _ _ _ (by rfl) _ _ (by rfl) (by rfl) hrun ?_)
       go_roundw
       case rel=>exact .inr (.inr ⟨rfl,HN⟩)
       case measure=>simp [intOf]
     . obtain ⟨hown,hb⟩:=HS.out;obtain ⟨p',c',hv,hat,hcc⟩:=ownL_at hown;subst hv;have HE:Hid (RetCat w (l ++ m) (.returned (.slice p' (l ++ m).length c')) wr):=⟨hb,p',c',rfl,hat,hcc⟩;clear hown hb hat HS;generalize l ++ m=L at *;go_wp2
       go_ret
       exact HE.out
end Go.Proofs.YthlaoaaafafafaaGreat.P
namespace Go.Proofs.YthlaoaaafafafaaGreat.P
open Go Go.RowKit
def RSt (s:ByteArray) (k f:Nat) (ps:List ByteArray):Prop:=(k<=s.size/\f=(stAt s k).1/\ps=(stAt s k).2) ∨ (k=s.size+1/\f=k/\ps=partsOf s)
theorem rst_zero (s:ByteArray):RSt s 0 0 []:=.inl ⟨Nat.zero_le _,rfl,rfl⟩
theorem rst_le {s:ByteArray} {k f:Nat} {ps:List ByteArray} (h:RSt s k f ps):k<=s.size+1/\f<=k/\ps.length<=s.size+1:=by
 rcases h with ⟨h1,rfl,rfl⟩ | ⟨rfl,rfl,rfl⟩
 . have:=st_le s k;have:=st_len s k;omega
 . have:=parts_len s;omega
theorem rst_slash {s:ByteArray} {k f:Nat} {ps:List ByteArray} (h:RSt s k f ps) (hk:k < s.size) (hc:byteAt s k=47):RSt s (k+1) (k+1) (cutPs s f k ps):=by
 rcases h with ⟨h1,rfl,rfl⟩ | ⟨h1,_,_⟩
 . refine .inl ⟨hk,?_,?_⟩ <;> rw [cut_slash hc]
 . omega
theorem rst_other {s:ByteArray} {k f:Nat} {ps:List ByteArray} (h:RSt s k f ps) (hk:k < s.size) (hc:byteAt s k ≠ 47):RSt s (k+1) f ps:=by
 rcases h with ⟨h1,rfl,rfl⟩ | ⟨h1,_,_⟩
 . refine .inl ⟨hk,?_,?_⟩ <;> rw [st_other hc]
 . omega
theorem rst_end {s:ByteArray} {k f:Nat} {ps:List ByteArray} (h:RSt s k f ps) (hk:k=s.size):RSt s (k+1) (k+1) (cutPs s f k ps):=by
 subst hk
 rcases h with ⟨h1,rfl,rfl⟩ | ⟨h1,_,_⟩
 . exact .inr ⟨rfl,rfl,rfl⟩
 . omega
theorem rst_done {s:ByteArray} {k f:Nat} {ps:List ByteArray} (h:RSt s k f ps) (hk:k=s.size+1):ps=partsOf s:=by
 rcases h with ⟨h1,_⟩ | ⟨_,_,h3⟩
 . omega
 . exact h3
theorem long_snoc (ps:List ByteArray) (x:ByteArray):hasLong (ps ++ [x])=(hasLong ps || decide (32 < x.size)):=by simp [hasLong]
theorem zero_at {s:ByteArray} {k:Nat} (hk:k < s.size) (h:byteAt s k=0):hasZero s=true:=by
 have hs:=size_list s;unfold hasZero
 have:s.data.toList[k]'(by omega)=0:=by
  rw [<- h];unfold byteAt;rw [List.getD_eq_getElem?_getD,List.getElem?_eq_getElem (by omega)];rfl
 have hm:(0:UInt8) ∈ s.data.toList:=by rw [<- this];exact List.getElem_mem _
 simpa using hm
theorem zero_none {s:ByteArray} (h:∀ j,j < s.size->byteAt s j ≠ 0):hasZero s=false:=by
 have hs:=size_list s;unfold hasZero
 cases hc:s.data.toList.contains 0 with
 | false=>rfl
 | true =>
  obtain ⟨j,hj,e⟩:=List.getElem_of_mem (show (0:UInt8) ∈ s.data.toList by simpa using hc)
  refine absurd ?_ (h j (by omega))
  unfold byteAt;rw [List.getD_eq_getElem?_getD,List.getElem?_eq_getElem hj];exact e
structure RMem (w:World) (A:Bool) (v:Value) (ps:List ByteArray) (W:World):Prop where
 res:Box W w.heap.size (.bool false) (.bool false) (.slice none 0 0)
 box:Box W (w.heap.size+1) (.bool A) (.bool false) v
 own:OwnL (w.heap.size+1+1) W v ps
 on:Below w.heap.size w W
def RLoop (w:World) (s:ByteArray) (A:Bool) (k f:Nat) (ps:List ByteArray) (W:World):Prop:=RSt s k f ps/\(∀ j,j < k->j < s.size->byteAt s j ≠ 0)/\∃ v,RMem w A v ps W
theorem refParse_any (s:ByteArray) (w:World) (hs:s.size<=9223372036854775807):Calls Tryz.prog 24 #[.string s] w (RetPe w (pA s) (pD s) (pL s) (pE s)):=by
 have HX:Hid (Box (w.alloc (.cells #[.bool false,.bool false,.slice none 0 0] 61)) w.heap.size (.bool false) (.bool false) (.slice none 0 0)):=Box.new w _ _ _;have HB:Hid (Below w.heap.size w (w.alloc (.cells #[.bool false,.bool false,.slice none 0 0] 61))):=on_alloc w _
 by_cases h0:s.size=0
 . have hE:s.toList.isEmpty=true:=by rw [empty_iff,h0];rfl
   have HE:=fun W hb e he=>retPe_err (w:=w) (W:=W) (pE_two h0) (by decide) hb (e:=e) he
   clear h0;generalize RetPe w (pA s) (pD s) (pL s) (pE s)=R at *;go_enter Tryz.func24,Tryz.ntmps24;go_wp2
   exact bodyPost_ret (results_box_tmp rfl _ _ rfl rfl HX.out) rfl (HE _ HB.out _ rfl)
 have hE:s.toList.isEmpty=false:=by rw [empty_iff,decide_eq_false h0]
 by_cases h1:256 < s.size
 . have hz:(256:Int) < (s.size:Int):=by omega
   have HE:=fun W hb e he=>retPe_err (w:=w) (W:=W) (pE_big h1) (by decide) hb (e:=e) he
   clear h0 h1;generalize RetPe w (pA s) (pD s) (pL s) (pE s)=R at *;go_enter Tryz.func24,Tryz.ntmps24;go_wp2
   exact bodyPost_ret (results_box_tmp rfl _ _ rfl rfl HX.out) rfl (HE _ HB.out _ rfl)
 have hz:¬ (256:Int) < (s.size:Int):=by omega
 have h256:s.size<=256:=by omega
 have hs0:0 < s.size:=by omega
 have hix0:∀ w,(Instr.index 9 (.string s) (.int .i64 0)).run Tryz.prog w=.ok (.int .u8 ((byteAt s 0).toNat:Int)) w:=idx_str s 0 hs0
 have HZ:Hid (hasZero s=true->pE s=22):=fun h=>pE_zero h0 h256 h
 have HLG:Hid (hasZero s=false->hasLong (partsOf s)=true->pE s=63):=fun h h'=>pE_long h0 h256 h h'
 have HOK:Hid (hasZero s=false->hasLong (partsOf s)=false->pE s=0):=fun h h'=>pE_mk ⟨h0,h256,h,h'⟩
 have HER:Hid (∀ n W,pE s=n->n ≠ 0->Below w.heap.size w W->∀ e,e=.returned (.tuple #[.agg #[.bool false,.bool false,.slice none 0 0],.int .i64 n])->RetPe w (pA s) (pD s) (pL s) (pE s) e W):=fun n W h hn hb e he=>retPe_err h hn hb he
 have HA:Hid (pE s=0->pA s=(((byteAt s 0).toNat:Int) == 47)):=fun hok=>by show pA s=_;unfold pA;rw [if_pos hok,byte_beq]
 have HD:Hid (pE s=0->pD s=((((byteAt s (s.size - 1)).toNat:Int) == 47) && decide (0 < (partsOf s).length))):=fun hok=>by show pD s=_;unfold pD;rw [if_pos hok,byte_beq]
 have HL:Hid (pE s=0->pL s=partsOf s):=fun hok=>by show pL s=_;unfold pL;rw [if_pos hok]
 obtain ⟨A,hA⟩:∃ A,(((byteAt s 0).toNat:Int) == 47)=A:=⟨_,rfl⟩;have HAA:Hid ((((byteAt s 0).toNat:Int) == 47)=A):=hA;have b0:=(Box.new w (.bool false) (.bool false) (.slice none 0 0)).alloc (.cells #[.bool A,.bool false,.slice none 0 0] 61);have b1:=Box.new (w.alloc (.cells #[.bool false,.bool false,.slice none 0 0] 61)) (.bool A) (.bool false) (.slice none 0 0);have hB2:=on_trans (on_alloc w (.cells #[.bool false,.bool false,.slice none 0 0] 61)) (on_alloc _ (.cells #[.bool A,.bool false,.slice none 0 0] 61))
 rw [World.size_alloc] at b1
 have HL0:Hid (RLoop w s A 0 0 [] ((w.alloc (.cells #[.bool false,.bool false,.slice none 0 0] 61)).alloc (.cells #[.bool A,.bool false,.slice none 0 0] 61))):=⟨rst_zero s,fun j hj=>absurd hj (Nat.not_lt_zero _),_,b0,b1,ownL_nil _ _,hB2⟩
 clear h0 h1 b0 b1 hB2 HX HB;generalize hRR:RetPe w (pA s) (pD s) (pL s) (pE s)=R at *;have HRR:Hid (RetPe w (pA s) (pD s) (pL s) (pE s)=R):=hRR;clear hRR;generalize (byteAt s 0).toNat=c0 at *;go_enter Tryz.func24,Tryz.ntmps24;go_wp2;clear hz hE hA hix0;generalize (w.alloc (.cells #[.bool false,.bool false,.slice none 0 0] 61)).alloc (.cells #[.bool A,.bool false,.slice none 0 0] 61)=w0 at *
 go_loopw [5,6,7] (fun sf sl si wr => ∃ (k f:Nat) (ps:List ByteArray),si=.int .i64 k/\sf=.int .i64 f/\sl=.bool (hasLong ps)/\Hid (RLoop w s A k f ps wr)) (fun _ _ i _=>s.size+1 - (intOf i).toNat)
 case atStart=>exact ⟨0,0,[],rfl,rfl,rfl,HL0⟩
 case round =>
  obtain ⟨k,f,ps,rfl,rfl,rfl,HR⟩:=hrel;obtain ⟨HST,HNZ,v,HM⟩:=HR.out;have hle:=rst_le HST
  replace HST:Hid (RSt s k f ps):=HST
  replace HNZ:Hid (∀ j,j < k->j < s.size->byteAt s j ≠ 0):=HNZ
  replace HM:Hid (RMem w A v ps wr):=HM
  clear HR HL0
  by_cases hk:k < s.size
  . have hkz:(k:Int) < (s.size:Int):=by omega
    have hkz2:(k:Int)<=(s.size:Int):=by omega
    have hne:((k:Int) == (s.size:Int))=false:=by rw [beq_eq_false_iff_ne];omega
    have hix:=idx_str s k hk
    by_cases hc0:byteAt s k=0
    . have hcq:(((byteAt s k).toNat:Int) == 0)=true:=by rw [hc0];rfl
      have HE:=HER.out 22 (put3 wr w.heap.size (.bool false) (.bool false) (.slice none 0 0)) (HZ.out (zero_at hk hc0)) (by decide) (below_but HM.out.on (but_put3 _ _ _ _ _) (Nat.le_refl _))
      have x0:=HM.out.res.fst;have x1:=HM.out.res.snd;have x2:=HM.out.res.thd;have f0:=HM.out.res.free 0;have f1:=HM.out.res.free 1;have f2:=HM.out.res.free 2
      replace HE:Hid (∀ e,_->R e _):=HE
      clear hc0 HST HNZ HZ HLG HOK HER HA HD HL;generalize (byteAt s k).toNat=c at *;go_wp2
      exact bodyPost_ret (results_box_tmp rfl _ _ rfl rfl (HM.out.res.put _ _ _)) rfl (HE.out _ rfl)
    . have hcq0:(((byteAt s k).toNat:Int) == 0)=false:=byte_nz hc0
      have HNZ2:Hid (∀ j,j < k+1->j < s.size->byteAt s j ≠ 0):=fun j h1 h2=>by
       by_cases e:j=k
       . subst e;exact hc0
       . exact HNZ.out j (by omega) h2
      by_cases hc:byteAt s k=47
      . have hcq:(((byteAt s k).toNat:Int) == 47)=true:=by rw [hc];rfl
        have HST2:Hid (RSt s (k+1) (k+1) (cutPs s f k ps)):=rst_slash HST.out hk hc;clear hc hc0;generalize (byteAt s k).toNat=c at *
        by_cases hf:f < k
        . have hfz:(f:Int) < (k:Int):=by omega
          have ecut:cutPs s f k ps=ps ++ [s.extract f k]:=by unfold cutPs;rw [if_pos hf]
          rw [ecut] at HST2;clear ecut;go_wp2;have hl1:=HM.out.box.lt
          refine wp_region_three (S:=rowS (w.heap.size+1+1) (w.heap.size+1) (fun W => ∃ u,Box W (w.heap.size+1) (.bool A) (.bool false) u) wr) (u:=7) (Keep:=rowKeep (w.heap.size+1+1) (w.heap.size+1) 7 9)
           (g:=rowG (w.heap.size+1+1) [.pointer (some ⟨w.heap.size+1,2,none⟩),v,.string s,.int .i64 f,.int .i64 k,.string (s.extract f k),undef,undef,.pointer (some ⟨w.heap.size+1,2,none⟩)] 6 7 9 (s.extract f k) (ps ++ [s.extract f k]) (fun W => ∃ u,Box W (w.heap.size+1) (.bool A) (.bool false) u/\OwnL (w.heap.size+1+1) W u (ps ++ [s.extract f k])))
           (tab:=[[(4,none)],[(49,some 0)],[(0,none)],[(5,none)],[(7,none)],[(51,some 2),(52,some 3),(53,some 4)],[(54,some 5)],[(50,some 1),(55,some 6)],[(4,none)],[(57,some 8),(56,some 7)]]) (tl:=[(6,7)]) (n:=83)
           (by kernel_rfl) rfl (by kernel_rfl) (rowG_keep (by omega) (by decide +kernel) (fun w1 w2 h hb=>by obtain ⟨u,h1,h2⟩:=h;exact ⟨u,h1.on hb,ownL_on h2 hb⟩)) (on_drew (Below.refl _ _)) ?st ?en
          case st =>
           refine ⟨?_,?_,?_,?_,?_,?_,?_,?_,?_,?_,trivial⟩ <;> intro ρ W fl hf1 hf2 hr hS hs
           . exact step_plain rfl (leaves_field (.tmp 4) rfl (by decide) hs.1 ⟨rfl,by cases fl <;> exact hS,Below.refl _ _⟩)
           . obtain rfl:fl=true:=hf1 (by kernel_rfl)
             have hS':Below wr.heap.size wr W:=hS
             exact step_plain rfl (leaves_loadS (.tmp 49) rfl hs.1 (HM.out.box.on hS').thd ⟨rfl,hS,Below.refl _ _⟩)
           . exact step_plain rfl (leaves_move (.tmp 0) rfl ⟨hs.1,by cases fl <;> exact hS,Below.refl _ _⟩)
           . exact step_plain rfl (leaves_move (.tmp 5) rfl ⟨hs.1,by cases fl <;> exact hS,Below.refl _ _⟩)
           . exact step_plain rfl (leaves_move (.tmp 7) rfl ⟨hs.1,by cases fl <;> exact hS,Below.refl _ _⟩)
           . obtain ⟨h9,h10,h11,_⟩:=hs;have h9':ρ (.tmp 51)=.string s:=h9;have h10':ρ (.tmp 52)=.int .i64 f:=h10;have h11':ρ (.tmp 53)=.int .i64 k:=h11
             refine step_plain rfl (leaves_slice 9 (.tmp 51) (some (.tmp 52)) (some (.tmp 53)) none rfl (v:=.string (s.extract f k)) ?_ ⟨rfl,by cases fl <;> exact hS,Below.refl _ _⟩)
             simp only [Option.map_some,Option.map_none,h9',h10',h11']
             exact slice_str s f k W (by omega) (by omega) (by omega)
           . obtain rfl:fl=true:=hf1 (by kernel_rfl)
             have hS':Below wr.heap.size wr W:=hS;have h12:ρ (.tmp 54)=.string (s.extract f k):=hs.1;have hb:=on_alloc W (.cells #[.string (s.extract f k)] 9)
             refine step_plain rfl (leaves_value (v:=.slice (some ⟨W.heap.size,0,none⟩) 1 1) (w':=W.alloc (.cells #[.string (s.extract f k)] 9)) ?_ ⟨⟨_,rfl,at_row1 W _⟩,on_trans hS' hb,hb⟩)
             simp [go_sem,h12]
           . obtain rfl:fl=true:=hf1 (by kernel_rfl)
             have hS':Below wr.heap.size wr W:=hS;obtain ⟨h8,⟨a,h13,hat⟩,_⟩:=hs;have h8':ρ (.tmp 50)=v:=h8
             obtain ⟨v',W',hrun,hown,hB⟩:=append_own (w.heap.size+1+1) v ps a 1 [s.extract f k] W (by omega) (by simp) (ownL_on HM.out.own hS') hat (Nat.le_trans hl1 hS'.size)
             refine step_plain rfl (leaves_append (v:=v') (w':=W') (.tmp 50) (.tmp 55) 55 rfl ?_ ⟨hown,⟨Apart.of ((hS'.mono hl1).trans hB),_,HM.out.box.below ((hS'.mono hl1).trans hB) (by omega)⟩,hB⟩)
             rw [h8',h13];exact hrun
           . exact step_plain rfl (leaves_field (.tmp 4) rfl (by decide) hs.1 ⟨rfl,by cases fl <;> exact hS,Below.refl _ _⟩)
           . obtain rfl:fl=false:=hf2 (by kernel_rfl)
             obtain ⟨hS',u,hu⟩:Apart (w.heap.size+1+1) (w.heap.size+1) wr W/\∃ u,Box W (w.heap.size+1) (.bool A) (.bool false) u:=hS;obtain ⟨h2,hown,_⟩:=hs;have h2':ρ (.tmp 57)=.pointer (some ⟨w.heap.size+1,2,none⟩):=h2;have hc2:=hu.thd;have hfr:=hu.free 2;have hown':OwnL (w.heap.size+1+1) W (ρ (.tmp 56)) (ps ++ [s.extract f k]):=hown;have hbut:=but_set W (w.heap.size+1) 2 (ρ (.tmp 56))
             have hown2:=ownL_but hown' hbut (by omega)
             obtain ⟨pp,cc,hv,_⟩:=ownL_at hown'
             refine step_plain rfl (leaves_skip (w':=W.setCell ⟨w.heap.size+1,2,none⟩ (ρ (.tmp 56))) ?_ ⟨⟨_,hu.put2 _,hown2⟩,⟨hS'.but hbut,_,hu.put2 _⟩,hbut⟩)
             rw [hv]
             simp [go_sem,h2',hc2,hfr,hv]
          case en =>
           intro fl W hfl hS v0 h0 v1 h1 v2 h2 v3 h3 v4 h4 v5 h5 v6 h6 v7 h7 v8 h8 h9
           obtain rfl:fl=false:=hfl (by decide)
           have hS':Apart (w.heap.size+1+1) (w.heap.size+1) wr W:=(show Apart (w.heap.size+1+1) (w.heap.size+1) wr W/\_ from hS).1
           obtain ⟨u,hbx,hown⟩:=h9 rfl
           have HM2:Hid (RMem w A u (ps ++ [s.extract f k]) W):=⟨hS'.box HM.out.res (by omega) (by omega),hbx,hown,HM.out.on.trans (hS'.base (by omega) (by omega))⟩
           have hlong:=long_snoc ps (s.extract f k)
           have hex:(s.extract f k).size=k - f:=by simp [ByteArray.size_extract];omega
           rw [hex] at hlong;clear h0 h1 h2 h3 h4 h5 h6 h7 h8 h9 hS hS' hbx hown hex
           simp only [ends,Act.put,List.setIfInBounds_toArray,List.set_cons_succ,List.set_cons_zero]
           cases hlg:hasLong ps with
           | true =>
            rw [hlg,Bool.true_or] at hlong;have HLN:Hid (hasLong (ps ++ [s.extract f k])=true):=hlong;clear hlong hlg;go_wp2;go_roundw
            case rel=>exact ⟨k+1,k+1,ps ++ [s.extract f k],by go_num,by go_num,by rw [HLN.out],HST2.out,HNZ2.out,u,HM2.out⟩
            case measure=>simp [intOf];omega
           | false =>
            rw [hlg,Bool.false_or] at hlong
            by_cases h32:32 < k - f
            . rw [decide_eq_true h32] at hlong;have HLN:Hid (hasLong (ps ++ [s.extract f k])=true):=hlong
              have h32z:(32:Int) < (k:Int) - (f:Int):=by omega
              clear hlong hlg;go_wp2;go_roundw
              case rel=>exact ⟨k+1,k+1,ps ++ [s.extract f k],by go_num,by go_num,by rw [HLN.out],HST2.out,HNZ2.out,u,HM2.out⟩
              case measure=>simp [intOf];omega
            . rw [decide_eq_false h32] at hlong;have HLN:Hid (hasLong (ps ++ [s.extract f k])=false):=hlong
              have h32z:¬ (32:Int) < (k:Int) - (f:Int):=by omega
              clear hlong hlg;go_wp2;go_roundw
              case rel=>exact ⟨k+1,k+1,ps ++ [s.extract f k],by go_num,by go_num,by rw [HLN.out],HST2.out,HNZ2.out,u,HM2.out⟩
              case measure=>simp [intOf];omega
        . have hfz:¬ (f:Int) < (k:Int):=by omega
          have ecut:cutPs s f k ps=ps:=by unfold cutPs;rw [if_neg hf]
          rw [ecut] at HST2;clear ecut;go_wp2;go_roundw
          case rel=>exact ⟨k+1,k+1,ps,by go_num,by go_num,rfl,HST2.out,HNZ2.out,v,HM.out⟩
          case measure=>simp [intOf];omega
      . have hcq:(((byteAt s k).toNat:Int) == 47)=false:=byte_ne hc;have HST2:Hid (RSt s (k+1) f ps):=rst_other HST.out hk hc;clear hc hc0;generalize (byteAt s k).toNat=c at *;go_wp2;go_roundw
        case rel=>exact ⟨k+1,f,ps,by go_num,rfl,rfl,HST2.out,HNZ2.out,v,HM.out⟩
        case measure=>simp [intOf];omega
  . by_cases hk2:k=s.size
    . have hkz:¬ (k:Int) < (s.size:Int):=by omega
      have hkz2:(k:Int)<=(s.size:Int):=by omega
      have hne:((k:Int) == (s.size:Int))=true:=by rw [beq_iff_eq];omega
      have HNZ2:Hid (∀ j,j < k+1->j < s.size->byteAt s j ≠ 0):=fun j h1 h2=>HNZ.out j (by omega) h2
      have HST2:Hid (RSt s (k+1) (k+1) (cutPs s f k ps)):=rst_end HST.out hk2;clear hk2
      by_cases hf:f < k
      . have hfz:(f:Int) < (k:Int):=by omega
        have ecut:cutPs s f k ps=ps ++ [s.extract f k]:=by unfold cutPs;rw [if_pos hf]
        rw [ecut] at HST2;clear ecut;go_wp2;have hl1:=HM.out.box.lt
        refine wp_region_three (S:=rowS (w.heap.size+1+1) (w.heap.size+1) (fun W => ∃ u,Box W (w.heap.size+1) (.bool A) (.bool false) u) wr) (u:=7) (Keep:=rowKeep (w.heap.size+1+1) (w.heap.size+1) 7 9)
         (g:=rowG (w.heap.size+1+1) [.pointer (some ⟨w.heap.size+1,2,none⟩),v,.string s,.int .i64 f,.int .i64 k,.string (s.extract f k),undef,undef,.pointer (some ⟨w.heap.size+1,2,none⟩)] 6 7 9 (s.extract f k) (ps ++ [s.extract f k]) (fun W => ∃ u,Box W (w.heap.size+1) (.bool A) (.bool false) u/\OwnL (w.heap.size+1+1) W u (ps ++ [s.extract f k])))
         (tab:=[[(4,none)],[(49,some 0)],[(0,none)],[(5,none)],[(7,none)],[(51,some 2),(52,some 3),(53,some 4)],[(54,some 5)],[(50,some 1),(55,some 6)],[(4,none)],[(57,some 8),(56,some 7)]]) (tl:=[(6,7)]) (n:=83)
         (by kernel_rfl) rfl (by kernel_rfl) (rowG_keep (by omega) (by decide +kernel) (fun w1 w2 h hb=>by obtain ⟨u,h1,h2⟩:=h;exact ⟨u,h1.on hb,ownL_on h2 hb⟩)) (on_drew (Below.refl _ _)) ?st ?en
        case st =>
         refine ⟨?_,?_,?_,?_,?_,?_,?_,?_,?_,?_,trivial⟩ <;> intro ρ W fl hf1 hf2 hr hS hs
         . exact step_plain rfl (leaves_field (.tmp 4) rfl (by decide) hs.1 ⟨rfl,by cases fl <;> exact hS,Below.refl _ _⟩)
         . obtain rfl:fl=true:=hf1 (by kernel_rfl)
           have hS':Below wr.heap.size wr W:=hS
           exact step_plain rfl (leaves_loadS (.tmp 49) rfl hs.1 (HM.out.box.on hS').thd ⟨rfl,hS,Below.refl _ _⟩)
         . exact step_plain rfl (leaves_move (.tmp 0) rfl ⟨hs.1,by cases fl <;> exact hS,Below.refl _ _⟩)
         . exact step_plain rfl (leaves_move (.tmp 5) rfl ⟨hs.1,by cases fl <;> exact hS,Below.refl _ _⟩)
         . exact step_plain rfl (leaves_move (.tmp 7) rfl ⟨hs.1,by cases fl <;> exact hS,Below.refl _ _⟩)
         . obtain ⟨h9,h10,h11,_⟩:=hs;have h9':ρ (.tmp 51)=.string s:=h9;have h10':ρ (.tmp 52)=.int .i64 f:=h10;have h11':ρ (.tmp 53)=.int .i64 k:=h11
           refine step_plain rfl (leaves_slice 9 (.tmp 51) (some (.tmp 52)) (some (.tmp 53)) none rfl (v:=.string (s.extract f k)) ?_ ⟨rfl,by cases fl <;> exact hS,Below.refl _ _⟩)
           simp only [Option.map_some,Option.map_none,h9',h10',h11']
           exact slice_str s f k W (by omega) (by omega) (by omega)
         . obtain rfl:fl=true:=hf1 (by kernel_rfl)
           have hS':Below wr.heap.size wr W:=hS;have h12:ρ (.tmp 54)=.string (s.extract f k):=hs.1;have hb:=on_alloc W (.cells #[.string (s.extract f k)] 9)
           refine step_plain rfl (leaves_value (v:=.slice (some ⟨W.heap.size,0,none⟩) 1 1) (w':=W.alloc (.cells #[.string (s.extract f k)] 9)) ?_ ⟨⟨_,rfl,at_row1 W _⟩,on_trans hS' hb,hb⟩)
           simp [go_sem,h12]
         . obtain rfl:fl=true:=hf1 (by kernel_rfl)
           have hS':Below wr.heap.size wr W:=hS;obtain ⟨h8,⟨a,h13,hat⟩,_⟩:=hs;have h8':ρ (.tmp 50)=v:=h8
           obtain ⟨v',W',hrun,hown,hB⟩:=append_own (w.heap.size+1+1) v ps a 1 [s.extract f k] W (by omega) (by simp) (ownL_on HM.out.own hS') hat (Nat.le_trans hl1 hS'.size)
           refine step_plain rfl (leaves_append (v:=v') (w':=W') (.tmp 50) (.tmp 55) 55 rfl ?_ ⟨hown,⟨Apart.of ((hS'.mono hl1).trans hB),_,HM.out.box.below ((hS'.mono hl1).trans hB) (by omega)⟩,hB⟩)
           rw [h8',h13];exact hrun
         . exact step_plain rfl (leaves_field (.tmp 4) rfl (by decide) hs.1 ⟨rfl,by cases fl <;> exact hS,Below.refl _ _⟩)
         . obtain rfl:fl=false:=hf2 (by kernel_rfl)
           obtain ⟨hS',u,hu⟩:Apart (w.heap.size+1+1) (w.heap.size+1) wr W/\∃ u,Box W (w.heap.size+1) (.bool A) (.bool false) u:=hS;obtain ⟨h2,hown,_⟩:=hs;have h2':ρ (.tmp 57)=.pointer (some ⟨w.heap.size+1,2,none⟩):=h2;have hc2:=hu.thd;have hfr:=hu.free 2;have hown':OwnL (w.heap.size+1+1) W (ρ (.tmp 56)) (ps ++ [s.extract f k]):=hown;have hbut:=but_set W (w.heap.size+1) 2 (ρ (.tmp 56))
           have hown2:=ownL_but hown' hbut (by omega)
           obtain ⟨pp,cc,hv,_⟩:=ownL_at hown'
           refine step_plain rfl (leaves_skip (w':=W.setCell ⟨w.heap.size+1,2,none⟩ (ρ (.tmp 56))) ?_ ⟨⟨_,hu.put2 _,hown2⟩,⟨hS'.but hbut,_,hu.put2 _⟩,hbut⟩)
           rw [hv]
           simp [go_sem,h2',hc2,hfr,hv]
        case en =>
         intro fl W hfl hS v0 h0 v1 h1 v2 h2 v3 h3 v4 h4 v5 h5 v6 h6 v7 h7 v8 h8 h9
         obtain rfl:fl=false:=hfl (by decide)
         have hS':Apart (w.heap.size+1+1) (w.heap.size+1) wr W:=(show Apart (w.heap.size+1+1) (w.heap.size+1) wr W/\_ from hS).1
         obtain ⟨u,hbx,hown⟩:=h9 rfl
         have HM2:Hid (RMem w A u (ps ++ [s.extract f k]) W):=⟨hS'.box HM.out.res (by omega) (by omega),hbx,hown,HM.out.on.trans (hS'.base (by omega) (by omega))⟩
         have hlong:=long_snoc ps (s.extract f k)
         have hex:(s.extract f k).size=k - f:=by simp [ByteArray.size_extract];omega
         rw [hex] at hlong;clear h0 h1 h2 h3 h4 h5 h6 h7 h8 h9 hS hS' hbx hown hex
         simp only [ends,Act.put,List.setIfInBounds_toArray,List.set_cons_succ,List.set_cons_zero]
         cases hlg:hasLong ps with
         | true =>
          rw [hlg,Bool.true_or] at hlong;have HLN:Hid (hasLong (ps ++ [s.extract f k])=true):=hlong;clear hlong hlg;go_wp2;go_roundw
          case rel=>exact ⟨k+1,k+1,ps ++ [s.extract f k],by go_num,by go_num,by rw [HLN.out],HST2.out,HNZ2.out,u,HM2.out⟩
          case measure=>simp [intOf];omega
         | false =>
          rw [hlg,Bool.false_or] at hlong
          by_cases h32:32 < k - f
          . rw [decide_eq_true h32] at hlong;have HLN:Hid (hasLong (ps ++ [s.extract f k])=true):=hlong
            have h32z:(32:Int) < (k:Int) - (f:Int):=by omega
            clear hlong hlg;go_wp2;go_roundw
            case rel=>exact ⟨k+1,k+1,ps ++ [s.extract f k],by go_num,by go_num,by rw [HLN.out],HST2.out,HNZ2.out,u,HM2.out⟩
            case measure=>simp [intOf];omega
          . rw [decide_eq_false h32] at hlong;have HLN:Hid (hasLong (ps ++ [s.extract f k])=false):=hlong
            have h32z:¬ (32:Int) < (k:Int) - (f:Int):=by omega
            clear hlong hlg;go_wp2;go_roundw
            case rel=>exact ⟨k+1,k+1,ps ++ [s.extract f k],by go_num,by go_num,by rw [HLN.out],HST2.out,HNZ2.out,u,HM2.out⟩
            case measure=>simp [intOf];omega
      . have hfz:¬ (f:Int) < (k:Int):=by omega
        have ecut:cutPs s f k ps=ps:=by unfold cutPs;rw [if_neg hf]
        rw [ecut] at HST2;clear ecut;go_wp2;go_roundw
        case rel=>exact ⟨k+1,k+1,ps,by go_num,by go_num,rfl,HST2.out,HNZ2.out,v,HM.out⟩
        case measure=>simp [intOf];omega
    . have hk3:k=s.size+1:=by omega
      have hkz:¬ (k:Int)<=(s.size:Int):=by omega
      have HPS:Hid (ps=partsOf s):=rst_done HST.out hk3
      have HNO:Hid (hasZero s=false):=zero_none fun j hj=>HNZ.out j (by omega) hj
      have x0:=HM.out.res.fst;have x1:=HM.out.res.snd;have x2:=HM.out.res.thd;have f0:=HM.out.res.free 0;have f1:=HM.out.res.free 1;have f2:=HM.out.res.free 2
      cases hlg:hasLong ps with
      | true =>
       have HE:=HER.out 63 (put3 wr w.heap.size (.bool false) (.bool false) (.slice none 0 0)) (HLG.out HNO.out (by rw [<- HPS.out];exact hlg)) (by decide) (below_but HM.out.on (but_put3 _ _ _ _ _) (Nat.le_refl _))
       replace HE:Hid (∀ e,_->R e _):=HE
       clear HST HNZ HZ HLG HOK HER HA HD HL hlg HPS;go_wp2
       exact bodyPost_ret (results_box_tmp rfl _ _ rfl rfl (HM.out.res.put _ _ _)) rfl (HE.out _ rfl)
      | false =>
       have hok:=HOK.out HNO.out (by rw [<- HPS.out];exact hlg)
       have hixl:=idx_str s (s.size - 1) (by omega)
       have ecast:((s.size - 1:Nat):Int)=(s.size:Int) - 1:=by omega
       rw [ecast] at hixl;obtain ⟨p,c,hv,hat,hcc⟩:=ownL_at HM.out.own;subst hv;have y0:=HM.out.box.fst;have y1:=HM.out.box.snd;have y2:=HM.out.box.thd;have g1:=HM.out.box.free 1;have hA2:=HA.out hok;have hD2:=HD.out hok;have hL2:=HL.out hok
       have HF:Hid (∀ (B:Bool) e,(((byteAt s (s.size - 1)).toNat:Int) == 47)=B->e=.returned (.tuple #[.agg #[.bool A,.bool (B && decide (0 < ps.length)),.slice p ps.length c],.int .i64 0]) →
        R e (put3 (wr.setCell ⟨w.heap.size+1,1,none⟩ (.bool (B && decide (0 < ps.length)))) w.heap.size (.bool A) (.bool (B && decide (0 < ps.length))) (.slice p ps.length c))):=fun B e hB he=>by
        rw [<- HRR.out,hA2,hD2,hL2,hok,HAA.out,hB,<- HPS.out,he]
        exact ⟨below_but (below_but HM.out.on (but_set _ _ _ _) (by omega)) (but_put3 _ _ _ _ _) (Nat.le_refl _),p,c,rfl,((hat.but (but_set _ _ _ _) (by omega)).but (but_put3 _ _ _ _ _) (by omega)).less (by omega),hcc⟩
       have HBX:Hid (∀ u1 u2 u3 u4,Box (put3 (wr.setCell ⟨w.heap.size+1,1,none⟩ u1) w.heap.size u2 u3 u4) w.heap.size u2 u3 u4):=fun u1 u2 u3 u4=>(HM.out.res.but (but_set wr (w.heap.size+1) 1 u1) (by omega)).put _ _ _
       obtain ⟨B,hB⟩:∃ B,(((byteAt s (s.size - 1)).toNat:Int) == 47)=B:=⟨_,rfl⟩;have HF2:Hid _:=HF.out B
       have hF3:=fun e=>HF.out B e hB
       clear HST HNZ HZ HLG HOK HER HA HD HL hlg HPS hok hA2 hD2 hL2 HF HF2 hat hk hk2 hk3;generalize (byteAt s (s.size - 1)).toNat=cl at *
       cases B with
       | false =>
        simp only [Bool.false_and] at hF3
        replace hF3:Hid _:=hF3
        unfold put3 at HBX hF3;go_wp2
        exact bodyPost_ret (results_box_tmp rfl _ _ rfl rfl (HBX.out _ _ _ _)) rfl (hF3.out _ rfl)
       | true =>
        simp only [Bool.true_and] at hF3
        by_cases hp:0 < ps.length
        . have hpz:(0:Int) < (ps.length:Int):=by omega
          rw [decide_eq_true hp] at hF3
          replace hF3:Hid _:=hF3
          unfold put3 at HBX hF3;go_wp2
          exact bodyPost_ret (results_box_tmp rfl _ _ rfl rfl (HBX.out _ _ _ _)) rfl (hF3.out _ rfl)
        . have hpz:¬ (0:Int) < (ps.length:Int):=by omega
          rw [decide_eq_false hp] at hF3
          replace hF3:Hid _:=hF3
          unfold put3 at HBX hF3;go_wp2
          exact bodyPost_ret (results_box_tmp rfl _ _ rfl rfl (HBX.out _ _ _ _)) rfl (hF3.out _ rfl)
end Go.Proofs.YthlaoaaafafafaaGreat.P
