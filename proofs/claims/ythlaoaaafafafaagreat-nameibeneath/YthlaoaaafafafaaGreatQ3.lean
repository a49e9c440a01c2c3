/- Ours. -/
import Derived.Test.YthlaoaaafafafaaGreatQ1
import Derived.Lib.AppendZeros
import Derived.Lib.AppendZerosOnto
set_option maxRecDepth 100000
set_option maxHeartbeats 16000000
namespace Go.Proofs.YthlaoaaafafafaaGreat.P
open Go Go.RowKit
theorem append_any (hi:Nat) (v:Value) (s:List ByteArray) (p:Option Addr) (cap:Nat) (l:List ByteArray) (W:World) (hs:s.length<=10000) (hl:l.length<=10000) (hown:OwnL hi W v s) (h:At W p l) (hhi:hi<=W.heap.size) :
 ∃ v' W',(Builtin.append_ #[55,55] 55 #[v,.slice p l.length cap]).run Tryz.prog W=.ok v' W'/\OwnL hi W' v' (s ++ l)/\Below hi W W':=by
 cases p with
 | some a=>exact append_own hi v s a cap l W hs hl hown h hhi
 | none =>
  obtain rfl:l=[]:=by
   rcases h with e | ⟨b,off,e,_⟩
   . exact e
   . cases e
  obtain ⟨i0,hi0,_,_,_⟩:=info_parts infoStr
  refine ⟨v,W,?_,by rw [List.append_nil];exact hown,Below.refl _ _⟩
  rcases hown.2 with ⟨rfl,_⟩ | ⟨g,c,cur,rfl,_,_,hnc,_⟩
  . simp [Builtin.append_,run_underlying Tryz.underlying55,sizeOf,typeInfo,hi0,Builtin.lenOf,Builtin.firstCells]
  . simp [Builtin.append_,run_underlying Tryz.underlying55,sizeOf,typeInfo,hi0,Builtin.lenOf,Builtin.firstCells,hnc,storeCells]
theorem grow_any (n:Nat) (w:World) (hn:n<=10000) :
 Calls Tryz.prog 116 #[.slice none 0 0,.int .i64 n] w fun e w' => ∃ v,e=.returned v/\OwnL w.heap.size w' v []/\Below w.heap.size w w':=by
 have h0:¬ (n:Int) < 0:=by omega
 by_cases hp:0 < n
 . obtain ⟨i0,hi0,hz0,hz1,hz2⟩:=info_parts infoStr
   have hpz:(0:Int) < (n:Int):=by omega
   have hold:(Builtin.firstCells i0.size 0 (.slice none 0 0)).run Tryz.prog w.drew=.ok ([]:List Value).toArray w.drew:=by simp [Builtin.firstCells]
   have hr:=fun ty=>Lib.run_append_grow_zeros (P:=Tryz.prog) w 55 3 ty 9 i0 (.string ⟨#[]⟩) .i64 .i64 Tryz.underlying55 Tryz.underlying3 hi0 hz0 none 0 0 [] hold n hp (by omega) (by omega) (by omega) (by rw [hz2];omega)
    (growslice_fits (by omega) (by rw [hz2];omega))
   rw [Nat.zero_add] at hr;have hge:n<=grownCap w n 0 9:=grownCap_ge w n 0 9
   have hcm:grownCap w n 0 9<=maxLen:=grownCap_le_maxLen w n 0 9 (by unfold maxLen;omega)
   generalize grownCap w n 0 9=G at *
   have hG63:G<=9223372036854775807:=by unfold maxLen at hcm;omega
   have hGz:(0:Int)<=(G:Int):=by omega
   have HO:Hid (OwnL w.heap.size (w.drew.alloc (.cells (([]:List Value).toArray ++ Builtin.zeroCells (Value.string ⟨#[]⟩).cells n ++ Builtin.zeroCells (Value.string ⟨#[]⟩).cells (G - n)) 9)) (.slice (some ⟨w.heap.size,0,none⟩) 0 G) []) :=
    ⟨rfl,.inr ⟨w.heap.size,G,_,rfl,Nat.le_refl _,heap_alloc_new w.drew _,Nat.zero_le _,hcm,by
     simp only [Array.size_append,List.size_toArray,List.length_nil,size_zeroCells]
     show 0+n * 1+(G - n) * 1=G * 1
     omega,by simp⟩⟩
   have HB:Hid (Below w.heap.size w (w.drew.alloc (.cells (([]:List Value).toArray ++ Builtin.zeroCells (Value.string ⟨#[]⟩).cells n ++ Builtin.zeroCells (Value.string ⟨#[]⟩).cells (G - n)) 9))):=(on_drew (Below.refl _ w)).trans (on_alloc w.drew _);generalize w.drew.alloc (.cells (([]:List Value).toArray ++ Builtin.zeroCells (Value.string ⟨#[]⟩).cells n ++ Builtin.zeroCells (Value.string ⟨#[]⟩).cells (G - n)) 9)=W at *;clear hold hi0 hz0 hz1 hz2 hcm;go_enter Tryz.func116,Tryz.ntmps116
   go_wp2_with (at_builtin;refine Lib.wpList_append_run _ rfl _ _ _ _ rfl _ _ rfl rfl _ _ (hr _) ?_)
   go_ret
   exact ⟨_,rfl,HO.out,HB.out⟩
 . obtain rfl:n=0:=by omega
   clear h0;go_enter Tryz.func116,Tryz.ntmps116;go_wp2
   go_ret
   exact ⟨_,rfl,ownL_nil _ _,Below.refl _ _⟩
structure Pair (w:World) (g:Nat) (p q:Option Addr) (c d:Nat) (l m:List ByteArray):Prop where
 row:w.heap[g]? = some (.cells #[.slice p l.length c,.slice q m.length d] 55 (0,0))
 fst:At w p l
 snd:At w q m
theorem Pair.on {w w':World} {g:Nat} {p q:Option Addr} {c d:Nat} {l m:List ByteArray} (h:Pair w g p q c d l m) (hb:Below w.heap.size w w'):Pair w' g p q c d l m :=
 ⟨(hb.block g (Array.getElem?_eq_some_iff.1 h.row).1).trans h.row,h.fst.on hb,h.snd.on hb⟩
def CatSt (w:World) (s:List ByteArray) (v:Value) (W:World):Prop:=OwnL w.heap.size W v s/\Below w.heap.size w W
def RetCat (w:World) (l:List ByteArray) (e:Ending) (w':World):Prop:=Below w.heap.size w w'/\∃ p c,e=.returned (.slice p l.length c)/\AtF w.heap.size w' p l/\l.length<=c
theorem concat_any (g:Nat) (p q:Option Addr) (c d:Nat) (l m:List ByteArray) (w:World) (hl:l.length<=5000) (hm:m.length<=5000) (h:Pair w g p q c d l m) :
 Calls Tryz.prog 64 #[.slice (some ⟨g,0,none⟩) 2 2] w (RetCat w (l ++ m)):=by
 have HP:Hid (Pair w g p q c d l m):=h;have c0:w.cell? ⟨g,0,none⟩=some (.slice p l.length c):=cell_of_row _ _ 0 _ _ _ h.row;have c1:w.cell? ⟨g,1,none⟩=some (.slice q m.length d):=cell_of_row _ _ 1 _ _ _ h.row
 have n1:¬ (l.length:Int) < 0:=by omega
 have n2:¬ (l.length:Int)+(m.length:Int) < 0:=by omega
 have cG:=grow_any (l.length+m.length) w (by omega)
 clear h;go_enter Tryz.func64,Tryz.ntmps64;go_wp2
 go_loop [3,11] (fun s i=>(i=.int .i64 0/\s=.int .i64 0) ∨ (i=.int .i64 1/\s=.int .i64 (l.length:Int)) ∨ (i=.int .i64 2/\s=.int .i64 ((l.length+m.length:Nat):Int))) (fun _ i=>2 - (intOf i).toNat)
 case atStart=>exact .inl ⟨rfl,rfl⟩
 case round =>
  rcases hrel with ⟨rfl,rfl⟩ | ⟨rfl,rfl⟩ | ⟨rfl,rfl⟩
  . go_wp2
    go_round
    case rel=>exact .inr (.inl ⟨rfl,by simp⟩)
    case measure=>simp [intOf]
  . go_wp2
    go_round
    case rel=>exact .inr (.inr ⟨rfl,by simp⟩)
    case measure=>simp [intOf]
  . clear c0 c1 n1 n2;go_wp2_with fail;refine cG.mono ?_;rintro e w1 ⟨v1,rfl,hown,hb1⟩;have HS0:Hid (CatSt w [] v1 w1):=⟨hown,hb1⟩;clear cG hown hb1;go_wp2
    go_loopw [6,27] (fun sv si wr=>(si=.int .i64 0/\Hid (CatSt w [] sv wr)) ∨ (si=.int .i64 1/\Hid (CatSt w l sv wr)) ∨ (si=.int .i64 2/\Hid (CatSt w (l ++ m) sv wr))) (fun _ i _=>2 - (intOf i).toNat)
    case atStart=>exact .inl ⟨rfl,HS0⟩
    case round =>
     rcases hrel with ⟨rfl,HS⟩ | ⟨rfl,HS⟩ | ⟨rfl,HS⟩
     . obtain ⟨hown,hb⟩:=HS.out;have hp:=HP.out.on hb;have c0:wr.cell? ⟨g,0,none⟩=some (.slice p l.length c):=cell_of_row _ _ 0 _ _ _ hp.row
       obtain ⟨v',W',hrun,hown',hb'⟩:=append_any w.heap.size _ [] p c l wr (by simp) (by omega) hown hp.fst hb.size
       have HN:Hid (CatSt w (l) v' W'):=⟨by rw [List.nil_append] at hown';exact hown',hb.trans hb'⟩
       clear hown hb hp hown' hb'
       go_wp2_with (at_builtin;refine wpList_run_append (by rfl) _ _ _ (by rfl) _ _ (by rfl) (by rfl) hrun ?_)
       go_roundw
       case rel=>exact .inr (.inl ⟨rfl,HN⟩)
       case measure=>simp [intOf]
     . obtain ⟨hown,hb⟩:=HS.out;have hp:=HP.out.on hb;have c0:wr.cell? ⟨g,1,none⟩=some (.slice q m.length d):=cell_of_row _ _ 1 _ _ _ hp.row
       obtain ⟨v',W',hrun,hown',hb'⟩:=append_any w.heap.size _ l q d m wr (by omega) (by omega) hown hp.snd hb.size
       have HN:Hid (CatSt w (l ++ m) v' W'):=⟨hown',hb.trans hb'⟩;clear hown hb hp hown' hb'
       go_wp2_with (at_builtin;refine wpList_run_append (by rfl) _ _ _ (by rfl) _ _ (by rfl) (by rfl) hrun ?_)
       go_roundw
       case rel=>exact .inr (.inr ⟨rfl,HN⟩)
       case measure=>simp [intOf]
     . obtain ⟨hown,hb⟩:=HS.out;obtain ⟨p',c',hv,hat,hcc⟩:=ownL_at hown;subst hv;have HE:Hid (RetCat w (l ++ m) (.returned (.slice p' (l ++ m).length c')) wr):=⟨hb,p',c',rfl,hat,hcc⟩;clear hown hb hat HS;generalize l ++ m=L at *;go_wp2
       go_ret
       exact HE.out
end Go.Proofs.YthlaoaaafafafaaGreat.P
