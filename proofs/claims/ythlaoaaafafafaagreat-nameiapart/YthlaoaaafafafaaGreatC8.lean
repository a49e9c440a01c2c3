/- Rows of numbers, sorted. -/
import Derived.Test.YthlaoaaafafafaaGreatC7
import Derived.Test.YthlaoaaafafafaaGreatShelfS
set_option maxRecDepth 100000
set_option maxHeartbeats 16000000
namespace Go.Proofs.YthlaoaaafafafaaGreat
open Go Go.RowKit Go.Shelf Go.Sort
abbrev intsV (l:List Int):List Value:=l.map (Value.int .i64)
theorem elemInt : ElemOk Tryz.prog 41 3 (.int .i64 0) 8:=⟨Tryz.underlying41,by kernel_rfl,rfl,by decide⟩
theorem rises_unique : ∀ {a b:List Int},a.Pairwise (· < ·)->b.Pairwise (· < ·)->(∀ x,x ∈ a ↔ x ∈ b)->a=b
 | [],[],_,_,_=>rfl
 | [],y :: r,_,_,h=>absurd ((h y).2 (by simp)) (by simp)
 | x :: r,[],_,_,h=>absurd ((h x).1 (by simp)) (by simp)
 | x :: r,y :: t,ha,hb,h=>by
  have ha':=List.pairwise_cons.1 ha;have hb':=List.pairwise_cons.1 hb
  have hxy:x=y:=by
   rcases List.mem_cons.1 ((h x).1 (by simp)) with e | e
   . exact e
   . rcases List.mem_cons.1 ((h y).2 (by simp)) with e2 | e2
     . exact e2.symm
     . have h1:=hb'.1 x e;have h2:=ha'.1 y e2
       omega
  subst hxy
  congr 1
  refine rises_unique ha'.2 hb'.2 fun z=>⟨fun hz => ?_,fun hz => ?_⟩
  . rcases List.mem_cons.1 ((h z).1 (List.mem_cons_of_mem _ hz)) with e | e
    . have:=ha'.1 z hz;omega
    . exact e
  . rcases List.mem_cons.1 ((h z).2 (List.mem_cons_of_mem _ hz)) with e | e
    . have:=hb'.1 z hz;omega
    . exact e
structure Mine (w:World) (base g off:Nat) (l:List Int):Prop where
 base:base<=g
 lt:g < w.heap.size
 held:Holds (Value.int .i64) w g off l.toArray
theorem mine_of_row {w:World} {base n:Nat} {v:Value} {l:List Int} (h:w.ownsRow base 3 1 v n (l.map (Value.int .i64))) (hv:v ≠ .slice none 0 0) :
 ∃ g cap,v=.slice (some ⟨g,0,none⟩) n cap/\Mine w base g 0 l/\n=l.length/\n<=cap:=by
 have hn:n=l.length:=by have:=h.1;simpa using this.symm
 rcases h.2 with ⟨h0,h1⟩ | ⟨g,cap,cur,rfl,hb,hg,hc,_,hs,ht⟩
 . exact absurd h0 hv
 . refine ⟨g,cap,rfl,⟨hb,(Array.getElem?_eq_some_iff.1 hg).1,fun j hj=>⟨?_,?_⟩⟩,hn,hc⟩
   . have hj':j < l.length:=by simpa using hj
     have hu:(l.map (Value.int .i64))[j]? = some (.int .i64 l[j]):=by simp [hj']
     rw [<- ht,List.getElem?_take_of_lt (by omega)] at hu
     rw [Nat.zero_add,getElem!_pos l.toArray j hj]
     simp only [World.cell?,hg]
     simpa using hu
   . simp [World.frozen?,hg]
theorem below_rows {B:Nat} {w0 w:World} {g off q:Nat} {d:Array Int} {os:Array Obj} (h:Below B w0 w) (hg:B<=g) (hlt:g < w.heap.size) :
 Below B w0 (grow (putRow (Value.int .i64) (Sort.ahead w q) g off d) os):=by
 have hs:(putRow (Value.int .i64) (Sort.ahead w q) g off d).heap.size=w.heap.size:=by simp [putRow,mapBlock,Sort.ahead]
 refine ⟨h.os,h.tape,h.output,?_,fun k hk => ?_⟩
 . have:=h.size
   show w0.heap.size<=((putRow (Value.int .i64) (Sort.ahead w q) g off d).heap ++ os).size
   rw [Array.size_append,hs];omega
 . rw [<- h.block k hk]
   show ((putRow (Value.int .i64) (Sort.ahead w q) g off d).heap ++ os)[k]? = _
   rw [Array.getElem?_append_left (by rw [hs];omega)]
   simp [putRow,mapBlock,Sort.ahead,Array.getElem?_modify,show g ≠ k by omega]
theorem sort_mine (g cap base:Nat) (l:List Int) (w:World) (hm:Mine w base g 0 l) (hl:l.length < 4611686018427387904) :
 Calls Tryz.prog 84 #[.slice (some ⟨g,0,none⟩) l.length cap] w fun e w'=>e=.returned (.tuple #[])/\Below base w w'/\Mine w' base g 0 (l.mergeSort fun x y=>decide (x<=y)):=by
 refine (Tryz.slices_Sort_int g 0 cap l w hm.held hm.lt hl).mono ?_
 rintro e w' ⟨rfl,q,os,rfl⟩
 have hlt:g < (putRow (Value.int .i64) (Sort.ahead w q) g 0 (l.mergeSort fun x y=>decide (x<=y)).toArray).heap.size:=by simpa [putRow,mapBlock,Sort.ahead] using hm.lt
 refine ⟨rfl,below_rows (Below.refl _ _) hm.base hm.lt,hm.base,?_,holds_grow _ _ _ _ _ _ hlt (holds_putRow _ _ _ _ l.toArray _ (holds_ahead _ _ _ _ _ _ hm.held) (by simp))⟩
 show g < (_ ++ os:Array Obj).size
 rw [Array.size_append];omega
theorem Mine.at {w:World} {base g:Nat} {l:List Int} (h:Mine w base g 0 l):AtF base w (some ⟨g,0,none⟩) (intsV l) :=
 .inr ⟨g,0,rfl,h.base,h.lt,fun j v hj=>by
  have hj':j < l.length:=by have:=(List.getElem?_eq_some_iff.1 hj).1;simpa using this
  have h1:=(h.held j (by simpa using hj')).1
  rw [h1,getElem!_pos l.toArray j (by simpa using hj')]
  rw [List.getElem?_map,List.getElem?_eq_getElem hj'] at hj
  simpa using hj⟩
theorem merge_rises {l:List Int} (h:l.Nodup):(l.mergeSort fun x y=>decide (x<=y)).Pairwise (· < ·):=by
 have h1:=List.pairwise_mergeSort (le:=fun x y:Int=>decide (x<=y)) (fun a b c h1 h2=>by simp at *;omega) (fun a b=>by simp;omega) l
 have h2:(l.mergeSort fun x y=>decide (x<=y)).Nodup:=(List.mergeSort_perm l _).nodup_iff.2 h
 refine (h1.and h2).imp ?_
 intro a b ⟨h3,h4⟩
 simp at h3
 omega
open Go Go.RowKit Go.Maps
def keysL (L:List Nd):List Int:=L.map fun n=>(n.ino:Int)
theorem keysL_rises {L:List Nd} (h:L.Pairwise fun a b=>a.ino < b.ino):(keysL L).Pairwise (· < ·):=by
 unfold keysL;rw [List.pairwise_map]
 exact h.imp fun h=>by omega
theorem ranges_grow {H:Type} {P:Program} {k:TypeId} {R:Value->Option (DataW H × List MemPlace)} {w w':World} {b r n hi:Nat} {e:TypeId} {D:DataW H} {left:Lit->Bool} {cnt:Nat} (h:w.ranges P k R b r n D left cnt) (hg:RowGrow hi e w w'):w'.ranges P k R b r n D left cnt:=by
 obtain ⟨es,clock,since,seen,c0,hb,F,hs,hD,hr,rest⟩:=h;obtain ⟨q,h1,h2⟩:=hg.block
 refine ⟨es,clock,since,seen,c0,(h2 b (Array.getElem?_eq_some_iff.1 hb).1 fun e => ?_).trans hb,F,hs,hD,(h2 r (Array.getElem?_eq_some_iff.1 hr).1 fun e => ?_).trans hr,rest⟩
 . obtain ⟨_,cs,fr,h3⟩:=h1 b e;rw [hb] at h3;cases h3
 . obtain ⟨_,cs,fr,h3⟩:=h1 r e;rw [hr] at h3;cases h3
structure AllI (w:World) (mb r m:Nat) (D:DataW Nat) (L:List Nd) (left:Lit->Bool) (cnt:Nat) (acc:List Int) (ov:Value) (wr:World):Prop where
 rg:wr.ranges Tryz.prog 3 ptrElem mb r m D left cnt
 row:OwnV w.heap.size 3 wr ov (intsV acc)
 some_:ov ≠ .slice none 0 0
 below:Below w.heap.size w wr
 nodup:acc.Nodup
 mem:∀ x,x ∈ acc ↔ ∃ n ∈ L,x=(n.ino:Int)/\left (ky n.ino)=false
 few:acc.length+cnt<=1024
def AllPost (L:List Nd) (w:World) (e:Ending) (w':World):Prop:=∃ p c,e=.returned (.slice p L.length c)/\AtF w.heap.size w' p (intsV (keysL L))/\Below w.heap.size w w'
theorem sameKey_ky {j k:Nat}:(ky j).sameKey (ky k)=decide (j=k):=by
 by_cases h:j=k
 . subst h;simp [Lit.sameKey]
 . simp [Lit.sameKey,h];omega
theorem all_any {hi:Lo} {sb c:Nat} {w:World} {s:SS} (h:StoreAt hi w sb s) (hf:Wf s c):Calls Tryz.prog 37 #[ptr sb] w (AllPost s.L w):=by
 obtain ⟨mb,D,Fs,h⟩:=h
 have hsz:Maps.size D<=1024:=by rw [h.is.count];exact cntF_le _ _
 have hlen:Maps.size D=s.L.length:=by rw [h.is.count];exact cntF_hasK hf.sorted fun n hn=>h.is.small _ (hasK_of hn)
 have x0:=h.box.cell 0 rfl;have hl:=h.len hf.sorted;obtain ⟨i0,hi0,hz0,hz1,hz2⟩:=info_parts elemInt.info
 obtain ⟨w1,hmk,hrow1,hg1⟩:=run_make_own (P:=Tryz.prog) w w.heap.size 41 3 i0 (.int .i64 0) 1 elemInt.slice hi0 hz0 hz1 .i64 .i64 s.L.length (by rw [hz2];omega) (by unfold maxLen;omega) (Nat.le_refl _)
 have hB1:Below w.heap.size w w1:=⟨hg1.os,hg1.tape,hg1.output,hg1.size,fun k hk=>hg1.block k hk (by simp)⟩
 have h1:=h.on hB1;have y0:=h1.box.cell 0 rfl;have hown:=h1.map;have HROW:Hid (OwnV w.heap.size 3 w1 (.slice (some ⟨w.heap.size,0,none⟩) 0 s.L.length) (intsV [])):=hrow1;have HB1:Hid (Below w.heap.size w w1):=hB1;have HW1:Hid (w.heap.size<=w1.heap.size):=hB1.size
 have HK:Hid (∀ kl,Maps.has D kl=true->∃ n ∈ s.L,kl=ky n.ino):=fun kl hk=>by
  obtain ⟨k,e,hk'⟩:=h.is.keys kl hk;obtain ⟨n,hn,rfl⟩:=hasK_iff.1 hk'
  exact ⟨n,hn,e⟩
 have HH:Hid (∀ n ∈ s.L,Maps.has D (ky n.ino)=true):=fun n hn=>(h.is.held _ (hasK_of hn)).1
 have HS:Hid (s.L.Pairwise fun a b=>a.ino < b.ino):=hf.sorted
 have HLen:Hid (Maps.size D=s.L.length):=hlen
 have HP:Hid (∀ g cc w',Mine w' w.heap.size g 0 (keysL s.L)->Below w.heap.size w w'->AllPost s.L w (.returned (.slice (some ⟨g,0,none⟩) s.L.length cc)) w'):=fun g cc w' h1 h2=>⟨_,cc,rfl,h1.at,h2⟩
 generalize AllPost s.L w=Post at *;clear h h1 hf hrow1 hB1 hg1 hlen;go_enter Tryz.func37,Tryz.ntmps37
 go_wp2_with (first
  | (at_range;refine wpList_range_own _ rfl _ 140 rfl 3 146 lawInt Tryz.underlying140 _ mb (Maps.size D) D rfl hown ?_;intro w0 hrg0 hg0 hs0;go_frame)
  | go_in)
 have HI0:Hid (AllI w mb w1.heap.size (Maps.size D) D s.L (Maps.has D) (Maps.size D) [] (.slice (some ⟨w.heap.size,0,none⟩) 0 s.L.length) w0):=by
  have hb0:Below w1.heap.size w1 w0:=⟨hg0.os,hg0.tape,hg0.output,hg0.size,fun k hk=>hg0.block k hk (by simp)⟩
  refine ⟨hrg0,ownV_on HROW.out hb0,by simp,on_trans HB1.out hb0,.nil,fun x=>⟨(fun hx=>by cases hx),fun ⟨n,hn,_,hl⟩ => ?_⟩,by simpa using hsz⟩
  rw [HH.out n hn] at hl;cases hl
 clear hrg0 hg0 HROW HB1
 go_loopw [3] (fun ov wr => ∃ (left:Lit->Bool) (cnt:Nat) (acc:List Int),Hid (AllI w mb w1.heap.size (Maps.size D) D s.L left cnt acc ov wr)) (fun _ wr=>wr.rangeLeft mb w1.heap.size)
 case atStart=>exact ⟨_,_,_,HI0⟩
 case round =>
  clear HI0;obtain ⟨left,cnt,acc,HI⟩:=hrel
  go_wp2_with (first
   | (at_next;refine wpList_next_ranges (α:=Int) (β:=Value) _ rfl _ rfl 3 lawInt ptrElem (Value.int .i64) id (fun key kl hkey=>by obtain ⟨x,rfl,_⟩:=Maps.keyOf_int_inv Tryz.underlying3 hkey;exact ⟨x,rfl⟩) (fun v y _=>⟨v,rfl⟩) mb w1.heap.size (Maps.size D) D left cnt rfl HI.out.rg ?_ ?_)
   | go_in)
  . -- nothing is left
    intro _ hl0
    have I:=HI.out
    have hk:(acc.mergeSort fun x y=>decide (x<=y))=keysL s.L:=rises_unique (merge_rises I.nodup) (keysL_rises HS.out) fun x=>by
     rw [(List.mergeSort_perm acc _).mem_iff,I.mem];unfold keysL;rw [List.mem_map]
     exact ⟨fun ⟨n,hn,e,_⟩=>⟨n,hn,e.symm⟩,fun ⟨n,hn,e⟩=>⟨n,hn,e.symm,hl0 _⟩⟩
    have hal:acc.length=s.L.length:=by
     have:=congrArg List.length hk
     simpa [keysL] using this
    obtain ⟨g,cap,rfl,hm,_,_⟩:=mine_of_row I.row I.some_
    rw [show (intsV acc).length=acc.length by simp] at *
    have cS:=sort_mine g cap w.heap.size acc wr hm (by have:=I.few;omega)
    rw [hk,hal] at cS;have HBW:Hid (Below w.heap.size w wr):=I.below;rw [hal];clear I HI hm hk hal hl0;go_wp2_with fail;refine cS.mono ?_;rintro e w2 ⟨rfl,hb2,hm2⟩;have HZ:Hid _:=HP.out g cap w2 hm2 (HBW.out.trans hb2);clear HP cS hb2 hm2;go_wp2
    exact HZ.out
  . -- an entry has come
    intro x v kl y ys w2 cnt2 hkey hlx hv hat hrg2 hlt hg2 hs2 hen
    obtain ⟨x',ex,ekl,hwx⟩:=Maps.keyOf_int_inv Tryz.underlying3 hkey
    cases ex
    have hhas:Maps.has D kl=true:=has_true_of_atKey hat;obtain ⟨n,hn,ek⟩:=HK.out kl hhas;subst ekl
    obtain rfl:x=(n.ino:Int):=by unfold ky at ek;simpa using ek
    have I:=HI.out
    have hb2:Below w1.heap.size wr w2:=⟨hg2.os,hg2.tape,hg2.output,hg2.size,fun k hk=>hg2.block k (by have:=I.rg.lt;omega) fun e=>by cases e;omega⟩
    have hrow2:OwnV w.heap.size 3 w2 u3 (intsV acc):=by
     refine ⟨I.row.1,?_⟩
     rcases I.row.2 with h0 | ⟨g,cap,cur,rfl,hbs,hg,h3⟩
     . exact absurd h0.1 I.some_
     . refine .inr ⟨g,cap,cur,rfl,hbs,(hg2.block g (Array.getElem?_eq_some_iff.1 hg).1 fun e => ?_).trans hg,h3⟩
       cases e
       obtain ⟨es,clock,since,seen,c0,_,_,_,_,hr,_⟩:=I.rg;rw [hr] at hg;cases hg
    have hlo:w.heap.size<=w2.heap.size:=Nat.le_trans I.below.size hg2.size
    have hB2:Below w.heap.size w w2:=⟨hg2.os.trans I.below.os,hg2.tape.trans I.below.tape,hg2.output.trans I.below.output,hlo,fun k hk=>(hg2.block k (by have:=I.below.size;omega) fun e=>by cases e;have:=HW1.out;omega).trans (I.below.block k hk)⟩
    obtain ⟨v',w3,hrun,hown3,hgr3⟩:=append_one_grow elemInt w.heap.size u3 (intsV acc) (.int .i64 (n.ino:Int)) w2 (by have:=I.few;simp;omega) rfl hrow2 hlo
    have hcnt:=I.rg.left_eq
    have hnew:(n.ino:Int) ∉ acc:=fun hx=>by
     obtain ⟨n',hn',e,hf'⟩:=(I.mem _).1 hx
     have e2:n'.ino=n.ino:=by omega
     rw [e2] at hf';rw [ek,hf'] at hlx;cases hlx
    have HI2:Hid (AllI w mb w1.heap.size (Maps.size D) D s.L (fun z=>left z && !z.sameKey (ky n.ino)) cnt2 (acc ++ [(n.ino:Int)]) v' w3):=by
     refine ⟨ranges_grow hrg2 hgr3,by simpa [intsV] using hown3,fun e => ?_,hgr3.below hB2 (Nat.le_refl _) hlo,?_,fun z => ?_,by have:=I.few;simp;omega⟩
     . subst e
       rcases hown3.2 with ⟨_,h0⟩ | ⟨g,cap,cur,h0,_⟩
       . simp at h0
       . cases h0
     . rw [List.nodup_append]
       exact ⟨I.nodup,by simp,fun a ha b hb=>by rw [List.mem_singleton.1 hb];intro e;exact hnew (e ▸ ha)⟩
     . rw [List.mem_append,List.mem_singleton,I.mem]
       constructor
       . rintro (⟨a,ha,rfl,hfa⟩ | rfl)
         . exact ⟨a,ha,rfl,by rw [hfa];rfl⟩
         . exact ⟨n,hn,rfl,by rw [sameKey_ky];simp⟩
       . rintro ⟨a,ha,rfl,hfa⟩;rw [sameKey_ky] at hfa
         by_cases e:a.ino=n.ino
         . exact .inr (by rw [e])
         . exact .inl ⟨a,ha,rfl,by simpa [e] using hfa⟩
    have hlt2:Hid (w3.rangeLeft mb w1.heap.size < wr.rangeLeft mb w1.heap.size):=by
     show _ < _
     rw [hcnt,HI2.out.rg.left_eq];exact hlt
    clear I hb2 hrow2 hlo hB2 hown3 hgr3 hcnt hnew HI hrg2 hg2 hat hhas hlx hv hs2
    go_wp2_with (at_builtin;refine wpList_run_append (by rfl) _ _ _ (by rfl) _ _ (by rfl) (by rfl) hrun ?_)
    go_roundw
    case rel=>exact ⟨_,_,_,HI2⟩
    case measure=>exact hlt2.out
end Go.Proofs.YthlaoaaafafafaaGreat
