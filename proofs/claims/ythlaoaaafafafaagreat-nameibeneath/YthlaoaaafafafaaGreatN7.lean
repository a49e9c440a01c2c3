/- Ours. -/
import Derived.Test.YthlaoaaafafafaaGreatN5
import Derived.Test.YthlaoaaafafafaaGreatShelfI
import Derived.Test.YthlaoaaafafafaaGreatH1
set_option maxRecDepth 100000
set_option maxHeartbeats 16000000
namespace Go.Proofs.YthlaoaaafafafaaGreat
open Go Go.RowKit Go.Maps
theorem ents_dead {s:SS} (ht:Tree s) {c:Nat} (hf:Wf s c) {d:Int} (h:dirE s d ≠ 0):entsOf s d=[]:=by
 unfold entsOf
 cases hx:look s d with
 | none=>rfl
 | some y =>
  obtain ⟨i,n⟩:=y;obtain ⟨hn,hxe⟩:=look_mem hx
  show n.ds=[]
  by_cases e:n.ds=[]
  . exact e
  . obtain ⟨h1,h2⟩:=ht.dirs n hn e
    exfalso
    refine h ?_
    unfold dirE;rw [hx]
    show (if n.kind=2 then (if d ≠ 1/\n.links=0 then 2 else 0) else 20)=0
    rw [if_pos h1,if_neg]
    intro h7
    have h8:=(hf.num n hn).1
    rcases h2 with h2 | h2 | h2
    . exact h7.1 (by omega)
    . omega
    . omega
section
variable {n fb sb ub c:Nat} {w:World} {s:SS} {B:Nat->Nat} {U:Int->Int}
theorem list8 (h:FsM n w fb sb ub c s B U) (hf:Wf s c) (ht:Tree s) (hc:c<=1000000) (d:Int) (hd:(Lit.int .i64 d).wf=true):Calls Tryz.prog 32 #[ptr fb,.int .i64 d,.int .i64 0,.int .i64 64] w fun e w' => ∃ v E,e=.returned (.tuple #[v,.int .i64 E])/\NamesAt w.heap.size w' v (names (entsOf s d))/\Below w.heap.size w w':=by
 have cI:=into_any h hf hc d hd
 have HP:Hid (∀ v E w',NamesAt w.heap.size w' v (names (entsOf s d))->Below w.heap.size w w'->(fun e w' => ∃ v E,e=Ending.returned (.tuple #[v,.int .i64 E])/\NamesAt w.heap.size w' v (names (entsOf s d))/\Below w.heap.size w w') (.returned (.tuple #[v,.int .i64 E])) w'):=fun v E w' h1 h2=>⟨v,E,rfl,h1,h2⟩
 generalize hPost:(fun e w' => ∃ v E,e=Ending.returned (.tuple #[v,.int .i64 E])/\NamesAt w.heap.size w' v (names (entsOf s d))/\Below w.heap.size w w')=Post at *
 clear hPost
 by_cases h0:dirE s d=0
 . obtain ⟨i,nd,v,hx,hk,hl,eds,edv,hdr,_⟩:=h.into hf h0;have hm:=(look_mem hx).1;have hds:=hf.ds _ hm
   have HF:Hid (∀ w1,Below w.heap.size w w1->Calls Tryz.prog 81 #[ptr (B nd.ino),.int .i64 0,.int .i64 64] w1 (RetNames w1 (names (entsOf s d)))):=fun w1 hb=>by
    have e7:pageL nd.ds 0 64=names (entsOf s d):=by
     unfold pageL
     rw [if_neg (by omega),<- eds]
     show ((names nd.ds).drop 0).take 64=names nd.ds
     rw [List.drop_zero,List.take_of_length_le (by rw [names_len];exact hds)]
    rw [<- e7]
    exact page_any 0 _ v nd.ds 0 64 w1 (by omega) (hdr.on hb)
   rw [h0,if_pos rfl,edv] at cI;clear h hf ht hx hdr edv h0 eds hk hl hm hds;generalize B nd.ino=db at *;go_enter Tryz.func32,Tryz.ntmps32;go_wp2_with fail;refine cI.mono ?_;rintro e w1 ⟨rfl,hb⟩;have c2:=HF.out w1 hb;unfold RetNames at c2;clear cI HF;go_wp2_with fail;refine c2.mono ?_;rintro e w2 ⟨v2,rfl,hn2,hb2⟩;have hz:=HP.out v2 0 w2 (hn2.less hb.size) (on_trans hb hb2);clear hn2 hb2 c2;go_wp2
   exact hz
 . have e0:=ents_dead ht hf h0;rw [if_neg h0] at cI
   have h0b:(((dirE s d:Nat):Int) != 0)=true:=by simp only [bne_iff_ne,ne_eq];omega
   have HN:Hid (∀ w',NamesAt w.heap.size w' (.slice none 0 0) (names (entsOf s d))):=fun w'=>.inl ⟨by rw [e0];rfl,rfl⟩
   clear h hf ht e0;generalize ((dirE s d:Nat):Int)=z at *;go_enter Tryz.func32,Tryz.ntmps32;go_wp2_with fail;refine cI.mono ?_;rintro e w1 ⟨rfl,hb⟩;have hz:=HP.out _ z w1 (HN.out w1) hb;clear cI;go_wp2
   exact hz
end
open Go Go.RowKit Go.Maps Go.Sort Go.Shelf Go.Proofs
theorem sortsA8 (m:Nat):AnyZI.SortsIn Tryz.prog Tryz.sortedA_ren Fence.wide m :=
 ⟨fun blk off cap ss W hH hblk hsz=>callsIn_wide.2 (Tryz.slices_Sort_int blk off cap ss W hH hblk hsz),
  fun p cap W=>callsIn_wide.2 (Tryz.slices_Sort_int_none p cap W)⟩
theorem keys8 (mb:Option Nat) (W:World):Calls Tryz.prog 35 #[.map mb] W fun e w'=>e=.returned (.func (.func 85) #[] #[.pointer (some ⟨W.heap.size,0,none⟩)])/\w'=W.alloc (.cells #[.map mb] 83) :=
 (callsIn_wide (n:=5)).1 (AnyZI.keys_in Tryz.keysA Fence.wide 5 trivial rfl mb W)
theorem sorted8 {H:Type} {b nn:Nat} {D0:DataW H} {R:Value->Option (DataW H × List MemPlace)} {w:World} (hown:w.ownsMap Tryz.prog 3 R b nn D0) (hmax:Maps.size D0<=maxLen) (hbytes:Maps.size D0 * 8<=140737488355328) :
 Calls Tryz.prog 34 #[.func (.func 85) #[] #[.pointer (some ⟨w.heap.size,0,none⟩)]] (w.alloc (.cells #[.map (some b)] 83)) fun e w' => ∃ (v:Value) (ss:List Int),e=.returned v/\ss.Perm (intKeys D0) ∧
  w'.ownsRow w.heap.size 3 1 v ss.length ((ss.mergeSort (fun x y=>decide (x<=y))).map encZ)/\(v=.slice none 0 0 ↔ ss=[])/\Below w.heap.size w w':=by
 have hbl:=hown.lt
 have hseq:SeqGives Fence.wide 2 Tryz.prog 85 #[.pointer (some ⟨w.heap.size,0,none⟩)] encZ (fun ss=>ss.Perm (intKeys D0)) (Maps.size D0) (w.alloc (.cells #[.map (some b)] 83)) :=
  AnyZI.keys_gives (ρ:=Tryz.keysA_ren) { Tryz.keysA with } Fence.wide _ trivial rfl (by omega) w.heap.size b nn D0 _ (by simp) (by simp) (by
   obtain ⟨es,clock,hb,Ft,hs,hD⟩:=hown
   exact ⟨es,clock,(Below.heap_alloc _ _ b hbl).trans hb,Ft,hs,hD⟩)
 have cS:=AnyZI.sorted_in Tryz.sortedA Fence.wide 5 trivial trivial trivial trivial rfl (by omega) (sortsA8 _) (enters_of Tryz.func84 (by kernel_rfl) rfl) 85 #[.pointer (some ⟨w.heap.size,0,none⟩)] trivial (enters_of Tryz.func85 (by kernel_rfl) rfl) _ _ hmax hbytes _ hseq
 refine ((callsIn_wide (n:=5)).1 cS).mono ?_
 rintro e w' ⟨v,ss,rfl,hS,hrow,hnil,hb⟩
 exact ⟨v,ss,rfl,hS,ownsRow_base_a hrow (by simp),hnil,((Below.refl _ w).alloc (Nat.le_refl _) _).trans (hb.mono (by simp))⟩
open Go Go.RowKit Go.Maps Go.Shelf
def SetM (w:World) (b c:Nat) (V:List Int):Prop:=∃ D:DataW Nat,w.ownsMap Tryz.prog 3 unitElem b c D/\∀ x:Int,Maps.has D (.int .i64 x)=decide (x ∈ V)
section
variable {w w':World} {b c:Nat} {V:List Int}
theorem SetM.block (h:SetM w b c V) (hb:w'.heap[b]? = w.heap[b]?):SetM w' b c V:=by
 obtain ⟨D,h1,h2⟩:=h
 exact ⟨D,owns_block h1 hb,h2⟩
theorem SetM.lt (h:SetM w b c V):b < w.heap.size:=by
 obtain ⟨D,h1,_⟩:=h
 exact h1.lt
theorem SetM.on (h:SetM w b c V) (hb:Below w.heap.size w w'):SetM w' b c V:=h.block (hb.block b h.lt)
theorem SetM.kept {r:Option Nat} (h:SetM w b c V) (hg:w.grownBy w' r) (hr:some b ≠ r):SetM w' b c V:=by
 obtain ⟨D,h1,h2⟩:=h
 exact ⟨D,h1.kept hg hr,h2⟩
theorem SetM.new (w:World):SetM (w.alloc (.map #[] 0)) w.heap.size 0 []:=⟨_,World.ownsMap_made w _ _ _,fun x=>by simp [Maps.has_eq]⟩
theorem zeroUnit (w:World):(zeroValue 82).run Tryz.prog w=.ok (.agg #[]) w:=by kernel_rfl
theorem SetM.look (h:SetM w b c V) {x:Int} (hw:(Lit.int .i64 x).wf=true):(Instr.lookup 83 (.map (some b)) (.int .i64 x) true).run Tryz.prog w=.ok (.tuple #[.agg #[],.bool (decide (x ∈ V))]) w:=by
 obtain ⟨D,h1,h2⟩:=h;obtain ⟨v,ps,h3,h4⟩:=h1.look_ok lawInt Tryz.underlying83 (zeroUnit w) unitElem_mk (keyOf_int_mk Tryz.underlying3 hw);obtain ⟨rfl,_⟩:=unitElem_inv h4;rw [h3,h2]
theorem SetM.put (h:SetM w b c V) (hc:c<=100000) {x:Int} (hw:(Lit.int .i64 x).wf=true):∃ w',(Instr.mapUpdate 83 (.map (some b)) (.int .i64 x) (.agg #[])).run Tryz.prog w=.ok () w'/\SetM w' b (c+1) (V ++ [x])/\w.grownBy w' (some b):=by
 obtain ⟨D,h1,h2⟩:=h
 obtain ⟨w',h3,h4,h5⟩:=h1.update lawInt Tryz.underlying83 (by unfold maxLen;omega) (keyOf_int_mk (P:=Tryz.prog) (k:=3) Tryz.underlying3 hw) unitElem_mk
 refine ⟨w',h3,⟨_,h4,fun y => ?_⟩,h5⟩
 by_cases e:y=x
 . subst e
   rw [has_put_same h1.isMap (show WideAt.IsKeyLit (.int .i64 y) from trivial)]
   simp
 . rw [has_put_other (by simpa using e),h2 y]
   simp [e]
end
def QueM (w:World) (v:Value) (qb:Nat) (l:List Int):Prop:=∃ off cap,v=.slice (some ⟨qb,off,none⟩) l.length cap/\l.length<=cap/\qb < w.heap.size/\(∀ j (hj:j < l.length),w.cell? ⟨qb,off+j,none⟩=some (.int .i64 l[j]))/\∀ j,j < cap->(w.cell? ⟨qb,off+j,none⟩).isSome=true/\w.frozen? ⟨qb,off+j,none⟩=false
section
variable {w w':World} {v:Value} {qb:Nat} {l:List Int} {x:Int}
theorem cell_block {w w':World} {a:Addr} (hb:w'.heap[a.block]? = w.heap[a.block]?):w'.cell? a=w.cell? a:=by
 unfold World.cell?;rw [hb]
theorem QueM.block (h:QueM w v qb l) (hl:qb < w'.heap.size) (hb:w'.heap[qb]? = w.heap[qb]?):QueM w' v qb l:=by
 obtain ⟨off,cap,h1,h2,h3,h4,h5⟩:=h
 refine ⟨off,cap,h1,h2,hl,fun j hj => ?_,fun j hj => ?_⟩
 . rw [cell_block (a:=⟨qb,off+j,none⟩) hb];exact h4 j hj
 . rw [cell_block (a:=⟨qb,off+j,none⟩) hb]
   refine ⟨(h5 j hj).1,?_⟩
   have:=(h5 j hj).2;unfold World.frozen? at this ⊢
   simp only [hb]
   exact this
theorem QueM.kept {r:Option Nat} (h:QueM w v qb l) (hg:w.grownBy w' r) (hr:some qb ≠ r):QueM w' v qb l:=by
 have hl:qb < w.heap.size:=by obtain ⟨_,_,_,_,h,_⟩:=h;exact h
 exact h.block (Nat.lt_of_lt_of_le hl hg.size) (hg.block qb hl hr)
theorem QueM.lt (h:QueM w v qb l):qb < w.heap.size:=by obtain ⟨_,_,_,_,h,_⟩:=h;exact h
theorem QueM.on (h:QueM w v qb l) (hb:Below w.heap.size w w'):QueM w' v qb l:=h.block (Nat.lt_of_lt_of_le h.lt hb.size) (hb.block qb h.lt)
theorem QueM.one (w:World) (x:Int):QueM (w.alloc (.cells #[.int .i64 x] 3)) (.slice (some ⟨w.heap.size,0,none⟩) 1 1) w.heap.size [x]:=by
 have hB:=Blk.new w 3 [.int .i64 x]
 refine ⟨0,1,rfl,Nat.le_refl _,hB.lt,fun j hj => ?_,fun j hj => ?_⟩
 . obtain rfl:j=0:=by simp at hj;omega
   exact hB.cell 0 rfl
 . obtain rfl:j=0:=by omega
   refine ⟨by rw [show (0+0:Nat)=0 from rfl,hB.cell 0 rfl];rfl,?_⟩
   unfold World.frozen?
   rw [show (World.alloc w (.cells #[.int .i64 x] 3)).heap[(⟨w.heap.size,0+0,none⟩:Addr).block]? = _ from World.alloc_heap_new w _]
   rfl
theorem QueM.pop (h:QueM w v qb (x :: l)):∃ v',(Instr.slice 41 v (some (.int .i64 1)) none none).run Tryz.prog w=.ok v' w/\QueM w v' qb l:=by
 obtain ⟨off,cap,rfl,h2,h3,h4,h5⟩:=h;have hlen:(x :: l).length=l.length+1:=rfl
 refine ⟨sliced (some ⟨qb,off,none⟩) 1 (x :: l).length cap 1,?_,?_⟩
 . have hu:Tryz.prog.underlying 41=some (.slice (Tryz.prog.elem 41)):=by kernel_rfl
   have hs:∀ W,(sizeOf (Tryz.prog.elem 41)).run Tryz.prog W=.ok 1 W:=fun W=>by kernel_rfl
   rw [run_slice_l (ht:=hu) (h0:=by decide) (h1:=by rw [hlen];omega),hs]
   rfl
 . unfold sliced
   by_cases e:cap=1
   . have el:l=[]:=List.eq_nil_of_length_eq_zero (by rw [hlen] at h2;omega)
     subst e el
     refine ⟨off,0,?_,Nat.le_refl _,h3,fun j hj=>absurd hj (by simp),fun j hj=>absurd hj (by omega)⟩
     rw [if_pos rfl];rfl
   . refine ⟨off+1,cap - 1,?_,by rw [hlen] at h2;omega,h3,fun j hj => ?_,fun j hj => ?_⟩
     . rw [if_neg e,hlen]
       rfl
     . rw [show off+1+j=off+(j+1) by omega]
       exact h4 (j+1) (by rw [hlen];omega)
     . rw [show off+1+j=off+(j+1) by omega]
       exact h5 (j+1) (by omega)
theorem QueM.push (h:QueM w v qb l) (hl:l.length<=100000) (x:Int):∃ v' w' qb',(Builtin.append_ #[41,41] 41 #[v,.slice (some ⟨w.heap.size,0,none⟩) 1 1]).run Tryz.prog (w.alloc (.cells #[.int .i64 x] 3))=.ok v' w'/\QueM w' v' qb' (l ++ [x])/\w.grownBy w' (some qb)/\(qb'=qb ∨ w.heap.size<=qb'):=by
 have hlt:=h.lt;have hq:=h.on (on_alloc w (.cells #[.int .i64 x] 3));have hal:=World.grownBy_alloc w (.cells #[.int .i64 x] 3) (some qb);have hN:∀ j u,[Value.int .i64 x][j]? = some u->(w.alloc (.cells #[.int .i64 x] 3)).cell? ((⟨w.heap.size,0,none⟩:Addr).add j)=some u:=at_news (at_row1 w 3 (.int .i64 x)).at;generalize hW:w.alloc (.cells #[.int .i64 x] 3)=W at *
 have hWs:W.heap.size=w.heap.size+1:=by rw [<- hW];simp
 obtain ⟨off,cap,rfl,h2,h3,h4,h5⟩:=hq;obtain ⟨i0,hi0,hz0,hz1,hz2⟩:=info_parts elemInt.info
 by_cases hr:l.length+1<=cap
 . have hc:=h5 l.length (by omega)
   have hz0':∀ j,j < [Value.int .i64 x].length->j=0:=fun j hj=>by simp at hj;omega
   have hrun:=run_append_room_cells (P:=Tryz.prog) W 41 41 3 i0 elemInt.slice hi0 qb off l.length cap ⟨w.heap.size,0,none⟩ 1 1 [.int .i64 x] (by rw [hz1];rfl) hN (by simp [Value.oneCell']) hr
    (fun j hj=>by rw [hz1,Nat.mul_one,show j=0 from hz0' j hj,Nat.add_zero];exact hc.1)
    (fun j hj=>by rw [hz1,Nat.mul_one,show j=0 from hz0' j hj,Nat.add_zero];exact hc.2)
   rw [hz1,Nat.mul_one] at hrun
   have hin:=World.cell?_setCells_in qb [.int .i64 x] (off+l.length) W (fun j hj=>by rw [show j=0 from hz0' j hj,Nat.add_zero];exact hc.1) 0 (by simp)
   have hG:W.grownBy (W.setCells qb (off+l.length) [.int .i64 x]) (some qb):=⟨rfl,rfl,rfl,by simp [World.setCells,World.setCell],fun k _ hk=>RowKit.Below.heap_setCell _ _ _ _ (fun e=>hk (congrArg some e))⟩
   refine ⟨_,_,qb,hrun,⟨off,cap,by rw [List.length_append];rfl,by rw [List.length_append];exact hr,Nat.lt_of_lt_of_le h3 hG.size,fun j hj => ?_,fun j hj => ?_⟩,hal.trans hG,.inl rfl⟩
   . rw [List.length_append] at hj
     by_cases e:j < l.length
     . rw [World.cell?_setCells_out qb _ _ W _ (fun _ _=>.inl (by show off+j < off+l.length;omega)),List.getElem_append_left e]
       exact h4 j e
     . obtain rfl:j=l.length:=by simp at hj;omega
       rw [Nat.add_zero] at hin
       simpa using hin
   . refine ⟨?_,by rw [World.frozen?_setCells];exact (h5 j hj).2⟩
     by_cases e:j=l.length
     . subst e;rw [Nat.add_zero] at hin;rw [hin];rfl
     . rw [World.cell?_setCells_out qb _ _ W _ (fun _ _=>by show off+j < off+l.length ∨ off+l.length+1<=off+j;omega)]
       exact (h5 j hj).1
 . have hold:∀ j u,(l.map fun y=>Value.int .i64 y)[j]? = some u->W.cell? ((⟨qb,off,none⟩:Addr).add j)=some u:=fun j u hj=>by
    rw [List.getElem?_map] at hj;obtain ⟨y,hy,rfl⟩:=Option.map_eq_some_iff.1 hj;obtain ⟨hjl,rfl⟩:=List.getElem?_eq_some_iff.1 hy;rw [Addr.add_lit];exact h4 j hjl
   obtain ⟨v',w',hrun,hown,hg⟩:=run_append_arg_grows (P:=Tryz.prog) W 41 41 3 i0 (.int .i64 0) 1 8 elemInt.slice hi0 hz0 hz1 hz2 rfl (by decide) ⟨qb,off,none⟩ l.length cap (l.map fun y=>.int .i64 y) (by simp)
    hold ⟨w.heap.size,0,none⟩ 1 1 [.int .i64 x] (by simp) hN (by omega) (by unfold maxLen;omega) (by omega)
   obtain ⟨_,⟨_,h9⟩ | ⟨g,cp,cur,rfl,h6,h7,h8,_,h10,h11⟩⟩:=hown
   . omega
   have hcell:∀ j,w'.cell? ⟨g,0+j,none⟩=cur[j]? := fun j=>by
    unfold World.cell?
    rw [show w'.heap[(⟨g,0+j,none⟩:Addr).block]? = _ from h7,Nat.zero_add]
    rfl
   refine ⟨_,w',g,hrun,⟨0,cp,by rw [List.length_append];rfl,by rw [List.length_append];exact h8,(Array.getElem?_eq_some_iff.1 h7).1,fun j hj => ?_,fun j hj => ?_⟩,?_,.inr (by omega)⟩
   . rw [hcell]
     have hj2:j < l.length+1:=by simpa using hj
     have h12:(l.map (fun y=>Value.int .i64 y) ++ [.int .i64 x])[j]? = some (.int .i64 (l ++ [x])[j]):=by
      have:l.map (fun y=>Value.int .i64 y) ++ [.int .i64 x]=(l ++ [x]).map fun y=>Value.int .i64 y:=by simp
      rw [this,List.getElem?_map,List.getElem?_eq_getElem hj];rfl
     rw [<- h11,List.getElem?_take_of_lt (by omega)] at h12
     simpa using h12
   . refine ⟨by rw [hcell,Array.getElem?_eq_getElem (by omega)];rfl,?_⟩
     unfold World.frozen?
     rw [show w'.heap[(⟨g,0+j,none⟩:Addr).block]? = _ from h7]
     simp
   . exact ⟨hg.os.trans hal.os,hg.tape.trans hal.tape,hg.output.trans hal.output,Nat.le_trans hal.size hg.size,fun k hk hne=>(hg.block k (Nat.lt_of_lt_of_le hk hal.size) (by simp)).trans (hal.block k hk hne)⟩
end
open Go Go.RowKit Go.Maps
theorem nodup_le : ∀ {a b:List Int},a.Nodup->(∀ x ∈ a,x ∈ b)->a.length<=b.length
 | [],_,_,_=>Nat.zero_le _
 | x :: r,b,h,hs=>by
  have h1:=List.nodup_cons.1 h;have hx:=hs x List.mem_cons_self
  have h2:=nodup_le (b:=b.erase x) h1.2 fun y hy=>(List.mem_erase_of_ne (show y ≠ x from fun e=>h1.1 (by rw [<- e];exact hy))).2 (hs y (List.mem_cons_of_mem _ hy))
  have h3:=List.length_erase_of_mem hx;have h4:=List.length_pos_of_mem hx
  simp only [List.length_cons]
  omega
section
variable {s : SS} {c:Nat} {d x:Int} {U:Int->Int}
theorem ents_mem (hf:Wf s c) {m:Nd} (hm:m ∈ s.L):entsOf s m.ino=m.ds:=by
 obtain ⟨i,hi⟩:=look_of hf hm;unfold entsOf;rw [hi]
theorem mem_ents {e:IEnt} (h:e ∈ entsOf s x):∃ m ∈ s.L,(m.ino:Int)=x/\m.ds=entsOf s x:=by
 unfold entsOf at h ⊢
 cases hx:look s x with
 | none=>rw [hx] at h;cases h
 | some y =>
  obtain ⟨i,n⟩:=y;obtain ⟨h1,h2⟩:=look_mem hx
  exact ⟨n,h1,h2,rfl⟩
theorem kid_ents (hf:Wf s c) {y:Int}:kid s x y ↔ ∃ e ∈ entsOf s x,e.2=y:=by
 constructor
 . rintro ⟨m,hm,rfl,e,he,rfl⟩
   exact ⟨e,by rw [ents_mem hf hm];exact he,rfl⟩
 . rintro ⟨e,he,rfl⟩;obtain ⟨m,hm,h1,h2⟩:=mem_ents he
   exact ⟨m,hm,h1,e,by rw [h2];exact he,rfl⟩
theorem luk_ent (hf:Wf s c) (ht:Tree s) (hn:Nam s) {k:Nat} (hk:k < (entsOf s x).length):lukN s U x (entsOf s x)[k].1=(entsOf s x)[k].2/\(entsOf s x)[k].1.size<=10000:=by
 have he:=List.getElem_mem hk;obtain ⟨m,hm,h1,h2⟩:=mem_ents he
 have hnm:=hn m hm _ (by rw [h2];exact he)
 have hs:Sorted (entsOf s x):=by rw [<- h2];exact ht.sorted m hm
 have hd:dirE s x=0:=by
  by_cases h0:dirE s x=0
  . exact h0
  . rw [ents_dead ht hf h0] at hk;simp at hk
 have hfi:find (entsOf s x)[k].1 (entsOf s x)=(entsOf s x)[k].2:=by
  have:=find_ent hs hk
  rwa [show (names (entsOf s x))[k]! = (entsOf s x)[k].1 by unfold names;simp [hk]] at this
 have hh:has (entsOf s x)[k].1 (entsOf s x)=true:=by
  unfold has
  exact List.any_eq_true.2 ⟨_,he,by simp [same]⟩
 generalize (entsOf s x)[k]=e at *
 have hsz:¬ 32 < e.1.size:=fun h7=>by
  unfold nameE at hnm
  by_cases h0:e.1.size=0
  . omega
  . rw [if_neg h0,if_pos h7] at hnm;cases hnm
 have hb:¬ (e.1.toList == [46] || e.1.toList == [46,46] || badB e.1)=true:=fun h7=>by
  unfold nameE at hnm
  by_cases h0:e.1.size=0
  . rw [if_pos h0] at hnm;cases hnm
  . rw [if_neg h0,if_neg hsz,if_pos h7] at hnm;cases hnm
 simp only [Bool.or_eq_true,not_or] at hb
 refine ⟨?_,by omega⟩
 unfold lukN
 rw [if_neg (show ¬ dotB e.1=true from hb.1.1),if_neg (show ¬ ddB e.1=true from hb.1.2),if_pos ?_,hfi]
 unfold entryE placeE;rw [if_pos hd,if_pos hnm,if_pos hh]
end
structure QI (s:SS) (d:Int) (V:List Int) (p:Nat):Prop where
 nd:V.Nodup
 all:∀ x ∈ V,Reach8 s d x
 d0:d ∈ V
 done:∀ i (hi:i < V.length),i < p->∀ y,kid s V[i] y->y ∈ V
 isn:∀ x ∈ V,∃ m ∈ s.L,(m.ino:Int)=x
section
variable {s : SS} {c:Nat} {d:Int} {V:List Int} {p k:Nat}
theorem QI.start {m:Nd} (hm:m ∈ s.L) (e:(m.ino:Int)=d):QI s d [d] 0 :=
 ⟨List.nodup_cons.2 ⟨by simp,List.nodup_nil⟩,fun x hx=>by rw [List.mem_singleton.1 hx];exact reach_self s d,List.mem_singleton.2 rfl,fun i _ h=>absurd h (by omega),fun x hx=>by rw [List.mem_singleton.1 hx];exact ⟨m,hm,e⟩⟩
theorem QI.len (h:QI s d V p):V.length<=s.L.length:=by
 have:=nodup_le (b:=s.L.map fun m=>(m.ino:Int)) h.nd fun x hx=>by
  obtain ⟨m,hm,e⟩:=h.isn x hx
  exact List.mem_map.2 ⟨m,hm,e⟩
 simpa using this
theorem QI.end (h:QI s d V p) (hp:V.length<=p) (x:Int):Reach8 s d x ↔ x ∈ V:=by
 refine ⟨fun hx=>hx.ind (Q:=fun x=>x ∈ V) h.d0 fun a b ha hk => ?_,h.all x⟩
 obtain ⟨i,hi,rfl⟩:=List.getElem_of_mem ha
 exact h.done i hi (by omega) b hk
theorem QI.more (h:QI s d V p) (hf:Wf s c) (ht:Tree s) (hp:p < V.length) {e:IEnt} (he:e ∈ entsOf s V[p]) (hn:¬ e.2 ∈ V):QI s d (V ++ [e.2]) p:=by
 have hk:kid s V[p] e.2:=(kid_ents hf).2 ⟨e,he,rfl⟩
 refine ⟨?_,fun x hx => ?_,List.mem_append_left _ h.d0,fun i hi hip y hy => ?_,fun x hx => ?_⟩
 . rw [List.nodup_append]
   exact ⟨h.nd,List.nodup_cons.2 ⟨by simp,List.nodup_nil⟩,fun a ha b hb=>by rw [List.mem_singleton.1 hb];exact fun e7=>hn (e7 ▸ ha)⟩
 . rcases List.mem_append.1 hx with hx | hx
   . exact h.all x hx
   . rw [List.mem_singleton.1 hx];exact (h.all _ (List.getElem_mem hp)).step hk
 . rw [List.getElem_append_left (by omega)] at hy
   exact List.mem_append_left _ (h.done i (by omega) hip y hy)
 . rcases List.mem_append.1 hx with hx | hx
   . exact h.isn x hx
   . rw [List.mem_singleton.1 hx];obtain ⟨m,hm,_,h2⟩:=mem_ents he
     obtain ⟨m',hm',e',_⟩:=ht.there m hm e (by rw [h2];exact he)
     exact ⟨m',hm',e'.symm⟩
theorem QI.next (h:QI s d V p) (hf:Wf s c) (hp:p < V.length) (ha:∀ e ∈ entsOf s V[p],e.2 ∈ V):QI s d V (p+1):=by
 refine ⟨h.nd,h.all,h.d0,fun i hi hip y hy => ?_,h.isn⟩
 by_cases e:i=p
 . subst e;obtain ⟨e,he,rfl⟩:=(kid_ents hf).1 hy
   exact ha e he
 . exact h.done i hi (by omega) y hy
end
end Go.Proofs.YthlaoaaafafafaaGreat
