/- Ours. -/
import Derived.Test.YthlaoaaafafafaaGreatC1
import Derived.Laws.Externs
set_option maxRecDepth 100000
set_option maxHeartbeats 16000000
namespace Go.Proofs.YthlaoaaafafafaaGreat
open Go Go.RowKit
theorem elemD : ElemS Tryz.prog 171 170 (.agg #[.string ⟨#[]⟩,.int .i64 0]) 2 24:=⟨by kernel_rfl,by kernel_rfl,rfl,by decide,by decide⟩
theorem overlaps_run (w:World) (vb g m c:Nat) (x:Nat) (vs cs:List Value) (hv:Blk w vb 170 vs) (hg:Blk w g 170 cs) (hne:vb ≠ g) (hcs:cs.length ≠ 0) :
 (callFunc 154 #[.slice (some ⟨vb,0,none⟩) 1 1,.slice (some ⟨g,x,none⟩) m c]).run Tryz.prog w=.ok (.value (.bool false)) w:=by
 rw [run_callFunc_extern Tryz.func154 (by kernel_rfl) (by kernel_rfl) (by kernel_rfl) (e:=Extern.SlicesOverlaps.overlaps #[171,171] #[4]) (by kernel_rfl),
  Lib.run_overlaps_apart w 171 4 170 elemD.slice 2 (size_of_elem elemD) ⟨vb,0,none⟩ ⟨g,x,none⟩ 1 1 m c hne 170 170 vs.length cs.length
   (by simp [World.shape?,hv.row]) (by simp [World.shape?,hg.row]) hcs (hv.free _) (hv.free _)]
 rfl
theorem list_shift {α:Type} (X B E:List α) (a e:Nat) (he:E.length=e) (hX:a+e+B.length<=X.length) :
 (X.take (a+e) ++ B ++ X.drop (a+e+B.length)).take a ++ E ++ (X.take (a+e) ++ B ++ X.drop (a+e+B.length)).drop (a+E.length)=X.take a ++ E ++ B ++ X.drop (a+e+B.length):=by
 have h1:(X.take (a+e)).length=a+e:=by rw [List.length_take];omega
 rw [he,List.append_assoc (X.take (a+e)),List.take_append_of_le_length (by omega),List.take_take,Nat.min_eq_left (by omega)]
 have h2:(X.take (a+e) ++ (B ++ X.drop (a+e+B.length))).drop (a+e)=B ++ X.drop (a+e+B.length):=by
  have:=@List.drop_left _ (X.take (a+e)) (B ++ X.drop (a+e+B.length));rwa [h1] at this
 rw [h2]
 simp only [List.append_assoc]
theorem insert_shift (g cap n i0 vb:Nat) (cs:List Value) (x:Ent) (w:World) (hi:i0 < n) (hroom:n+1<=cap) (hn:n<=1000) (hcap:cap<=maxLen) (hB:Blk w g 170 cs) (hcl:cs.length=cap * 2) (h1:∀ u ∈ cs.take (n * 2),u.oneCell'=true) (hv:Blk w vb 170 (entC x)) (hne:vb ≠ g) :
 Calls Tryz.prog 119 #[.slice (some ⟨g,0,none⟩) n cap,.int .i64 i0,.slice (some ⟨vb,0,none⟩) 1 1] w fun e w' =>
  e=.returned (.slice (some ⟨g,0,none⟩) (n+1) cap)/\But g w w'/\Blk w' g 170 (cs.take (i0 * 2) ++ entC x ++ (cs.drop (i0 * 2)).take ((n - i0) * 2) ++ cs.drop ((n+1) * 2)):=by
 have hov:∀ x m c,(callFunc 154 #[.slice (some ⟨vb,0,none⟩) 1 1,.slice (some ⟨g,x,none⟩) m c]).run Tryz.prog w=.ok (.value (.bool false)) w:=fun x m c=>overlaps_run w vb g m c x _ _ hv hB hne (by omega)
 unfold maxLen at hcap
 have hz2:¬ ((i0:Int)=(n:Int)):=by omega
 have hz3:¬ (cap:Int) < (n:Int)+1:=by omega
 have hb1:¬ cap=i0+1:=by omega
 have hb2:¬ cap=i0:=by omega
 have hw1:(i0:Int)<=(n:Int):=by omega
 have hw2:(i0:Int)<=(n:Int)+1:=by omega
 obtain ⟨l,hl⟩:∃ l,(cs.drop (i0 * 2)).take ((n - i0) * 2)=l:=⟨_,rfl⟩
 have hll:l.length=(n - i0) * 2:=by rw [<- hl,List.length_take,List.length_drop];omega
 have hlc:∀ (j:Nat) v,l[j]? = some v->cs[i0 * 2+j]? = some v:=fun j v hj=>by
  have hjl:=(List.getElem?_eq_some_iff.1 hj).1
  rw [<- hl,List.getElem?_take_of_lt (by omega),List.getElem?_drop] at hj
  exact hj
 have hl1:∀ u ∈ l,u.oneCell'=true:=fun u hu=>h1 u (by
  obtain ⟨j,hj,rfl⟩:=List.mem_iff_getElem.1 hu
  exact List.mem_iff_getElem?.2 ⟨i0 * 2+j,by rw [List.getElem?_take_of_lt (by omega)];exact hlc j _ (List.getElem?_eq_getElem hj)⟩)
 have hfin:(cs.take ((i0+1) * 2) ++ l ++ cs.drop ((i0+1) * 2+l.length)).take (i0 * 2) ++ entC x ++ (cs.take ((i0+1) * 2) ++ l ++ cs.drop ((i0+1) * 2+l.length)).drop (i0 * 2+(entC x).length)=cs.take (i0 * 2) ++ entC x ++ l ++ cs.drop ((n+1) * 2):=by
  have:=list_shift cs l (entC x) (i0 * 2) 2 rfl (by omega)
  rw [show i0 * 2+2=(i0+1) * 2 by omega] at this
  rw [this,show (i0+1) * 2+l.length=(n+1) * 2 by omega]
 rw [hl];have HF:Hid _:=hfin;have HL:Hid (l.length=(n - i0) * 2/\(∀ (j:Nat) v,l[j]? = some v->cs[i0 * 2+j]? = some v)/\(∀ u ∈ l,u.oneCell'=true)):=⟨hll,hlc,hl1⟩
 have HS1:Hid (∀ w,(Instr.slice 171 (.slice (some ⟨g,0,none⟩) (n+1) cap) (some (.int .i64 ((i0+1:Nat):Int))) none none).run Tryz.prog w=.ok (.slice (some ⟨g,0+(i0+1) * 2,none⟩) (n+1 - (i0+1)) (cap - (i0+1))) w):=fun w=>slice_fromS elemD g 0 (n+1) cap (i0+1) (by omega) (by omega) w
 have HS2:Hid (∀ w,(Instr.slice 171 (.slice (some ⟨g,0,none⟩) (n+1) cap) (some (.int .i64 (i0:Int))) none none).run Tryz.prog w=.ok (.slice (some ⟨g,0+i0 * 2,none⟩) (n+1 - i0) (cap - i0)) w):=fun w=>slice_fromS elemD g 0 (n+1) cap i0 (by omega) (by omega) w
 have HBv:Hid (Blk w vb 170 (entC x)):=hv;have HBg:Hid (Blk w g 170 cs):=hB;clear hl h1 hv hB hfin hll hlc hl1;go_enter Tryz.func119,Tryz.ntmps119
 go_wp2_with (simp only [hov])
 refine wp_region_two (S:=fun f W=>(f=true->Blk W g 170 cs)/\(f=false->Blk W g 170 (cs.take ((i0+1) * 2) ++ l ++ cs.drop ((i0+1) * 2+l.length)))/\But g w W) (u:=8) (Keep:=KeepK [(8,g)])
  (g:=fun i v W=>([Kd.is (.slice (some ⟨g,0,none⟩) (n+1) cap),.is (.int .i64 (i0:Int)),.is (.int .i64 1),.is (.int .i64 ((i0+1:Nat):Int)),.is (.slice (some ⟨g,0+(i0+1) * 2,none⟩) (n+1 - (i0+1)) (cap - (i0+1))),.is (.slice (some ⟨g,0,none⟩) (n+1) cap),.is (.int .i64 (i0:Int)),.is (.slice (some ⟨g,0+i0 * 2,none⟩) (n+1 - i0) (cap - i0)),.any].getD i (Kd.any (hi:=g+1))).ok v W)
  (tab:=[[(0,none)],[(1,none)],[(7,none)],[(70,some 1),(71,some 2)],[(69,some 0),(72,some 3)],[(0,none)],[(1,none)],[(74,some 5),(75,some 6)],[(73,some 4),(76,some 7)]]) (tl:=[]) (n:=95)
  (by kernel_rfl) rfl (by kernel_rfl) (keep_one (by omega) ?k) ⟨fun _=>HBg.out.drew,(fun e=>by cases e),⟨rfl,rfl,rfl,rfl,fun _ _=>rfl⟩⟩ ?st ?en
 case k =>
  intro j hj
  match j,hj with
  | 0,_ | 1,_ | 2,_ | 3,_ | 4,_ | 5,_ | 6,_ | 7,_ | 8,_=>rfl
  | j+9,_=>rfl
 case st =>
  refine ⟨?_,?_,?_,?_,?_,?_,?_,?_,?_,trivial⟩ <;> intro ρ W f hf hr hS hs
  . exact step_plain rfl (leaves_move (.tmp 0) rfl ⟨hs.1,by simpa using hS,Below.refl _ _⟩)
  . exact step_plain rfl (leaves_move (.tmp 1) rfl ⟨hs.1,by simpa using hS,Below.refl _ _⟩)
  . exact step_plain rfl (leaves_move (.tmp 7) rfl ⟨hs.1,by simpa using hS,Below.refl _ _⟩)
  . have ha:ρ (.tmp 70)=.int .i64 (i0:Int):=hs.1;have hb:ρ (.tmp 71)=.int .i64 1:=hs.2.1
    refine step_plain rfl (leaves_value (w':=W) ?_ ⟨rfl,by simpa using hS,Below.refl _ _⟩)
    simp [go_sem,ha,hb]
    rw [IntKind.wrap_i64]
    omega
  . have ha:ρ (.tmp 69)=.slice (some ⟨g,0,none⟩) (n+1) cap:=hs.1;have hb:ρ (.tmp 72)=.int .i64 ((i0+1:Nat):Int):=hs.2.1
    refine step_plain rfl (leaves_slice (.tmp 69) (.tmp 72) 171 rfl ?_ ⟨rfl,by simpa using hS,Below.refl _ _⟩)
    rw [ha,hb,run_sliceAt_slice W 171 _ _ _ _ (by kernel_rfl)]
    exact HS1.out W
  . exact step_plain rfl (leaves_move (.tmp 0) rfl ⟨hs.1,by simpa using hS,Below.refl _ _⟩)
  . exact step_plain rfl (leaves_move (.tmp 1) rfl ⟨hs.1,by simpa using hS,Below.refl _ _⟩)
  . have ha:ρ (.tmp 74)=.slice (some ⟨g,0,none⟩) (n+1) cap:=hs.1;have hb:ρ (.tmp 75)=.int .i64 (i0:Int):=hs.2.1
    refine step_plain rfl (leaves_slice (.tmp 74) (.tmp 75) 171 rfl ?_ ⟨rfl,by simpa using hS,Below.refl _ _⟩)
    rw [ha,hb,run_sliceAt_slice W 171 _ _ _ _ (by kernel_rfl)]
    exact HS2.out W
  . obtain rfl:f=true:=hf (by kernel_rfl)
    have ha:ρ (.tmp 73)=.slice (some ⟨g,0+(i0+1) * 2,none⟩) (n+1 - (i0+1)) (cap - (i0+1)):=hs.1;have hb:ρ (.tmp 76)=.slice (some ⟨g,0+i0 * 2,none⟩) (n+1 - i0) (cap - i0):=hs.2.1;obtain ⟨hS1,_,hS3⟩:=hS
    obtain ⟨w5,hcp,hbut,hB5⟩:=copy_intoS elemD (hS1 rfl) (0+(i0+1) * 2) (n+1 - (i0+1)) (cap - (i0+1)) (n+1 - i0) (cap - i0) ⟨g,0+i0 * 2,none⟩ l (n - i0) (by simp only [Nat.min_def];split <;> omega) HL.out.1 (by rw [HL.out.1];omega) (fun j v hj=>by
     have e:(⟨g,0+i0 * 2,none⟩:Addr).add j=⟨g,i0 * 2+j,none⟩:=by unfold Addr.add;split <;> simp_all
     rw [e]
     exact (hS1 rfl).cell _ (HL.out.2.1 j v hj)) HL.out.2.2
    rw [Nat.zero_add] at hB5
    refine step_plain rfl (leaves_copy (.tmp 73) (.tmp 76) 171 171 rfl (by rw [ha,hb];exact hcp _) ⟨trivial,⟨(fun e=>by cases e),(fun _=>hB5),hS3.trans hbut⟩,hbut⟩)
 case en =>
  intro f W hf hS v0 h0 v1 h1 v2 h2 v3 h3 v4 h4 v5 h5 v6 h6 v7 h7 v8 h8
  obtain rfl:f=false:=hf (by decide)
  clear hf h0 h1 h2 h3 h4 h5 h6 h7 h8
  simp only [ends,Act.put,List.setIfInBounds_toArray,List.set_cons_succ,List.set_cons_zero]
  obtain ⟨_,hS2,hS3⟩:=hS;have hB5:=hS2 rfl;have hBv:=HBv.out.but hS3 hne;clear hS2
  obtain ⟨w6,hcp,hbut,hB6⟩:=copy_intoS elemD hB5 (i0 * 2) (n+1 - i0) (cap - i0) 1 1 ⟨vb,0,none⟩ (entC x) 1 (by simp only [Nat.min_def];split <;> omega) rfl (by have:=HL.out.1;simp only [List.length_append,List.length_take,List.length_drop,entC,List.length_cons,List.length_nil];omega) (fun j v hj=>by
   have e:(⟨vb,0,none⟩:Addr).add j=⟨vb,j,none⟩:=by unfold Addr.add;split <;> simp_all
   rw [e]
   exact hBv.cell j hj) (flat_cell [x])
  rw [HF.out] at hB6
  go_wp2_with (at_builtin;refine wpList_run_copy rfl _ _ 171 171 rfl _ _ rfl rfl (hcp _) ?_)
  go_ret
  exact ⟨rfl,hS3.trans hbut,hB6⟩
theorem grow_zerosS {P:Program} {T tn e:TypeId} {z:Value} {size bytes:Nat} (E:ElemS P T e z size bytes) (htn:P.underlying tn=some (.int .i64)) (w:World) (g c i k:Nat) (cs:List Value) (hB:Blk w g e cs) (hl:i * size<=cs.length) (hk:0 < k) (hg:c < i+k) (hfew:i+k<=1000000) :
 ∃ w' G Z,(∀ ty,(Builtin.append_ #[T,tn] ty #[.slice (some ⟨g,0,none⟩) i c,.int .i64 (k:Int)]).run P w=.ok (.slice (some ⟨w.heap.size,0,none⟩) (i+k) G) w')/\Blk w' w.heap.size e (cs.take (i * size) ++ Z)/\(cs.take (i * size) ++ Z).length=G * size/\i+k<=G/\G<=maxLen/\Below w.heap.size w w':=by
 obtain ⟨i0,hi0,hz0,hz1,hz2⟩:=info_parts E.info;have hf:=E.few;have hp:=E.pos
 have hold:(Builtin.firstCells i0.size i (.slice (some ⟨g,0,none⟩) i c)).run P w.drew=.ok (cs.take (i * size)).toArray w.drew:=by
  rw [hz1]
  exact run_firstCells_some w.drew size i ⟨g,0,none⟩ i c (cs.take (i * size)) (by rw [List.length_take];omega) (fun j v hj=>by
   have e:(⟨g,0,none⟩:Addr).add j=⟨g,j,none⟩:=by unfold Addr.add;split <;> simp_all
   rw [e];rw [List.getElem?_take] at hj
   split at hj
   . exact hB.drew.cell j hj
   . cases hj)
 have hb1:(i+k) * bytes<=140737488355328:=by
  have:(i+k) * bytes<=1000000 * 100000:=Nat.mul_le_mul hfew hf
  omega
 have hb2:k * bytes<=281474976710656:=by
  have:k * bytes<=(i+k) * bytes:=Nat.mul_le_mul_right _ (by omega)
  omega
 have key:=fun ty=>Lib.run_append_grow_zeros w T tn ty e i0 z .i64 .i64 E.slice htn hi0 hz0 (some ⟨g,0,none⟩) i c (cs.take (i * size)) hold k hk (by omega) hg (by omega) (by rw [hz2];exact hb2) (by rw [hz2];exact growslice_fits hg hb1)
 have hge:=grownCap_ge w (i+k) c e
 refine ⟨_,grownCap w (i+k) c e,(Builtin.zeroCells z.cells k ++ Builtin.zeroCells z.cells (grownCap w (i+k) c e - (i+k))).toList,key,⟨?_⟩,?_,hge,grownCap_le_maxLen _ _ _ _ (by unfold maxLen;omega),on_trans (on_drew (Below.refl _ _)) (on_alloc _ _)⟩
 . have h:=World.alloc_heap_new w.drew (.cells ((cs.take (i * size)).toArray ++ Builtin.zeroCells z.cells k ++ Builtin.zeroCells z.cells (grownCap w (i+k) c e - (i+k))) e)
   rw [show w.drew.heap.size=w.heap.size from rfl] at h
   rw [h]
   simp
 . have hz:(Builtin.zeroCells z.cells k ++ Builtin.zeroCells z.cells (grownCap w (i+k) c e - (i+k))).toList.length=k * size+(grownCap w (i+k) c e - (i+k)) * size:=by
    rw [Array.length_toList,Array.size_append,size_zeroCells,size_zeroCells,E.cells]
   rw [List.length_append,List.length_take,Nat.min_eq_left hl,hz,<- Nat.add_mul,<- Nat.add_mul]
   congr 1
   omega
theorem list_grow {α:Type} (A Z E l:List α) (a e:Nat) (ha:A.length=a) (he:E.length=e) (hZ:e+l.length<=Z.length) :
 ((((A ++ Z).take a ++ E ++ (A ++ Z).drop (a+E.length)).take (a+e) ++ l ++ ((A ++ Z).take a ++ E ++ (A ++ Z).drop (a+E.length)).drop (a+e+l.length)).take (a+e+l.length))=A ++ E ++ l ∧
 (((A ++ Z).take a ++ E ++ (A ++ Z).drop (a+E.length)).take (a+e) ++ l ++ ((A ++ Z).take a ++ E ++ (A ++ Z).drop (a+E.length)).drop (a+e+l.length)).length=(A ++ Z).length:=by
 subst ha he;have h1:(A ++ Z).take A.length=A:=List.take_left
 have h2:(A ++ E ++ (A ++ Z).drop (A.length+E.length)).take (A.length+E.length)=A ++ E:=by
  rw [show A.length+E.length=(A ++ E).length by simp];exact List.take_left
 rw [h1,h2]
 constructor
 . rw [show A.length+E.length+l.length=(A ++ E ++ l).length by simp only [List.length_append]];exact List.take_left
 . simp only [List.length_append,List.length_drop]
   omega
def GrowPost (w:World) (n i0:Nat) (cs:List Value) (x:Ent) (e:Ending) (w':World):Prop :=
 ∃ G R,e=.returned (.slice (some ⟨w.heap.size,0,none⟩) (n+1) G)/\Below w.heap.size w w'/\Blk w' w.heap.size 170 R/\R.length=G * 2/\n+1<=G/\G<=maxLen/\R.take ((n+1) * 2)=cs.take (i0 * 2) ++ entC x ++ cs.drop (i0 * 2)
theorem insert_grow (g n i0 vb:Nat) (cs:List Value) (x:Ent) (w:World) (hi:i0 < n) (hn:n<=1000) (hB:Blk w g 170 cs) (hcl:cs.length=n * 2) (h1:∀ u ∈ cs,u.oneCell'=true) (hv:Blk w vb 170 (entC x)) :
 Calls Tryz.prog 119 #[.slice (some ⟨g,0,none⟩) n n,.int .i64 i0,.slice (some ⟨vb,0,none⟩) 1 1] w (GrowPost w n i0 cs x):=by
 obtain ⟨w1,G,Z,hrun,hB1,hlen,hG,hG2,hb1⟩:=grow_zerosS (tn:=3) elemD Tryz.underlying3 w g n i0 (n+1 - i0) cs hB (by omega) (by omega) (by omega) (by omega)
 rw [show i0+(n+1 - i0)=n+1 by omega] at hrun hG
 have hrz:∀ ty,(Builtin.append_ #[171,3] ty #[.slice (some ⟨g,0,none⟩) i0 n,.int .i64 ((n:Int)+1 - (i0:Int))]).run Tryz.prog w=.ok (.slice (some ⟨w.heap.size,0,none⟩) (n+1) G) w1:=fun ty=>by
  rw [show (n:Int)+1 - (i0:Int)=((n+1 - i0:Nat):Int) by omega];exact hrun ty
 have hA:(cs.take (i0 * 2)).length=i0 * 2:=by rw [List.length_take];omega
 have hl:(cs.drop (i0 * 2)).length=(n - i0) * 2:=by rw [List.length_drop];omega
 have hZ:2+(cs.drop (i0 * 2)).length<=Z.length:=by
  rw [List.length_append,hA] at hlen;have:(n+1) * 2<=G * 2:=Nat.mul_le_mul_right _ hG
  omega
 have hfin:=list_grow (cs.take (i0 * 2)) Z (entC x) (cs.drop (i0 * 2)) (i0 * 2) 2 hA rfl hZ;have hBv1:=hv.on hb1;have hBg1:=hB.on hb1;have hglt:=hB.lt;have hvlt:=hv.lt
 obtain ⟨w2,hcp,hbut,hB2⟩:=copy_intoS elemD hB1 (i0 * 2) (n+1 - i0) (G - i0) 1 1 ⟨vb,0,none⟩ (entC x) 1 (by simp only [Nat.min_def];split <;> omega) rfl (by rw [hlen];show i0 * 2+2<=G * 2;omega) (fun j v hj=>by
  have e:(⟨vb,0,none⟩:Addr).add j=⟨vb,j,none⟩:=by unfold Addr.add;split <;> simp_all
  rw [e]
  exact hBv1.cell j hj) (flat_cell [x])
 obtain ⟨R1,hR1⟩:∃ R1,(cs.take (i0 * 2) ++ Z).take (i0 * 2) ++ entC x ++ (cs.take (i0 * 2) ++ Z).drop (i0 * 2+(entC x).length)=R1:=⟨_,rfl⟩;rw [hR1] at hB2 hfin
 have hR1l:R1.length=G * 2:=by
  rw [<- hR1,<- hlen]
  simp only [List.length_append,List.length_take,List.length_drop,entC,List.length_cons,List.length_nil]
  omega
 obtain ⟨l,hll⟩:∃ l,cs.drop (i0 * 2)=l:=⟨_,rfl⟩
 have hlc:∀ (j:Nat) v,l[j]? = some v->cs[i0 * 2+j]? = some v:=fun j v hj=>by
  rw [<- hll,List.getElem?_drop] at hj
  exact hj
 have hl1:∀ u ∈ l,u.oneCell'=true:=fun u hu=>h1 u (by rw [<- hll] at hu;exact List.mem_of_mem_drop hu)
 rw [hll] at hl hfin
 have hBg2:=hBg1.but hbut (by omega)
 have HL:Hid (l.length=(n - i0) * 2/\(∀ (j:Nat) v,l[j]? = some v->cs[i0 * 2+j]? = some v)/\(∀ u ∈ l,u.oneCell'=true)):=⟨hl,hlc,hl1⟩
 have HS1:Hid (∀ w',(Instr.slice 171 (.slice (some ⟨w.heap.size,0,none⟩) (n+1) G) (some (.int .i64 ((i0+1:Nat):Int))) none none).run Tryz.prog w'=.ok (.slice (some ⟨w.heap.size,0+(i0+1) * 2,none⟩) (n+1 - (i0+1)) (G - (i0+1))) w'):=fun w'=>slice_fromS elemD w.heap.size 0 (n+1) G (i0+1) (by omega) (by omega) w'
 have HS2:Hid (∀ w',(Instr.slice 171 (.slice (some ⟨g,0,none⟩) n n) (some (.int .i64 (i0:Int))) none none).run Tryz.prog w'=.ok (.slice (some ⟨g,0+i0 * 2,none⟩) (n - i0) (n - i0)) w'):=fun w'=>slice_fromS elemD g 0 n n i0 (by omega) (by omega) w'
 have HP:Hid (∀ (e:Ending) w',e=.returned (.slice (some ⟨w.heap.size,0,none⟩) (n+1) G)->Below w.heap.size w w'->Blk w' w.heap.size 170 (R1.take (i0 * 2+2) ++ l ++ R1.drop (i0 * 2+2+l.length))->GrowPost w n i0 cs x e w'):=fun e w' he hb hk =>
  ⟨G,_,he,hb,hk,hfin.2.trans hlen,hG,hG2,by rw [hll,<- hfin.1,show (n+1) * 2=i0 * 2+2+l.length by omega]⟩
 have HB:Hid (Blk w2 w.heap.size 170 R1/\Blk w2 g 170 cs/\Below w.heap.size w w2):=⟨hB2,hBg2,below_but hb1 hbut (Nat.le_refl _)⟩
 have hG63:G<=9223372036854775807:=by unfold maxLen at hG2;omega
 have hz2:¬ ((i0:Int)=(n:Int)):=by omega
 have hz3:(n:Int) < (n:Int)+1:=by omega
 have hb2:¬ G=i0:=by omega
 have hb3:¬ n=i0:=by omega
 have hb4:¬ n=0:=by omega
 have hw1:(i0:Int)<=(n:Int):=by omega
 have hw2:(i0:Int)<=(n:Int)+1:=by omega
 have HR1l:Hid (R1.length=G * 2):=hR1l;clear hB hv hB1 hlen hrun hfin hBv1 hBg1 hbut hB2 hR1 hll hlc hl1 hl hBg2 hA hZ hb1 h1 hG2 hR1l;generalize hPost:GrowPost w n i0 cs x=Post at *;clear hPost;go_enter Tryz.func119,Tryz.ntmps119
 go_wp2_with (first
  | (at_builtin;refine Lib.wpList_append_run _ rfl _ _ _ _ rfl _ _ rfl rfl _ _ (hrz _) ?_)
  | (at_builtin;refine wpList_run_copy rfl _ _ 171 171 rfl _ _ rfl rfl (hcp _) ?_))
 refine wp_region_two (S:=fun f W=>(f=true->Blk W w.heap.size 170 R1)/\(f=false->Blk W w.heap.size 170 (R1.take (i0 * 2+2) ++ l ++ R1.drop (i0 * 2+2+l.length)))/\Blk W g 170 cs/\Below w.heap.size w W) (u:=8) (Keep:=KeepK [(8,w.heap.size)])
  (g:=fun i v W=>([Kd.is (.slice (some ⟨w.heap.size,0,none⟩) (n+1) G),.is (.int .i64 (i0:Int)),.is (.int .i64 1),.is (.int .i64 ((i0+1:Nat):Int)),.is (.slice (some ⟨w.heap.size,0+(i0+1) * 2,none⟩) (n+1 - (i0+1)) (G - (i0+1))),.is (.slice (some ⟨g,0,none⟩) n n),.is (.int .i64 (i0:Int)),.is (.slice (some ⟨g,0+i0 * 2,none⟩) (n - i0) (n - i0)),.any].getD i (Kd.any (hi:=w.heap.size+1))).ok v W)
  (tab:=[[(9,none)],[(1,none)],[(7,none)],[(47,some 1),(48,some 2)],[(46,some 0),(49,some 3)],[(0,none)],[(1,none)],[(51,some 5),(52,some 6)],[(50,some 4),(53,some 7)]]) (tl:=[]) (n:=95)
  (by kernel_rfl) rfl (by kernel_rfl) (keep_one (by omega) ?k) ⟨fun _=>HB.out.1.drew,(fun e=>by cases e),HB.out.2.1.drew,on_drew HB.out.2.2⟩ ?st ?en
 case k =>
  intro j hj
  match j,hj with
  | 0,_ | 1,_ | 2,_ | 3,_ | 4,_ | 5,_ | 6,_ | 7,_ | 8,_=>rfl
  | j+9,_=>rfl
 case st =>
  refine ⟨?_,?_,?_,?_,?_,?_,?_,?_,?_,trivial⟩ <;> intro ρ W f hf hr hS hs
  . exact step_plain rfl (leaves_move (.tmp 9) rfl ⟨hs.1,by simpa using hS,Below.refl _ _⟩)
  . exact step_plain rfl (leaves_move (.tmp 1) rfl ⟨hs.1,by simpa using hS,Below.refl _ _⟩)
  . exact step_plain rfl (leaves_move (.tmp 7) rfl ⟨hs.1,by simpa using hS,Below.refl _ _⟩)
  . have ha:ρ (.tmp 47)=.int .i64 (i0:Int):=hs.1;have hb:ρ (.tmp 48)=.int .i64 1:=hs.2.1
    refine step_plain rfl (leaves_value (w':=W) ?_ ⟨rfl,by simpa using hS,Below.refl _ _⟩)
    simp [go_sem,ha,hb]
    rw [IntKind.wrap_i64]
    omega
  . have ha:ρ (.tmp 46)=.slice (some ⟨w.heap.size,0,none⟩) (n+1) G:=hs.1;have hb:ρ (.tmp 49)=.int .i64 ((i0+1:Nat):Int):=hs.2.1
    refine step_plain rfl (leaves_slice (.tmp 46) (.tmp 49) 171 rfl ?_ ⟨rfl,by simpa using hS,Below.refl _ _⟩)
    rw [ha,hb,run_sliceAt_slice W 171 _ _ _ _ (by kernel_rfl)]
    exact HS1.out W
  . exact step_plain rfl (leaves_move (.tmp 0) rfl ⟨hs.1,by simpa using hS,Below.refl _ _⟩)
  . exact step_plain rfl (leaves_move (.tmp 1) rfl ⟨hs.1,by simpa using hS,Below.refl _ _⟩)
  . have ha:ρ (.tmp 51)=.slice (some ⟨g,0,none⟩) n n:=hs.1;have hb:ρ (.tmp 52)=.int .i64 (i0:Int):=hs.2.1
    refine step_plain rfl (leaves_slice (.tmp 51) (.tmp 52) 171 rfl ?_ ⟨rfl,by simpa using hS,Below.refl _ _⟩)
    rw [ha,hb,run_sliceAt_slice W 171 _ _ _ _ (by kernel_rfl)]
    exact HS2.out W
  . obtain rfl:f=true:=hf (by kernel_rfl)
    have ha:ρ (.tmp 50)=.slice (some ⟨w.heap.size,0+(i0+1) * 2,none⟩) (n+1 - (i0+1)) (G - (i0+1)):=hs.1;have hb:ρ (.tmp 53)=.slice (some ⟨g,0+i0 * 2,none⟩) (n - i0) (n - i0):=hs.2.1;obtain ⟨hS1,_,hS3,hS4⟩:=hS
    obtain ⟨w5,hcp,hbut,hB5⟩:=copy_intoS elemD (hS1 rfl) (0+(i0+1) * 2) (n+1 - (i0+1)) (G - (i0+1)) (n - i0) (n - i0) ⟨g,0+i0 * 2,none⟩ l (n - i0) (by simp only [Nat.min_def];split <;> omega) HL.out.1 (by rw [HL.out.1,HR1l.out];omega) (fun j v hj=>by
     have e:(⟨g,0+i0 * 2,none⟩:Addr).add j=⟨g,i0 * 2+j,none⟩:=by unfold Addr.add;split <;> simp_all
     rw [e]
     exact hS3.cell _ (HL.out.2.1 j v hj)) HL.out.2.2
    rw [Nat.zero_add,show (i0+1) * 2=i0 * 2+2 by omega] at hB5
    refine step_plain rfl (leaves_copy (.tmp 50) (.tmp 53) 171 171 rfl (by rw [ha,hb];exact hcp _) ⟨trivial,⟨(fun e=>by cases e),(fun _=>hB5),hS3.but hbut (by omega),below_but hS4 hbut (Nat.le_refl _)⟩,hbut⟩)
 case en =>
  intro f W hf hS v0 h0 v1 h1 v2 h2 v3 h3 v4 h4 v5 h5 v6 h6 v7 h7 v8 h8
  obtain rfl:f=false:=hf (by decide)
  clear hf h0 h1 h2 h3 h4 h5 h6 h7 h8
  simp only [ends,Act.put,List.setIfInBounds_toArray,List.set_cons_succ,List.set_cons_zero]
  obtain ⟨_,hS2,_,hS4⟩:=hS;have hB5:=hS2 rfl;clear hS2;go_wp2
  exact HP.out _ _ rfl hS4 hB5
def InsPost (hi:Nat) (v:Value) (w:World) (S:List Ent) (e:Ending) (w':World):Prop:=∃ v',e=.returned v'/\Row hi 170 w' v' S/\RowGrow hi 170 w w'/\Grows v v' w w'
theorem insert_end (hi vb:Nat) (v:Value) (S:List Ent) (x:Ent) (w:World) (hn:S.length<=1000) (h:Row hi 170 w v S) (hv:Blk w vb 170 (entC x)) (hhi:hi<=w.heap.size) :
 Calls Tryz.prog 119 #[v,.int .i64 S.length,.slice (some ⟨vb,0,none⟩) 1 1] w (InsPost hi v w (S ++ [x])):=by
 obtain ⟨v',w',hrun,hrow,hgr,hgo⟩:=append_rowA elemD hi v S.length (flat S) (some ⟨vb,0,none⟩) 1 1 (entC x) w (by omega) (by decide) rfl (flat_cell [x]) h (.inr ⟨vb,0,rfl,Nat.zero_le _,hv.lt,fun j u hj=>by rw [Nat.zero_add];exact hv.cell j hj⟩) hhi
 have HP:Hid (∀ e,e=.returned v'->InsPost hi v w (S ++ [x]) e w'):=fun e he=>⟨v',he,by
  show w'.ownsRow hi _ 2 v' (S ++ [x]).length (flat (S ++ [x]))
  rw [List.length_append,flat_append]
  exact hrow,hgr,hgo⟩
 obtain ⟨p,cap,hpc,hat,hcap⟩:=rowS_at h
 have hcap2:cap<=9223372036854775807:=by
  rcases h.2 with ⟨h0,_⟩ | ⟨g,c,cur,h0,_,_,_,h4,_⟩
  . rw [hpc] at h0;simp only [Value.slice.injEq] at h0;omega
  . rw [hpc] at h0;cases h0;unfold maxLen at h4;omega
 generalize InsPost hi v w (S ++ [x])=Post at *;subst hpc
 have HN:Hid (p=none->S.length=0):=by
  intro hp
  rcases h.2 with ⟨_,h1⟩ | ⟨g,c,cur,h0,_⟩
  . exact h1
  . cases h0;cases hp
 clear hrow hgr hgo h hv hat hhi
 cases p with
 | none =>
  have h0:=HN.out rfl;obtain rfl:S=[]:=List.eq_nil_of_length_eq_zero h0
  simp only [List.length_nil] at hrun ⊢
  clear hcap h0 HN;go_enter Tryz.func119,Tryz.ntmps119
  go_wp2_with (at_builtin;refine Lib.wpList_append_run _ rfl _ _ _ _ rfl _ _ rfl rfl _ _ (hrun _) ?_)
  exact HP.out _ rfl
 | some a =>
  generalize S.length=n at *;clear HN
  by_cases hcn:cap=n
  . go_enter Tryz.func119,Tryz.ntmps119
    go_wp2_with (at_builtin;refine Lib.wpList_append_run _ rfl _ _ _ _ rfl _ _ rfl rfl _ _ (hrun _) ?_)
    exact HP.out _ rfl
  . go_enter Tryz.func119,Tryz.ntmps119
    go_wp2_with (at_builtin;refine Lib.wpList_append_run _ rfl _ _ _ _ rfl _ _ rfl rfl _ _ (hrun _) ?_)
    exact HP.out _ rfl
theorem RowGrow.of_but {hi g:Nat} {w w':World} {e:TypeId} {cs:List Value} (hb:Blk w g e cs) (hg:hi<=g) (h:But g w w'):RowGrow hi e w w' :=
 ⟨h.os,h.tape,h.output,Nat.le_of_eq h.size.symm,some g,fun k e'=>by cases e';exact ⟨hg,_,_,hb.row⟩,fun k _ hne=>h.block k fun e=>hne (by rw [e])⟩
theorem Grows.of_but {g n cap m cap':Nat} {w w':World} (h:But g w w'):Grows (.slice (some ⟨g,0,none⟩) n cap) (.slice (some ⟨g,0,none⟩) m cap') w w' :=
 ⟨h.os,h.tape,h.output,Nat.le_of_eq h.size.symm,fun k _ hne=>h.block k fun e=>hne (by rw [e];rfl),fun _ hx=>.inl hx⟩
theorem Grows.of_on {v:Value} {n cap:Nat} {w w':World} (h:Below w.heap.size w w'):Grows v (.slice (some ⟨w.heap.size,0,none⟩) n cap) w w' :=
 ⟨h.os,h.tape,h.output,h.size,fun k hk _=>h.block k hk,fun x hx=>.inr (by simp [Value.ownBlock] at hx;omega)⟩
theorem RowGrow.of_on {hi:Nat} {w w':World} {e:TypeId} (h:Below w.heap.size w w'):RowGrow hi e w w' :=
 ⟨h.os,h.tape,h.output,h.size,none,(fun k e'=>by cases e'),fun k hk _=>h.block k hk⟩
theorem insert_any (hi vb i0:Nat) (v:Value) (S:List Ent) (x:Ent) (w:World) (hn:S.length<=1000) (hi0:i0<=S.length) (h:Row hi 170 w v S) (hv:Blk w vb 170 (entC x)) (hne:v.ownBlock ≠ some vb) (hhi:hi<=w.heap.size) :
 Calls Tryz.prog 119 #[v,.int .i64 i0,.slice (some ⟨vb,0,none⟩) 1 1] w (InsPost hi v w (S.take i0 ++ x :: S.drop i0)):=by
 by_cases hlt:i0 < S.length
 . obtain ⟨p,cap,rfl,hat,_⟩:=rowS_at h
   obtain ⟨g,rfl⟩:∃ g,p=some ⟨g,0,none⟩:=by
    rcases h.2 with ⟨_,h1⟩ | ⟨g,c,cur,h0,_⟩
    . omega
    . cases h0;exact ⟨g,rfl⟩
   obtain ⟨cs,hB,hcl,hnc,hcm,hg,ht⟩:=rowS_blk h
   have hfl:flat (S.take i0 ++ x :: S.drop i0)=flat (S.take i0) ++ entC x ++ flat (S.drop i0):=by
    rw [flat_append,show x :: S.drop i0=[x] ++ S.drop i0 from rfl,flat_append,flat_one,List.append_assoc]
   have hlen:(S.take i0 ++ x :: S.drop i0).length=S.length+1:=by simp;omega
   have h1:∀ u ∈ cs.take (S.length * 2),u.oneCell'=true:=by rw [ht];exact flat_cell S
   have htk:cs.take (i0 * 2)=flat (S.take i0):=by
    rw [<- flat_take,<- ht,List.take_take,Nat.min_eq_left (by omega)]
   have hdr:(cs.drop (i0 * 2)).take ((S.length - i0) * 2)=flat (S.drop i0):=by
    rw [<- flat_drop,<- ht,List.drop_take]
    congr 1
    omega
   by_cases hroom:S.length+1<=cap
   . refine (insert_shift g cap S.length i0 vb cs x w hlt hroom hn hcm hB hcl h1 hv (fun e=>hne (by rw [e];rfl))).mono ?_
     rintro e w' ⟨rfl,hb,hB'⟩;rw [htk,hdr] at hB'
     refine ⟨_,rfl,?_,RowGrow.of_but hB hg hb,.of_but hb⟩
     show w'.ownsRow hi _ 2 _ (S.take i0 ++ x :: S.drop i0).length _
     rw [hlen,hfl]
     refine rowS_of hB' ?_ hroom hcm hg ?_ ?_
     . simp only [List.length_append,List.length_drop,flat_length,List.length_take,hcl]
       show _+2+_+_=_
       omega
     . rw [List.take_append_of_le_length,List.take_of_length_le]
       . simp only [List.length_append,flat_length,List.length_take,List.length_drop]
         show _+2+_<=_
         omega
       . simp only [List.length_append,flat_length,List.length_take,List.length_drop]
         show _<=_+2+_
         omega
     . simp only [List.length_append,flat_length,List.length_take,List.length_drop]
       show _+2+_=_
       omega
   . obtain rfl:cap=S.length:=by omega
     rw [List.take_of_length_le (by omega)] at h1 ht
     rw [List.take_of_length_le (by rw [List.length_drop];omega)] at hdr
     refine (insert_grow g S.length i0 vb cs x w hlt hn hB hcl h1 hv).mono ?_
     rintro e w' ⟨G,R,rfl,hb,hB',hRl,hG,hGm,hR⟩;rw [htk,hdr] at hR
     refine ⟨_,rfl,?_,RowGrow.of_on hb,.of_on hb⟩
     show w'.ownsRow hi _ 2 _ (S.take i0 ++ x :: S.drop i0).length _
     rw [hlen,hfl]
     refine rowS_of hB' hRl hG hGm hhi hR ?_
     simp only [List.length_append,flat_length,List.length_take,List.length_drop]
     show _+2+_=_
     omega
 . obtain rfl:i0=S.length:=by omega
   have:=insert_end hi vb v S x w hn h hv hhi;rw [List.take_length,List.drop_length]
   exact this
theorem append_inS {P:Program} {T e:TypeId} {z:Value} {size bytes:Nat} (E:ElemS P T e z size bytes) {w:World} {g:Nat} {cs:List Value} (hB:Blk w g e cs) (k m cap c:Nat) (a:Addr) (l:List Value) (hl:l.length=m * size) (hsrc:∀ (j:Nat) v,l[j]? = some v->w.cell? (a.add j)=some v) (hone:∀ v ∈ l,v.oneCell'=true) (hroom:k+m<=cap) (hfit:k * size+l.length<=cs.length) :
 ∃ w',(∀ ty,(Builtin.append_ #[T,T] ty #[.slice (some ⟨g,0,none⟩) k cap,.slice (some a) m c]).run P w=.ok (.slice (some ⟨g,0,none⟩) (k+m) cap) w')/\But g w w'/\Blk w' g e (cs.take (k * size) ++ l ++ cs.drop (k * size+l.length)):=by
 obtain ⟨i0,hi0,hz0,hz1,hz2⟩:=info_parts E.info
 have key:=fun ty=>run_append_room (P:=P) w T ty e i0 E.slice hi0 g k cap cs.toArray hB.row a m c l (by rw [hz1];exact hl) hsrc hone hroom (by rw [hz1,List.size_toArray];exact hfit)
 rw [hz1] at key
 exact ⟨_,key,but_setRow _ _ _,by have:=blk_setRow hB (cs.take (k * size) ++ l ++ cs.drop (k * size+l.length));simpa using this⟩
theorem slice_fromX {P:Program} {T e:TypeId} {z:Value} {size bytes:Nat} (E:ElemS P T e z size bytes) (sb so m c n:Nat) (hn:n<=m) (hm:m<=c):∃ x,(∀ w,(Instr.slice T (.slice (some ⟨sb,so,none⟩) m c) (some (.int .i64 (n:Int))) none none).run P w=.ok (.slice (some ⟨sb,x,none⟩) (m - n) (c - n)) w)/\(n < c->x=so+n * size):=by
 by_cases h:n < c
 . exact ⟨so+n * size,fun w=>slice_fromS E sb so m c n hn h w,fun _=>rfl⟩
 . obtain rfl:n=c:=by omega
   obtain rfl:m=n:=by omega
   exact ⟨so,fun w=>by rw [Nat.sub_self];exact slice_endS E sb so m w,fun h=>by omega⟩
section
variable {P : Program} {o:Oper} {w w':World} {post:Value->World->Prop} {ρ:Operand->Value} {ops:Array Oper} {rest:List Oper} {a:Act} {v:Value} {Q:Exit->Act->World->Prop}
theorem wpList_run_clear (hgd:o.guard=none) (d:Operand) (t:TypeId) (hop:o.op=Op.call { callee:=Callee.builtin Builtin.clear,args:=#[d],argTypes:=#[t] })
 (u1:Value) (h1:a.eval d=u1) (hr:(Builtin.clear_ #[t] o.type #[u1]).run P w=.ok v w') (h:wpList P ops Q rest (a.put o.dst v) w'):wpList P ops Q (o :: rest) a w:=by
 subst h1
 refine wpList_plain hgd fun K' hK' => ?_
 unfold Oper.wp
 simp [execOp,hop,resolve,invoke,builtin,hr,Result.andThen]
 exact hK' _ _ h
theorem leaves_sliceTo (x l:Operand) (t:TypeId) (ho:o.op=Op.slice t x none (some l) none)
 (hr:(Instr.sliceAt t (ρ x) none (some (ρ l)) none).run P w=.ok v w') (hp:post v w'):leaves P o ρ w post:=by
 refine leaves_value (v:=v) (w':=w') ?_ hp
 obtain ⟨dst,op,ty,pos,after,guard⟩:=o
 simp only at ho
 subst ho
 simp [execOp,hr,Result.andThen]
end
theorem zeroD : ∀ w,(zeroValue 170).run Tryz.prog w=.ok (.agg #[.string ⟨#[]⟩,.int .i64 0]) w:=fun w=>by kernel_rfl
theorem delete_blk (g cap n i0:Nat) (cs:List Value) (w:World) (hi:i0 < n) (hnc:n<=cap) (hn:n<=1000) (_hcap:cap<=maxLen) (hB:Blk w g 170 cs) (hcl:cs.length=cap * 2) (h1:∀ u ∈ cs.take (n * 2),u.oneCell'=true) :
 Calls Tryz.prog 135 #[.slice (some ⟨g,0,none⟩) n cap,.int .i64 i0,.int .i64 ((i0:Int)+1)] w fun e w' =>
  e=.returned (.slice (some ⟨g,0,none⟩) (n - 1) cap)/\But g w w'/\∃ R,Blk w' g 170 R/\R.length=cap * 2/\R.take ((n - 1) * 2)=cs.take (i0 * 2) ++ (cs.drop ((i0+1) * 2)).take ((n - 1 - i0) * 2):=by
 obtain ⟨xo,hsx,hxo⟩:=slice_fromX elemD g 0 n cap (i0+1) (by omega) hnc
 obtain ⟨l,hl⟩:∃ l,(cs.drop ((i0+1) * 2)).take ((n - 1 - i0) * 2)=l:=⟨_,rfl⟩
 have hll:l.length=(n - (i0+1)) * 2:=by rw [<- hl,List.length_take,List.length_drop];omega
 have hlc:∀ (j:Nat) v,l[j]? = some v->cs[(i0+1) * 2+j]? = some v:=fun j v hj=>by
  have hjl:=(List.getElem?_eq_some_iff.1 hj).1
  rw [<- hl,List.getElem?_take_of_lt (by omega),List.getElem?_drop] at hj
  exact hj
 have hl1:∀ u ∈ l,u.oneCell'=true:=fun u hu=>h1 u (by
  obtain ⟨j,hj,rfl⟩:=List.mem_iff_getElem.1 hu
  exact List.mem_iff_getElem?.2 ⟨(i0+1) * 2+j,by rw [List.getElem?_take_of_lt (by omega)];exact hlc j _ (List.getElem?_eq_getElem hj)⟩)
 have HL:Hid (l.length=(n - (i0+1)) * 2/\(∀ (j:Nat) v,l[j]? = some v->cs[(i0+1) * 2+j]? = some v)/\(∀ u ∈ l,u.oneCell'=true)):=⟨hll,hlc,hl1⟩
 have HS1:Hid (∀ w,(Instr.slice 171 (.slice (some ⟨g,0,none⟩) n cap) none (some (.int .i64 (i0:Int))) none).run Tryz.prog w=.ok (.slice (some ⟨g,0,none⟩) i0 cap) w):=fun w=>slice_toS elemD g 0 n cap i0 (by omega) w
 have HS2:Hid (∀ w,(Instr.slice 171 (.slice (some ⟨g,0,none⟩) n cap) (some (.int .i64 ((i0:Int)+1))) none none).run Tryz.prog w=.ok (.slice (some ⟨g,xo,none⟩) (n - (i0+1)) (cap - (i0+1))) w):=fun w=>by
  rw [show (i0:Int)+1=((i0+1:Nat):Int) by omega];exact hsx w
 have HXO:Hid (i0+1 < cap->xo=0+(i0+1) * 2):=hxo;have HBg:Hid (Blk w g 170 cs):=hB
 have hfin:(cs.take (i0 * 2) ++ l ++ cs.drop (i0 * 2+l.length)).take ((n - 1) * 2)=cs.take (i0 * 2) ++ l/\(cs.take (i0 * 2) ++ l ++ cs.drop (i0 * 2+l.length)).length=cap * 2:=by
  have e:(n - 1) * 2=(cs.take (i0 * 2) ++ l).length:=by rw [List.length_append,List.length_take,hll];omega
  refine ⟨by rw [e];exact List.take_left,?_⟩
  simp only [List.length_append,List.length_take,List.length_drop]
  omega
 rw [hl];have HF:Hid _:=hfin;obtain ⟨M,hM⟩:∃ M,cs.take (i0 * 2) ++ l=M:=⟨_,rfl⟩;have HMM:Hid (cs.take (i0 * 2) ++ l=M):=hM;rw [hM]
 have hz1:((i0:Int) == (i0:Int)+1)=false:=by
  rw [beq_eq_false_iff_ne]
  omega
 have hw1:(i0:Int)+1<=(n:Int):=by omega
 have hw2:(n:Int)<=(cap:Int):=by omega
 have hw3:(0:Int)<=(i0:Int)+1:=by omega
 clear hl h1 hB hll hlc hl1 hsx hxo hfin hM;go_enter Tryz.func135,Tryz.ntmps135;go_wp2
 refine wp_region_two (S:=fun f W=>(f=true->Blk W g 170 cs)/\(f=false->Blk W g 170 (cs.take (i0 * 2) ++ l ++ cs.drop (i0 * 2+l.length)))/\But g w W) (u:=6) (Keep:=KeepK [(6,g)])
  (g:=fun i v W=>([Kd.is (.slice (some ⟨g,0,none⟩) n cap),.is (.int .i64 (i0:Int)),.is (.slice (some ⟨g,0,none⟩) i0 cap),.is (.slice (some ⟨g,0,none⟩) n cap),.is (.int .i64 ((i0:Int)+1)),.is (.slice (some ⟨g,xo,none⟩) (n - (i0+1)) (cap - (i0+1))),.is (.slice (some ⟨g,0,none⟩) (i0+(n - (i0+1))) cap),.is (.slice (some ⟨g,0,none⟩) (i0+(n - (i0+1))) cap)].getD i (Kd.any (hi:=g+1))).ok v W)
  (tab:=[[(0,none)],[(1,none)],[(20,some 0),(21,some 1)],[(0,none)],[(2,none)],[(23,some 3),(24,some 4)],[(22,some 2),(25,some 5)],[(26,some 6)]]) (tl:=[]) (n:=33)
  (by kernel_rfl) rfl (by kernel_rfl) (keep_one (by omega) ?k) ⟨fun _=>HBg.out.drew,(fun e=>by cases e),⟨rfl,rfl,rfl,rfl,fun _ _=>rfl⟩⟩ ?st ?en
 case k =>
  intro j hj
  match j,hj with
  | 0,_ | 1,_ | 2,_ | 3,_ | 4,_ | 5,_ | 6,_ | 7,_=>rfl
  | j+8,_=>rfl
 case st =>
  refine ⟨?_,?_,?_,?_,?_,?_,?_,?_,trivial⟩ <;> intro ρ W f hf hr hS hs
  . exact step_plain rfl (leaves_move (.tmp 0) rfl ⟨hs.1,by simpa using hS,Below.refl _ _⟩)
  . exact step_plain rfl (leaves_move (.tmp 1) rfl ⟨hs.1,by simpa using hS,Below.refl _ _⟩)
  . have ha:ρ (.tmp 20)=.slice (some ⟨g,0,none⟩) n cap:=hs.1;have hb:ρ (.tmp 21)=.int .i64 (i0:Int):=hs.2.1
    refine step_plain rfl (leaves_sliceTo (.tmp 20) (.tmp 21) 171 rfl ?_ ⟨rfl,by simpa using hS,Below.refl _ _⟩)
    rw [ha,hb,run_sliceAt_slice W 171 _ _ _ _ (by kernel_rfl)]
    exact HS1.out W
  . exact step_plain rfl (leaves_move (.tmp 0) rfl ⟨hs.1,by simpa using hS,Below.refl _ _⟩)
  . exact step_plain rfl (leaves_move (.tmp 2) rfl ⟨hs.1,by simpa using hS,Below.refl _ _⟩)
  . have ha:ρ (.tmp 23)=.slice (some ⟨g,0,none⟩) n cap:=hs.1;have hb:ρ (.tmp 24)=.int .i64 ((i0:Int)+1):=hs.2.1
    refine step_plain rfl (leaves_slice (.tmp 23) (.tmp 24) 171 rfl ?_ ⟨rfl,by simpa using hS,Below.refl _ _⟩)
    rw [ha,hb,run_sliceAt_slice W 171 _ _ _ _ (by kernel_rfl)]
    exact HS2.out W
  . obtain rfl:f=true:=hf (by kernel_rfl)
    have ha:ρ (.tmp 22)=.slice (some ⟨g,0,none⟩) i0 cap:=hs.1;have hb:ρ (.tmp 25)=.slice (some ⟨g,xo,none⟩) (n - (i0+1)) (cap - (i0+1)):=hs.2.1;obtain ⟨hS1,_,hS3⟩:=hS
    obtain ⟨w5,hcp,hbut,hB5⟩:=append_inS elemD (hS1 rfl) i0 (n - (i0+1)) cap (cap - (i0+1)) ⟨g,xo,none⟩ l HL.out.1 (fun j v hj=>by
     have hjl:=(List.getElem?_eq_some_iff.1 hj).1
     have hx:=HXO.out (by have:=HL.out.1;omega)
     have e:(⟨g,xo,none⟩:Addr).add j=⟨g,(i0+1) * 2+j,none⟩:=by rw [hx];unfold Addr.add;split <;> simp_all
     rw [e]
     exact (hS1 rfl).cell _ (HL.out.2.1 j v hj)) HL.out.2.2 (by omega) (by rw [HL.out.1];omega)
    exact step_plain rfl (leaves_append (.tmp 22) (.tmp 25) 171 rfl (by rw [ha,hb];exact hcp _) ⟨rfl,⟨(fun e=>by cases e),(fun _=>hB5),hS3.trans hbut⟩,hbut⟩)
  . exact step_plain rfl (leaves_assign (.tmp 26) rfl ⟨hs.1,by simpa using hS,Below.refl _ _⟩)
 case en =>
  intro f W hf hS v0 h0 v1 h1 v2 h2 v3 h3 v4 h4 v5 h5 v6 h6 v7 h7
  obtain rfl:f=false:=hf (by decide)
  obtain rfl:v7=.slice (some ⟨g,0,none⟩) (i0+(n - (i0+1))) cap:=h7 rfl;clear hf h0 h1 h2 h3 h4 h5 h6 h7
  simp only [ends,Act.put,List.setIfInBounds_toArray,List.set_cons_succ,List.set_cons_zero]
  obtain ⟨_,hS2,hS3⟩:=hS;have hB5:=hS2 rfl;clear hS2
  rw [show i0+(n - (i0+1))=n - 1 by omega]
  obtain ⟨w6,zz,hcl6,hbut,hzl,hB6⟩:=clear_partS elemD zeroD (by intro v hv;simp [Value.cells] at hv;rcases hv with rfl | rfl <;> rfl) hB5 ((n - 1) * 2) 1 (cap - (n - 1)) (by rw [HF.out.2];omega) (by decide)
  have HR:Hid (∃ R,Blk w6 g 170 R/\R.length=cap * 2/\R.take ((n - 1) * 2)=M):=⟨_,hB6,by
   have:=HF.out.2;rw [List.length_append,List.length_append,List.length_take,List.length_drop,hzl,this]
   omega,by
   rw [List.append_assoc,List.take_append_of_le_length (by rw [List.length_take,HF.out.2];omega),List.take_take,Nat.min_self,HF.out.1,HMM.out]⟩
  have HE:Hid (But g w w6):=hS3.trans hbut
  have hlm:((n - 1:Nat):Int)=(n:Int) - 1:=by omega
  have hb1:¬ cap=n - 1:=by omega
  have hnn:n - (n - 1)=1:=by omega
  clear hB6 hB5 hbut hzl hS3
  go_wp2_with (at_builtin;refine wpList_run_clear rfl _ 171 rfl _ rfl (hcl6 _) ?_)
  go_ret
  exact ⟨rfl,HE.out,HR.out⟩
theorem delete_any (hi i0:Nat) (v:Value) (S:List Ent) (w:World) (hn:S.length<=1000) (hi0:i0 < S.length) (h:Row hi 170 w v S) :
 Calls Tryz.prog 135 #[v,.int .i64 i0,.int .i64 ((i0:Int)+1)] w (InsPost hi v w (S.take i0 ++ S.drop (i0+1))):=by
 obtain ⟨p,cap,rfl,hat,_⟩:=rowS_at h
 obtain ⟨g,rfl⟩:∃ g,p=some ⟨g,0,none⟩:=by
  rcases h.2 with ⟨_,h1⟩ | ⟨g,c,cur,h0,_⟩
  . omega
  . cases h0;exact ⟨g,rfl⟩
 obtain ⟨cs,hB,hcl,hnc,hcm,hg,ht⟩:=rowS_blk h
 have h1:∀ u ∈ cs.take (S.length * 2),u.oneCell'=true:=by rw [ht];exact flat_cell S
 have htk:cs.take (i0 * 2)=flat (S.take i0):=by
  rw [<- flat_take,<- ht,List.take_take,Nat.min_eq_left (by omega)]
 have hdr:(cs.drop ((i0+1) * 2)).take ((S.length - 1 - i0) * 2)=flat (S.drop (i0+1)):=by
  rw [<- flat_drop,<- ht,List.drop_take]
  congr 1
  omega
 refine (delete_blk g cap S.length i0 cs w hi0 hnc hn hcm hB hcl h1).mono ?_
 rintro e w' ⟨rfl,hb,R,hB',hRl,hR⟩;rw [htk,hdr] at hR
 have hlen:(S.take i0 ++ S.drop (i0+1)).length=S.length - 1:=by simp;omega
 refine ⟨_,rfl,?_,RowGrow.of_but hB hg hb,.of_but hb⟩
 show w'.ownsRow hi _ 2 _ (S.take i0 ++ S.drop (i0+1)).length _
 rw [hlen,flat_append]
 refine rowS_of hB' hRl (by omega) hcm hg hR ?_
 simp only [List.length_append,flat_length,List.length_take,List.length_drop]
 omega
end Go.Proofs.YthlaoaaafafafaaGreat
