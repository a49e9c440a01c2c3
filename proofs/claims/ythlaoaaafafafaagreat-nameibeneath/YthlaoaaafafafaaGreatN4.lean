/- Ours. -/
import Derived.Test.YthlaoaaafafafaaGreatN3
import Derived.Test.YthlaoaaafafafaaGreatH2
import Derived.Test.YthlaoaaafafafaaGreatH3
import Derived.Laws.StructEq
set_option maxRecDepth 100000
set_option maxHeartbeats 16000000
namespace Go.Proofs.YthlaoaaafafafaaGreat
open Go Go.RowKit Go.Maps
def TreePostN (w:World) (e:Ending) (w':World):Prop:=∃ fb rb s U,e=.returned (.tuple #[ptr fb,ptr rb,.bool true])/\FsAt w.heap.size w' fb 161 s U/\RefAt6 w.heap.size w' rb s/\(FsOk s U 161/\Nam s)/\Below w.heap.size w w'
theorem tree8N (pa:Option Addr) (ca:Nat) (l:List Act7) (w:World) (hat:At w pa (actsV7 l)) (hok:∀ x ∈ l,Act7Ok x):Calls Tryz.prog 8 #[.slice pa l.length ca] w (TreePostN w):=by
 have HAT:Hid (At w pa (actsV7 l)):=hat;have HOK:Hid (∀ x ∈ l,Act7Ok x):=hok
 have HP:Hid (∀ fb rb w',(∃ s U,FsAt w.heap.size w' fb 161 s U/\RefAt6 w.heap.size w' rb s/\(FsOk s U 161/\Nam s)/\Below w.heap.size w w')->TreePostN w (.returned (.tuple #[ptr fb,ptr rb,.bool true])) w'):=fun fb rb w' ⟨s,U,h1,h2,h3,h4⟩=>⟨fb,rb,s,U,rfl,h1,h2,h3,h4⟩
 generalize TreePostN w=Post at *
 have cN:∀ w,Calls Tryz.prog 19 #[.int .i64 14,.int .i64 20] w (NewPost 14 20 w):=fun w=>new7 14 20 w (by omega)
 have cR:∀ w,Calls Tryz.prog 20 #[.int .i64 14,.int .i64 20] w (RNewPost 14 20 w):=fun w=>rnew7 14 20 w (by omega)
 clear hat hok;go_enter Tryz.func8,Tryz.ntmps8;go_wp2_with fail;refine (cN _).mono ?_;rintro e w1 ⟨fb,rfl,hS1,hB1⟩;have HS1:Hid _:=hS1;have HB1:Hid _:=hB1;clear hS1 hB1 cN;go_wp2_with fail;refine (cR _).mono ?_;rintro e w2 ⟨rb,rfl,hR2,hB2⟩
 have HI1:Hid (∃ s U,FsAt w.heap.size w2 fb 1 s U/\RefAt6 w.heap.size w2 rb s/\(FsOk s U 1/\Nam s)/\Below w.heap.size w w2):=⟨_,_,FsAt.on HS1.out hB2,hR2.low HB1.out.size,⟨ok_new (by omega),nam_new _ _⟩,on_trans HB1.out hB2⟩
 clear hR2 hB2 cR HS1 HB1;go_wp2
 go_loopw [8] (fun i wr => ∃ k:Nat,k<=l.length/\k<=40/\i=.int .i64 (k:Int)/\Hid (∃ s U,FsAt w.heap.size wr fb (4 * k+1) s U/\RefAt6 w.heap.size wr rb s/\(FsOk s U (4 * k+1)/\Nam s)/\Below w.heap.size w wr)) (fun i _=>40 - (intOf i).toNat)
 case atStart=>exact ⟨0,Nat.zero_le _,by omega,rfl,HI1⟩
 case round =>
  clear HI1;obtain ⟨k,hk,hk40,rfl,HI⟩:=hrel
  by_cases hlt:k < l.length/\k < 40
  . obtain ⟨s,U,hS,hR,⟨hf,hnam⟩,hB⟩:=HI.out
    have hltz:(k:Int) < (l.length:Int):=by omega
    have hkz:(k:Int) < 40:=by omega
    have hkl:k < l.length:=hlt.1;have hokk:=HOK.out _ (List.getElem_mem hkl);obtain ⟨g,off,rfl,a0,a1,a2,a3,a4⟩:=act_cells7 HAT.out hB hkl
    have cD:=does7 l[k].k l[k].d l[k].n1 l[k].n2 l[k].a _ hS hR hf hf.rf (by omega) (by omega) hokk.kw hokk.dw hokk.aw hokk.w1 hokk.w2
    have HB:Hid _:=hB;have HNM:Hid (Nam s):=hnam;unfold actC at cD;clear hlt hokk HI hS hR hf hB hnam;go_wp2_with fail;refine cD.mono ?_;rintro e w3 ⟨b2,s2,U2,m2,rfl,hS2,hR2,hf2,⟨_,hn2⟩,heq,ht2⟩;obtain ⟨rfl,rfl⟩:=heq rfl
    have HI2:Hid (∃ s U,FsAt w.heap.size w3 fb (4 * (k+1)+1) s U/\RefAt6 w.heap.size w3 rb s/\(FsOk s U (4 * (k+1)+1)/\Nam s)/\Below w.heap.size w w3):=⟨_,_,hS2.more (by omega),hR2,⟨hf2.more (by omega),hn2 HNM.out⟩,ht2.below HB.out (Nat.le_refl _) HB.out.size⟩
    clear hS2 hR2 hf2 heq ht2 cD HB hn2 HNM;go_wp2;go_roundw
    case rel=>exact ⟨k+1,by omega,by omega,by go_num,HI2⟩
    case measure=>simp [intOf];omega
  . have hz:=HP.out fb rb wr (by
     obtain ⟨s,U,hS,hR,⟨hf,hnam⟩,hB⟩:=HI.out
     exact ⟨s,U,hS.more (by omega),hR,⟨hf.more (by omega),hnam⟩,hB⟩)
    have hex:(¬ (k:Int) < (l.length:Int)) ∨ ((k:Int) < (l.length:Int)/\¬ (k:Int) < 40):=by omega
    clear hlt hk hk40
    rcases hex with hex | ⟨hex,hex2⟩
    all_goals
     go_wp2
     go_ret3
     exact hz
section
open Go.ChangeShapes Go.WideShapes Go.ChangeAt Go.Joins
variable {H : Type} {enc:TypeId × Value->H} {w:World}
theorem cellsWay : Tryz.prog.cellsOf 26=4:=by kernel_rfl
theorem open_way {b0:Nat} {v:Value} {d:DataW H} {ps:List MemPlace} (hv:Value.okWide Tryz.prog w .any b0 26 v) (h:DataW.Trod enc Tryz.prog w 0 (fun _=>true) true 26 v d ps) :
 ∃ (s:Int) (f g e:Bool),v=.agg #[.int .i64 s,.bool f,.bool g,.bool e]/\(Lit.int .i64 s).wf=true:=by
 obtain ⟨cs,rfl,hsz⟩:=okWide_struct Tryz.underlying26 hv;obtain ⟨c0,c1,c2,c3,rfl⟩:=array4 (hsz.trans cellsWay);obtain ⟨fuel,hf⟩:=h;obtain ⟨y0,y1,m,_,_,h0,h1⟩:=trod_struct2 Tryz.underlying26 hf
 have h0':DataW.trod enc Tryz.prog w 0 (fun _=>true) true m 3 [c0]=some y0:=h0
 have h1':DataW.trod enc Tryz.prog w 0 (fun _=>true) true m 24 [c1,c2,c3]=some y1:=h1
 obtain ⟨z0,e0,_,w0⟩:=DataW.trod_int Tryz.underlying3 h0';obtain ⟨x0,x1,x2,m2,_,_,k0,k1,k2⟩:=Deep.trod_struct3 Tryz.underlying24 h1'
 have k0':DataW.trod enc Tryz.prog w 0 (fun _=>true) true m2 4 [c1]=some x0:=k0
 have k1':DataW.trod enc Tryz.prog w 0 (fun _=>true) true m2 4 [c2]=some x1:=k1
 have k2':DataW.trod enc Tryz.prog w 0 (fun _=>true) true m2 4 [c3]=some x2:=k2
 obtain ⟨b1,e1,_⟩:=DataW.trod_bool Tryz.underlying4 k0';obtain ⟨b2,e2,_⟩:=DataW.trod_bool Tryz.underlying4 k1';obtain ⟨b3,e3,_⟩:=DataW.trod_bool Tryz.underlying4 k2'
 simp at e0 e1 e2 e3
 exact ⟨z0,b1,b2,b3,by rw [e0,e1,e2,e3],w0⟩
end
def nmL : ByteArray:=⟨#[108]⟩
def nmX : ByteArray:=⟨#[120]⟩
def pth1 : ByteArray:=⟨#[108,47,46,46]⟩
def pth2 : ByteArray:=⟨#[108,47,120]⟩
theorem createL : createE livF 1 nmL 3 nmA=0:=by decide +kernel
def livG : SS:=createF livF 1 nmL 3 nmA
def livU : Int->Int:=updU newU 2 1
theorem pE1 : P.pE pth1=0/\P.pL pth1=[nmL,⟨#[46,46]⟩]/\P.pA pth1=false/\P.pD pth1=false:=by decide +kernel
theorem pE2 : P.pE pth2=0/\P.pL pth2=[nmL,nmX]/\P.pA pth2=false/\P.pD pth2=false:=by decide +kernel
theorem pE3 : P.pE nmA=0/\P.pL nmA=[nmA]/\P.pA nmA=false/\P.pD nmA=false:=by decide +kernel
theorem lkL (be pa:Bool):lkE livG be pa 1 nmL false=0/\lkN livG livU be pa 1 nmL false=3:=by cases be <;> cases pa <;> decide +kernel
theorem lkA (be pa:Bool):lkE livG be pa 1 nmA false=0/\lkN livG livU be pa 1 nmA false=2:=by cases be <;> cases pa <;> decide +kernel
theorem lkD : lkE livG false false 2 ⟨#[46,46]⟩ true=0/\lkN livG livU false false 2 ⟨#[46,46]⟩ true=1:=by decide +kernel
theorem lkX : lkE livG true true 2 nmX true=0/\lkN livG livU true true 2 nmX true=0:=by decide +kernel
theorem tgt3 : tgtB livG 3=true/\tgtT livG 3=nmA/\tgtB livG 2=false/\tgtB livG 1=false/\tgtB livG 0=false:=by decide +kernel
theorem walk1 : walkF livG livU false true false 1 pth1=(fdC 1 ByteArray.empty 1 false 3,0):=by
 have t1:takeE false pth1=0:=by unfold takeE;rw [pE1.1,if_neg (by simp),Bool.and_false,if_neg (by simp)]
 have t2:takeE false nmA=0:=by unfold takeE;rw [pE3.1,if_neg (by simp),Bool.and_false,if_neg (by simp)]
 unfold walkF
 rw [if_neg (by simp [t1]),pE1.2.1,pE1.2.2.2]
 have e1:takeD 1 pth1=1:=by unfold takeD;split <;> rfl
 have e2:takeD 1 nmA=1:=by unfold takeD;split <;> rfl
 rw [e1,goF_link (rest:=[⟨#[46,46]⟩]) (lkL false false).1 (lkL false false).2 (by unfold thru;rw [tgt3.1];rfl) (by rw [tgt3.2.1];exact t2),tgt3.2.1,pE3.2.1,e2]
 have e3:takeS [⟨#[46,46]⟩] false nmA=false:=by unfold takeS;rw [if_neg (by simp)]
 rw [e3]
 show goF livG livU false true false 7 (nmA :: [⟨#[46,46]⟩]) 1 false 1=_
 rw [goF_more (by simp) (lkA false false).1 (lkA false false).2 (by unfold thru;rw [tgt3.2.2.1];rfl),goF_last lkD.1 lkD.2 (by unfold thru;rw [tgt3.2.2.2.1];rfl)]
 have hd:(dotB ⟨#[46,46]⟩ || ddB ⟨#[46,46]⟩)=true:=by decide +kernel
 unfold endV endE;rw [if_pos hd,if_pos hd]
 rfl
theorem walk2 : walkF livG livU true false true 1 pth2=(fdC 2 nmX 0 false 3,0):=by
 have t1:takeE true pth2=0:=by unfold takeE;rw [pE2.1,if_neg (by simp),pE2.2.2.1,if_neg (by simp)]
 have t2:takeE true nmA=0:=by unfold takeE;rw [pE3.1,if_neg (by simp),pE3.2.2.1,if_neg (by simp)]
 unfold walkF
 rw [if_neg (by simp [t1]),pE2.2.1,pE2.2.2.2]
 have e1:takeD 1 pth2=1:=by unfold takeD;split <;> rfl
 have e2:takeD 1 nmA=1:=by unfold takeD;split <;> rfl
 rw [e1,goF_link (rest:=[nmX]) (lkL true true).1 (lkL true true).2 (by unfold thru;rw [tgt3.1];rfl) (by rw [tgt3.2.1];exact t2),tgt3.2.1,pE3.2.1,e2]
 have e3:takeS [nmX] false nmA=false:=by unfold takeS;rw [if_neg (by simp)]
 rw [e3]
 show goF livG livU true false true 7 (nmA :: [nmX]) 1 false 1=_
 rw [goF_more (by simp) (lkA true true).1 (lkA true true).2 (by unfold thru;rw [tgt3.2.2.1];rfl),goF_last lkX.1 lkX.2 (by unfold thru;rw [tgt3.2.2.2.2];rfl)]
 have hd:(dotB nmX || ddB nmX)=false:=by decide +kernel
 unfold endV endE
 simp only [hd,Bool.false_and,Bool.false_eq_true,if_false]
 rfl
theorem eq_found (a:Int) (b:ByteArray) (c:Int) (d:Bool) (e:Int) (w:World):(Op.equalIn 10000 33 (.agg #[.int .i64 a,.string b,.int .i64 c,.bool d,.int .i64 e]) (.agg #[.int .i64 a,.string b,.int .i64 c,.bool d,.int .i64 e])).run Tryz.prog w=.ok true w:=by
 have u3:=Tryz.underlying3;have a3:=Tryz.isAgg3;have z3:=Tryz.sizeOf3;have u9:=Tryz.underlying9;have a9:=Tryz.isAgg9;have z9:=Tryz.sizeOf9;have u4:=Tryz.underlying4;have a4:=Tryz.isAgg4;have z4:=Tryz.sizeOf4
 have hS:Tryz.prog.underlying 33=some (.struct (Tryz.prog.fieldsOf 33)):=by kernel_rfl
 have hp:Tryz.prog.stoodInHeld 33=false:=by kernel_rfl
 rw [show (10000:Nat)=9999+1 from rfl,run_equalIn_agg w 9999 33 _ _ hS hp]
 simp only [Program.fieldsOf,Tryz.underlying33]
 go_simp
theorem lives8 (w:World):Calls Tryz.prog 12 #[] w fun e w'=>e=.returned (.bool true)/\Below w.heap.size w w':=by
 have k0:FsOk (newF 4 4) newU 1:=ok_new (by omega)
 have eA:createT (newF 4 4) 1 nmA 2 ByteArray.empty=livF:=if_pos createA;have eU:createTU (newF 4 4) newU 1 nmA 2 ByteArray.empty=livU:=if_pos ⟨createA,rfl⟩
 have k1:FsOk livF livU 5:=by have:=create_okT k0 1 nmA 2 ByteArray.empty;rwa [eA,eU] at this
 have eL:createT livF 1 nmL 3 nmA=livG:=if_pos createL
 have eV:createTU livF livU 1 nmL 3 nmA=livU:=if_neg fun h=>by cases h.2
 have k2:FsOk livG livU 9:=by have:=create_okT k1 1 nmL 3 nmA;rwa [eL,eV] at this
 have cN:Calls Tryz.prog 19 #[.int .i64 4,.int .i64 4] w (NewPost 4 4 w):=new7 4 4 w (by omega)
 have HC1:Hid (∀ w1 fb,FsAt w.heap.size w1 fb 1 (newF 4 4) newU->Below w.heap.size w w1->Calls Tryz.prog 30 #[ptr fb,.int .i64 1,.string ⟨#[97]⟩,.int .i64 2,.string ⟨#[]⟩] w1 fun e w2=>(∃ r,e=.returned r)/\FsAt w.heap.size w2 fb 5 livF livU/\Below w.heap.size w w2):=fun w1 fb h1 hb=>by
  refine (pcreate h1 k0 (by omega) 1 (by decide) nmA (by decide) 2 ByteArray.empty (by decide)).mono ?_
  rintro e w2 ⟨rfl,h2,h3⟩;rw [eA,eU] at h2
  exact ⟨⟨_,rfl⟩,h2,h3.below hb (Nat.le_refl _) hb.size⟩
 have HC2:Hid (∀ w1 fb,FsAt w.heap.size w1 fb 5 livF livU->Below w.heap.size w w1->Calls Tryz.prog 30 #[ptr fb,.int .i64 1,.string ⟨#[108]⟩,.int .i64 3,.string ⟨#[97]⟩] w1 fun e w2=>(∃ r,e=.returned r)/\FsAt w.heap.size w2 fb 9 livG livU/\Below w.heap.size w w2):=fun w1 fb h1 hb=>by
  refine (pcreate h1 k1 (by omega) 1 (by decide) nmL (by decide) 3 nmA (by decide)).mono ?_
  rintro e w2 ⟨rfl,h2,h3⟩;rw [eL,eV] at h2
  exact ⟨⟨_,rfl⟩,h2,h3.below hb (Nat.le_refl _) hb.size⟩
 have HW1:Hid (∀ w1 fb,FsAt w.heap.size w1 fb 9 livG livU->Calls Tryz.prog 10 #[ptr fb,.int .i64 1,.string ⟨#[108,47,46,46]⟩,.agg #[.bool false,.bool true,.bool false]] w1 fun e w2=>e=.returned (.tuple #[.agg #[.int .i64 1,.string ⟨#[]⟩,.int .i64 1,.bool false,.int .i64 3],.int .i64 0])/\Below w1.heap.size w1 w2):=fun w1 fb h1=>by
  have:=walk_any h1 k2.wf k2.tree (by omega) false true false 1 (by decide) pth1 (by decide)
  rw [walk1] at this
  exact this
 have HW2:Hid (∀ w1 fb,FsAt w.heap.size w1 fb 9 livG livU->Calls Tryz.prog 10 #[ptr fb,.int .i64 1,.string ⟨#[108,47,120]⟩,.agg #[.bool true,.bool false,.bool true]] w1 fun e w2=>e=.returned (.tuple #[.agg #[.int .i64 2,.string ⟨#[120]⟩,.int .i64 0,.bool false,.int .i64 3],.int .i64 0])/\Below w1.heap.size w1 w2):=fun w1 fb h1=>by
  have:=walk_any h1 k2.wf k2.tree (by omega) true false true 1 (by decide) pth2 (by decide)
  rw [walk2] at this
  exact this
 clear k0 k1 k2 eA eU eL eV;generalize livF=s1 at *;generalize livG=s2 at *
 have HP:Hid (∀ w',Below w.heap.size w w'->(fun e w'=>e=Ending.returned (.bool true)/\Below w.heap.size w w') (Ending.returned (.bool true)) w'):=fun w' h=>⟨rfl,h⟩
 generalize (fun e w'=>e=Ending.returned (.bool true)/\Below w.heap.size w w')=Post at *
 go_enter Tryz.func12,Tryz.ntmps12;go_wp2_with fail;refine cN.mono ?_;rintro e w1 ⟨fb,rfl,h1,hb1⟩;have c1:=HC1.out w1 fb h1 hb1;clear cN h1 hb1 HC1;go_wp2_with fail;refine c1.mono ?_;rintro e w2 ⟨⟨r2,rfl⟩,h2,hb2⟩;have c2:=HC2.out w2 fb h2 hb2;clear c1 h2 hb2 HC2;go_wp2_with fail;refine c2.mono ?_;rintro e w3 ⟨⟨r3,rfl⟩,h3,hb3⟩;have c3:=HW1.out w3 fb h3;have H3:Hid _:=h3;have HB3:Hid _:=hb3;clear c2 h3 hb3 HW1;go_wp2_with fail;refine c3.mono ?_;rintro e w4 ⟨rfl,hb4⟩
 have hbx:=on_alloc w4 (.cells #[.int .i64 1,.string ⟨#[]⟩,.int .i64 1,.bool false,.int .i64 3] 33);have HX:Hid _:=Blk.new w4 33 [.int .i64 1,.string ⟨#[]⟩,.int .i64 1,.bool false,.int .i64 3];have H4:Hid _:=FsAt.on (FsAt.on H3.out hb4) hbx;have HB4:Hid _:=on_trans HB3.out (on_trans hb4 hbx);have c4:=HW2.out _ fb H4.out;clear c3 hb4 hbx H3 HB3 HW2;go_wp2_with fail;generalize w4.alloc (.cells #[.int .i64 1,.string ⟨#[]⟩,.int .i64 1,.bool false,.int .i64 3] 33)=w5 at *
 refine c4.mono ?_;rintro e w6 ⟨rfl,hb6⟩;have hX6:=(HX.out.on hb6).on (on_alloc w6 (.cells #[.int .i64 2,.string ⟨#[120]⟩,.int .i64 0,.bool false,.int .i64 3] 33));have x0:=hX6.cell 0 rfl;have x1:=hX6.cell 1 rfl;have x2:=hX6.cell 2 rfl;have x3:=hX6.cell 3 rfl;have x4:=hX6.cell 4 rfl;have heq:=eq_found 1 ⟨#[]⟩ 1 false 3;have hz:=HP.out _ (on_trans HB4.out (on_trans hb6 (on_alloc w6 (.cells #[.int .i64 2,.string ⟨#[120]⟩,.int .i64 0,.bool false,.int .i64 3] 33))))
 clear c4 hb6 hX6 HB4 H4;go_wp2
 exact hz
end Go.Proofs.YthlaoaaafafafaaGreat
