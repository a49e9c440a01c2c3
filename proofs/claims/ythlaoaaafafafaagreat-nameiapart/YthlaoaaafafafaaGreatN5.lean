/- NameiApart: its walk. -/
import Derived.Test.YthlaoaaafafafaaGreatN4
import Derived.Test.YthlaoaaafafafaaGreatH4
set_option maxRecDepth 100000
set_option maxHeartbeats 16000000
namespace Go.Proofs.YthlaoaaafafafaaGreat
open Go Go.RowKit Go.Maps
theorem apart_walk (pa:Option Addr) (ca:Nat) (l:List Act7) (t:ByteArray) (st:Int) (be fo pr:Bool) (w:World) (_hca:l.length<=ca) (_hla:l.length<=9223372036854775807) (hat:At w pa (actsV7 l)) (hok:∀ x ∈ l,Act7Ok x) (ht:t.size<=maxLen) (hst:(Lit.int .i64 st).wf=true) :
 Calls Tryz.prog 7 #[.slice pa l.length ca,.string t,.agg #[.int .i64 st,.bool be,.bool fo,.bool pr]] w fun e w'=>e=.returned (.bool true)/\Below w.heap.size w w':=by
 have hb0:=on_alloc w (.cells #[.int .i64 st,.bool be,.bool fo,.bool pr] 26);have HX:Hid _:=Blk.new w 26 [.int .i64 st,.bool be,.bool fo,.bool pr];have cT:=tree8 pa ca l _ (hat.on hb0) hok;have HB0:Hid _:=hb0
 have hts:t.size<=9223372036854775807:=by unfold maxLen at ht;omega
 have cS:=fun w=>short8 t w hts
 have cL:=lives8;have HST:Hid ((Lit.int .i64 st).wf=true):=hst
 have HP:Hid (∀ w',Below w.heap.size w w'->(fun e w'=>e=Ending.returned (.bool true)/\Below w.heap.size w w') (Ending.returned (.bool true)) w'):=fun w' h=>⟨rfl,h⟩
 generalize (fun e w'=>e=Ending.returned (.bool true)/\Below w.heap.size w w')=Post at *
 clear hat hok hst hb0 ht;go_enter Tryz.func7,Tryz.ntmps7;go_wp2_with fail;generalize w.alloc (.cells #[.int .i64 st,.bool be,.bool fo,.bool pr] 26)=w0 at *;refine cT.mono ?_;rintro e w1 ⟨fb,rb,s,U,rfl,hS,_,hf,hB⟩;have hX1:=HX.out.on hB;have HW:Hid _:=hB;have HF:Hid (FsOk s U 161):=hf;have HS:Hid _:=hS;have HX1:Hid _:=hX1
 have cM:=dump7 HS.out HF.out.wf (by omega) HF.out.tree
 clear cT hB hS hf hX1 HX;go_wp2_with fail;refine cM.mono ?_;rintro e w2 ⟨v,Q,rfl,hD2,hb2⟩;obtain ⟨pv,cv,ev,_⟩:=rowS_at hD2.row;generalize Q.length=lQ at ev;subst ev;have HD2:Hid (∃ Q,DumpM w1.heap.size U s w2 (.slice pv lQ cv) Q s.L):=⟨Q,hD2⟩;have HS2:Hid _:=FsAt.on HS.out hb2;have HX2:Hid _:=HX1.out.on hb2;have HB2:Hid (Below w.heap.size w w2):=on_trans (on_trans HB0.out HW.out) hb2;clear cM hD2 hb2 HS HX1 HW HB0;go_wp2_with fail;refine (cS _).mono ?_;rintro e w3 ⟨t',rfl,ht',hw3⟩
 subst w3
 have HCW:Hid (∀ wx,Below w2.heap.size w2 wx->Calls Tryz.prog 10 #[ptr fb,.int .i64 st,.string t',.agg (howC be fo pr).toArray] wx (WalkPost (walkF s U be fo pr st t') wx)):=fun wx hb=>walk_any (FsAt.on HS2.out hb) HF.out.wf HF.out.tree (by omega) be fo pr st HST.out t' (by omega)
 obtain ⟨z0,z1,z2,z3,z4,e1,_⟩:=walkF_is HF.out.wf U be fo pr st t';generalize walkF s U be fo pr st t'=R at *;obtain ⟨V,E⟩:=R
 simp only at e1
 subst e1;have cNil:=walk_nil be fo pr st t';unfold howC at HCW cNil;unfold fdC at HCW;unfold fd0 fdC at cNil;have cW:=HCW.out w2 (Below.refl _ _);have x0:=HX2.out.cell 0 rfl;have x1:=HX2.out.cell 1 rfl;have x2:=HX2.out.cell 2 rfl;have x3:=HX2.out.cell 3 rfl;clear cS;go_wp2_with fail;refine cW.mono ?_;rintro e w3 ⟨rfl,hb3⟩;have hb4:=on_trans hb3 (on_alloc w3 (.cells #[.int .i64 z0,.string z1,.int .i64 z2,.bool z3,.int .i64 (z4:Int)] 33));have HY4:Hid _:=Blk.new w3 33 [.int .i64 z0,.string z1,.int .i64 z2,.bool z3,.int .i64 (z4:Int)]
 have HB4:Hid _:=hb4;have cW2:=HCW.out _ hb4;have hX4:=HX2.out.on hb4;have y0:=hX4.cell 0 rfl;have y1:=hX4.cell 1 rfl;have y2:=hX4.cell 2 rfl;have y3:=hX4.cell 3 rfl;clear cW hb3 hb4 x0 x1 x2 x3 hX4 HCW;go_wp2_with fail;generalize w3.alloc (.cells #[.int .i64 z0,.string z1,.int .i64 z2,.bool z3,.int .i64 (z4:Int)] 33)=w4 at *;refine cW2.mono ?_;rintro e w5 ⟨rfl,hb5⟩;have hb6:=on_trans hb5 (on_alloc w5 (.cells #[.int .i64 z0,.string z1,.int .i64 z2,.bool z3,.int .i64 (z4:Int)] 33))
 have HY6:Hid _:=HY4.out.on hb6;have HZ6:Hid _:=Blk.new w5 33 [.int .i64 z0,.string z1,.int .i64 z2,.bool z3,.int .i64 (z4:Int)];have HB6:Hid _:=on_trans HB4.out hb6;have hX6:=HX2.out.on HB6.out;have x0:=hX6.cell 0 rfl;have x1:=hX6.cell 1 rfl;have x2:=hX6.cell 2 rfl;have x3:=hX6.cell 3 rfl;clear cW2 hb5 hb6 y0 y1 y2 y3 hX6 HY4 HB4;go_wp2_with fail;generalize w5.alloc (.cells #[.int .i64 z0,.string z1,.int .i64 z2,.bool z3,.int .i64 (z4:Int)] 33)=w6 at *
 refine (cNil _).mono ?_;rintro e w7 ⟨rfl,hb7⟩;have hb8:=on_trans hb7 (on_alloc w7 (.cells #[.int .i64 0,.string ByteArray.empty,.int .i64 0,.bool false,.int .i64 0] 33));have hY8:=HY6.out.on hb8;have hZ8:=HZ6.out.on hb8;have hB8:=on_trans HB6.out hb8;have HB8:Hid _:=hB8
 have cM2:=dump7 (FsAt.on HS2.out hB8) HF.out.wf (by omega) HF.out.tree
 have HB9:Hid (Below w.heap.size w (w7.alloc (.cells #[.int .i64 0,.string ByteArray.empty,.int .i64 0,.bool false,.int .i64 0] 33))):=on_trans HB2.out hB8;have y0:=hY8.cell 0 rfl;have y1:=hY8.cell 1 rfl;have y2:=hY8.cell 2 rfl;have y3:=hY8.cell 3 rfl;have y4:=hY8.cell 4 rfl;have q0:=hZ8.cell 0 rfl;have q1:=hZ8.cell 1 rfl;have q2:=hZ8.cell 2 rfl;have q3:=hZ8.cell 3 rfl;have q4:=hZ8.cell 4 rfl;have heq:=eq_found z0 z1 z2 z3 (z4:Int);clear cNil hb7 hb8 hY8 hZ8 hB8 x0 x1 x2 x3 HY6 HZ6 HB6 HX2 HB2
 go_wp2_with fail;generalize w7.alloc (.cells #[.int .i64 0,.string ByteArray.empty,.int .i64 0,.bool false,.int .i64 0] 33)=w8 at *;refine cM2.mono ?_;rintro e w9 ⟨v2,Q2,rfl,hD9,hb9⟩;obtain ⟨Q,hD⟩:=HD2.out
 have cSm:=same7 (hD.on (on_trans HB8.out hb9)) hD9 (by have:=HF.out.wf.room;have:=HF.out.wf.most;omega) HF.out.wf.ds
 have HBA:Hid _:=on_trans HB9.out hb9;clear hD hD9 hb9 cM2;go_wp2_with fail;refine cSm.mono ?_;rintro e wa ⟨rfl,hba⟩;have HBB:Hid _:=on_trans HBA.out hba;clear hba cSm;go_wp2_with fail;refine (cL _).mono ?_;rintro e wb ⟨rfl,hbb⟩;have hz:=HP.out wb (on_trans HBB.out hbb);clear hbb;go_wp2
 exact hz
end Go.Proofs.YthlaoaaafafafaaGreat
