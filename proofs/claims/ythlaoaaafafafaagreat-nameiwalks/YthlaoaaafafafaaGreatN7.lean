/- Ours. -/
import Derived.Test.YthlaoaaafafafaaGreatN4
import Derived.Test.YthlaoaaafafafaaGreatN6
set_option maxRecDepth 100000
set_option maxHeartbeats 16000000
namespace Go.Proofs.YthlaoaaafafafaaGreat
open Go Go.RowKit Go.Maps
theorem walks_walk (pa:Option Addr) (ca:Nat) (l:List Act7) (t:ByteArray) (st:Int) (be fo pr:Bool) (w:World) (_hca:l.length<=ca) (_hla:l.length<=9223372036854775807) (hat:At w pa (actsV7 l)) (hok:∀ x ∈ l,Act7Ok x) (ht:t.size<=maxLen) (hst:(Lit.int .i64 st).wf=true) :
 Calls Tryz.prog 3 #[.slice pa l.length ca,.string t,.agg #[.int .i64 st,.bool be,.bool fo,.bool pr]] w fun e w'=>e=.returned (.bool true)/\Below w.heap.size w w':=by
 have hb0:=on_alloc w (.cells #[.int .i64 st,.bool be,.bool fo,.bool pr] 26);have HX:Hid _:=Blk.new w 26 [.int .i64 st,.bool be,.bool fo,.bool pr];have cT:=tree8 pa ca l _ (hat.on hb0) hok;have HB0:Hid _:=hb0
 have hts:t.size<=9223372036854775807:=by unfold maxLen at ht;omega
 have cS:=fun w=>short8 t w hts
 have cL:=lives8;have HST:Hid ((Lit.int .i64 st).wf=true):=hst
 have HP:Hid (∀ w',Below w.heap.size w w'->(fun e w'=>e=Ending.returned (.bool true)/\Below w.heap.size w w') (Ending.returned (.bool true)) w'):=fun w' h=>⟨rfl,h⟩
 generalize (fun e w'=>e=Ending.returned (.bool true)/\Below w.heap.size w w')=Post at *
 clear hat hok hst hb0 ht;go_enter Tryz.func3,Tryz.ntmps3;go_wp2_with fail;generalize w.alloc (.cells #[.int .i64 st,.bool be,.bool fo,.bool pr] 26)=w0 at *;refine cT.mono ?_;rintro e w1 ⟨fb,rb,s,U,rfl,hS,hR,hf,hB⟩;have HX2:Hid _:=HX.out.on hB;have HF:Hid (FsOk s U 161):=hf;have HS2:Hid _:=hS;have HRf:Hid _:=hR;have HB2:Hid (Below w.heap.size w w1):=on_trans HB0.out hB;clear cT hB hS hf hR HX HB0;go_wp2_with fail;refine (cS _).mono ?_;rintro e w3 ⟨t',rfl,ht',hw3⟩
 subst w3
 have HCW:Hid (∀ wx,Below w1.heap.size w1 wx->Calls Tryz.prog 10 #[ptr fb,.int .i64 st,.string t',.agg (howC be fo pr).toArray] wx (WalkPost (walkF s U be fo pr st t') wx)):=fun wx hb=>walk_any (FsAt.on HS2.out hb) HF.out.wf HF.out.tree (by omega) be fo pr st HST.out t' (by omega)
 have HCR:Hid (∀ wx,Below w1.heap.size w1 wx->Calls Tryz.prog 11 #[ptr rb,.int .i64 st,.string t',.agg (howC be fo pr).toArray] wx (WalkPost (walkF s U be fo pr st t') wx)):=fun wx hb=>rwalk8 (RefAt6.on HRf.out hb) HF.out be fo pr st t' (by omega)
 obtain ⟨z0,z1,z2,z3,z4,e1,_⟩:=walkF_is HF.out.wf U be fo pr st t';generalize walkF s U be fo pr st t'=R at *;obtain ⟨V,E⟩:=R
 simp only at e1
 subst e1;unfold howC at HCW HCR;unfold fdC at HCW HCR;have cW:=HCW.out w1 (Below.refl _ _);have x0:=HX2.out.cell 0 rfl;have x1:=HX2.out.cell 1 rfl;have x2:=HX2.out.cell 2 rfl;have x3:=HX2.out.cell 3 rfl;clear cS HCW;go_wp2_with fail;refine cW.mono ?_;rintro e w3 ⟨rfl,hb3⟩;have hb4:=on_trans hb3 (on_alloc w3 (.cells #[.int .i64 z0,.string z1,.int .i64 z2,.bool z3,.int .i64 (z4:Int)] 33));have HY4:Hid _:=Blk.new w3 33 [.int .i64 z0,.string z1,.int .i64 z2,.bool z3,.int .i64 (z4:Int)]
 have HB4:Hid _:=hb4;have cW2:=HCR.out _ hb4;have hX4:=HX2.out.on hb4;have y0:=hX4.cell 0 rfl;have y1:=hX4.cell 1 rfl;have y2:=hX4.cell 2 rfl;have y3:=hX4.cell 3 rfl;clear cW hb3 hb4 x0 x1 x2 x3 hX4 HCR;go_wp2_with fail;generalize w3.alloc (.cells #[.int .i64 z0,.string z1,.int .i64 z2,.bool z3,.int .i64 (z4:Int)] 33)=w4 at *;refine cW2.mono ?_;rintro e w5 ⟨rfl,hb5⟩;have hb6:=on_trans hb5 (on_alloc w5 (.cells #[.int .i64 z0,.string z1,.int .i64 z2,.bool z3,.int .i64 (z4:Int)] 33))
 have hY6:=HY4.out.on hb6;have hZ6:=Blk.new w5 33 [.int .i64 z0,.string z1,.int .i64 z2,.bool z3,.int .i64 (z4:Int)];have HB6:Hid (Below w.heap.size w (w5.alloc (.cells #[.int .i64 z0,.string z1,.int .i64 z2,.bool z3,.int .i64 (z4:Int)] 33))):=on_trans HB2.out (on_trans HB4.out hb6);have y0:=hY6.cell 0 rfl;have y1:=hY6.cell 1 rfl;have y2:=hY6.cell 2 rfl;have y3:=hY6.cell 3 rfl;have y4:=hY6.cell 4 rfl;have heq:=eq_found z0 z1 z2 z3 (z4:Int);clear cW2 hb5 hb6 hY6 hZ6 HY4 HB4 HX2
 go_wp2_with fail;refine (cL _).mono ?_;rintro e wb ⟨rfl,hbb⟩;have hz:=HP.out wb (on_trans HB6.out hbb);clear hbb;go_wp2
 exact hz
end Go.Proofs.YthlaoaaafafafaaGreat
