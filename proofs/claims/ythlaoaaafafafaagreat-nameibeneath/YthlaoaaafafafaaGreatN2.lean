/- Ours. -/
import Derived.Test.YthlaoaaafafafaaGreatN1
import Derived.Test.YthlaoaaafafafaaGreatQ2
import Derived.Test.YthlaoaaafafafaaGreatQ3
import Derived.Deep.RegionWith
set_option maxRecDepth 100000
set_option maxHeartbeats 16000000
namespace Go.Proofs.YthlaoaaafafafaaGreat
open Go Go.RowKit Go.Maps
theorem at_of_P {w:World} {p:Option Addr} {l:List ByteArray} (h:P.At w p l):At w p (strV l):=by
 rcases h with rfl | ⟨b,off,rfl,hlt,hc⟩
 . exact .inl rfl
 . refine .inr ⟨b,off,rfl,Nat.zero_le _,hlt,fun j v hv => ?_⟩
   have hj:j < l.length:=by have:=(List.getElem?_eq_some_iff.1 hv).1;unfold strV at this;simpa using this
   rw [hc j hj];unfold strV at hv;rw [List.getElem?_map,List.getElem?_eq_getElem hj] at hv
   rw [<- hv,show l.getD j ByteArray.empty=l[j] by simp [List.getD,hj]]
   rfl
theorem at_to_P {w:World} {p:Option Addr} {l:List ByteArray} (h:At w p (strV l)):P.At w p l:=by
 rcases h with h | ⟨b,off,rfl,_,hlt,hc⟩
 . exact .inl (by unfold strV at h;simpa using h)
 . refine .inr ⟨b,off,rfl,hlt,fun j hj => ?_⟩
   refine hc j _ ?_
   unfold strV
   rw [List.getElem?_map,List.getElem?_eq_getElem hj,show l.getD j ByteArray.empty=l[j] by simp [List.getD,hj]]
   rfl
def takeE (be:Bool) (t:ByteArray):Int:=if P.pE t ≠ 0 then P.pE t else if (P.pA t && be)=true then 93 else 0
structure WkAt (w0:World) (wb fb:Nat) (be fo pa:Bool) (dir:Int) (left:List ByteArray) (slash:Bool) (links steps:Int) (w:World):Prop where
 on:Below w0.heap.size w0 w
 lo:w0.heap.size<=wb
 box:∃ p c,Blk w wb 57 (wkC fb be fo pa dir (.slice p left.length c) slash links steps)/\At w p (strV left)/\left.length<=c
theorem At.wk {w w':World} {wb fb:Nat} {be fo pa:Bool} {dir:Int} {lv:Value} {slash:Bool} {links steps:Int} {p:Option Addr} {l:List ByteArray} (h:At w p (strV l)) (hx:Blk w wb 57 (wkC fb be fo pa dir lv slash links steps)) (hl:∀ x:ByteArray,lv ≠ .string x) (hb:But wb w w'):At w' p (strV l):=by
 rcases h with h | ⟨b,off,rfl,h1,hlt,hc⟩
 . exact .inl h
 . by_cases hne:l=[]
   . subst hne;exact .inl rfl
   . refine .inr ⟨b,off,rfl,h1,by rw [hb.size];exact hlt,fun j v hv => ?_⟩
     have hbw:b ≠ wb:=fun e=>by
      obtain ⟨x,r,rfl⟩:=List.exists_cons_of_ne_nil hne;have h7:=hc 0 (.string x) rfl;rw [e,Nat.add_zero] at h7
      simp only [World.cell?,hx.row] at h7
      match off,h7 with
      | 0,h7 | 1,h7 | 2,h7 | 3,h7 | 4,h7 | 6,h7 | 7,h7 | 8,h7=>simp [wkC] at h7
      | 5,h7 =>
       have h8:lv=.string x:=by simpa [wkC] using h7
       exact hl x h8
      | k+9,h7=>simp [wkC] at h7
     rw [<- hc j v hv]
     simp only [World.cell?,hb.block b hbw]
structure CatOk (w2:World) (wb:Nat) (cs:List Value) (l:List ByteArray) (p':Option Addr) (c':Nat) (w':World):Prop where
 on:Below w2.heap.size w2 w'
 box:Blk w' wb 57 cs
 left:At w' p' (strV l)
 cap:l.length<=c'
theorem cat8 {w2:World} {wb:Nat} {cs:List Value} {p1 p:Option Addr} {c1 cp:Nat} {l1 left:List ByteArray} {v:Value} (hx:Blk w2 wb 57 cs) (hv:cs[5]? = some v) (h1:At w2 p1 (strV l1)) (h2:At w2 p (strV left)) (hl1:l1.length<=5000) (hl:left.length<=5000) :
 Calls Tryz.prog 64 #[.slice (some ⟨w2.heap.size,0,none⟩) 2 2] (w2.alloc (.cells #[.slice p1 l1.length c1,.slice p left.length cp] 55)).drew fun e w' => ∃ p' c',e=.returned (.slice p' (l1 ++ left).length c')/\w'.cell? ⟨wb,5,none⟩=some v/\w'.frozen? ⟨wb,5,none⟩=false/\CatOk w2 wb cs (l1 ++ left) p' c' w':=by
 have hb:=on_drew (on_alloc w2 (.cells #[.slice p1 l1.length c1,.slice p left.length cp] 55))
 refine (P.concat_any w2.heap.size p1 p c1 cp l1 left (w2.alloc (.cells #[.slice p1 l1.length c1,.slice p left.length cp] 55)).drew hl1 hl ⟨World.alloc_heap_new w2 _,at_to_P (h1.on hb),at_to_P (h2.on hb)⟩).mono ?_
 rintro e w' ⟨hb',p',c',rfl,hat,hcap⟩;have hb2:=on_trans hb hb'
 exact ⟨p',c',rfl,(hx.on hb2).cell 5 hv,(hx.on hb2).free 5,hb2,hx.on hb2,at_of_P hat.at,hcap⟩
theorem CatOk.wk {w0 w2 w':World} {wb fb:Nat} {be fo pa:Bool} {dir:Int} {lv:Value} {slash:Bool} {links steps:Int} {l:List ByteArray} {p':Option Addr} {c':Nat} (h:CatOk w2 wb (wkC fb be fo pa dir lv slash links steps) l p' c' w') (hv:∀ x:ByteArray,lv ≠ .string x) (h0:Below w0.heap.size w0 w2) (hlo:w0.heap.size<=wb):WkAt w0 wb fb be fo pa dir l slash links steps (w'.setCell ⟨wb,5,none⟩ (.slice p' l.length c')) :=
 ⟨below_but (h0.trans (h.on.mono h0.size)) (but_set _ _ _ _) hlo,hlo,p',c',h.box.set 5 _,h.left.wk h.box hv (but_set _ _ _ _),h.cap⟩
def takeD (dir:Int) (t:ByteArray):Int:=if P.pA t=true then 1 else dir
def takeS (left:List ByteArray) (slash:Bool) (t:ByteArray):Bool:=if left=[] then slash || P.pD t else slash
def TakePost (w0:World) (wb fb:Nat) (be fo pa:Bool) (dir:Int) (left:List ByteArray) (slash:Bool) (links steps:Int) (t:ByteArray) (w:World) (e:Ending) (w':World):Prop :=
 e=.returned (.int .i64 (takeE be t))/\Below w0.heap.size w0 w'/\Own1 wb w w'/\(takeE be t=0->WkAt w0 wb fb be fo pa (takeD dir t) (P.pL t ++ left) (takeS left slash t) links steps w')
theorem parts_few {t:ByteArray} (h:P.pE t=0):(P.pL t).length<=257:=by
 unfold P.pL;rw [if_pos h];have:=P.parts_len t;have:=(P.pE_ok h).2.1
 omega
theorem take8 {w0 w:World} {wb fb:Nat} {be fo pa:Bool} {dir:Int} {left:List ByteArray} {slash:Bool} {links steps:Int} (h:WkAt w0 wb fb be fo pa dir left slash links steps w) (hl:left.length<=4000) (t:ByteArray) (ht:t.size<=9223372036854775807):Calls Tryz.prog 22 #[ptr wb,.string t] w (TakePost w0 wb fb be fo pa dir left slash links steps t w):=by
 have c1:=P.parse_any t w ht;obtain ⟨hon,hlo,p,cp,hx,hat,hcp⟩:=h
 have HX:Hid (∀ W,Below w.heap.size w W->Blk W wb 57 (wkC fb be fo pa dir (.slice p left.length cp) slash links steps)/\At W p (strV left)):=fun W hb=>⟨hx.on hb,hat.on hb⟩
 have HB:Hid (∀ W,Below w.heap.size w W->Below w0.heap.size w0 W):=fun W hb=>hon.trans (hb.mono hon.size)
 have HW:Hid (w0.heap.size<=wb/\wb < w.heap.size/\w0.heap.size<=w.heap.size/\left.length<=4000/\left.length<=cp):=⟨hlo,hx.lt,hon.size,hl,hcp⟩
 have HPE:Hid (∀ E w',takeE be t=E->E ≠ 0->Below w0.heap.size w0 w'->Own1 wb w w'->TakePost w0 wb fb be fo pa dir left slash links steps t w (.returned (.int .i64 E)) w'):=fun E w' h1 h2 h3 h4=>⟨by rw [h1],h3,h4,fun h7=>absurd (h1.symm.trans h7) h2⟩
 have HPO:Hid (∀ w',takeE be t=0->WkAt w0 wb fb be fo pa (takeD dir t) (P.pL t ++ left) (takeS left slash t) links steps w'->Own1 wb w w'->TakePost w0 wb fb be fo pa dir left slash links steps t w (.returned (.int .i64 0)) w'):=fun w' h1 h2 h3=>⟨by rw [h1],h2.on,h3,fun _=>h2⟩
 generalize TakePost w0 wb fb be fo pa dir left slash links steps t w=Post at *
 have HE:Hid (takeE be t=if P.pE t ≠ 0 then P.pE t else if (P.pA t && be)=true then 93 else 0):=rfl
 have HD:Hid (takeD dir t=if P.pA t=true then 1 else dir):=rfl
 have HS:Hid (takeS left slash t=if left=[] then slash || P.pD t else slash):=rfl
 have HF:Hid (P.pE t=0->(P.pL t).length<=257):=parts_few;clear hx hat hon hlo hl hcp;generalize takeE be t=tE at *;generalize takeD dir t=tD at *;generalize takeS left slash t=tS at *;generalize P.pA t=A at *;generalize P.pD t=D at *;generalize P.pL t=l1 at *;generalize P.pE t=E at *;go_enter Tryz.func22,Tryz.ntmps22;go_wp2_with fail;refine c1.mono ?_;rintro e w1 ⟨hb1,p1,c1',rfl,hat1,hc1⟩;have hA:=Blk.new w1 61 [.bool A,.bool D,.slice p1 l1.length c1']
 have hab:=on_alloc w1 (.cells [.bool A,.bool D,.slice p1 l1.length c1'].toArray 61);have HA:Hid _:=hA;have HAB:Hid _:=hab;have HB1:Hid (Below w.heap.size w (w1.alloc (.cells [.bool A,.bool D,.slice p1 l1.length c1'].toArray 61))):=on_trans hb1 hab;have HAT1:Hid (At (w1.alloc (.cells [.bool A,.bool D,.slice p1 l1.length c1'].toArray 61)) p1 (strV l1)):=(at_of_P hat1.at).on hab;have HG:Hid (wb < w1.heap.size):=Nat.lt_of_lt_of_le HW.out.2.1 hb1.size;clear hA hab hat1 hb1
 by_cases hE:E=0
 . subst hE
   rw [if_neg (by simp)] at HE
   cases hAb:(A && be) with
   | true =>
    rw [hAb,if_pos rfl] at HE
    have hA1:A=true:=by revert hAb;cases A <;> simp
    have hA2:be=true:=by revert hAb;cases be <;> simp
    subst A;subst be;have y1:=(HX.out _ HB1.out).1.cell 1 rfl
    have hz:=HPE.out _ (w1.alloc (.cells #[.bool true,.bool D,.slice p1 l1.length c1'] 61)) HE.out (by omega) (HB.out _ HB1.out) ((Own1.refl wb w).below HB1.out)
    go_wp2
    exact hz
   | false =>
    rw [hAb,if_neg (by simp)] at HE
    obtain ⟨hx1,hat1⟩:=HX.out _ HB1.out;have hn1:=HF.out rfl;have y1:=hx1.cell 1 rfl;have y4:=hx1.cell 4 rfl;have f4:=hx1.free 4;have y5:=hx1.cell 5 rfl;have y6:=hx1.cell 6 rfl;have f6:=hx1.free 6;have a0:=HA.out.cell 0 rfl;have a1:=HA.out.cell 1 rfl;have a2:=HA.out.cell 2 rfl
    have hAc:A=false ∨ (A=true/\be=false):=by revert hAb;cases A <;> simp
    by_cases hl0:left=[]
    . rw [if_pos hl0] at HS
      have hlz:((left.length:Int) == 0)=true:=by rw [hl0];rfl
      clear hl0
      rcases hAc with rfl | ⟨rfl,rfl⟩
      . rw [if_neg (by simp)] at HD
        cases hsl:slash with
        | true =>
         subst slash;have hx2:=hx1;have hq2:=hat1;have hr2:=HAT1.out;have ha2:=HA.out;have hb2:=HB.out _ HB1.out;have ho2:=(Own1.refl wb w).below HB1.out;have hq3:=hq2;have hr3:=hr2;have ha3:=ha2;have hb3:=hb2;have ho3:=ho2;have hx3:=hx2;have hbu:=but_set (w1.alloc (.cells #[.bool false,.bool D,.slice p1 l1.length c1'] 61)) wb 6 (.bool true)
         have hq4:=hq3.wk hx3 (fun _=>by simp) hbu
         have hr4:=hr3.wk hx3 (fun _=>by simp) hbu
         have ha4:=ha3.but hbu (by have:=HG.out;omega)
         have hb4:=below_but hb3 hbu HW.out.1;have ho4:=ho3.but hbu;have hx4:Blk ((w1.alloc (.cells #[.bool false,.bool D,.slice p1 l1.length c1'] 61)).setCell ⟨wb,6,none⟩ (.bool true)) wb 57 (wkC fb be fo pa dir (.slice p left.length cp) true links steps):=hx3.set 6 (.bool true);have y5c:=hx4.cell 5 rfl;have a2c:=ha4.cell 2 rfl;go_wp2
         have cC:=cat8 (c1:=c1') (cp:=cp) hx4 rfl hr4 hq4 (by omega) (by have:=HW.out;omega)
         have HB4:Hid _:=hb4;have HO4:Hid _:=ho4;clear ho2 ho3 ho4;clear hx1 hx2 hx3 hq2 hq3 hr2 hr3 ha2 hb2 hb3 hat1 hb4;generalize (w1.alloc (.cells #[.bool false,.bool D,.slice p1 l1.length c1'] 61)).setCell ⟨wb,6,none⟩ (.bool true)=w2 at *
         go_region_with (go_at_call 64;refine cC.mono ?_;rintro e w' ⟨p',c',rfl,z5,z5f,hok⟩)
         all_goals
          have hz:=HPO.out (w'.setCell ⟨wb,5,none⟩ (.slice p' (l1 ++ left).length c')) HE.out (by rw [HD.out,HS.out];exact hok.wk (fun _=>by simp) HB4.out HW.out.1) ((HO4.out.below hok.on).but (but_set _ _ _ _))
          rw [List.length_append] at hz;go_wp2
          exact hz
        | false =>
         subst slash;have hx2:=hx1;have hq2:=hat1;have hr2:=HAT1.out;have ha2:=HA.out;have hb2:=HB.out _ HB1.out;have ho2:=(Own1.refl wb w).below HB1.out;have hq3:=hq2;have hr3:=hr2;have ha3:=ha2;have hb3:=hb2;have ho3:=ho2;have hx3:=hx2;have hbu:=but_set (w1.alloc (.cells #[.bool false,.bool D,.slice p1 l1.length c1'] 61)) wb 6 (.bool D)
         have hq4:=hq3.wk hx3 (fun _=>by simp) hbu
         have hr4:=hr3.wk hx3 (fun _=>by simp) hbu
         have ha4:=ha3.but hbu (by have:=HG.out;omega)
         have hb4:=below_but hb3 hbu HW.out.1;have ho4:=ho3.but hbu;have hx4:Blk ((w1.alloc (.cells #[.bool false,.bool D,.slice p1 l1.length c1'] 61)).setCell ⟨wb,6,none⟩ (.bool D)) wb 57 (wkC fb be fo pa dir (.slice p left.length cp) D links steps):=hx3.set 6 (.bool D);have y5c:=hx4.cell 5 rfl;have a2c:=ha4.cell 2 rfl;go_wp2
         have cC:=cat8 (c1:=c1') (cp:=cp) hx4 rfl hr4 hq4 (by omega) (by have:=HW.out;omega)
         have HB4:Hid _:=hb4;have HO4:Hid _:=ho4;clear ho2 ho3 ho4;clear hx1 hx2 hx3 hq2 hq3 hr2 hr3 ha2 hb2 hb3 hat1 hb4;generalize (w1.alloc (.cells #[.bool false,.bool D,.slice p1 l1.length c1'] 61)).setCell ⟨wb,6,none⟩ (.bool D)=w2 at *
         go_region_with (go_at_call 64;refine cC.mono ?_;rintro e w' ⟨p',c',rfl,z5,z5f,hok⟩)
         all_goals
          have hz:=HPO.out (w'.setCell ⟨wb,5,none⟩ (.slice p' (l1 ++ left).length c')) HE.out (by rw [HD.out,HS.out];exact hok.wk (fun _=>by simp) HB4.out HW.out.1) ((HO4.out.below hok.on).but (but_set _ _ _ _))
          rw [List.length_append] at hz;go_wp2
          exact hz
      . rw [if_pos rfl] at HD
        cases hsl:slash with
        | true =>
         subst slash;have hx2:=hx1;have hq2:=hat1;have hr2:=HAT1.out;have ha2:=HA.out;have hb2:=HB.out _ HB1.out;have ho2:=(Own1.refl wb w).below HB1.out;have hbt:=but_set (w1.alloc (.cells #[.bool true,.bool D,.slice p1 l1.length c1'] 61)) wb 4 (.int .i64 1)
         have hq3:=hq2.wk hx2 (fun _=>by simp) hbt
         have hr3:=hr2.wk hx2 (fun _=>by simp) hbt
         have ha3:=ha2.but hbt (by have:=HG.out;omega)
         have hb3:=below_but hb2 hbt HW.out.1;have ho3:=ho2.but hbt;have hx3:Blk ((w1.alloc (.cells #[.bool true,.bool D,.slice p1 l1.length c1'] 61)).setCell ⟨wb,4,none⟩ (.int .i64 1)) wb 57 (wkC fb false fo pa 1 (.slice p left.length cp) true links steps):=hx2.set 4 (.int .i64 1);have y5b:=hx3.cell 5 rfl;have y6b:=hx3.cell 6 rfl;have f6b:=hx3.free 6;have a1b:=ha3.cell 1 rfl;have a2b:=ha3.cell 2 rfl;have hbu:=but_set ((w1.alloc (.cells #[.bool true,.bool D,.slice p1 l1.length c1'] 61)).setCell ⟨wb,4,none⟩ (.int .i64 1)) wb 6 (.bool true)
         have hq4:=hq3.wk hx3 (fun _=>by simp) hbu
         have hr4:=hr3.wk hx3 (fun _=>by simp) hbu
         have ha4:=ha3.but hbu (by have:=HG.out;omega)
         have hb4:=below_but hb3 hbu HW.out.1;have ho4:=ho3.but hbu;have hx4:Blk (((w1.alloc (.cells #[.bool true,.bool D,.slice p1 l1.length c1'] 61)).setCell ⟨wb,4,none⟩ (.int .i64 1)).setCell ⟨wb,6,none⟩ (.bool true)) wb 57 (wkC fb false fo pa 1 (.slice p left.length cp) true links steps):=hx3.set 6 (.bool true);have y5c:=hx4.cell 5 rfl;have a2c:=ha4.cell 2 rfl;go_wp2
         have cC:=cat8 (c1:=c1') (cp:=cp) hx4 rfl hr4 hq4 (by omega) (by have:=HW.out;omega)
         have HB4:Hid _:=hb4;have HO4:Hid _:=ho4;clear ho2 ho3 ho4;clear hx1 hx2 hx3 hq2 hq3 hr2 hr3 ha2 hb2 hb3 hat1 hb4;generalize ((w1.alloc (.cells #[.bool true,.bool D,.slice p1 l1.length c1'] 61)).setCell ⟨wb,4,none⟩ (.int .i64 1)).setCell ⟨wb,6,none⟩ (.bool true)=w2 at *
         go_region_with (go_at_call 64;refine cC.mono ?_;rintro e w' ⟨p',c',rfl,z5,z5f,hok⟩)
         all_goals
          have hz:=HPO.out (w'.setCell ⟨wb,5,none⟩ (.slice p' (l1 ++ left).length c')) HE.out (by rw [HD.out,HS.out];exact hok.wk (fun _=>by simp) HB4.out HW.out.1) ((HO4.out.below hok.on).but (but_set _ _ _ _))
          rw [List.length_append] at hz;go_wp2
          exact hz
        | false =>
         subst slash;have hx2:=hx1;have hq2:=hat1;have hr2:=HAT1.out;have ha2:=HA.out;have hb2:=HB.out _ HB1.out;have ho2:=(Own1.refl wb w).below HB1.out;have hbt:=but_set (w1.alloc (.cells #[.bool true,.bool D,.slice p1 l1.length c1'] 61)) wb 4 (.int .i64 1)
         have hq3:=hq2.wk hx2 (fun _=>by simp) hbt
         have hr3:=hr2.wk hx2 (fun _=>by simp) hbt
         have ha3:=ha2.but hbt (by have:=HG.out;omega)
         have hb3:=below_but hb2 hbt HW.out.1;have ho3:=ho2.but hbt;have hx3:Blk ((w1.alloc (.cells #[.bool true,.bool D,.slice p1 l1.length c1'] 61)).setCell ⟨wb,4,none⟩ (.int .i64 1)) wb 57 (wkC fb false fo pa 1 (.slice p left.length cp) false links steps):=hx2.set 4 (.int .i64 1);have y5b:=hx3.cell 5 rfl;have y6b:=hx3.cell 6 rfl;have f6b:=hx3.free 6;have a1b:=ha3.cell 1 rfl;have a2b:=ha3.cell 2 rfl;have hbu:=but_set ((w1.alloc (.cells #[.bool true,.bool D,.slice p1 l1.length c1'] 61)).setCell ⟨wb,4,none⟩ (.int .i64 1)) wb 6 (.bool D)
         have hq4:=hq3.wk hx3 (fun _=>by simp) hbu
         have hr4:=hr3.wk hx3 (fun _=>by simp) hbu
         have ha4:=ha3.but hbu (by have:=HG.out;omega)
         have hb4:=below_but hb3 hbu HW.out.1;have ho4:=ho3.but hbu;have hx4:Blk (((w1.alloc (.cells #[.bool true,.bool D,.slice p1 l1.length c1'] 61)).setCell ⟨wb,4,none⟩ (.int .i64 1)).setCell ⟨wb,6,none⟩ (.bool D)) wb 57 (wkC fb false fo pa 1 (.slice p left.length cp) D links steps):=hx3.set 6 (.bool D);have y5c:=hx4.cell 5 rfl;have a2c:=ha4.cell 2 rfl;go_wp2
         have cC:=cat8 (c1:=c1') (cp:=cp) hx4 rfl hr4 hq4 (by omega) (by have:=HW.out;omega)
         have HB4:Hid _:=hb4;have HO4:Hid _:=ho4;clear ho2 ho3 ho4;clear hx1 hx2 hx3 hq2 hq3 hr2 hr3 ha2 hb2 hb3 hat1 hb4;generalize ((w1.alloc (.cells #[.bool true,.bool D,.slice p1 l1.length c1'] 61)).setCell ⟨wb,4,none⟩ (.int .i64 1)).setCell ⟨wb,6,none⟩ (.bool D)=w2 at *
         go_region_with (go_at_call 64;refine cC.mono ?_;rintro e w' ⟨p',c',rfl,z5,z5f,hok⟩)
         all_goals
          have hz:=HPO.out (w'.setCell ⟨wb,5,none⟩ (.slice p' (l1 ++ left).length c')) HE.out (by rw [HD.out,HS.out];exact hok.wk (fun _=>by simp) HB4.out HW.out.1) ((HO4.out.below hok.on).but (but_set _ _ _ _))
          rw [List.length_append] at hz;go_wp2
          exact hz
    . rw [if_neg hl0] at HS
      have hlz:((left.length:Int) == 0)=false:=by
       rw [beq_eq_false_iff_ne];have:=List.length_pos_iff.2 hl0
       omega
      rcases hAc with rfl | ⟨rfl,rfl⟩
      . rw [if_neg (by simp)] at HD
        have hx2:=hx1;have hq2:=hat1;have hr2:=HAT1.out;have ha2:=HA.out;have hb2:=HB.out _ HB1.out;have ho2:=(Own1.refl wb w).below HB1.out;have hq3:=hq2;have hr3:=hr2;have ha3:=ha2;have hb3:=hb2;have ho3:=ho2;have hx3:=hx2;have hq4:=hq3;have hr4:=hr3;have ha4:=ha3;have hb4:=hb3;have ho4:=ho3;have hx4:=hx3;go_wp2
        have cC:=cat8 (c1:=c1') (cp:=cp) hx4 rfl hr4 hq4 (by omega) (by have:=HW.out;omega)
        have HB4:Hid _:=hb4;have HO4:Hid _:=ho4;clear ho2 ho3 ho4;clear hx1 hx2 hx3 hq2 hq3 hr2 hr3 ha2 hb2 hb3 hat1 hb4;generalize w1.alloc (.cells #[.bool false,.bool D,.slice p1 l1.length c1'] 61)=w2 at *
        go_region_with (go_at_call 64;refine cC.mono ?_;rintro e w' ⟨p',c',rfl,z5,z5f,hok⟩)
        all_goals
         have hz:=HPO.out (w'.setCell ⟨wb,5,none⟩ (.slice p' (l1 ++ left).length c')) HE.out (by rw [HD.out,HS.out];exact hok.wk (fun _=>by simp) HB4.out HW.out.1) ((HO4.out.below hok.on).but (but_set _ _ _ _))
         rw [List.length_append] at hz;go_wp2
         exact hz
      . rw [if_pos rfl] at HD;have hx2:=hx1;have hq2:=hat1;have hr2:=HAT1.out;have ha2:=HA.out;have hb2:=HB.out _ HB1.out;have ho2:=(Own1.refl wb w).below HB1.out;have hbt:=but_set (w1.alloc (.cells #[.bool true,.bool D,.slice p1 l1.length c1'] 61)) wb 4 (.int .i64 1)
        have hq3:=hq2.wk hx2 (fun _=>by simp) hbt
        have hr3:=hr2.wk hx2 (fun _=>by simp) hbt
        have ha3:=ha2.but hbt (by have:=HG.out;omega)
        have hb3:=below_but hb2 hbt HW.out.1;have ho3:=ho2.but hbt;have hx3:Blk ((w1.alloc (.cells #[.bool true,.bool D,.slice p1 l1.length c1'] 61)).setCell ⟨wb,4,none⟩ (.int .i64 1)) wb 57 (wkC fb false fo pa 1 (.slice p left.length cp) slash links steps):=hx2.set 4 (.int .i64 1);have y5b:=hx3.cell 5 rfl;have y6b:=hx3.cell 6 rfl;have f6b:=hx3.free 6;have a1b:=ha3.cell 1 rfl;have a2b:=ha3.cell 2 rfl;have hq4:=hq3;have hr4:=hr3;have ha4:=ha3;have hb4:=hb3
        have ho4:=ho3;have hx4:=hx3;go_wp2
        have cC:=cat8 (c1:=c1') (cp:=cp) hx4 rfl hr4 hq4 (by omega) (by have:=HW.out;omega)
        have HB4:Hid _:=hb4;have HO4:Hid _:=ho4;clear ho2 ho3 ho4;clear hx1 hx2 hx3 hq2 hq3 hr2 hr3 ha2 hb2 hb3 hat1 hb4;generalize (w1.alloc (.cells #[.bool true,.bool D,.slice p1 l1.length c1'] 61)).setCell ⟨wb,4,none⟩ (.int .i64 1)=w2 at *
        go_region_with (go_at_call 64;refine cC.mono ?_;rintro e w' ⟨p',c',rfl,z5,z5f,hok⟩)
        all_goals
         have hz:=HPO.out (w'.setCell ⟨wb,5,none⟩ (.slice p' (l1 ++ left).length c')) HE.out (by rw [HD.out,HS.out];exact hok.wk (fun _=>by simp) HB4.out HW.out.1) ((HO4.out.below hok.on).but (but_set _ _ _ _))
         rw [List.length_append] at hz;go_wp2
         exact hz
 . rw [if_pos hE] at HE
   have hEb:(E != 0)=true:=by simpa using hE
   have hz:=HPE.out _ (w1.alloc (.cells #[.bool A,.bool D,.slice p1 l1.length c1'] 61)) HE.out hE (HB.out _ HB1.out) ((Own1.refl wb w).below HB1.out);go_wp2
   exact hz
def fd0 : List Value:=fdC 0 ByteArray.empty 0 false 0
def thru (s:SS) (ino:Int) (last fo slash:Bool):Bool:=tgtB s ino && (!last || fo || slash)
def goG (s:SS) (U:Int->Int) (be fo pa:Bool) (nx:Option (List ByteArray->Int->Bool->Nat->List Value × Int)):List ByteArray->Int->Bool->Nat->List Value × Int
 | [],dir,slash,steps=>(fdC dir ByteArray.empty dir slash steps,0)
 | part :: rest,dir,slash,steps =>
  if lkE s be pa dir part rest.isEmpty ≠ 0 then (fd0,lkE s be pa dir part rest.isEmpty)
  else if thru s (lkN s U be pa dir part rest.isEmpty) rest.isEmpty fo slash=true then
   match nx with
   | none=>(fd0,62)
   | some f=>if takeE be (tgtT s (lkN s U be pa dir part rest.isEmpty)) ≠ 0 then (fd0,takeE be (tgtT s (lkN s U be pa dir part rest.isEmpty))) else f (P.pL (tgtT s (lkN s U be pa dir part rest.isEmpty)) ++ rest) (takeD dir (tgtT s (lkN s U be pa dir part rest.isEmpty))) (takeS rest slash (tgtT s (lkN s U be pa dir part rest.isEmpty))) (steps+1)
  else if rest.isEmpty=true then (endV s dir part (lkN s U be pa dir part rest.isEmpty) slash ((steps+1:Nat):Int),endE s part (lkN s U be pa dir part rest.isEmpty) slash)
  else goG s U be fo pa nx rest (lkN s U be pa dir part rest.isEmpty) slash (steps+1)
def goF (s:SS) (U:Int->Int) (be fo pa:Bool):Nat->List ByteArray->Int->Bool->Nat->List Value × Int
 | 0=>goG s U be fo pa none
 | k+1=>goG s U be fo pa (some (goF s U be fo pa k))
theorem goF_is_G (s:SS) (U:Int->Int) (be fo pa:Bool) (k:Nat):∃ nx,goF s U be fo pa k=goG s U be fo pa nx:=by
 cases k with
 | zero=>exact ⟨_,rfl⟩
 | succ k=>exact ⟨_,rfl⟩
theorem goF_nil (s:SS) (U:Int->Int) (be fo pa:Bool) (k:Nat) (dir:Int) (slash:Bool) (steps:Nat):goF s U be fo pa k [] dir slash steps=(fdC dir ByteArray.empty dir slash steps,0):=by
 cases k <;> rfl
section
variable {s : SS} {U:Int->Int} {be fo pa:Bool} {k:Nat} {part:ByteArray} {rest:List ByteArray} {dir:Int} {slash:Bool} {steps:Nat} {ino:Int}
theorem goF_err (h:lkE s be pa dir part rest.isEmpty ≠ 0):goF s U be fo pa k (part :: rest) dir slash steps=(fd0,lkE s be pa dir part rest.isEmpty):=by
 obtain ⟨nx,e⟩:=goF_is_G s U be fo pa k;rw [e]
 exact if_pos h
theorem goF_loop (h:lkE s be pa dir part rest.isEmpty=0) (ht:thru s (lkN s U be pa dir part rest.isEmpty) rest.isEmpty fo slash=true):goF s U be fo pa 0 (part :: rest) dir slash steps=(fd0,62):=by
 show goG s U be fo pa none (part :: rest) dir slash steps=_
 unfold goG
 rw [if_neg (by simp [h]),if_pos ht]
theorem goF_bad (h:lkE s be pa dir part rest.isEmpty=0) (hn:lkN s U be pa dir part rest.isEmpty=ino) (ht:thru s ino rest.isEmpty fo slash=true) (he:takeE be (tgtT s ino) ≠ 0):goF s U be fo pa (k+1) (part :: rest) dir slash steps=(fd0,takeE be (tgtT s ino)):=by
 show goG s U be fo pa (some (goF s U be fo pa k)) (part :: rest) dir slash steps=_
 unfold goG
 rw [hn,if_neg (by simp [h]),if_pos ht]
 exact if_pos he
theorem goF_link (h:lkE s be pa dir part rest.isEmpty=0) (hn:lkN s U be pa dir part rest.isEmpty=ino) (ht:thru s ino rest.isEmpty fo slash=true) (he:takeE be (tgtT s ino)=0):goF s U be fo pa (k+1) (part :: rest) dir slash steps=goF s U be fo pa k (P.pL (tgtT s ino) ++ rest) (takeD dir (tgtT s ino)) (takeS rest slash (tgtT s ino)) (steps+1):=by
 show goG s U be fo pa (some (goF s U be fo pa k)) (part :: rest) dir slash steps=_
 unfold goG
 rw [hn,if_neg (by simp [h]),if_pos ht]
 exact if_neg (by simp [he])
theorem goF_last (h:lkE s be pa dir part true=0) (hn:lkN s U be pa dir part true=ino) (ht:thru s ino true fo slash=false):goF s U be fo pa k [part] dir slash steps=(endV s dir part ino slash ((steps+1:Nat):Int),endE s part ino slash):=by
 obtain ⟨nx,e⟩:=goF_is_G s U be fo pa k;rw [e];unfold goG
 simp only [List.isEmpty_nil,hn]
 rw [if_neg (by simp [h]),if_neg (by simp [ht])]
 rfl
theorem goF_more (hr:rest ≠ []) (h:lkE s be pa dir part false=0) (hn:lkN s U be pa dir part false=ino) (ht:thru s ino false fo slash=false):goF s U be fo pa k (part :: rest) dir slash steps=goF s U be fo pa k rest ino slash (steps+1):=by
 have he:rest.isEmpty=false:=by cases rest with | nil=>exact absurd rfl hr | cons a r=>rfl
 obtain ⟨nx,e⟩:=goF_is_G s U be fo pa k;rw [e]
 conv=>lhs;unfold goG
 simp only [he,hn]
 rw [if_neg (by simp [h]),if_neg (by simp [ht])]
 simp
end
def ThPost (w0:World) (wb fb:Nat) (be fo pa:Bool) (dir:Int) (left:List ByteArray) (slash:Bool) (links steps:Int) (t:ByteArray) (w:World) (e:Ending) (w':World):Prop :=
 e=.returned (.int .i64 (if links=8 then 62 else takeE be t))/\Below w0.heap.size w0 w'/\Own1 wb w w'/\(links ≠ 8->takeE be t=0->WkAt w0 wb fb be fo pa (takeD dir t) (P.pL t ++ left) (takeS left slash t) (links+1) steps w')
theorem through8 {w0 w:World} {wb fb:Nat} {be fo pa:Bool} {dir:Int} {left:List ByteArray} {slash:Bool} {links steps:Int} (h:WkAt w0 wb fb be fo pa dir left slash links steps w) (hl:left.length<=4000) (hk:0<=links/\links<=8) (t:ByteArray) (ht:t.size<=9223372036854775807):Calls Tryz.prog 67 #[ptr wb,.string t] w (ThPost w0 wb fb be fo pa dir left slash links steps t w):=by
 obtain ⟨hon,hlo,p,cp,hx,hat,hcp⟩:=h;have x7:=hx.cell 7 rfl;have f7:=hx.free 7
 have HC:Hid (Calls Tryz.prog 22 #[ptr wb,.string t] (w.setCell ⟨wb,7,none⟩ (.int .i64 (links+1))) (TakePost w0 wb fb be fo pa dir left slash (links+1) steps t (w.setCell ⟨wb,7,none⟩ (.int .i64 (links+1))))) :=
  take8 ⟨below_but hon (but_set _ _ _ _) hlo,hlo,p,cp,hx.set 7 _,hat.wk hx (fun _=>by simp) (but_set _ _ _ _),hcp⟩ hl t ht
 have HP1:Hid (links=8->ThPost w0 wb fb be fo pa dir left slash links steps t w (.returned (.int .i64 62)) w):=fun e=>⟨by rw [if_pos e],hon,Own1.refl _ _,fun h7=>absurd e h7⟩
 have HP2:Hid (links ≠ 8->∀ w',TakePost w0 wb fb be fo pa dir left slash (links+1) steps t (w.setCell ⟨wb,7,none⟩ (.int .i64 (links+1))) (.returned (.int .i64 (takeE be t))) w'->ThPost w0 wb fb be fo pa dir left slash links steps t w (.returned (.int .i64 (takeE be t))) w'):=fun e w' ⟨_,h2,h3,h4⟩=>⟨by rw [if_neg e],h2,((Own1.refl wb w).but (but_set _ _ _ _)).trans h3,fun _ h7=>h4 h7⟩
 generalize ThPost w0 wb fb be fo pa dir left slash links steps t w=Post at *;clear hx hat hon
 by_cases h8:links=8
 . subst h8;have hz:=HP1.out rfl;go_enter Tryz.func67,Tryz.ntmps67;go_wp2
   exact hz
 . have h8b:(links == 8)=false:=by simpa using h8
   have HP3:Hid _:=HP2.out h8;have cT:=HC.out;clear HP1 HP2 HC h8;go_enter Tryz.func67,Tryz.ntmps67;go_wp2_with fail;refine cT.mono ?_;rintro e w1 ⟨rfl,h1⟩;have hz:=HP3.out w1 ⟨rfl,h1⟩;clear h1;go_wp2
   exact hz
end Go.Proofs.YthlaoaaafafafaaGreat
