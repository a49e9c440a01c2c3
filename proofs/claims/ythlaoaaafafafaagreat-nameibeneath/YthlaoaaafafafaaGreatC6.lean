/- Ours. -/
import Derived.Test.YthlaoaaafafafaaGreatC2
import Derived.Test.YthlaoaaafafafaaGreatC3
set_option maxRecDepth 100000
set_option maxHeartbeats 16000000
namespace Go.Proofs.YthlaoaaafafafaaGreat
open Go Go.RowKit Go.Maps
theorem storeM_new (w:World) (n b:Int):StoreM (.up w.heap.size) ((w.alloc (.map #[] 0)).alloc (.cells #[.map (some w.heap.size),.int .i64 n,.int .i64 b,.int .i64 1] 142)) (w.heap.size+1) w.heap.size (.map []) (fun _ _=>False) [] n b 1:=by
 have hB:=Blk.new (w.alloc (.map #[] 0)) 142 [.map (some w.heap.size),.int .i64 n,.int .i64 b,.int .i64 1]
 rw [show (w.alloc (.map #[] 0)).heap.size=w.heap.size+1 by simp] at hB
 have hal:=on_alloc (w.alloc (.map #[] 0)) (.cells #[.map (some w.heap.size),.int .i64 n,.int .i64 b,.int .i64 1] 142)
 refine ⟨hB,owns_block (World.ownsMap_made w _ _ _) (hal.block _ (by simp)),mapIs_empty,(fun n hn=>by cases hn),(fun n hn=>by cases hn),(fun n hn=>by cases hn),(on_trans (on_alloc w _) (on_alloc _ _)).size,Nat.le_succ w.heap.size,Nat.le_refl w.heap.size,fun n hn=>by cases hn⟩
theorem new_yes (n b:Nat) (w:World) (h:1<=n/\n<=256/\b<=4096):Calls Tryz.prog 90 #[.int .i64 n,.int .i64 b] w fun e w' => ∃ sb,e=.returned (ptr sb)/\StoreAt (.up w.heap.size) w' sb (newS n b)/\Below w.heap.size w w':=by
 have HS:Hid (StoreAt (.up w.heap.size) ((w.alloc (.map #[] 0)).alloc (.cells #[.map (some w.heap.size),.int .i64 n,.int .i64 b,.int .i64 1] 142)) (w.heap.size+1) (newS n b)):=by
  refine ⟨w.heap.size,.map [],fun _ _=>False,?_⟩
  have:=storeM_new w n b
  show StoreM _ _ _ _ _ _ [] (n:Int) ((b:Int) - ((0:Nat):Int)) ((1:Nat):Int)
  simpa using this
 have HB:Hid (Below w.heap.size w ((w.alloc (.map #[] 0)).alloc (.cells #[.map (some w.heap.size),.int .i64 n,.int .i64 b,.int .i64 1] 142))):=on_trans (on_alloc w _) (on_alloc _ _);have hmm:=@run_makeMap Tryz.prog
 have h1:¬ (n:Int) < 1:=by omega
 have h2:¬ (256:Int) < (n:Int):=by omega
 have h3:¬ (b:Int) < 0:=by omega
 have h4:¬ (4096:Int) < (b:Int):=by omega
 refine Calls.mono (R:=fun e w'=>e=.returned (ptr (w.heap.size+1))/\w'=((w.alloc (.map #[] 0)).alloc (.cells #[.map (some w.heap.size),.int .i64 n,.int .i64 b,.int .i64 1] 142))) ?_ fun e w' ⟨e1,e2⟩=>⟨_,e1,by rw [e2];exact HS.out,by rw [e2];exact HB.out⟩
 clear HS HB;go_enter Tryz.func90,Tryz.ntmps90;go_wp2
 go_ret
 exact ⟨rfl,rfl⟩
theorem dnew_any (w:World):Calls Tryz.prog 133 #[] w fun e w'=>e=.returned (ptr w.heap.size)/\Blk w' w.heap.size 173 [.slice none 0 0]/\Below w.heap.size w w':=by
 have HB:Hid (Blk (w.alloc (.cells #[.slice none 0 0] 173)) w.heap.size 173 [.slice none 0 0]):=Blk.new w _ [.slice none 0 0];have HA:Hid (Below w.heap.size w (w.alloc (.cells #[.slice none 0 0] 173))):=on_alloc w _;go_enter Tryz.func133,Tryz.ntmps133;go_wp2
 go_ret
 exact ⟨rfl,HB.out,HA.out⟩
theorem wrongTarget_any (t:ByteArray) (w:World) (ht:t.size<=9223372036854775807):Calls Tryz.prog 131 #[.string t] w fun e w'=>e=.returned (.int .i64 (wrongT t:Nat))/\w'=w:=by
 have c:=Tryz.strings_IndexByte t 0 w;have hbf:=byte_found 0 t.data.toList;have hE:=empty_iff t;unfold wrongT nulIn
 by_cases h1:t.size=0
 . rw [if_pos h1];rw [decide_eq_true h1] at hE;clear c hbf;go_enter Tryz.func131,Tryz.ntmps131;go_wp2
   go_ret
   exact ⟨rfl,rfl⟩
 rw [if_neg h1];rw [decide_eq_false h1] at hE
 by_cases h2:256 < t.size
 . rw [if_pos h2]
   have h2z:(256:Int) < (t.size:Int):=by omega
   clear c hbf;go_enter Tryz.func131,Tryz.ntmps131;go_wp2
   go_ret
   exact ⟨rfl,rfl⟩
 rw [if_neg h2]
 have h2z:¬ (256:Int) < (t.size:Int):=by omega
 have hc:((0:Int).toNat.toUInt8)=(0:UInt8):=rfl;rw [hc] at c;generalize Lib.indexByte t.data.toList 0=r at *
 cases hb:t.data.toList.contains 0 with
 | true =>
  rw [hb] at hbf
  have hr:(0:Int)<=r:=by simpa using hbf
  rw [if_pos rfl];go_enter Tryz.func131,Tryz.ntmps131;go_wp2_with fail;refine c.mono ?_;rintro e w' ⟨rfl,rfl⟩;go_wp2
  go_ret
  exact ⟨rfl,rfl⟩
 | false =>
  rw [hb] at hbf
  have hr:¬ (0:Int)<=r:=by simpa using hbf
  rw [if_neg (by simp)]
  go_enter Tryz.func131,Tryz.ntmps131;go_wp2_with fail;refine c.mono ?_;rintro e w' ⟨rfl,rfl⟩;go_wp2
  go_ret
  exact ⟨rfl,rfl⟩
theorem wrong_any (k:Int) (t:ByteArray) (w:World) (ht:t.size<=9223372036854775807):Calls Tryz.prog 91 #[.int .i64 k,.string t] w fun e w'=>e=.returned (.int .i64 (wrongK k t:Nat))/\w'=w:=by
 have c:=wrongTarget_any t w ht;have hE:=empty_iff t;unfold wrongK
 by_cases h3:k=3
 . subst h3;rw [if_pos rfl];generalize wrongT t=E at *;go_enter Tryz.func91,Tryz.ntmps91;go_wp2_with fail;refine c.mono ?_;rintro e w' ⟨rfl,rfl⟩;go_wp2
   go_ret
   exact ⟨rfl,rfl⟩
 rw [if_neg h3];clear c
 by_cases h1:t.size=0
 . rw [decide_eq_true h1] at hE
   by_cases hk:k=1 ∨ k=2 ∨ k=4
   . rw [if_pos ⟨hk,h1⟩]
     rcases hk with rfl | rfl | rfl
     all_goals
      go_enter Tryz.func91,Tryz.ntmps91;go_wp2
      go_ret
      exact ⟨rfl,rfl⟩
   . rw [if_neg fun h=>hk h.1]
     have k1:¬ k=1:=fun e=>hk (.inl e)
     have k2:¬ k=2:=fun e=>hk (.inr (.inl e))
     have k4:¬ k=4:=fun e=>hk (.inr (.inr e))
     go_enter Tryz.func91,Tryz.ntmps91;go_wp2
     go_ret
     exact ⟨rfl,rfl⟩
 . rw [decide_eq_false h1] at hE
   rw [if_neg fun h=>h1 h.2]
   by_cases hk:k=1 ∨ k=2 ∨ k=4
   . rcases hk with rfl | rfl | rfl
     all_goals
      go_enter Tryz.func91,Tryz.ntmps91;go_wp2
      go_ret
      exact ⟨rfl,rfl⟩
   . have k1:¬ k=1:=fun e=>hk (.inl e)
     have k2:¬ k=2:=fun e=>hk (.inr (.inl e))
     have k4:¬ k=4:=fun e=>hk (.inr (.inr e))
     go_enter Tryz.func91,Tryz.ntmps91;go_wp2
     go_ret
     exact ⟨rfl,rfl⟩
def FreshAt (w:World) (g ino:Nat) (k:Int) (t:ByteArray) (w':World):Prop:=∃ fp dp F,w.heap.size<=g/\Blk w' g 179 (ndC (freshN ino k t) fp dp)/\Body w' fp dp F (freshN ino k t)/\(∀ x,F x->w.heap.size<=x)/\Below w.heap.size w w'
theorem fresh_any (ino:Nat) (k:Int) (t:ByteArray) (w:World) (hk:1<=k/\k<=4):Calls Tryz.prog 92 #[.int .i64 k,.string t] w fun e w' => ∃ g,e=.returned (ptr g)/\FreshAt w g ino k t w':=by
 have hB:=Blk.new w 179 [.int .i64 k,.int .i64 0,.int .i64 1,.pointer none,.pointer none,.string t];have hal:=on_alloc w (.cells #[.int .i64 k,.int .i64 0,.int .i64 1,.pointer none,.pointer none,.string t] 179)
 have hkn:((freshN ino k t).kind:Int)=k:=by simp only [freshN];omega
 have hnd:∀ fp dp,ndC (freshN ino k t) fp dp=[.int .i64 k,.int .i64 0,.int .i64 1,fp,dp,.string t]:=fun fp dp=>by
  unfold ndC;rw [hkn];rfl
 by_cases h1:k=1
 . have c:=fun w1=>new_any w1
   have HP:Hid (∀ w1 w',w1=w.alloc (.cells #[.int .i64 k,.int .i64 0,.int .i64 1,.pointer none,.pointer none,.string t] 179)->FileAt w' w1.heap.size (fun x=>x=w1.heap.size) 0 (fun _=>0) (fun _=>false)->Below w1.heap.size w1 w'->FreshAt w w.heap.size ino k t (w'.setCell ⟨w.heap.size,3,none⟩ (ptr w1.heap.size))):=fun w1 w' e hf hb=>by
    subst e;have hbt:=but_set w' w.heap.size 3 (ptr (w.alloc (.cells #[.int .i64 k,.int .i64 0,.int .i64 1,.pointer none,.pointer none,.string t] 179)).heap.size);have hB2:=hB.on hb
    refine ⟨ptr _,.pointer none,_,Nat.le_refl _,?_,.inl ⟨by simp only [freshN];omega,rfl,rfl,_,rfl,hf.butBlk hbt hB2 (by decide) (by decide),by show (0:Nat)<=_;omega⟩,fun x hx => ?_,below_but (on_trans hal hb) hbt (Nat.le_refl _)⟩
    . rw [hnd];exact hB2.set 3 _
    . rw [hx];exact hal.size
   have HB:Hid (∀ w',Below (w.alloc (.cells #[.int .i64 k,.int .i64 0,.int .i64 1,.pointer none,.pointer none,.string t] 179)).heap.size (w.alloc (.cells #[.int .i64 k,.int .i64 0,.int .i64 1,.pointer none,.pointer none,.string t] 179)) w'->Blk w' w.heap.size 179 [.int .i64 k,.int .i64 0,.int .i64 1,.pointer none,.pointer none,.string t]):=fun w' hb=>hB.on hb
   clear hB hal hnd hkn;subst h1
   refine Calls.mono (R:=fun e w'=>e=.returned (ptr w.heap.size)/\FreshAt w w.heap.size ino 1 t w') ?_ fun e w' h=>⟨_,h⟩
   generalize FreshAt w w.heap.size ino 1 t=Post at *;go_enter Tryz.func92,Tryz.ntmps92;go_wp2_with fail;refine (c _).mono ?_;rintro e w' ⟨rfl,hf,hb⟩;have hB3:=HB.out w' hb;have HZ:Hid _:=HP.out _ w' rfl hf hb;have f3:=hB3.free 3;have x3:=hB3.cell 3 rfl;clear hB3 hf hb HP HB;go_wp2
   go_ret
   exact ⟨rfl,by simpa using HZ.out⟩
 by_cases h2:k=2
 . have c:=fun w1=>dnew_any w1
   have HP:Hid (∀ w1 w',w1=w.alloc (.cells #[.int .i64 k,.int .i64 0,.int .i64 1,.pointer none,.pointer none,.string t] 179)->Blk w' w1.heap.size 173 [.slice none 0 0]->Below w1.heap.size w1 w'->FreshAt w w.heap.size ino k t (w'.setCell ⟨w.heap.size,4,none⟩ (ptr w1.heap.size))):=fun w1 w' e hD hb=>by
    subst e;have hbt:=but_set w' w.heap.size 4 (ptr (w.alloc (.cells #[.int .i64 k,.int .i64 0,.int .i64 1,.pointer none,.pointer none,.string t] 179)).heap.size);have hB2:=hB.on hb
    refine ⟨.pointer none,ptr _,_,Nat.le_refl _,?_,.inr (.inl ⟨by simp only [freshN];omega,rfl,rfl,_,rfl,⟨.slice none 0 0,hD.but hbt (by simp),World.ownsRow_nil _ _ _ _,rfl⟩⟩),fun x hx => ?_,below_but (on_trans hal hb) hbt (Nat.le_refl _)⟩
    . rw [hnd];exact hB2.set 4 _
    . rcases hx with hx | hx
      . rw [hx];exact hal.size
      . simp [Value.ownBlock] at hx
   have HB:Hid (∀ w',Below (w.alloc (.cells #[.int .i64 k,.int .i64 0,.int .i64 1,.pointer none,.pointer none,.string t] 179)).heap.size (w.alloc (.cells #[.int .i64 k,.int .i64 0,.int .i64 1,.pointer none,.pointer none,.string t] 179)) w'->Blk w' w.heap.size 179 [.int .i64 k,.int .i64 0,.int .i64 1,.pointer none,.pointer none,.string t]):=fun w' hb=>hB.on hb
   clear hB hal hnd hkn;subst h2
   refine Calls.mono (R:=fun e w'=>e=.returned (ptr w.heap.size)/\FreshAt w w.heap.size ino 2 t w') ?_ fun e w' h=>⟨_,h⟩
   generalize FreshAt w w.heap.size ino 2 t=Post at *;go_enter Tryz.func92,Tryz.ntmps92;go_wp2_with fail;refine (c _).mono ?_;rintro e w' ⟨rfl,hf,hb⟩;have hB3:=HB.out w' hb;have HZ:Hid _:=HP.out _ w' rfl hf hb;have f4:=hB3.free 4;have x4:=hB3.cell 4 rfl;clear hB3 hf hb HP HB;go_wp2
   go_ret
   exact ⟨rfl,by simpa using HZ.out⟩
 . have HP:Hid (FreshAt w w.heap.size ino k t (w.alloc (.cells #[.int .i64 k,.int .i64 0,.int .i64 1,.pointer none,.pointer none,.string t] 179))):=by
    refine ⟨.pointer none,.pointer none,_,Nat.le_refl _,?_,.inr (.inr ⟨by simp only [freshN];omega,by simp only [freshN];omega,rfl,rfl,rfl,rfl,rfl⟩),fun x hx=>hx.elim,hal⟩
    rw [hnd];exact hB
   clear hB hal hnd hkn
   refine Calls.mono (R:=fun e w'=>e=.returned (ptr w.heap.size)/\FreshAt w w.heap.size ino k t w') ?_ fun e w' h=>⟨_,h⟩
   generalize FreshAt w w.heap.size ino k t=Post at *;go_enter Tryz.func92,Tryz.ntmps92;go_wp2
   go_ret
   exact ⟨rfl,HP.out⟩
theorem en_fresh : ∀ args w,(callFunc 92 args).run Tryz.prog w=.ok (.enter 92 args) w:=fun _ _=>by simp [callFunc,Tryz.func92];rfl
theorem fresh_below {w w':World} {g ino:Nat} {k:Int} {t:ByteArray} (h:FreshAt w g ino k t w'):Below w.heap.size w w':=by
 obtain ⟨_,_,_,_,_,_,_,h⟩:=h
 exact h
theorem FreshAt.from {w0 w w':World} {g ino:Nat} {k:Int} {t:ByteArray} (h:FreshAt w g ino k t w') (hb:Below w0.heap.size w0 w):FreshAt w0 g ino k t w':=by
 obtain ⟨fp,dp,F,h1,h2,h3,h4,h5⟩:=h
 exact ⟨fp,dp,F,Nat.le_trans hb.size h1,h2,h3,fun x hx=>Nat.le_trans hb.size (h4 x hx),on_trans hb h5⟩
theorem FreshAt.on {w w' w2:World} {g ino:Nat} {k:Int} {t:ByteArray} (h:FreshAt w g ino k t w') (hb:Below w'.heap.size w' w2):FreshAt w g ino k t w2:=by
 obtain ⟨fp,dp,F,h1,h2,h3,h4,h5⟩:=h
 exact ⟨fp,dp,F,h1,h2.on hb,h3.on hb,h4,on_trans h5 hb⟩
def freshK (w:World) (ino:Nat) (k:Int) (t:ByteArray):Kd 0:=⟨fun v W => ∃ g,v=ptr g/\FreshAt w g ino k t W,none,fun _ _ _ ⟨g,e,h⟩ hb=>⟨g,e,h.on hb⟩,fun _ _ _ _ _ _ hlt _=>absurd hlt (by omega)⟩
def NewSt (hi:Lo) (w0:World) (sb mb:Nat) (D:DataW Nat) (s:SS) (k:Int) (t:ByteArray) (W:World):Prop:=∃ D' Fs',StoreM hi W sb mb D' Fs' (s.L ++ [freshN s.next k t]) s.most s.bl s.next/\∀ a ∈ s.L,∀ cs,Blk w0 (gOf D a.ino) 179 cs->Blk W (gOf D' a.ino) 179 cs
def mkSt (hi:Lo) (w0:World) (sb mb:Nat) (D:DataW Nat) (Fs:Nat->Nat->Prop) (s:SS) (k:Int) (t:ByteArray) (f:Bool) (W:World):Prop :=
 (f=true->StoreM hi W sb mb D Fs s.L s.most s.bl s.next/\Below w0.heap.size w0 W) ∧
 (f=false->NewSt hi w0 sb mb D s k t W/\Turns isP hi w0 W)
theorem store_put {hi:Lo} {sb mb c g:Nat} {w0 w:World} {D:DataW Nat} {Fs:Nat->Nat->Prop} {s:SS} {k:Int} {t:ByteArray} (h:StoreM hi w sb mb D Fs s.L s.most s.bl s.next) (hb:Below w0.heap.size w0 w) (h0:StoreM hi w0 sb mb D Fs s.L s.most s.bl s.next) (hf:Wf s c) (hc:c<=900) (hfr:FreshAt w0 g s.next k t w) :
 ∃ w',(Instr.mapUpdate 140 (.map (some mb)) (.int .i64 (s.next:Int)) (ptr g)).run Tryz.prog w=.ok () w'/\NewSt hi w0 sb mb D s k t w'/\Turns isP hi w0 w':=by
 obtain ⟨fp,dp,F,h1,h2,h3,h4,h5⟩:=hfr;have hn:=hf.next
 have hsz:Maps.size D<=1024:=by rw [h.is.count];exact cntF_le _ _
 have hhi:hi.top<=w0.heap.size:=h0.top
 obtain ⟨w',hrun,ho,hg⟩:=h.map.update lawInt Tryz.underlying140 (by unfold maxLen;omega) (keyOf_int_mk (P:=Tryz.prog) (k:=3) Tryz.underlying3 (ky_wf (k:=s.next) (by omega))) (ptrElem_mk g)
 refine ⟨w',hrun,⟨_,_,h.added (n:=freshN s.next k t) (w0:=w0) ?_ (by show s.next < 1024;omega) h2 h3 (hi.new _ (Nat.le_trans hhi h1)) (fun x hx=>hi.new _ (Nat.le_trans hhi (h4 x hx))) (fun x hx => ?_) h1 h4 ho hg,fun a ha cs hB => ?_⟩,?_⟩
 . rw [hasK_not]
   intro n hn' e
   have:=hf.num n hn';have e2:n.ino=s.next:=e
   omega
 . obtain ⟨_,o,ho',_⟩:=h0.isP hx
   exact (Array.getElem?_eq_some_iff.1 ho').1
 . have hne:a.ino ≠ s.next:=by have:=hf.num a ha;omega
   show Blk w' (gOf (D.put (ky s.next) (.held g)) a.ino) _ cs
   rw [gOf_put_other _ hne];have hB2:=hB.on hb
   exact ⟨(hg.block _ hB2.lt fun e=>h.mb_g ha (by cases e;rfl)).trans hB2.row⟩
 . obtain ⟨es,clock,hm⟩:=owns_is h.map
   exact (Turns.on hb).trans (Turns.of_grown hg hm rfl h.lo.2.1)
def MakePost (hi:Lo) (sb:Nat) (B:Nat->Nat) (s:SS) (k:Int) (t:ByteArray) (w:World) (e:Ending) (w':World):Prop:=e=.returned (.tuple #[.int .i64 (makeN s k t:Nat),.int .i64 (makeE s k t:Nat)])/\(∃ B',StoreB hi w' sb (makeS s k t) B'/\∀ n ∈ s.L,n.kind=2->B' n.ino=B n.ino)/\Turns isP hi w w'
theorem make_any7 {hi:Lo} {sb c:Nat} {w:World} {s:SS} {B:Nat->Nat} (h:StoreB hi w sb s B) (hf:Wf s c) (hc:c<=900) (k:Int) (t:ByteArray) (ht:t.size<=9223372036854775807):Calls Tryz.prog 41 #[ptr sb,.int .i64 k,.string t] w (MakePost hi sb B s k t w):=by
 have cW:=wrong_any k t w ht
 by_cases hw:wrongK k t=0
 . have hBx:=h;obtain ⟨mb,D,Fs,h,hBB⟩:=h;have x0:=h.box.cell 0 rfl;have x1:=h.box.cell 1 rfl;have x3:=h.box.cell 3 rfl
   have hl:=fun q=>(h.on (on_drewN (Below.refl _ _) q)).len hf.sorted
   rw [hw] at cW
   by_cases hr:s.most<=s.L.length
   . have hrz:(s.most:Int)<=(s.L.length:Int):=by omega
     have he:makeE s k t=28:=by unfold makeE;rw [if_neg (by simpa using hw),if_pos hr]
     have HP:Hid (∀ w',Below w.heap.size w w'->MakePost hi sb B s k t w (.returned (.tuple #[.int .i64 0,.int .i64 28])) w'):=fun w' hb=>by
      refine ⟨?_,?_,.on hb⟩
      . unfold makeN;rw [he];rfl
      . unfold makeS;rw [he];exact ⟨B,hBx.on hb,fun _ _ _=>rfl⟩
     generalize MakePost hi sb B s k t w=Post at *;clear h hf he hBx hBB;go_enter Tryz.func41,Tryz.ntmps41;go_wp2_with fail;refine cW.mono ?_;rintro e w1 ⟨rfl,hw1⟩;subst w1;go_wp2
     refine wp_region_left (S:=fun W => ∃ q,W=w.drewN q) (Keep:=KeepK [])
      (g:=fun i v W=>(([.is (ptr sb),.is (ptr sb),.is (.pointer (some ⟨sb,0,none⟩)),.is (.map (some mb)),.is (.int .i64 (s.L.length:Int)),.is (ptr sb),.is (ptr sb),.is (.pointer (some ⟨sb,1,none⟩)),.is (.int .i64 (s.most:Int)),.is (.bool true)]:List (Kd 0)).getD i Kd.any).ok v W)
      (tab:=[[(0,none)],[(18,some 0)],[(19,some 1)],[(20,some 2)],[(21,some 3)],[(0,none)],[(23,some 5)],[(24,some 6)],[(25,some 7)],[(22,some 4),(26,some 8)]]) (tl:=[]) (n:=48)
      (by kernel_rfl) rfl (by kernel_rfl) keep_none ⟨1,rfl⟩ ?st ?en
     case st =>
      refine ⟨?_,?_,?_,?_,?_,?_,?_,?_,?_,?_,trivial⟩ <;> intro ρ W hr hS hs
      . exact step_plain rfl (leaves_move _ rfl ⟨hs.1,hS,Below.refl _ _⟩)
      . have h18:ρ (.tmp 18)=ptr sb:=hs.1
        refine step_plain rfl (leaves_value (w':=W) ?_ ⟨rfl,hS,Below.refl _ _⟩)
        obtain ⟨q,rfl⟩:=hS;simp [go_sem,h18]
      . have h19:ρ (.tmp 19)=ptr sb:=hs.1
        refine step_plain rfl (leaves_value (w':=W) ?_ ⟨rfl,hS,Below.refl _ _⟩)
        obtain ⟨q,rfl⟩:=hS;simp [go_sem,h19]
      . have h20:ρ (.tmp 20)=.pointer (some ⟨sb,0,none⟩):=hs.1
        refine step_plain rfl (leaves_value (w':=W) ?_ ⟨rfl,hS,Below.refl _ _⟩)
        obtain ⟨q,rfl⟩:=hS;simp [go_sem,h20,x0]
      . have h21:ρ (.tmp 21)=.map (some mb):=hs.1
        refine step_plain rfl (leaves_value (w':=W) ?_ ⟨rfl,hS,Below.refl _ _⟩)
        obtain ⟨q,rfl⟩:=hS
        simp [execOp,resolve,invoke,builtin,h21,hl,Result.andThen]
      . exact step_plain rfl (leaves_move _ rfl ⟨hs.1,hS,Below.refl _ _⟩)
      . have h23:ρ (.tmp 23)=ptr sb:=hs.1
        refine step_plain rfl (leaves_value (w':=W) ?_ ⟨rfl,hS,Below.refl _ _⟩)
        obtain ⟨q,rfl⟩:=hS;simp [go_sem,h23]
      . have h24:ρ (.tmp 24)=ptr sb:=hs.1
        refine step_plain rfl (leaves_value (w':=W) ?_ ⟨rfl,hS,Below.refl _ _⟩)
        obtain ⟨q,rfl⟩:=hS;simp [go_sem,h24]
      . have h25:ρ (.tmp 25)=.pointer (some ⟨sb,1,none⟩):=hs.1
        refine step_plain rfl (leaves_value (w':=W) ?_ ⟨rfl,hS,Below.refl _ _⟩)
        obtain ⟨q,rfl⟩:=hS;simp [go_sem,h25,x1]
      . have h22:ρ (.tmp 22)=.int .i64 (s.L.length:Int):=hs.1;have h26:ρ (.tmp 26)=.int .i64 (s.most:Int):=hs.2.1
        refine step_plain rfl (leaves_value (w':=W) ?_ ⟨rfl,hS,Below.refl _ _⟩)
        obtain ⟨q,rfl⟩:=hS;simp [go_sem,h22,h26,hrz]
     case en =>
      intro W hS v0 h0 v1 h1 v2 h2 v3 h3 v4 h4 v5 h5 v6 h6 v7 h7 v8 h8 v9 h9
      obtain rfl:v0=ptr sb:=h0 rfl;obtain rfl:v1=ptr sb:=h1 rfl;obtain rfl:v2=.pointer (some ⟨sb,0,none⟩):=h2 rfl;obtain rfl:v3=.map (some mb):=h3 rfl;obtain rfl:v4=.int .i64 (s.L.length:Int):=h4 rfl;obtain rfl:v5=ptr sb:=h5 rfl;obtain rfl:v6=ptr sb:=h6 rfl;obtain rfl:v7=.pointer (some ⟨sb,1,none⟩):=h7 rfl;obtain rfl:v8=.int .i64 (s.most:Int):=h8 rfl;obtain rfl:v9=.bool true:=h9 rfl;clear h0 h1 h2 h3 h4 h5 h6 h7 h8 h9
      simp only [ends,Act.put,List.setIfInBounds_toArray,List.set_cons_succ,List.set_cons_zero]
      obtain ⟨q,rfl⟩:=hS;have HZ:=HP.out _ (on_drewN (Below.refl _ _) q);clear HP;go_wp2
      exact HZ
   . have hrz:¬ (s.most:Int)<=(s.L.length:Int):=by omega
     have he:makeE s k t=0:=by unfold makeE;rw [if_neg (by simpa using hw),if_neg hr]
     have hnx:=hf.next
     have HP:Hid (∀ (q:Nat) (w':World),NewSt hi (w.drewN q) sb mb D s k t w'->Turns isP hi w w'->MakePost hi sb B s k t w (.returned (.tuple #[.int .i64 (s.next:Int),.int .i64 0])) (w'.setCell ⟨sb,3,none⟩ (.int .i64 ((s.next:Int)+1)))):=fun q w' ⟨D',Fs',h1,hkp⟩ ht'=>by
      have hbt:=but_set w' sb 3 (.int .i64 ((s.next:Int)+1))
      refine ⟨?_,?_,ht'.trans (Turns.of_but hbt h1.box.row (by simp [isP]) h1.lo.1)⟩
      . unfold makeN;rw [he];rfl
      . unfold makeS;rw [he];have h2:=h1.boxed (next':=((s.next:Int)+1)) (most':=s.most) (bl':=s.bl) hbt (h1.box.set 3 _);obtain ⟨B',hB'⟩:=h2.boxes
        refine ⟨B',⟨mb,D',Fs',?_,hB'⟩,fun n hn hk2 => ?_⟩
        . show StoreM hi _ sb mb D' Fs' (s.L ++ [freshN s.next k t]) s.most (s.add (freshN s.next k t)).bl ((s.next+1:Nat):Int)
          rw [bl_add (show (freshN s.next k t).f.blocks=0 from St.no_blocks)]
          simpa using h2
        . obtain ⟨cs,h3,h4⟩:=hBB n hn hk2;obtain ⟨cs',h5,h6⟩:=hB' n (List.mem_append_left _ hn) hk2;have h7:=(hkp n hn cs (h3.on (on_drewN (Below.refl _ _) q))).but hbt (h1.sb_g (List.mem_append_left _ hn))
          have e:cs=cs':=by
           have:=h7.row.symm.trans h5.row
           simpa using this
          rw [e,h6] at h4
          simpa using h4
     have HX:Hid (∀ (q:Nat) (w':World),NewSt hi (w.drewN q) sb mb D s k t w'->w'.cell? ⟨sb,3,none⟩=some (.int .i64 (s.next:Int))/\w'.frozen? ⟨sb,3,none⟩=false):=fun q w' ⟨D',Fs',h1,_⟩=>⟨h1.box.cell 3 rfl,h1.box.free 3⟩
     have HS0:Hid (∀ q,StoreM hi (w.drewN q) sb mb D Fs s.L s.most s.bl s.next/\Turns isP hi w (w.drewN q)):=fun q=>⟨h.on (on_drewN (Below.refl _ _) q),.on (on_drewN (Below.refl _ _) q)⟩
     have HW:Hid (Wf s c):=hf;have HC:Hid (c<=900):=hc;have HK:Hid (1<=k/\k<=4):=⟨(wrongK_ok hw).1,(wrongK_ok hw).2.1⟩;generalize MakePost hi sb B s k t w=Post at *;clear h hf he hw hBx hBB;go_enter Tryz.func41,Tryz.ntmps41;go_wp2_with fail;refine cW.mono ?_;rintro e w1 ⟨rfl,hw1⟩;subst w1;go_wp2
     refine wp_region_left (S:=fun W => ∃ q,W=w.drewN q) (Keep:=KeepK [])
      (g:=fun i v W=>(([.is (ptr sb),.is (ptr sb),.is (.pointer (some ⟨sb,0,none⟩)),.is (.map (some mb)),.is (.int .i64 (s.L.length:Int)),.is (ptr sb),.is (ptr sb),.is (.pointer (some ⟨sb,1,none⟩)),.is (.int .i64 (s.most:Int)),.is (.bool false)]:List (Kd 0)).getD i Kd.any).ok v W)
      (tab:=[[(0,none)],[(18,some 0)],[(19,some 1)],[(20,some 2)],[(21,some 3)],[(0,none)],[(23,some 5)],[(24,some 6)],[(25,some 7)],[(22,some 4),(26,some 8)]]) (tl:=[]) (n:=48)
      (by kernel_rfl) rfl (by kernel_rfl) keep_none ⟨1,rfl⟩ ?st ?en
     case st =>
      refine ⟨?_,?_,?_,?_,?_,?_,?_,?_,?_,?_,trivial⟩ <;> intro ρ W hr hS hs
      . exact step_plain rfl (leaves_move _ rfl ⟨hs.1,hS,Below.refl _ _⟩)
      . have h18:ρ (.tmp 18)=ptr sb:=hs.1
        refine step_plain rfl (leaves_value (w':=W) ?_ ⟨rfl,hS,Below.refl _ _⟩)
        obtain ⟨q,rfl⟩:=hS;simp [go_sem,h18]
      . have h19:ρ (.tmp 19)=ptr sb:=hs.1
        refine step_plain rfl (leaves_value (w':=W) ?_ ⟨rfl,hS,Below.refl _ _⟩)
        obtain ⟨q,rfl⟩:=hS;simp [go_sem,h19]
      . have h20:ρ (.tmp 20)=.pointer (some ⟨sb,0,none⟩):=hs.1
        refine step_plain rfl (leaves_value (w':=W) ?_ ⟨rfl,hS,Below.refl _ _⟩)
        obtain ⟨q,rfl⟩:=hS;simp [go_sem,h20,x0]
      . have h21:ρ (.tmp 21)=.map (some mb):=hs.1
        refine step_plain rfl (leaves_value (w':=W) ?_ ⟨rfl,hS,Below.refl _ _⟩)
        obtain ⟨q,rfl⟩:=hS
        simp [execOp,resolve,invoke,builtin,h21,hl,Result.andThen]
      . exact step_plain rfl (leaves_move _ rfl ⟨hs.1,hS,Below.refl _ _⟩)
      . have h23:ρ (.tmp 23)=ptr sb:=hs.1
        refine step_plain rfl (leaves_value (w':=W) ?_ ⟨rfl,hS,Below.refl _ _⟩)
        obtain ⟨q,rfl⟩:=hS;simp [go_sem,h23]
      . have h24:ρ (.tmp 24)=ptr sb:=hs.1
        refine step_plain rfl (leaves_value (w':=W) ?_ ⟨rfl,hS,Below.refl _ _⟩)
        obtain ⟨q,rfl⟩:=hS;simp [go_sem,h24]
      . have h25:ρ (.tmp 25)=.pointer (some ⟨sb,1,none⟩):=hs.1
        refine step_plain rfl (leaves_value (w':=W) ?_ ⟨rfl,hS,Below.refl _ _⟩)
        obtain ⟨q,rfl⟩:=hS;simp [go_sem,h25,x1]
      . have h22:ρ (.tmp 22)=.int .i64 (s.L.length:Int):=hs.1;have h26:ρ (.tmp 26)=.int .i64 (s.most:Int):=hs.2.1
        refine step_plain rfl (leaves_value (w':=W) ?_ ⟨rfl,hS,Below.refl _ _⟩)
        obtain ⟨q,rfl⟩:=hS;simp [go_sem,h22,h26]
        omega
     case en =>
      intro W hS v0 h0 v1 h1 v2 h2 v3 h3 v4 h4 v5 h5 v6 h6 v7 h7 v8 h8 v9 h9
      obtain rfl:v0=ptr sb:=h0 rfl;obtain rfl:v1=ptr sb:=h1 rfl;obtain rfl:v2=.pointer (some ⟨sb,0,none⟩):=h2 rfl;obtain rfl:v3=.map (some mb):=h3 rfl;obtain rfl:v4=.int .i64 (s.L.length:Int):=h4 rfl;obtain rfl:v5=ptr sb:=h5 rfl;obtain rfl:v6=ptr sb:=h6 rfl;obtain rfl:v7=.pointer (some ⟨sb,1,none⟩):=h7 rfl;obtain rfl:v8=.int .i64 (s.most:Int):=h8 rfl;obtain rfl:v9=.bool false:=h9 rfl;clear h0 h1 h2 h3 h4 h5 h6 h7 h8 h9
      simp only [ends,Act.put,List.setIfInBounds_toArray,List.set_cons_succ,List.set_cons_zero]
      obtain ⟨q,rfl⟩:=hS;have HS:Hid _:=(HS0.out q).1;have HT:Hid _:=(HS0.out q).2;have HPq:Hid _:=HP.out q;have HXq:Hid _:=HX.out q;go_wp2;generalize w.drewN q=w0 at *
      refine wp_region_two (S:=mkSt hi w0 sb mb D Fs s k t) (u:=8) (Keep:=KeepU 8)
       (g:=fun i v W=>(([.is (ptr sb),.is (ptr sb),.is (.pointer (some ⟨sb,0,none⟩)),.is (.map (some mb)),.is (.int .i64 (s.next:Int)),.is (.int .i64 k),.is (.string t),freshK w0 s.next k t,.any]:List (Kd 0)).getD i Kd.any).ok v W)
       (tab:=[[(0,none)],[(32,some 0)],[(33,some 1)],[(34,some 2)],[(9,none)],[(1,none)],[(2,none)],[(37,some 5),(38,some 6)],[(35,some 3),(36,some 4),(39,some 7)]]) (tl:=[(7,8)]) (n:=48)
       (by kernel_rfl) rfl (by kernel_rfl) (keep_u ?k) ⟨fun _=>⟨HS.out.on (on_drew (Below.refl _ _)),on_drew (Below.refl _ _)⟩,(fun e=>by cases e)⟩ ?st ?en
      case k =>
       intro j hj
       match j,hj with
       | 0,_ | 1,_ | 2,_ | 3,_ | 4,_ | 5,_ | 6,_=>exact .inr (pure_is _)
       | 7,_=>exact .inl rfl
       | 8,hj=>exact absurd rfl hj
       | j+9,_=>exact .inr pure_any
      case st =>
       refine ⟨?_,?_,?_,?_,?_,?_,?_,?_,?_,trivial⟩ <;> intro ρ W f hf hr hS hs
       . exact step_plain rfl (leaves_move _ rfl ⟨hs.1,by simpa using hS,.inr (Below.refl _ _)⟩)
       . have h32:ρ (.tmp 32)=ptr sb:=hs.1
         refine step_plain rfl (leaves_value (w':=W) ?_ ⟨rfl,by simpa using hS,.inr (Below.refl _ _)⟩)
         simp [go_sem,h32]
       . have h33:ρ (.tmp 33)=ptr sb:=hs.1
         refine step_plain rfl (leaves_value (w':=W) ?_ ⟨rfl,by simpa using hS,.inr (Below.refl _ _)⟩)
         simp [go_sem,h33]
       . have h34:ρ (.tmp 34)=.pointer (some ⟨sb,0,none⟩):=hs.1
         refine step_plain rfl (leaves_value (w':=W) ?_ ⟨rfl,by simpa using hS,.inr (Below.refl _ _)⟩)
         obtain rfl:f=true:=hf (by kernel_rfl)
         have x0:=(hS.1 rfl).1.box.cell 0 rfl
         simp [go_sem,h34,x0]
       . exact step_plain rfl (leaves_move _ rfl ⟨hs.1,by simpa using hS,.inr (Below.refl _ _)⟩)
       . exact step_plain rfl (leaves_move _ rfl ⟨hs.1,by simpa using hS,.inr (Below.refl _ _)⟩)
       . exact step_plain rfl (leaves_move _ rfl ⟨hs.1,by simpa using hS,.inr (Below.refl _ _)⟩)
       . have h37:ρ (.tmp 37)=.int .i64 k:=hs.1;have h38:ρ (.tmp 38)=.string t:=hs.2.1
         obtain rfl:f=true:=hf (by kernel_rfl)
         refine step_plain rfl (leaves_call2 en_fresh hr (.tmp 37) (.tmp 38) _ _ rfl h37 h38 ((fresh_any s.next k t W HK.out).mono ?_))
         rintro e W' ⟨g,rfl,hfr⟩;have hb:=fresh_below hfr
         exact ⟨_,rfl,⟨g,rfl,hfr.from (hS.1 rfl).2⟩,⟨fun _=>⟨(hS.1 rfl).1.on hb,on_trans (hS.1 rfl).2 hb⟩,(fun e=>by cases e)⟩,.inr hb⟩
       . have h35:ρ (.tmp 35)=.map (some mb):=hs.1;have h36:ρ (.tmp 36)=.int .i64 (s.next:Int):=hs.2.1;have h39:=hs.2.2.1
         obtain rfl:f=true:=hf (by kernel_rfl)
         obtain ⟨g,hg,hfr⟩:=h39;obtain ⟨W2,hrun,hst⟩:=store_put (hS.1 rfl).1 (hS.1 rfl).2 HS.out HW.out HC.out hfr
         refine step_plain rfl (leaves_skip (w':=W2) ?_ ⟨trivial,⟨(fun e=>by cases e),fun _=>hst⟩,.inl rfl⟩)
         simp [execOp,h35,h36,hg,hrun,Result.andThen]
      case en =>
       intro f W hf hS v0 h0 v1 h1 v2 h2 v3 h3 v4 h4 v5 h5 v6 h6 v7 h7 h8
       obtain rfl:f=false:=hf (by decide)
       clear hf;obtain rfl:v0=ptr sb:=h0 rfl;obtain rfl:v1=ptr sb:=h1 rfl;obtain rfl:v2=.pointer (some ⟨sb,0,none⟩):=h2 rfl;obtain rfl:v3=.map (some mb):=h3 rfl;obtain rfl:v4=.int .i64 (s.next:Int):=h4 rfl;obtain rfl:v5=.int .i64 k:=h5 rfl;obtain rfl:v6=.string t:=h6 rfl;clear h0 h1 h2 h3 h4 h5 h6 h8
       simp only [ends,Act.put,List.setIfInBounds_toArray,List.set_cons_succ,List.set_cons_zero]
       obtain ⟨h9,h10⟩:=hS.2 rfl;have HZ:Hid _:=HPq.out W h9 (HT.out.trans h10);have y3:=(HXq.out W h9).1;have fr:=(HXq.out W h9).2;clear HP HX HPq HXq hS h9 h10 h7;go_wp2
       exact HZ.out
 . have he:makeE s k t=wrongK k t:=by unfold makeE;rw [if_pos hw]
   have HP:Hid (MakePost hi sb B s k t w (.returned (.tuple #[.int .i64 0,.int .i64 (wrongK k t:Nat)])) w):=by
    refine ⟨?_,?_,.refl _ _ _⟩
    . unfold makeN;rw [he,if_neg hw];rfl
    . unfold makeS;rw [he,if_neg hw];exact ⟨B,h,fun _ _ _=>rfl⟩
   have hwz:¬ ((wrongK k t:Nat):Int)=0:=by omega
   generalize MakePost hi sb B s k t w=Post at *;generalize ((wrongK k t:Nat):Int)=E at *;clear h hf he;go_enter Tryz.func41,Tryz.ntmps41;go_wp2_with fail;refine cW.mono ?_;rintro e w' ⟨rfl,rfl⟩;go_wp2
   exact HP.out
end Go.Proofs.YthlaoaaafafafaaGreat
