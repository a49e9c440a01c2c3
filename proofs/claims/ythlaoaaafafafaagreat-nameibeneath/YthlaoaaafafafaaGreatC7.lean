/- Ours. -/
import Derived.Test.YthlaoaaafafafaaGreatC6
set_option maxRecDepth 100000
set_option maxHeartbeats 16000000
namespace Go.Proofs.YthlaoaaafafafaaGreat
open Go Go.RowKit Go.Maps
theorem reach_Link (g:Nat) (w:World):Calls Tryz.prog 121 #[ptr g] w fun e w'=>e=.returned (.pointer (some ⟨g,1,none⟩))/\w'=w:=by
 go_enter Tryz.func121,Tryz.ntmps121;go_wp2
 go_ret
 exact ⟨rfl,rfl⟩
theorem reach_Hold (g:Nat) (w:World):Calls Tryz.prog 141 #[ptr g] w fun e w'=>e=.returned (.pointer (some ⟨g,2,none⟩))/\w'=w:=by
 go_enter Tryz.func141,Tryz.ntmps141;go_wp2
 go_ret
 exact ⟨rfl,rfl⟩
theorem reach_Unlink (g:Nat) (w:World):Calls Tryz.prog 169 #[ptr g] w fun e w'=>e=.returned (.pointer (some ⟨g,1,none⟩))/\w'=w:=by
 go_enter Tryz.func169,Tryz.ntmps169;go_wp2
 go_ret
 exact ⟨rfl,rfl⟩
theorem reach_Release (g:Nat) (w:World):Calls Tryz.prog 123 #[ptr g] w fun e w'=>e=.returned (.pointer (some ⟨g,2,none⟩))/\w'=w:=by
 go_enter Tryz.func123,Tryz.ntmps123;go_wp2
 go_ret
 exact ⟨rfl,rfl⟩
theorem StoreM.cntd {hi:Lo} {sb mb:Nat} {w:World} {D:DataW Nat} {Fs:Nat->Nat->Prop} {L:List Nd} {most bl next:Int} {i:Nat} {fp dp:Value} (h:StoreM hi w sb mb D Fs L most bl next) (hs:L.Pairwise fun a b=>a.ino < b.ino) (hi':i < L.length) (hB:Blk w (gOf D L[i].ino) 179 (ndC L[i] fp dp)) (hbd:Body w fp dp (Fs L[i].ino) L[i]) (l:Bool) (v:Nat) :
 StoreM hi (w.setCell ⟨gOf D L[i].ino,if l then 1 else 2,none⟩ (.int .i64 (v:Int))) sb mb D Fs (L.set i (L[i].cntd l v)) most bl next:=by
 obtain ⟨e1,e2,e3,e4,e5,e6⟩:=cntd_ino L[i] l v
 refine h.counted hs hi' e1 e2 e3 e5 hbd (but_set _ _ _ _) ?_
 have:=hB.set (if l then 1 else 2) (.int .i64 (v:Int))
 cases l
 . exact this
 . exact this
theorem StoreM.g_turn {hi:Lo} {sb mb:Nat} {w:World} {D:DataW Nat} {Fs:Nat->Nat->Prop} {L:List Nd} {most bl next:Int} {n:Nd} (h:StoreM hi w sb mb D Fs L most bl next) (hn:n ∈ L) (k:Nat) (v:Value):Turns Go.Proofs.YthlaoaaafafafaaGreat.isP hi w (w.setCell ⟨gOf D n.ino,k,none⟩ v):=by
 obtain ⟨fp,dp,h1,h2⟩:=h.node n hn
 exact Turns.of_but (but_set _ _ _ _) h1.row (by simp [Go.Proofs.YthlaoaaafafafaaGreat.isP]) (h.lo.2.2 n hn).1
def CountPost (hi:Lo) (sb:Nat) (s:SS) (E:Nat) (w:World) (e:Ending) (w':World):Prop:=e=.returned (.int .i64 (E:Nat))/\StoreAt hi w' sb s/\Turns isP hi w w'
theorem more_Link_nil (x:Int) (w:World):Calls Tryz.prog 77 #[.pointer none,.int .i64 x] w fun e w'=>e=.returned (.int .i64 22)/\w'=w:=by
 have c:Calls Tryz.prog 120 #[.pointer none,.int .i64 x,.int .i64 32,.func (.func 121) #[] #[]] w fun e w'=>e=.returned (.int .i64 22)/\w'=w:=by
  have c:=find_nil x w;go_enter Tryz.func120,Tryz.ntmps120;go_wp2_with fail;refine c.mono ?_;rintro e w1 ⟨rfl,hw1⟩;subst w1;go_wp2
  go_ret
  exact ⟨rfl,rfl⟩
 go_enter Tryz.func77,Tryz.ntmps77;go_wp2_with fail;refine c.mono ?_;rintro e w1 ⟨rfl,hw1⟩;subst w1;go_wp2
 go_ret
 exact ⟨rfl,rfl⟩
theorem more_Link {hi:Lo} {sb c:Nat} {w:World} {s:SS} (h:StoreAt hi w sb s) (hf:Wf s c) (_hc:c<=1000000) (x:Int) (hw:(Lit.int .i64 x).wf=true):Calls Tryz.prog 120 #[ptr sb,.int .i64 x,.int .i64 32,.func (.func 121) #[] #[]] w (CountPost hi sb (moreS s x true) (moreE s x true) w):=by
 have h':=h;obtain ⟨mb,D,Fs,h⟩:=h
 cases hx:look s x with
 | none =>
  have c:=find_no h x hw (look_none hx).2;have HP:Hid (CountPost hi sb s 2 w (.returned (.int .i64 2)) w):=⟨rfl,h',.refl _ _ _⟩
  rw [show moreS s x true=s by unfold moreS;rw [hx],show moreE s x true=2 by unfold moreE;rw [hx]]
  clear h hx hf h';generalize CountPost hi sb s 2 w=Post at *;go_enter Tryz.func120,Tryz.ntmps120;go_wp2_with fail;refine c.mono ?_;rintro e w1 ⟨rfl,hw1⟩;subst w1;go_wp2
  exact HP.out
 | some y =>
  obtain ⟨i,n⟩:=y;obtain ⟨hi',rfl,hxe,_⟩:=look_some hx;have hm:=List.getElem_mem hi';have c:=find_yes h hm;obtain ⟨fp,dp,hB,hbd⟩:=h.node _ hm;have yc:=hB.cell 1 rfl;have fc:=hB.free 1;rw [hxe] at c
  have cR:=fun w=>reach_Link (gOf D s.L[i].ino) w
  have hz1:=hf.links _ hm;have hz2:=hf.holds _ hm
  by_cases h32:32<=s.L[i].links
  . have hg:(32:Int)<=(s.L[i].links:Int):=by omega
    have HP:Hid (CountPost hi sb s 31 w (.returned (.int .i64 31)) w):=⟨rfl,h',.refl _ _ _⟩
    rw [show moreS s x true=s by unfold moreS;rw [hx];exact if_pos ⟨rfl,h32⟩,show moreE s x true=31 by unfold moreE;rw [hx];exact if_pos ⟨rfl,h32⟩]
    clear hz1 hz2 h32;generalize CountPost hi sb s 31 w=Post at *;generalize gOf D s.L[i].ino=g at *;generalize (s.L[i].links:Int)=v at *;clear h hB hm hx hxe hbd hf h';go_enter Tryz.func120,Tryz.ntmps120;go_wp2_with fail;refine c.mono ?_;rintro e w1 ⟨rfl,hw1⟩;subst w1;go_wp2_with fail;refine (cR _).mono ?_;rintro e w1 ⟨rfl,hw1⟩;subst w1;go_wp2
    exact HP.out
  . have hg:¬ (32:Int)<=(s.L[i].links:Int):=by omega
    rw [show moreS s x true=s.set i (s.L[i].cntd true (s.L[i].cnt true+1)) by unfold moreS;rw [hx];exact if_neg fun h=>h32 h.2,show moreE s x true=0 by unfold moreE;rw [hx];exact if_neg fun h=>h32 h.2]
    have e1:=bl_cntd hi' true (s.L[i].cnt true+1);have hnew:=h.cntd hf.sorted hi' hB hbd true (s.L[i].cnt true+1);have hT:=h.g_turn hm 1 (.int .i64 ((s.L[i].cnt true+1:Nat):Int))
    have HP:Hid (CountPost hi sb (s.set i (s.L[i].cntd true (s.L[i].cnt true+1))) 0 w (.returned (.int .i64 0)) (w.setCell ⟨gOf D s.L[i].ino,1,none⟩ (.int .i64 ((s.L[i].links:Int)+1)))) :=
     ⟨rfl,⟨mb,D,Fs,by rw [e1];exact hnew⟩,hT⟩
    have hv:-1000000<=(s.L[i].links:Int)/\(s.L[i].links:Int)<=1000000:=by omega
    clear hz1 hz2 h32 e1;generalize CountPost hi sb (s.set i (s.L[i].cntd true (s.L[i].cnt true+1))) 0 w=Post at *;generalize gOf D s.L[i].ino=g at *;generalize (s.L[i].links:Int)=v at *;clear h hB hm hx hxe hbd hf h' hnew hT;go_enter Tryz.func120,Tryz.ntmps120;go_wp2_with fail;refine c.mono ?_;rintro e w1 ⟨rfl,hw1⟩;subst w1;go_wp2_with fail;refine (cR _).mono ?_;rintro e w1 ⟨rfl,hw1⟩;subst w1;go_wp2
    exact HP.out
theorem link_any {hi:Lo} {sb c:Nat} {w:World} {s:SS} (h:StoreAt hi w sb s) (hf:Wf s c) (hc:c<=1000000) (x:Int) (hw:(Lit.int .i64 x).wf=true):Calls Tryz.prog 77 #[ptr sb,.int .i64 x] w (CountPost hi sb (moreS s x true) (moreE s x true) w):=by
 have c:=more_Link h hf hc x hw
 have HP:Hid (∀ e w',CountPost hi sb (moreS s x true) (moreE s x true) w e w'->e=.returned (.int .i64 (moreE s x true:Nat))):=fun e w' h=>h.1
 generalize CountPost hi sb (moreS s x true) (moreE s x true) w=Post at *;generalize (moreE s x true:Nat)=E at *;clear h hf;go_enter Tryz.func77,Tryz.ntmps77;go_wp2_with fail;refine c.mono ?_
 intro e w1 hq
 obtain rfl:=HP.out e w1 hq;have HQ:Hid _:=hq;clear hq c HP;go_wp2
 exact HQ.out
theorem more_Hold {hi:Lo} {sb c:Nat} {w:World} {s:SS} (h:StoreAt hi w sb s) (hf:Wf s c) (hc:c<=1000000) (x:Int) (hw:(Lit.int .i64 x).wf=true):Calls Tryz.prog 120 #[ptr sb,.int .i64 x,.int .i64 9223372036854775807,.func (.func 141) #[] #[]] w (CountPost hi sb (moreS s x false) (moreE s x false) w):=by
 have h':=h;obtain ⟨mb,D,Fs,h⟩:=h
 cases hx:look s x with
 | none =>
  have c:=find_no h x hw (look_none hx).2;have HP:Hid (CountPost hi sb s 2 w (.returned (.int .i64 2)) w):=⟨rfl,h',.refl _ _ _⟩
  rw [show moreS s x false=s by unfold moreS;rw [hx],show moreE s x false=2 by unfold moreE;rw [hx]]
  clear h hx hf h';generalize CountPost hi sb s 2 w=Post at *;go_enter Tryz.func120,Tryz.ntmps120;go_wp2_with fail;refine c.mono ?_;rintro e w1 ⟨rfl,hw1⟩;subst w1;go_wp2
  exact HP.out
 | some y =>
  obtain ⟨i,n⟩:=y;obtain ⟨hi',rfl,hxe,_⟩:=look_some hx;have hm:=List.getElem_mem hi';have c:=find_yes h hm;obtain ⟨fp,dp,hB,hbd⟩:=h.node _ hm;have yc:=hB.cell 2 rfl;have fc:=hB.free 2;rw [hxe] at c
  have cR:=fun w=>reach_Hold (gOf D s.L[i].ino) w
  have hz1:=hf.links _ hm;have hz2:=hf.holds _ hm
  have hg:¬ (9223372036854775807:Int)<=(s.L[i].holds:Int):=by omega
  rw [show moreS s x false=s.set i (s.L[i].cntd false (s.L[i].cnt false+1)) by unfold moreS;rw [hx];exact if_neg (fun h=>absurd h.1 (by simp)),show moreE s x false=0 by unfold moreE;rw [hx];exact if_neg (fun h=>absurd h.1 (by simp))]
  have e1:=bl_cntd hi' false (s.L[i].cnt false+1);have hnew:=h.cntd hf.sorted hi' hB hbd false (s.L[i].cnt false+1);have hT:=h.g_turn hm 2 (.int .i64 ((s.L[i].cnt false+1:Nat):Int))
  have HP:Hid (CountPost hi sb (s.set i (s.L[i].cntd false (s.L[i].cnt false+1))) 0 w (.returned (.int .i64 0)) (w.setCell ⟨gOf D s.L[i].ino,2,none⟩ (.int .i64 ((s.L[i].holds:Int)+1)))) :=
   ⟨rfl,⟨mb,D,Fs,by rw [e1];exact hnew⟩,hT⟩
  have hv:-1000000<=(s.L[i].holds:Int)/\(s.L[i].holds:Int)<=2000000:=by omega
  clear hz1 hz2 e1;generalize CountPost hi sb (s.set i (s.L[i].cntd false (s.L[i].cnt false+1))) 0 w=Post at *;generalize gOf D s.L[i].ino=g at *;generalize (s.L[i].holds:Int)=v at *;clear h hB hm hx hxe hbd hf h' hnew hT;go_enter Tryz.func120,Tryz.ntmps120;go_wp2_with fail;refine c.mono ?_;rintro e w1 ⟨rfl,hw1⟩;subst w1;go_wp2_with fail;refine (cR _).mono ?_;rintro e w1 ⟨rfl,hw1⟩;subst w1;go_wp2
  exact HP.out
theorem hold_any {hi:Lo} {sb c:Nat} {w:World} {s:SS} (h:StoreAt hi w sb s) (hf:Wf s c) (hc:c<=1000000) (x:Int) (hw:(Lit.int .i64 x).wf=true):Calls Tryz.prog 104 #[ptr sb,.int .i64 x] w (CountPost hi sb (moreS s x false) (moreE s x false) w):=by
 have c:=more_Hold h hf hc x hw
 have HP:Hid (∀ e w',CountPost hi sb (moreS s x false) (moreE s x false) w e w'->e=.returned (.int .i64 (moreE s x false:Nat))):=fun e w' h=>h.1
 generalize CountPost hi sb (moreS s x false) (moreE s x false) w=Post at *;generalize (moreE s x false:Nat)=E at *;clear h hf;go_enter Tryz.func104,Tryz.ntmps104;go_wp2_with fail;refine c.mono ?_
 intro e w1 hq
 obtain rfl:=HP.out e w1 hq;have HQ:Hid _:=hq;clear hq c HP;go_wp2
 exact HQ.out
theorem erase_set {L:List Nd} {i:Nat} (n:Nd):(L.set i n).eraseIdx i=L.eraseIdx i:=by
 induction L generalizing i with
 | nil=>rfl
 | cons a r ih =>
  cases i with
  | zero=>rfl
  | succ i=>simp [ih]
theorem gone {hi:Lo} {sb mb:Nat} {w w':World} {D:DataW Nat} {Fs:Nat->Nat->Prop} {s:SS} {i m:Nat} {n:Nd} (h:StoreM hi w sb mb D Fs (s.L.set i n) s.most (s.bl+(s.L[i]?.map fun a=>(a.f.blocks:Int)).getD 0) s.next) (hs:s.L.Pairwise fun a b=>a.ino < b.ino) (hi':i < s.L.length) (e:n.ino=s.L[i].ino) (ho:w'.ownsMap Tryz.prog 3 ptrElem mb m (D.del (ky s.L[i].ino))) (hg:w.grownBy w' (some mb)):StoreAt hi w' sb (s.del i)/\Turns isP hi w w':=by
 have hs':(s.L.set i n).Pairwise fun a b=>a.ino < b.ino:=by rw [sorted_inos,inos_set hi' e,<- sorted_inos];exact hs
 have hi2:i < (s.L.set i n).length:=by simpa using hi'
 have he:(s.L.set i n)[i].ino=s.L[i].ino:=by simp [e]
 have h2:=h.deled (i:=i) (m:=m) hs' hi2 (by rw [he];exact ho) hg
 rw [erase_set] at h2;obtain ⟨es,clock,hm⟩:=owns_is h.map
 refine ⟨⟨mb,D.del (ky (s.L.set i n)[i].ino),Fs,?_⟩,Turns.of_grown hg hm rfl h.lo.2.1⟩
 have hb:=bl_del hi';rw [List.getElem?_eq_getElem hi'] at h2
 show StoreM hi w' sb mb _ Fs (s.L.eraseIdx i) s.most (s.del i).bl s.next
 rw [hb]
 exact h2
def goneS (w2:World) (sb:Nat) (v:Int) (f:Bool) (W:World):Prop:=(f=true->∃ q,W=w2.drewN q)/\(f=false->∃ q,W=(w2.drewN q).setCell ⟨sb,2,none⟩ (.int .i64 v))
theorem less_Unlink_nil (x:Int) (w:World):Calls Tryz.prog 136 #[.pointer none,.int .i64 x] w fun e w'=>e=.returned (.int .i64 22)/\w'=w:=by
 have c:Calls Tryz.prog 122 #[.pointer none,.int .i64 x,.func (.func 169) #[] #[]] w fun e w'=>e=.returned (.int .i64 22)/\w'=w:=by
  have c:=find_nil x w;go_enter Tryz.func122,Tryz.ntmps122;go_wp2_with fail;refine c.mono ?_;rintro e w1 ⟨rfl,hw1⟩;subst w1;go_wp2
  go_ret
  exact ⟨rfl,rfl⟩
 go_enter Tryz.func136,Tryz.ntmps136;go_wp2_with fail;refine c.mono ?_;rintro e w1 ⟨rfl,hw1⟩;subst w1;go_wp2
 go_ret
 exact ⟨rfl,rfl⟩
theorem less_Unlink {hi:Lo} {sb c:Nat} {w:World} {s:SS} (h:StoreAt hi w sb s) (hf:Wf s c) (_hc:c<=1000000) (x:Int) (hw:(Lit.int .i64 x).wf=true):Calls Tryz.prog 122 #[ptr sb,.int .i64 x,.func (.func 169) #[] #[]] w (CountPost hi sb (lessS s x true) (lessE s x true) w):=by
 have h':=h;obtain ⟨mb,D,Fs,h⟩:=h
 cases hx:look s x with
 | none =>
  have c:=find_no h x hw (look_none hx).2;have HP:Hid (CountPost hi sb s 2 w (.returned (.int .i64 2)) w):=⟨rfl,h',.refl _ _ _⟩
  rw [show lessS s x true=s by unfold lessS;rw [hx],show lessE s x true=2 by unfold lessE;rw [hx]]
  clear h hx hf h';generalize CountPost hi sb s 2 w=Post at *;go_enter Tryz.func122,Tryz.ntmps122;go_wp2_with fail;refine c.mono ?_;rintro e w1 ⟨rfl,hw1⟩;subst w1;go_wp2
  exact HP.out
 | some y =>
  obtain ⟨i,n⟩:=y;obtain ⟨hi',rfl,hxe,_⟩:=look_some hx;have hm:=List.getElem_mem hi';have c:=find_yes h hm;obtain ⟨fp,dp,hB,hbd⟩:=h.node _ hm;have yc:=hB.cell 1 rfl;have fc:=hB.free 1;rw [hxe] at c
  have cR:=fun w=>reach_Unlink (gOf D s.L[i].ino) w
  have hz1:=hf.links _ hm;have hz2:=hf.holds _ hm
  by_cases h0:s.L[i].links=0
  . have hg:(s.L[i].links:Int) < 1:=by omega
    have HP:Hid (CountPost hi sb s 22 w (.returned (.int .i64 22)) w):=⟨rfl,h',.refl _ _ _⟩
    rw [show lessS s x true=s by unfold lessS;rw [hx];exact if_pos h0,show lessE s x true=22 by unfold lessE;rw [hx];exact if_pos h0]
    clear hz1 hz2 h0;generalize CountPost hi sb s 22 w=Post at *;generalize gOf D s.L[i].ino=g at *;generalize (s.L[i].links:Int)=v at *;clear h hB hm hx hxe hbd hf h';go_enter Tryz.func122,Tryz.ntmps122;go_wp2_with fail;refine c.mono ?_;rintro e w1 ⟨rfl,hw1⟩;subst w1;go_wp2_with fail;refine (cR _).mono ?_;rintro e w1 ⟨rfl,hw1⟩;subst w1;go_wp2
    exact HP.out
  . have hg:¬ (s.L[i].links:Int) < 1:=by omega
    have e1:=bl_cntd hi' true (s.L[i].cnt true - 1);have hnew:=h.cntd hf.sorted hi' hB hbd true (s.L[i].cnt true - 1);have hT:=h.g_turn hm 1 (.int .i64 ((s.L[i].cnt true - 1:Nat):Int))
    have hvz:((s.L[i].cnt true - 1:Nat):Int)=(s.L[i].links:Int) - 1:=by simp only [Nd.cnt];simp;omega
    have hB2:=hB.set 1 (.int .i64 ((s.L[i].links:Int) - 1));rw [hvz] at hnew hT
    simp only [if_true] at hnew hT
    have u1:=hB2.cell 1 rfl;have u2:=hB2.cell 2 rfl
    by_cases h1:s.L[i].links+s.L[i].holds=1
    . rw [show lessS s x true=s.del i by unfold lessS;rw [hx];exact (if_neg h0).trans (if_pos h1),show lessE s x true=0 by unfold lessE;rw [hx];exact if_neg h0]
      have k1:(s.L[i].links:Int)=1:=by omega
      have k2:(s.L[i].holds:Int)=0:=by omega
      rw [k1] at hB2 hnew hT yc hg
      simp only [k1,k2] at u1 u2
      simp only [show (1:Int) - 1=0 from rfl] at hB2 hnew hT u1 u2
      have y3:=hB2.cell 3 rfl;have z2:=hnew.box.cell 2 rfl;have zf:=hnew.box.free 2;have hbb:=hf.bl
      have hnb:0<=(s.L[i].f.blocks:Int)/\(s.L[i].f.blocks:Int)<=1024:=⟨by omega,by have:=cntF_le 1024 s.L[i].f.h;show ((cntF 1024 s.L[i].f.h:Nat):Int)<=1024;omega⟩
      have hbd2:=hbd.but (but_set w (gOf D s.L[i].ino) 1 (.int .i64 (0:Int))) hB.row
      have HBD:Hid (∀ q,Hs ((w.setCell ⟨gOf D s.L[i].ino,1,none⟩ (.int .i64 (0:Int))).drewN q) fp s.L[i].f.sz s.L[i].f.C s.L[i].f.h):=fun q=>((hbd.same fun x hx=>(but_set w (gOf D s.L[i].ino) 1 (.int .i64 (0:Int))).block x ((h.F_ne hm hx).2.2 _ hm)).hs).on (on_drewN (Below.refl _ _) q)
      have cB:∀ q,Calls Tryz.prog 129 #[fp] ((w.setCell ⟨gOf D s.L[i].ino,1,none⟩ (.int .i64 (0:Int))).drewN q) fun e w'=>e=.returned (.int .i64 (s.L[i].f.blocks:Int))/\w'=((w.setCell ⟨gOf D s.L[i].ino,1,none⟩ (.int .i64 (0:Int))).drewN q):=fun q=>blocks_of fp _ _ _ _ (HBD.out q)
      have HM:Hid (∀ q,StoreM hi (((w.setCell ⟨gOf D s.L[i].ino,1,none⟩ (.int .i64 (0:Int))).drewN q).setCell ⟨sb,2,none⟩ (.int .i64 (s.bl+(s.L[i].f.blocks:Int)))) sb mb D Fs (s.L.set i (s.L[i].cntd true (s.L[i].cnt true - 1))) s.most (s.bl+(s.L[i].f.blocks:Int)) s.next/\Turns isP hi w (((w.setCell ⟨gOf D s.L[i].ino,1,none⟩ (.int .i64 (0:Int))).drewN q).setCell ⟨sb,2,none⟩ (.int .i64 (s.bl+(s.L[i].f.blocks:Int))))):=fun q=>by
       have h3:=hnew.on (on_drewN (Below.refl _ _) q)
       exact ⟨h3.boxed (but_set _ _ _ _) (h3.box.set 2 _),(hT.drewN q).trans (Turns.of_but (but_set _ _ _ _) h3.box.row (by simp [isP]) h3.lo.1)⟩
      have HP:Hid (∀ w3 w4 m,StoreM hi w3 sb mb D Fs (s.L.set i (s.L[i].cntd true (s.L[i].cnt true - 1))) s.most (s.bl+(s.L[i].f.blocks:Int)) s.next->Turns isP hi w w3->w4.ownsMap Tryz.prog 3 ptrElem mb m (D.del (ky s.L[i].ino))->w3.grownBy w4 (some mb)->CountPost hi sb (s.del i) 0 w (.returned (.int .i64 0)) w4):=fun w3 w4 m h3 ht ho hg=>by
       have:=gone (s:=s) (i:=i) (m:=m) (n:=s.L[i].cntd true (s.L[i].cnt true - 1)) (by rw [List.getElem?_eq_getElem hi'];exact h3) hf.sorted hi' (cntd_ino _ _ _).1 ho hg
       exact ⟨rfl,this.1,ht.trans this.2⟩
      have hkk:=keyOf_int_mk (P:=Tryz.prog) (k:=3) Tryz.underlying3 (ky_wf (k:=s.L[i].ino) (by have:=h.is.small _ (hasK_of hm);omega))
      rw [show (Value.int .i64 (s.L[i].ino:Int))=.int .i64 x by rw [hxe]] at hkk
      have HL:Hid _:=hkk;generalize CountPost hi sb (s.del i) 0 w=Post at *;generalize gOf D s.L[i].ino=g at *;generalize (s.L[i].f.blocks:Int)=nb at *;generalize s.bl=bl at *;clear h hB hB2 hm hx hxe hbd hf h' hnew hT hbd2 HBD hz1 hz2 h0 h1 e1 hvz k1 k2 hkk;go_enter Tryz.func122,Tryz.ntmps122;go_wp2_with fail;refine c.mono ?_;rintro e w1 ⟨rfl,hw1⟩;subst w1;go_wp2_with fail;refine (cR _).mono ?_;rintro e w1 ⟨rfl,hw1⟩;subst w1;go_wp2;generalize w.setCell ⟨g,1,none⟩ (.int .i64 (0:Int))=w2 at *
      refine wp_region_two (S:=goneS w2 sb (bl+nb)) (u:=12) (Keep:=KeepU 12)
       (g:=fun i v W=>(([.is (ptr sb),.is (ptr sb),.is (.pointer (some ⟨sb,2,none⟩)),.is (.int .i64 bl),.is (ptr g),.is (ptr g),.is (.pointer (some ⟨g,3,none⟩)),.is fp,.is (.int .i64 nb),.is (.int .i64 (bl+nb)),.is (ptr sb),.is (.pointer (some ⟨sb,2,none⟩)),.any]:List (Kd 0)).getD i Kd.any).ok v W)
       (tab:=[[(0,none)],[(43,some 0)],[(44,some 1)],[(45,some 2)],[(7,none)],[(47,some 4)],[(48,some 5)],[(49,some 6)],[(50,some 7)],[(46,some 3),(51,some 8)],[(43,some 0)],[(53,some 10)],[(54,some 11),(52,some 9)]]) (tl:=[]) (n:=60)
       (by kernel_rfl) rfl (by kernel_rfl) (keep_u ?k) ⟨fun _=>⟨1,rfl⟩,(fun e=>by cases e)⟩ ?st ?en
      case k =>
       intro j hj
       match j,hj with
       | 0,_ | 1,_ | 2,_ | 3,_ | 4,_ | 5,_ | 6,_ | 7,_ | 8,_ | 9,_ | 10,_ | 11,_=>exact .inr (pure_is _)
       | 12,hj=>exact absurd rfl hj
       | j+13,_=>exact .inr pure_any
      case st =>
       refine ⟨?_,?_,?_,?_,?_,?_,?_,?_,?_,?_,?_,?_,?_,trivial⟩ <;> intro ρ W f hf hr hS hs
       . exact step_plain rfl (leaves_move _ rfl ⟨hs.1,by simpa using hS,.inr (Below.refl _ _)⟩)
       . have h43:ρ (.tmp 43)=ptr sb:=hs.1
         refine step_plain rfl (leaves_value (w':=W) ?_ ⟨rfl,by simpa using hS,.inr (Below.refl _ _)⟩)
         simp [go_sem,h43]
       . have h44:ρ (.tmp 44)=ptr sb:=hs.1
         refine step_plain rfl (leaves_value (w':=W) ?_ ⟨rfl,by simpa using hS,.inr (Below.refl _ _)⟩)
         simp [go_sem,h44]
       . have h45:ρ (.tmp 45)=.pointer (some ⟨sb,2,none⟩):=hs.1
         refine step_plain rfl (leaves_value (w':=W) ?_ ⟨rfl,by simpa using hS,.inr (Below.refl _ _)⟩)
         obtain rfl:f=true:=hf (by kernel_rfl)
         obtain ⟨q,rfl⟩:=hS.1 rfl
         simp [go_sem,h45,z2]
       . exact step_plain rfl (leaves_move _ rfl ⟨hs.1,by simpa using hS,.inr (Below.refl _ _)⟩)
       . have h47:ρ (.tmp 47)=ptr g:=hs.1
         refine step_plain rfl (leaves_value (w':=W) ?_ ⟨rfl,by simpa using hS,.inr (Below.refl _ _)⟩)
         simp [go_sem,h47]
       . have h48:ρ (.tmp 48)=ptr g:=hs.1
         refine step_plain rfl (leaves_value (w':=W) ?_ ⟨rfl,by simpa using hS,.inr (Below.refl _ _)⟩)
         simp [go_sem,h48]
       . have h49:ρ (.tmp 49)=.pointer (some ⟨g,3,none⟩):=hs.1
         refine step_plain rfl (leaves_value (w':=W) ?_ ⟨rfl,by simpa using hS,.inr (Below.refl _ _)⟩)
         obtain rfl:f=true:=hf (by kernel_rfl)
         obtain ⟨q,rfl⟩:=hS.1 rfl
         simp [go_sem,h49,y3]
       . have h50:ρ (.tmp 50)=fp:=hs.1
         obtain rfl:f=true:=hf (by kernel_rfl)
         refine step_plain rfl (leaves_call1 en_fblocks hr (.tmp 50) _ rfl h50 ?_)
         obtain ⟨q,rfl⟩:=hS.1 rfl
         refine (cB q).mono ?_
         rintro e W' ⟨rfl,rfl⟩
         exact ⟨_,rfl,rfl,by simpa using hS,.inr (Below.refl _ _)⟩
       . have h46:ρ (.tmp 46)=.int .i64 bl:=hs.1;have h51:ρ (.tmp 51)=.int .i64 nb:=hs.2.1
         refine step_plain rfl (leaves_value (w':=W) ?_ ⟨rfl,by simpa using hS,.inr (Below.refl _ _)⟩)
         simp [go_sem,h46,h51]
         rw [IntKind.wrap_i64];omega
       . have h43:ρ (.tmp 43)=ptr sb:=hs.1
         refine step_plain rfl (leaves_value (w':=W) ?_ ⟨rfl,by simpa using hS,.inr (Below.refl _ _)⟩)
         simp [go_sem,h43]
       . have h53:ρ (.tmp 53)=ptr sb:=hs.1
         refine step_plain rfl (leaves_value (w':=W) ?_ ⟨rfl,by simpa using hS,.inr (Below.refl _ _)⟩)
         simp [go_sem,h53]
       . have h54:ρ (.tmp 54)=.pointer (some ⟨sb,2,none⟩):=hs.1;have h52:ρ (.tmp 52)=.int .i64 (bl+nb):=hs.2.1
         obtain rfl:f=true:=hf (by kernel_rfl)
         obtain ⟨q,rfl⟩:=hS.1 rfl
         refine step_plain rfl (leaves_skip (w':=(w2.drewN q).setCell ⟨sb,2,none⟩ (.int .i64 (bl+nb))) ?_ ⟨trivial,⟨(fun e=>by cases e),fun _=>⟨q,rfl⟩⟩,.inl rfl⟩)
         simp [go_sem,h54,h52,z2,zf]
      case en =>
       intro f W hf hS v0 h0 v1 h1 v2 h2 v3 h3 v4 h4 v5 h5 v6 h6 v7 h7 v8 h8 v9 h9 v10 h10 v11 h11 h12
       obtain rfl:f=false:=hf (by decide)
       clear hf;obtain rfl:v0=ptr sb:=h0 rfl;obtain rfl:v1=ptr sb:=h1 rfl;obtain rfl:v2=.pointer (some ⟨sb,2,none⟩):=h2 rfl;obtain rfl:v3=.int .i64 bl:=h3 rfl;obtain rfl:v4=ptr g:=h4 rfl;obtain rfl:v5=ptr g:=h5 rfl;obtain rfl:v6=.pointer (some ⟨g,3,none⟩):=h6 rfl;obtain rfl:v8=.int .i64 nb:=h8 rfl;obtain rfl:v9=.int .i64 (bl+nb):=h9 rfl;obtain rfl:v10=ptr sb:=h10 rfl;obtain rfl:v11=.pointer (some ⟨sb,2,none⟩):=h11 rfl
       clear h0 h1 h2 h3 h4 h5 h6 h8 h9 h10 h11 h12
       simp only [ends,Act.put,List.setIfInBounds_toArray,List.set_cons_succ,List.set_cons_zero]
       obtain ⟨q,rfl⟩:=hS.2 rfl;obtain ⟨h3,ht3⟩:=HM.out q;have HH:Hid _:=h3;have HT3:Hid _:=ht3;have v0:=h3.box.cell 0 rfl;clear h3 ht3 HM hS;generalize (w2.drewN q).setCell ⟨sb,2,none⟩ (.int .i64 (bl+nb))=w3 at *
       go_wp2_with (first
        | (at_delete;refine wpList_delete_own _ rfl _ _ 140 3 rfl 146 lawInt Tryz.underlying140 ptrElem mb (Maps.size D) D rfl HH.out.map _ (ky s.L[i].ino) rfl HL.out ?_;intro w4 hown hturn
           have HZ:Hid _:=HP.out w3 w4 _ HH.out HT3.out hown hturn.grown;clear hown hturn HP HH)
        | go_in)
       exact HZ.out
    . rw [show lessS s x true=s.set i (s.L[i].cntd true (s.L[i].cnt true - 1)) by unfold lessS;rw [hx];exact (if_neg h0).trans (if_neg h1),show lessE s x true=0 by unfold lessE;rw [hx];exact if_neg h0]
      have HP:Hid (CountPost hi sb (s.set i (s.L[i].cntd true (s.L[i].cnt true - 1))) 0 w (.returned (.int .i64 0)) (w.setCell ⟨gOf D s.L[i].ino,1,none⟩ (.int .i64 ((s.L[i].links:Int) - 1)))):=⟨rfl,⟨mb,D,Fs,by rw [e1];exact hnew⟩,hT⟩
      have hk3:¬ ((s.L[i].links:Int) - 1=0/\(s.L[i].holds:Int)=0):=by omega
      have hv:-1000000<=(s.L[i].links:Int)/\(s.L[i].links:Int)<=2000000:=by omega
      generalize CountPost hi sb (s.set i (s.L[i].cntd true (s.L[i].cnt true - 1))) 0 w=Post at *;generalize gOf D s.L[i].ino=g at *;generalize (s.L[i].links:Int)=vl at *;generalize (s.L[i].holds:Int)=vh at *;clear h hB hB2 hm hx hxe hbd hf h' hnew hT hz1 hz2 h0 h1 e1 hvz
      by_cases hL0:vl - 1=0
      . have hH0:¬ vh=0:=by omega
        rw [hL0] at HP u1 u2;go_enter Tryz.func122,Tryz.ntmps122;go_wp2_with fail;refine c.mono ?_;rintro e w1 ⟨rfl,hw1⟩;subst w1;go_wp2_with fail;refine (cR _).mono ?_;rintro e w1 ⟨rfl,hw1⟩;subst w1;go_wp2
        exact HP.out
      ·
       go_enter Tryz.func122,Tryz.ntmps122;go_wp2_with fail;refine c.mono ?_;rintro e w1 ⟨rfl,hw1⟩;subst w1;go_wp2_with fail;refine (cR _).mono ?_;rintro e w1 ⟨rfl,hw1⟩;subst w1;go_wp2
       exact HP.out
theorem unlink_any {hi:Lo} {sb c:Nat} {w:World} {s:SS} (h:StoreAt hi w sb s) (hf:Wf s c) (hc:c<=1000000) (x:Int) (hw:(Lit.int .i64 x).wf=true):Calls Tryz.prog 136 #[ptr sb,.int .i64 x] w (CountPost hi sb (lessS s x true) (lessE s x true) w):=by
 have c:=less_Unlink h hf hc x hw
 have HP:Hid (∀ e w',CountPost hi sb (lessS s x true) (lessE s x true) w e w'->e=.returned (.int .i64 (lessE s x true:Nat))):=fun e w' h=>h.1
 generalize CountPost hi sb (lessS s x true) (lessE s x true) w=Post at *;generalize (lessE s x true:Nat)=E at *;clear h hf;go_enter Tryz.func136,Tryz.ntmps136;go_wp2_with fail;refine c.mono ?_
 intro e w1 hq
 obtain rfl:=HP.out e w1 hq;have HQ:Hid _:=hq;clear hq c HP;go_wp2
 exact HQ.out
theorem less_Release {hi:Lo} {sb c:Nat} {w:World} {s:SS} (h:StoreAt hi w sb s) (hf:Wf s c) (hc:c<=1000000) (x:Int) (hw:(Lit.int .i64 x).wf=true):Calls Tryz.prog 122 #[ptr sb,.int .i64 x,.func (.func 123) #[] #[]] w (CountPost hi sb (lessS s x false) (lessE s x false) w):=by
 have h':=h;obtain ⟨mb,D,Fs,h⟩:=h
 cases hx:look s x with
 | none =>
  have c:=find_no h x hw (look_none hx).2;have HP:Hid (CountPost hi sb s 2 w (.returned (.int .i64 2)) w):=⟨rfl,h',.refl _ _ _⟩
  rw [show lessS s x false=s by unfold lessS;rw [hx],show lessE s x false=2 by unfold lessE;rw [hx]]
  clear h hx hf h';generalize CountPost hi sb s 2 w=Post at *;go_enter Tryz.func122,Tryz.ntmps122;go_wp2_with fail;refine c.mono ?_;rintro e w1 ⟨rfl,hw1⟩;subst w1;go_wp2
  exact HP.out
 | some y =>
  obtain ⟨i,n⟩:=y;obtain ⟨hi',rfl,hxe,_⟩:=look_some hx;have hm:=List.getElem_mem hi';have c:=find_yes h hm;obtain ⟨fp,dp,hB,hbd⟩:=h.node _ hm;have yc:=hB.cell 2 rfl;have fc:=hB.free 2;rw [hxe] at c
  have cR:=fun w=>reach_Release (gOf D s.L[i].ino) w
  have hz1:=hf.links _ hm;have hz2:=hf.holds _ hm
  by_cases h0:s.L[i].holds=0
  . have hg:(s.L[i].holds:Int) < 1:=by omega
    have HP:Hid (CountPost hi sb s 22 w (.returned (.int .i64 22)) w):=⟨rfl,h',.refl _ _ _⟩
    rw [show lessS s x false=s by unfold lessS;rw [hx];exact if_pos h0,show lessE s x false=22 by unfold lessE;rw [hx];exact if_pos h0]
    clear hz1 hz2 h0;generalize CountPost hi sb s 22 w=Post at *;generalize gOf D s.L[i].ino=g at *;generalize (s.L[i].holds:Int)=v at *;clear h hB hm hx hxe hbd hf h';go_enter Tryz.func122,Tryz.ntmps122;go_wp2_with fail;refine c.mono ?_;rintro e w1 ⟨rfl,hw1⟩;subst w1;go_wp2_with fail;refine (cR _).mono ?_;rintro e w1 ⟨rfl,hw1⟩;subst w1;go_wp2
    exact HP.out
  . have hg:¬ (s.L[i].holds:Int) < 1:=by omega
    have e1:=bl_cntd hi' false (s.L[i].cnt false - 1);have hnew:=h.cntd hf.sorted hi' hB hbd false (s.L[i].cnt false - 1);have hT:=h.g_turn hm 2 (.int .i64 ((s.L[i].cnt false - 1:Nat):Int))
    have hvz:((s.L[i].cnt false - 1:Nat):Int)=(s.L[i].holds:Int) - 1:=by simp only [Nd.cnt];simp;omega
    have hB2:=hB.set 2 (.int .i64 ((s.L[i].holds:Int) - 1));rw [hvz] at hnew hT
    simp only [if_false,Bool.false_eq_true] at hnew hT
    have u1:=hB2.cell 1 rfl;have u2:=hB2.cell 2 rfl
    by_cases h1:s.L[i].links+s.L[i].holds=1
    . rw [show lessS s x false=s.del i by unfold lessS;rw [hx];exact (if_neg h0).trans (if_pos h1),show lessE s x false=0 by unfold lessE;rw [hx];exact if_neg h0]
      have k1:(s.L[i].holds:Int)=1:=by omega
      have k2:(s.L[i].links:Int)=0:=by omega
      rw [k1] at hB2 hnew hT yc hg
      simp only [k1,k2] at u1 u2
      simp only [show (1:Int) - 1=0 from rfl] at hB2 hnew hT u1 u2
      have y3:=hB2.cell 3 rfl;have z2:=hnew.box.cell 2 rfl;have zf:=hnew.box.free 2;have hbb:=hf.bl
      have hnb:0<=(s.L[i].f.blocks:Int)/\(s.L[i].f.blocks:Int)<=1024:=⟨by omega,by have:=cntF_le 1024 s.L[i].f.h;show ((cntF 1024 s.L[i].f.h:Nat):Int)<=1024;omega⟩
      have hbd2:=hbd.but (but_set w (gOf D s.L[i].ino) 2 (.int .i64 (0:Int))) hB.row
      have HBD:Hid (∀ q,Hs ((w.setCell ⟨gOf D s.L[i].ino,2,none⟩ (.int .i64 (0:Int))).drewN q) fp s.L[i].f.sz s.L[i].f.C s.L[i].f.h):=fun q=>((hbd.same fun x hx=>(but_set w (gOf D s.L[i].ino) 2 (.int .i64 (0:Int))).block x ((h.F_ne hm hx).2.2 _ hm)).hs).on (on_drewN (Below.refl _ _) q)
      have cB:∀ q,Calls Tryz.prog 129 #[fp] ((w.setCell ⟨gOf D s.L[i].ino,2,none⟩ (.int .i64 (0:Int))).drewN q) fun e w'=>e=.returned (.int .i64 (s.L[i].f.blocks:Int))/\w'=((w.setCell ⟨gOf D s.L[i].ino,2,none⟩ (.int .i64 (0:Int))).drewN q):=fun q=>blocks_of fp _ _ _ _ (HBD.out q)
      have HM:Hid (∀ q,StoreM hi (((w.setCell ⟨gOf D s.L[i].ino,2,none⟩ (.int .i64 (0:Int))).drewN q).setCell ⟨sb,2,none⟩ (.int .i64 (s.bl+(s.L[i].f.blocks:Int)))) sb mb D Fs (s.L.set i (s.L[i].cntd false (s.L[i].cnt false - 1))) s.most (s.bl+(s.L[i].f.blocks:Int)) s.next/\Turns isP hi w (((w.setCell ⟨gOf D s.L[i].ino,2,none⟩ (.int .i64 (0:Int))).drewN q).setCell ⟨sb,2,none⟩ (.int .i64 (s.bl+(s.L[i].f.blocks:Int))))):=fun q=>by
       have h3:=hnew.on (on_drewN (Below.refl _ _) q)
       exact ⟨h3.boxed (but_set _ _ _ _) (h3.box.set 2 _),(hT.drewN q).trans (Turns.of_but (but_set _ _ _ _) h3.box.row (by simp [isP]) h3.lo.1)⟩
      have HP:Hid (∀ w3 w4 m,StoreM hi w3 sb mb D Fs (s.L.set i (s.L[i].cntd false (s.L[i].cnt false - 1))) s.most (s.bl+(s.L[i].f.blocks:Int)) s.next->Turns isP hi w w3->w4.ownsMap Tryz.prog 3 ptrElem mb m (D.del (ky s.L[i].ino))->w3.grownBy w4 (some mb)->CountPost hi sb (s.del i) 0 w (.returned (.int .i64 0)) w4):=fun w3 w4 m h3 ht ho hg=>by
       have:=gone (s:=s) (i:=i) (m:=m) (n:=s.L[i].cntd false (s.L[i].cnt false - 1)) (by rw [List.getElem?_eq_getElem hi'];exact h3) hf.sorted hi' (cntd_ino _ _ _).1 ho hg
       exact ⟨rfl,this.1,ht.trans this.2⟩
      have hkk:=keyOf_int_mk (P:=Tryz.prog) (k:=3) Tryz.underlying3 (ky_wf (k:=s.L[i].ino) (by have:=h.is.small _ (hasK_of hm);omega))
      rw [show (Value.int .i64 (s.L[i].ino:Int))=.int .i64 x by rw [hxe]] at hkk
      have HL:Hid _:=hkk;generalize CountPost hi sb (s.del i) 0 w=Post at *;generalize gOf D s.L[i].ino=g at *;generalize (s.L[i].f.blocks:Int)=nb at *;generalize s.bl=bl at *;clear h hB hB2 hm hx hxe hbd hf h' hnew hT hbd2 HBD hz1 hz2 h0 h1 e1 hvz k1 k2 hkk;go_enter Tryz.func122,Tryz.ntmps122;go_wp2_with fail;refine c.mono ?_;rintro e w1 ⟨rfl,hw1⟩;subst w1;go_wp2_with fail;refine (cR _).mono ?_;rintro e w1 ⟨rfl,hw1⟩;subst w1;go_wp2;generalize w.setCell ⟨g,2,none⟩ (.int .i64 (0:Int))=w2 at *
      refine wp_region_two (S:=goneS w2 sb (bl+nb)) (u:=12) (Keep:=KeepU 12)
       (g:=fun i v W=>(([.is (ptr sb),.is (ptr sb),.is (.pointer (some ⟨sb,2,none⟩)),.is (.int .i64 bl),.is (ptr g),.is (ptr g),.is (.pointer (some ⟨g,3,none⟩)),.is fp,.is (.int .i64 nb),.is (.int .i64 (bl+nb)),.is (ptr sb),.is (.pointer (some ⟨sb,2,none⟩)),.any]:List (Kd 0)).getD i Kd.any).ok v W)
       (tab:=[[(0,none)],[(43,some 0)],[(44,some 1)],[(45,some 2)],[(7,none)],[(47,some 4)],[(48,some 5)],[(49,some 6)],[(50,some 7)],[(46,some 3),(51,some 8)],[(43,some 0)],[(53,some 10)],[(54,some 11),(52,some 9)]]) (tl:=[]) (n:=60)
       (by kernel_rfl) rfl (by kernel_rfl) (keep_u ?k) ⟨fun _=>⟨1,rfl⟩,(fun e=>by cases e)⟩ ?st ?en
      case k =>
       intro j hj
       match j,hj with
       | 0,_ | 1,_ | 2,_ | 3,_ | 4,_ | 5,_ | 6,_ | 7,_ | 8,_ | 9,_ | 10,_ | 11,_=>exact .inr (pure_is _)
       | 12,hj=>exact absurd rfl hj
       | j+13,_=>exact .inr pure_any
      case st =>
       refine ⟨?_,?_,?_,?_,?_,?_,?_,?_,?_,?_,?_,?_,?_,trivial⟩ <;> intro ρ W f hf hr hS hs
       . exact step_plain rfl (leaves_move _ rfl ⟨hs.1,by simpa using hS,.inr (Below.refl _ _)⟩)
       . have h43:ρ (.tmp 43)=ptr sb:=hs.1
         refine step_plain rfl (leaves_value (w':=W) ?_ ⟨rfl,by simpa using hS,.inr (Below.refl _ _)⟩)
         simp [go_sem,h43]
       . have h44:ρ (.tmp 44)=ptr sb:=hs.1
         refine step_plain rfl (leaves_value (w':=W) ?_ ⟨rfl,by simpa using hS,.inr (Below.refl _ _)⟩)
         simp [go_sem,h44]
       . have h45:ρ (.tmp 45)=.pointer (some ⟨sb,2,none⟩):=hs.1
         refine step_plain rfl (leaves_value (w':=W) ?_ ⟨rfl,by simpa using hS,.inr (Below.refl _ _)⟩)
         obtain rfl:f=true:=hf (by kernel_rfl)
         obtain ⟨q,rfl⟩:=hS.1 rfl
         simp [go_sem,h45,z2]
       . exact step_plain rfl (leaves_move _ rfl ⟨hs.1,by simpa using hS,.inr (Below.refl _ _)⟩)
       . have h47:ρ (.tmp 47)=ptr g:=hs.1
         refine step_plain rfl (leaves_value (w':=W) ?_ ⟨rfl,by simpa using hS,.inr (Below.refl _ _)⟩)
         simp [go_sem,h47]
       . have h48:ρ (.tmp 48)=ptr g:=hs.1
         refine step_plain rfl (leaves_value (w':=W) ?_ ⟨rfl,by simpa using hS,.inr (Below.refl _ _)⟩)
         simp [go_sem,h48]
       . have h49:ρ (.tmp 49)=.pointer (some ⟨g,3,none⟩):=hs.1
         refine step_plain rfl (leaves_value (w':=W) ?_ ⟨rfl,by simpa using hS,.inr (Below.refl _ _)⟩)
         obtain rfl:f=true:=hf (by kernel_rfl)
         obtain ⟨q,rfl⟩:=hS.1 rfl
         simp [go_sem,h49,y3]
       . have h50:ρ (.tmp 50)=fp:=hs.1
         obtain rfl:f=true:=hf (by kernel_rfl)
         refine step_plain rfl (leaves_call1 en_fblocks hr (.tmp 50) _ rfl h50 ?_)
         obtain ⟨q,rfl⟩:=hS.1 rfl
         refine (cB q).mono ?_
         rintro e W' ⟨rfl,rfl⟩
         exact ⟨_,rfl,rfl,by simpa using hS,.inr (Below.refl _ _)⟩
       . have h46:ρ (.tmp 46)=.int .i64 bl:=hs.1;have h51:ρ (.tmp 51)=.int .i64 nb:=hs.2.1
         refine step_plain rfl (leaves_value (w':=W) ?_ ⟨rfl,by simpa using hS,.inr (Below.refl _ _)⟩)
         simp [go_sem,h46,h51]
         rw [IntKind.wrap_i64];omega
       . have h43:ρ (.tmp 43)=ptr sb:=hs.1
         refine step_plain rfl (leaves_value (w':=W) ?_ ⟨rfl,by simpa using hS,.inr (Below.refl _ _)⟩)
         simp [go_sem,h43]
       . have h53:ρ (.tmp 53)=ptr sb:=hs.1
         refine step_plain rfl (leaves_value (w':=W) ?_ ⟨rfl,by simpa using hS,.inr (Below.refl _ _)⟩)
         simp [go_sem,h53]
       . have h54:ρ (.tmp 54)=.pointer (some ⟨sb,2,none⟩):=hs.1;have h52:ρ (.tmp 52)=.int .i64 (bl+nb):=hs.2.1
         obtain rfl:f=true:=hf (by kernel_rfl)
         obtain ⟨q,rfl⟩:=hS.1 rfl
         refine step_plain rfl (leaves_skip (w':=(w2.drewN q).setCell ⟨sb,2,none⟩ (.int .i64 (bl+nb))) ?_ ⟨trivial,⟨(fun e=>by cases e),fun _=>⟨q,rfl⟩⟩,.inl rfl⟩)
         simp [go_sem,h54,h52,z2,zf]
      case en =>
       intro f W hf hS v0 h0 v1 h1 v2 h2 v3 h3 v4 h4 v5 h5 v6 h6 v7 h7 v8 h8 v9 h9 v10 h10 v11 h11 h12
       obtain rfl:f=false:=hf (by decide)
       clear hf;obtain rfl:v0=ptr sb:=h0 rfl;obtain rfl:v1=ptr sb:=h1 rfl;obtain rfl:v2=.pointer (some ⟨sb,2,none⟩):=h2 rfl;obtain rfl:v3=.int .i64 bl:=h3 rfl;obtain rfl:v4=ptr g:=h4 rfl;obtain rfl:v5=ptr g:=h5 rfl;obtain rfl:v6=.pointer (some ⟨g,3,none⟩):=h6 rfl;obtain rfl:v8=.int .i64 nb:=h8 rfl;obtain rfl:v9=.int .i64 (bl+nb):=h9 rfl;obtain rfl:v10=ptr sb:=h10 rfl;obtain rfl:v11=.pointer (some ⟨sb,2,none⟩):=h11 rfl
       clear h0 h1 h2 h3 h4 h5 h6 h8 h9 h10 h11 h12
       simp only [ends,Act.put,List.setIfInBounds_toArray,List.set_cons_succ,List.set_cons_zero]
       obtain ⟨q,rfl⟩:=hS.2 rfl;obtain ⟨h3,ht3⟩:=HM.out q;have HH:Hid _:=h3;have HT3:Hid _:=ht3;have v0:=h3.box.cell 0 rfl;clear h3 ht3 HM hS;generalize (w2.drewN q).setCell ⟨sb,2,none⟩ (.int .i64 (bl+nb))=w3 at *
       go_wp2_with (first
        | (at_delete;refine wpList_delete_own _ rfl _ _ 140 3 rfl 146 lawInt Tryz.underlying140 ptrElem mb (Maps.size D) D rfl HH.out.map _ (ky s.L[i].ino) rfl HL.out ?_;intro w4 hown hturn
           have HZ:Hid _:=HP.out w3 w4 _ HH.out HT3.out hown hturn.grown;clear hown hturn HP HH)
        | go_in)
       exact HZ.out
    . rw [show lessS s x false=s.set i (s.L[i].cntd false (s.L[i].cnt false - 1)) by unfold lessS;rw [hx];exact (if_neg h0).trans (if_neg h1),show lessE s x false=0 by unfold lessE;rw [hx];exact if_neg h0]
      have HP:Hid (CountPost hi sb (s.set i (s.L[i].cntd false (s.L[i].cnt false - 1))) 0 w (.returned (.int .i64 0)) (w.setCell ⟨gOf D s.L[i].ino,2,none⟩ (.int .i64 ((s.L[i].holds:Int) - 1)))):=⟨rfl,⟨mb,D,Fs,by rw [e1];exact hnew⟩,hT⟩
      have hk3:¬ ((s.L[i].holds:Int) - 1=0/\(s.L[i].links:Int)=0):=by omega
      have hv:-1000000<=(s.L[i].holds:Int)/\(s.L[i].holds:Int)<=2000000:=by omega
      generalize CountPost hi sb (s.set i (s.L[i].cntd false (s.L[i].cnt false - 1))) 0 w=Post at *;generalize gOf D s.L[i].ino=g at *;generalize (s.L[i].links:Int)=vl at *;generalize (s.L[i].holds:Int)=vh at *;clear h hB hB2 hm hx hxe hbd hf h' hnew hT hz1 hz2 h0 h1 e1 hvz
      by_cases hL0:vl=0
      . have hH0:¬ vh - 1=0:=by omega
        subst hL0;go_enter Tryz.func122,Tryz.ntmps122;go_wp2_with fail;refine c.mono ?_;rintro e w1 ⟨rfl,hw1⟩;subst w1;go_wp2_with fail;refine (cR _).mono ?_;rintro e w1 ⟨rfl,hw1⟩;subst w1;go_wp2
        exact HP.out
      ·
       go_enter Tryz.func122,Tryz.ntmps122;go_wp2_with fail;refine c.mono ?_;rintro e w1 ⟨rfl,hw1⟩;subst w1;go_wp2_with fail;refine (cR _).mono ?_;rintro e w1 ⟨rfl,hw1⟩;subst w1;go_wp2
       exact HP.out
theorem release_any {hi:Lo} {sb c:Nat} {w:World} {s:SS} (h:StoreAt hi w sb s) (hf:Wf s c) (hc:c<=1000000) (x:Int) (hw:(Lit.int .i64 x).wf=true):Calls Tryz.prog 78 #[ptr sb,.int .i64 x] w (CountPost hi sb (lessS s x false) (lessE s x false) w):=by
 have c:=less_Release h hf hc x hw
 have HP:Hid (∀ e w',CountPost hi sb (lessS s x false) (lessE s x false) w e w'->e=.returned (.int .i64 (lessE s x false:Nat))):=fun e w' h=>h.1
 generalize CountPost hi sb (lessS s x false) (lessE s x false) w=Post at *;generalize (lessE s x false:Nat)=E at *;clear h hf;go_enter Tryz.func78,Tryz.ntmps78;go_wp2_with fail;refine c.mono ?_
 intro e w1 hq
 obtain rfl:=HP.out e w1 hq;have HQ:Hid _:=hq;clear hq c HP;go_wp2
 exact HQ.out
def Off (hi:Lo) (w:World) (p:Option Addr):Prop:=∀ b off,p=some ⟨b,off,none⟩->¬ hi.ok b ∨ ∀ o,w.heap[b]? = some o->isP o=false
theorem Off.atC {hi:Lo} {sb mb:Nat} {w:World} {D:DataW Nat} {Fs:Nat->Nat->Prop} {L:List Nd} {most bl next:Int} {p:Option Addr} {l:List Value} {n:Nd} (ho:Off hi w p) (ha:At w p l) (h:StoreM hi w sb mb D Fs L most bl next) (hn:n ∈ L):AtC (Fs n.ino) w p l:=by
 rcases ha with ha | ⟨b,off,e,_,hlt,hc⟩
 . exact .inl ha
 . refine .inr ⟨b,off,e,fun hF => ?_,hlt,hc⟩
   obtain ⟨h1,o,h2,h3⟩:=h.isP (x:=b) (.inr (.inr ⟨n,hn,.inr hF⟩))
   rcases ho b off e with h4 | h4
   . exact h4 h1
   . rw [h4 o h2] at h3;cases h3
theorem StoreM.goes_turn {hi:Lo} {sb mb:Nat} {w w':World} {D:DataW Nat} {Fs:Nat->Nat->Prop} {L:List Nd} {most bl next:Int} {n:Nd} {F':Nat->Prop} (h:StoreM hi w sb mb D Fs L most bl next) (hn:n ∈ L) (hg:Goes (Fs n.ino) F' w w'):Turns Go.Proofs.YthlaoaaafafafaaGreat.isP hi w w' :=
 Turns.of_foot hg.foot fun _x hx=>h.isP (.inr (.inr ⟨n,hn,.inr hx⟩))
theorem filed_all {hi:Lo} {sb mb:Nat} {w w':World} {D:DataW Nat} {Fs:Nat->Nat->Prop} {s:SS} {i fb:Nat} {f:St} {F':Nat->Prop} (h:StoreM hi w sb mb D Fs s.L s.most s.bl s.next) (hs:s.L.Pairwise fun a b=>a.ino < b.ino) (hi':i < s.L.length) (hk:s.L[i].kind=1) (hB:Blk w (gOf D s.L[i].ino) 179 (ndC s.L[i] (ptr fb) (.pointer none))) (hd:s.L[i].ds=[]) (hg:Goes (Fs s.L[i].ino) F' w w') (hf:f.at w' fb F') (v:Int) (hv:v=s.bl - ((f.blocks:Int) - (s.L[i].f.blocks:Int))) :
 (w'.cell? ⟨sb,2,none⟩=some (.int .i64 s.bl)/\w'.frozen? ⟨sb,2,none⟩=false)/\StoreAt hi (w'.setCell ⟨sb,2,none⟩ (.int .i64 v)) sb (s.set i (s.L[i].withF f))/\Turns isP hi w (w'.setCell ⟨sb,2,none⟩ (.int .i64 v)):=by
 have h2:=h.filed hs hi' hk hB hd hg hf
 refine ⟨⟨h2.box.cell 2 rfl,h2.box.free 2⟩,⟨mb,D,fun k=>if k=s.L[i].ino then F' else Fs k,?_⟩,(h.goes_turn (List.getElem_mem hi') hg).trans (Turns.of_but (but_set _ _ _ _) h2.box.row (by simp [isP]) h2.lo.1)⟩
 have h3:=h2.boxed (most':=s.most) (bl':=v) (next':=s.next) (but_set w' sb 2 (.int .i64 v)) (h2.box.set 2 _)
 show StoreM hi _ sb mb D _ (s.L.set i (s.L[i].withF f)) s.most (s.set i (s.L[i].withF f)).bl s.next
 rw [bl_withF hi' f,<- hv]
 exact h3
theorem write_any6 {hi:Lo} {sb c:Nat} {w:World} {s:SS} (h:StoreAt hi w sb s) (hf:Wf s c) (x off:Int) (hw:(Lit.int .i64 x).wf=true) (hoff:(Lit.int .i64 off).wf=true) (p:Option Addr) (cap:Nat) (B:List UInt8) (hB:B.length<=1000000) (hc:B.length<=cap) (hat:At w p (bytesV B)) (ho:Off hi w p) :
 Calls Tryz.prog 106 #[ptr sb,.int .i64 x,.int .i64 off,.slice p B.length cap] w (CountPost hi sb (writeS s x off B) (writeE s x off B) w):=by
 have h':=h;obtain ⟨mb,D,Fs,h⟩:=h;obtain ⟨fp,c1,hcs⟩:=file_look h x hw
 rcases hcs with ⟨he,rfl,h7⟩ | ⟨he,i,n,fb,dp,h1,h2,rfl,h4,rfl,h6,h5⟩
 . have e1:writeS s x off B=s:=by
    unfold writeS
    rcases h7 with h7 | ⟨i,n,h7,h8⟩
    . rw [h7]
    . rw [h7];exact if_neg h8
   have e2:writeE s x off B=fileE s x:=by
    unfold writeE fileE
    rcases h7 with h7 | ⟨i,n,h7,h8⟩
    . rw [h7]
    . rw [h7];simp [h8]
   rw [e1,e2];have HP:Hid (CountPost hi sb s (fileE s x) w (.returned (.int .i64 (fileE s x:Nat))) w):=⟨rfl,h',.refl _ _ _⟩
   have hez:¬ (fileE s x:Int)=0:=by omega
   generalize CountPost hi sb s (fileE s x) w=Post at *;generalize (fileE s x:Int)=E at *;clear h h7 e1 e2 he hf h' hat ho;go_enter Tryz.func106,Tryz.ntmps106;go_wp2_with fail;refine c1.mono ?_;rintro e w1 ⟨rfl,hw1⟩;subst w1;go_wp2
   exact HP.out
 . obtain ⟨hi',rfl,hxe,_⟩:=look_some h1;have hm:=List.getElem_mem hi'
   have e1:writeS s x off B=s.set i (s.L[i].withF (s.L[i].f.wrote off B s.bl)):=by
    unfold writeS;rw [h1];exact if_pos h2
   have e2:writeE s x off B=wrF s.L[i].f.h off B.length s.bl:=by
    unfold writeE;rw [h1];exact if_pos h2
   have c2:=write_all fb s.L[i].f (Fs s.L[i].ino) off s.bl p cap B w h5 hoff hB hc (ho.atC hat h hm);have hbl:=hf.bl
   have hwn:0<=(s.L[i].f.wroteN off B.length s.bl:Int)/\(s.L[i].f.wroteN off B.length s.bl:Int)<=1024:=by
    refine ⟨by omega,?_⟩
    unfold St.wroteN
    split
    . have:=needF_le s.L[i].f.h off B.length;omega
    . omega
   have HP:Hid (∀ w' F',(s.L[i].f.wrote off B s.bl).at w' fb F'->Goes (Fs s.L[i].ino) F' w w'->(w'.cell? ⟨sb,2,none⟩=some (.int .i64 s.bl)/\w'.frozen? ⟨sb,2,none⟩=false)/\CountPost hi sb (writeS s x off B) (writeE s x off B) w (.returned (.int .i64 (wrF s.L[i].f.h off B.length s.bl:Nat))) (w'.setCell ⟨sb,2,none⟩ (.int .i64 (s.bl - (s.L[i].f.wroteN off B.length s.bl:Int))))):=fun w' F' hf' hg=>by
    have:=filed_all h hf.sorted hi' h2 h4 h6 hg hf' (s.bl - (s.L[i].f.wroteN off B.length s.bl:Int)) (by rw [St.wrote_blocks];omega)
    refine ⟨this.1,by rw [e2],by rw [e1];exact this.2.1,this.2.2⟩
   have x2:=h.box.cell 2 rfl;rw [he] at c1;generalize CountPost hi sb (writeS s x off B) (writeE s x off B) w=Post at *;generalize (s.L[i].f.wroteN off B.length s.bl)=wn at *;generalize (wrF s.L[i].f.h off B.length s.bl)=E at *;generalize s.L[i].f.wrote off B s.bl=f2 at *;generalize s.bl=bl at *;clear h h1 h2 h4 h5 h6 he hf h' hat ho e1 e2 hxe;generalize Fs s.L[i].ino=F at *;clear hm;go_enter Tryz.func106,Tryz.ntmps106;go_wp2_with fail;refine c1.mono ?_;rintro e w1 ⟨rfl,hw1⟩
   subst w1;go_wp2_with fail;refine c2.mono ?_;rintro e w2 ⟨rfl,F',hf2,hg2⟩;obtain ⟨⟨y2,yf⟩,hz⟩:=HP.out w2 F' hf2 hg2;have HZ:Hid _:=hz;clear hz HP c2 hf2 hg2;go_wp2
   exact HZ.out
theorem trunc_any6 {hi:Lo} {sb c:Nat} {w:World} {s:SS} (h:StoreAt hi w sb s) (hf:Wf s c) (x m:Int) (hw:(Lit.int .i64 x).wf=true) :
 Calls Tryz.prog 110 #[ptr sb,.int .i64 x,.int .i64 m] w (CountPost hi sb (truncS s x m) (truncE s x m) w):=by
 have h':=h;obtain ⟨mb,D,Fs,h⟩:=h;obtain ⟨fp,c1,hcs⟩:=file_look h x hw
 rcases hcs with ⟨he,rfl,h7⟩ | ⟨he,i,n,fb,dp,h1,h2,rfl,h4,rfl,h6,h5⟩
 . have e1:truncS s x m=s:=by
    unfold truncS
    rcases h7 with h7 | ⟨i,n,h7,h8⟩
    . rw [h7]
    . rw [h7];exact if_neg h8
   have e2:truncE s x m=fileE s x:=by
    unfold truncE fileE
    rcases h7 with h7 | ⟨i,n,h7,h8⟩
    . rw [h7]
    . rw [h7];simp [h8]
   rw [e1,e2];have HP:Hid (CountPost hi sb s (fileE s x) w (.returned (.int .i64 (fileE s x:Nat))) w):=⟨rfl,h',.refl _ _ _⟩
   have hez:¬ (fileE s x:Int)=0:=by omega
   generalize CountPost hi sb s (fileE s x) w=Post at *;generalize (fileE s x:Int)=E at *;clear h h7 e1 e2 he hf h';go_enter Tryz.func110,Tryz.ntmps110;go_wp2_with fail;refine c1.mono ?_;rintro e w1 ⟨rfl,hw1⟩;subst w1;go_wp2
   exact HP.out
 . obtain ⟨hi',rfl,hxe,_⟩:=look_some h1;have hm:=List.getElem_mem hi'
   have e1:truncS s x m=s.set i (s.L[i].withF (s.L[i].f.cut m)):=by
    unfold truncS;rw [h1];exact if_pos h2
   have e2:truncE s x m=cutE m:=by
    unfold truncE;rw [h1];exact if_pos h2
   have c2:=trunc_all fb s.L[i].f (Fs s.L[i].ino) m w h5;have hbl:=hf.bl
   have hwn:0<=s.L[i].f.cutN m/\s.L[i].f.cutN m<=1024:=by
    have h8:=St.cut_blocks s.L[i].f m;have h9:s.L[i].f.blocks<=1024:=cntF_le 1024 _;unfold St.cutN
    omega
   have HP:Hid (∀ w' F',(s.L[i].f.cut m).at w' fb F'->Goes (Fs s.L[i].ino) F' w w'->(w'.cell? ⟨sb,2,none⟩=some (.int .i64 s.bl)/\w'.frozen? ⟨sb,2,none⟩=false)/\CountPost hi sb (truncS s x m) (truncE s x m) w (.returned (.int .i64 (cutE m:Nat))) (w'.setCell ⟨sb,2,none⟩ (.int .i64 (s.bl+s.L[i].f.cutN m)))):=fun w' F' hf' hg=>by
    have:=filed_all h hf.sorted hi' h2 h4 h6 hg hf' (s.bl+s.L[i].f.cutN m) (by unfold St.cutN;omega)
    refine ⟨this.1,by rw [e2],by rw [e1];exact this.2.1,this.2.2⟩
   have x2:=h.box.cell 2 rfl;rw [he] at c1;generalize CountPost hi sb (truncS s x m) (truncE s x m) w=Post at *;generalize s.L[i].f.cutN m=wn at *;generalize cutE m=E at *;generalize s.L[i].f.cut m=f2 at *;generalize s.bl=bl at *;clear h h1 h2 h4 h5 h6 he hf h' e1 e2 hxe;generalize Fs s.L[i].ino=F at *;clear hm;go_enter Tryz.func110,Tryz.ntmps110;go_wp2_with fail;refine c1.mono ?_;rintro e w1 ⟨rfl,hw1⟩;subst w1;go_wp2_with fail;refine c2.mono ?_;rintro e w2 ⟨rfl,F',hf2,hg2⟩
   obtain ⟨⟨y2,yf⟩,hz⟩:=HP.out w2 F' hf2 hg2;have HZ:Hid _:=hz;clear hz HP c2 hf2 hg2;go_wp2
   exact HZ.out
end Go.Proofs.YthlaoaaafafafaaGreat
