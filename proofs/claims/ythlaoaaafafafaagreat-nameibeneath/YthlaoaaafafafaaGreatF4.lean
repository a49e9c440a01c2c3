/- Ours. -/
import Derived.Test.YthlaoaaafafafaaGreatF3
set_option maxRecDepth 100000
set_option maxHeartbeats 16000000
namespace Go.Proofs.YthlaoaaafafafaaGreat
open Go Go.RowKit Go.Maps
def upB (L:List Nd):Nat->Nat->Nat->Bool
 | 0,x,a=>x == a
 | k+1,x,a=>x == a || match up1 L x with | none=>false | some p=>upB L k p a
theorem upB_iff {L:List Nd} {r:Nat->Nat} (hr:∀ x p,up1 L x=some p->r p < r x) (a:Nat):∀ k x,r x<=k->(upB L k x a=true ↔ Up L x a)
 | 0,x,h=>by
  constructor
  . intro h1
    have:x=a:=by simpa [upB] using h1
    rw [this];exact Up.refl _ _
  . intro h1
    rcases h1.inv with h2 | ⟨p,h2,_⟩
    . simp [upB,h2]
    . have:=hr x p h2;omega
 | k+1,x,h=>by
  constructor
  . intro h1
    simp only [upB,Bool.or_eq_true,beq_iff_eq] at h1
    rcases h1 with h1 | h1
    . rw [h1];exact Up.refl _ _
    . cases hu:up1 L x with
      | none=>rw [hu] at h1;cases h1
      | some p =>
       rw [hu] at h1
       exact Up.step hu ((upB_iff hr a k p (by have:=hr x p hu;omega)).1 h1)
  . intro h1
    simp only [upB,Bool.or_eq_true,beq_iff_eq]
    rcases h1.inv with h2 | ⟨p,h2,h3⟩
    . exact .inl h2
    . rw [h2]
      exact .inr ((upB_iff hr a k p (by have:=hr x p h2;omega)).2 h3)
def withinB (s:SS) (x y:Int):Bool:=isDir s x && upB s.L s.L.length y.toNat x.toNat
theorem count_less {L:List Nd} {p q:Nd->Bool} {m:Nd} (hm:m ∈ L) (h:∀ n ∈ L,p n=true->q n=true) (h1:p m=false) (h2:q m=true):L.countP p < L.countP q:=by
 induction L with
 | nil=>cases hm
 | cons a r ih =>
  rw [List.countP_cons,List.countP_cons]
  have hle:r.countP p<=r.countP q:=List.countP_mono_left fun n hn hp=>h n (List.mem_cons_of_mem _ hn) hp
  rcases List.mem_cons.1 hm with rfl | h3
  . rw [if_neg (by rw [h1];simp),if_pos h2];omega
  . have:=ih h3 fun n hn=>h n (List.mem_cons_of_mem _ hn)
    by_cases hp:p a=true
    . rw [if_pos hp,if_pos (h a List.mem_cons_self hp)];omega
    . rw [if_neg hp]
      split <;> omega
theorem TreeX.brank {s:SS} {X:Int} {c:Nat} (ht:TreeX s X) (hf:Wf s c):∃ r:Nat->Nat,(∀ x p,up1 s.L x=some p->r p < r x)/\∀ m ∈ s.L,r m.ino < s.L.length:=by
 obtain ⟨r,hr⟩:=ht.rank
 refine ⟨fun x=>s.L.countP fun m=>decide (r m.ino < r x),fun x p h => ?_,fun m hm => ?_⟩
 . have h1:=hr x p h;obtain ⟨n,hn,rfl,h2,h3,h4⟩:=up1_mem h;obtain ⟨m,hm,h5,_⟩:=ht.parent hf hn h2 h3
   have e:p=m.ino:=by omega
   subst e
   refine count_less hm (fun q _ h6 => ?_) (by simp) (by simpa using h1)
   have:r q.ino < r m.ino:=by simpa using h6
   exact decide_eq_true (by omega)
 . have:=count_less (L:=s.L) (p:=fun q=>decide (r q.ino < r m.ino)) (q:=fun _=>true) hm (fun _ _ _=>rfl) (by simp) rfl
   simpa using this
theorem within_iff {s:SS} {c:Nat} (ht:Tree s) (hf:Wf s c) {m:Nd} (hm:m ∈ s.L) (x:Int):withinB s x m.ino=true ↔ isDir s x=true/\Up s.L m.ino x.toNat:=by
 obtain ⟨r,hr,hb⟩:=ht.brank hf;unfold withinB;rw [Bool.and_eq_true,Int.toNat_natCast,upB_iff hr _ _ _ (Nat.le_of_lt (hb m hm))]
def Agree (s:SS) (U:Int->Int):Prop:=∀ m ∈ s.L,m.kind=2->(m.ino=1 ∨ 1<=m.links)->U m.ino=m.par
theorem up_root {s:SS} {c:Nat} (ht:Tree s) (hf:Wf s c) {a:Nat} (h:Up s.L 1 a):a=1:=by
 rcases h.inv with h1 | ⟨p,h1,_⟩
 . exact h1.symm
 . obtain ⟨m,hm,e1,_,h3,_⟩:=up1_mem h1;obtain ⟨rn,hrn,e2,_,e4,_⟩:=ht.root
   have:m=rn:=hf.one hm hrn (by omega)
   subst this
   omega
section
variable {n fb sb ub c:Nat} {w:World} {s:SS} {B:Nat->Nat} {U:Int->Int}
theorem within7 (h:FsM n w fb sb ub c s B U) (hf:Wf s c) (hc:c<=900) (ht:Tree s) (ha:Agree s U) (x:Int) (hw:(Lit.int .i64 x).wf=true) {ym:Nd} (hy:ym ∈ s.L) (hyk:ym.kind=2) (hyg:ym.ino=1 ∨ 1<=ym.links):Calls Tryz.prog 139 #[ptr fb,.int .i64 x,.int .i64 (ym.ino:Int)] w fun e w'=>e=.returned (.bool (withinB s x ym.ino))/\w'=w:=by
 have c1:=inodes_any h;have c2:=dir_at h.store x hw;have hiff:=within_iff ht hf hy x;unfold dirV at c2
 cases hd:isDir s x with
 | false =>
  rw [hd,if_neg (by simp)] at c2
  have e:withinB s x ym.ino=false:=by unfold withinB;rw [hd];rfl
  rw [e];clear h hf ht ha hiff;generalize (ym.ino:Int)=y at *;go_enter Tryz.func139,Tryz.ntmps139;go_wp2_with fail;refine c1.mono ?_;rintro e w1 ⟨rfl,hw1⟩;subst w1;go_wp2_with fail;refine c2.mono ?_;rintro e w1 ⟨rfl,hw1⟩;subst w1;go_wp2
  go_ret
  exact ⟨rfl,rfl⟩
 | true =>
  rw [hd,if_pos rfl] at c2;rw [hd] at hiff;have x1:=h.box.cell 1 rfl;obtain ⟨r,hr⟩:=ht.rank
  have hxn:x=((x.toNat:Nat):Int):=by
   unfold isDir at hd
   cases hx:look s x with
   | none=>rw [hx] at hd;cases hd
   | some y =>
    have:=(look_mem hx).2
    omega
  obtain ⟨a,ea⟩:∃ a,x.toNat=a:=⟨_,rfl⟩;rw [ea] at hxn hiff;obtain ⟨b,eb⟩:∃ b,withinB s x ym.ino=b:=⟨_,rfl⟩;rw [eb] at hiff ⊢
  have HI:Hid (b=true ↔ Up s.L ym.ino a):=⟨fun h=>(hiff.1 h).2,fun h=>hiff.2 ⟨rfl,h⟩⟩
  have HU:Hid (∀ m ∈ s.L,m.kind=2->(m.ino=1 ∨ 1<=m.links)->(Instr.lookup 101 (.map (some ub)) (.int .i64 (m.ino:Int)) false).run Tryz.prog w=.ok (.int .i64 (U m.ino)) w/\1<=m.ino/\(m.ino=1->∀ a,Up s.L m.ino a->a=1)/\(m.ino ≠ 1->∃ q ∈ s.L,q.kind=2/\(q.ino=1 ∨ 1<=q.links)/\U m.ino=(q.ino:Int)/\r q.ino < r m.ino/\(m.ino ≠ a->(Up s.L m.ino a ↔ Up s.L q.ino a)))):=fun m hm hk hg=>by
   refine ⟨h.up.look (ino_wf hf hc hm),(hf.num m hm).1,fun e a hu=>up_root ht hf (by rw [e] at hu;exact hu),fun hne => ?_⟩
   have hl:1<=m.links:=by omega
   obtain ⟨q,hq,h1,h2,h3,_⟩:=ht.parent hf hm hk hl
   have hup:up1 s.L m.ino=some q.ino:=by rw [up1_of hf hm hk hl,h1,Int.toNat_natCast]
   refine ⟨q,hq,h2,?_,by rw [ha m hm hk hg,h1],hr _ _ hup,fun hna=>⟨fun hu => ?_,fun hu=>Up.step hup hu⟩⟩
   . rcases (ht.dirs q hq h3).2 with h4 | h4 | h4
     . exact .inl h4
     . exact .inr h4
     . have:=(hf.num q hq).1;omega
   . rcases hu.inv with h4 | ⟨p,h4,h5⟩
     . exact absurd h4 hna
     . rw [hup] at h4;cases h4;exact h5
  have HY:Hid (ym ∈ s.L/\ym.kind=2/\(ym.ino=1 ∨ 1<=ym.links)):=⟨hy,hyk,hyg⟩;generalize B x.toNat=xb at *;clear h hf ht ha hiff hr hy hyk hyg eb hd ea hw;subst hxn;go_enter Tryz.func139,Tryz.ntmps139;go_wp2_with fail;refine c1.mono ?_;rintro e w1 ⟨rfl,hw1⟩;subst w1;go_wp2_with fail;refine c2.mono ?_;rintro e w1 ⟨rfl,hw1⟩;subst w1;go_wp2
  go_loop [2] (fun iv => ∃ m:Nd,iv=.int .i64 (m.ino:Int)/\Hid ((m ∈ s.L/\m.kind=2/\(m.ino=1 ∨ 1<=m.links))/\(b=true ↔ Up s.L m.ino a))) (fun iv=>r (intOf iv).toNat)
  case atStart=>exact ⟨ym,rfl,HY.out,HI.out⟩
  case round =>
   obtain ⟨m,rfl,HM⟩:=hrel;obtain ⟨hlk,hpos,hroot,hnext⟩:=HU.out m HM.out.1.1 HM.out.1.2.1 HM.out.1.2.2;have HR:Hid _:=hroot;have HN:Hid _:=hnext;clear hroot hnext HY HI
   by_cases e1:m.ino=a
   . have e1z:(m.ino:Int)=(a:Int):=by omega
     have HB:Hid (b=true):=HM.out.2.2 (by rw [e1];exact Up.refl _ _)
     clear HM HR HN hlk;go_wp2
     go_ret
     exact ⟨by rw [HB.out];simp,rfl⟩
   . have e1z:¬ (m.ino:Int)=(a:Int):=by omega
     by_cases e2:m.ino=1
     . have HB:Hid (b=false):=by
        cases hb:b with
        | false=>rfl
        | true=>exact absurd (HR.out e2 a (HM.out.2.1 hb)) (by omega)
       have e2z:(m.ino:Int)=1:=by omega
       rw [e2z] at e1z hlk ⊢;clear HM HR HN hlk;go_wp2
       go_ret
       exact ⟨by rw [HB.out];simp [e1z],rfl⟩
     . obtain ⟨q,hq1,hq2,hq3,hq4,hq5,hq6⟩:=HN.out e2
       have e2z:¬ (m.ino:Int)=1:=by omega
       have e3z:¬ (m.ino:Int)=0:=by omega
       have HQ:Hid ((q ∈ s.L/\q.kind=2/\(q.ino=1 ∨ 1<=q.links))/\(b=true ↔ Up s.L q.ino a)):=⟨⟨hq1,hq2,hq3⟩,HM.out.2.trans (hq6 e1)⟩;rw [hq4] at hlk;have HRk:Hid (r q.ino < r m.ino):=hq5;have n1:((m.ino:Int) != (a:Int))=true:=bne_iff_ne.2 e1z;have n2:((m.ino:Int) != 1)=true:=bne_iff_ne.2 e2z;have n3:((m.ino:Int) != 0)=true:=bne_iff_ne.2 e3z;clear HM HR HN hq1 hq2 hq3 hq4 hq5 hq6 HU;go_wp2
       go_round
       case rel=>exact ⟨q,rfl,HQ⟩
       case measure=>simpa [intOf] using HRk.out
end
theorem or_any (g:Nat) (a b:Int) (w:World) (h:Blk w g 34 [.int .i64 a,.int .i64 b]):Calls Tryz.prog 99 #[.slice (some ⟨g,0,none⟩) 2 2] w fun e w'=>e=.returned (.int .i64 (if a=0 then b else a))/\w'=w:=by
 have x0:=h.cell 0 rfl;have x1:=h.cell 1 rfl
 obtain ⟨R,hR⟩:∃ R,(if a=0 then b else a)=R:=⟨_,rfl⟩
 have HR:Hid ((if a=0 then b else a)=R):=hR
 rw [hR];clear h hR;go_enter Tryz.func99,Tryz.ntmps99;go_wp2
 go_loop [8] (fun i => ∃ k:Nat,k<=2/\i=.int .i64 k/\Hid ((1<=k->a=0)/\(2<=k->b=0))) (fun i=>2 - (intOf i).toNat)
 case atStart=>exact ⟨0,Nat.zero_le _,rfl,(fun h=>by omega),fun h=>by omega⟩
 case round =>
  obtain ⟨k,hk,rfl,H⟩:=hrel
  match k,hk with
  | 0,_ =>
   by_cases ha:a=0
   . subst ha;go_wp2
     go_round
     case rel=>exact ⟨1,by omega,by go_num,(fun _=>trivial),fun h=>by omega⟩
     case measure=>simp [intOf]
   . have HX:Hid (R=a):=by rw [<- HR.out,if_neg ha];exact rfl
     have hab:(a != 0)=true:=bne_iff_ne.2 ha;go_wp2
     go_ret
     exact ⟨by rw [HX.out];rfl,rfl⟩
  | 1,_ =>
   have ha:=H.out.1 (by omega)
   by_cases hb:b=0
   . subst hb;go_wp2
     go_round
     case rel=>exact ⟨2,by omega,by go_num,(fun _=>ha),fun _=>trivial⟩
     case measure=>simp [intOf]
   . have HX:Hid (R=b):=by rw [<- HR.out,if_pos ha];exact rfl
     have hbb:(b != 0)=true:=bne_iff_ne.2 hb;go_wp2
     go_ret
     exact ⟨by rw [HX.out];rfl,rfl⟩
  | 2,_ =>
   have HX:Hid (R=0):=by rw [<- HR.out,if_pos (H.out.1 (by omega))];exact H.out.2 (by omega)
   go_wp2
   go_ret
   exact ⟨by rw [HX.out];rfl,rfl⟩
theorem en_dir : ∀ args w,(callFunc 87 args).run Tryz.prog w=.ok (.enter 87 args) w:=fun _ _=>by simp [callFunc,Tryz.func87];rfl
def unlikeE (s:SS) (k was:Int):Int:=if isDir s k=true then (if isDir s was=true then (if 0 < (entsOf s was).length then 66 else 0) else 20) else (if isDir s was=true then 21 else 0)
section
variable {n fb sb ub c:Nat} {w:World} {s:SS} {B:Nat->Nat} {U:Int->Int}
theorem dir_len (h:FsM n w fb sb ub c s B U) (hf:Wf s c) {x:Int} (hd:isDir s x=true):Calls Tryz.prog 98 #[ptr (B x.toNat)] w fun e w'=>e=.returned (.int .i64 ((entsOf s x).length:Int))/\w'=w:=by
 cases hx:look s x with
 | none=>unfold isDir at hd;rw [hx] at hd;cases hd
 | some y =>
  obtain ⟨i,kn⟩:=y
  have hk2:kn.kind=2:=by unfold isDir at hd;rw [hx] at hd;simpa using hd
  obtain ⟨v,h2,_⟩:=h.store.dir hf hx hk2;rw [ents_look hx,<- (look_mem hx).2,Int.toNat_natCast]
  exact len_any 0 _ v kn.ds w h2
theorem unlike7 (h:FsM n w fb sb ub c s B U) (hf:Wf s c) (k was:Int) (hk:(Lit.int .i64 k).wf=true) (hw:(Lit.int .i64 was).wf=true):Calls Tryz.prog 140 #[ptr fb,.int .i64 k,.int .i64 was] w fun e w'=>e=.returned (.int .i64 (unlikeE s k was))/\Below w.heap.size w w':=by
 have x0:=h.box.cell 0 rfl
 have cK:=fun q=>dir_at (h.on (on_drewN (Below.refl _ _) q)).store k hk
 have cW:=fun q=>dir_at (h.on (on_drewN (Below.refl _ _) q)).store was hw
 have HL:Hid (isDir s was=true->∀ q,Calls Tryz.prog 98 #[ptr (B was.toNat)] (w.drewN q) fun e w'=>e=.returned (.int .i64 ((entsOf s was).length:Int))/\w'=w.drewN q):=fun hd q=>dir_len (h.on (on_drewN (Below.refl _ _) q)) hf hd
 have HB:Hid (∀ q,Below w.heap.size w (w.drewN q)):=fun q=>on_drewN (Below.refl _ _) q
 have HK:Hid (dirV B s k=if isDir s k=true then ptr (B k.toNat) else .pointer none):=rfl
 have HW:Hid (dirV B s was=if isDir s was=true then ptr (B was.toNat) else .pointer none):=rfl
 have HE:Hid (unlikeE s k was=if isDir s k=true then (if isDir s was=true then (if 0 < (entsOf s was).length then 66 else 0) else 20) else (if isDir s was=true then 21 else 0)):=rfl
 generalize unlikeE s k was=ue at *;generalize dirV B s k=kv at *;generalize dirV B s was=wv at *;generalize B k.toNat=kb at *;generalize B was.toNat=wb at *;generalize isDir s k=ik at *;generalize isDir s was=iw at *;clear h hf;go_enter Tryz.func140,Tryz.ntmps140;go_wp2
 refine wp_region_left (S:=fun W => ∃ q,W=w.drewN q) (Keep:=KeepK [])
  (g:=fun jj vv WW=>(([.is (ptr fb),.is (ptr fb),.is (.pointer (some ⟨fb,0,none⟩)),.is (ptr sb),.is (.int .i64 k),.is (kv),.is (ptr fb),.is (ptr fb),.is (.pointer (some ⟨fb,0,none⟩)),.is (ptr sb),.is (.int .i64 was),.is (wv),.is (kv),.is (wv)]:List (Kd 0)).getD jj Kd.any).ok vv WW)
  (tab:=[[(0,none)],[(9,some 0)],[(10,some 1)],[(11,some 2)],[(1,none)],[(12,some 3),(13,some 4)],[(0,none)],[(15,some 6)],[(16,some 7)],[(17,some 8)],[(2,none)],[(18,some 9),(19,some 10)],[(14,some 5)],[(20,some 11)]]) (tl:=[]) (n:=43)
  (by kernel_rfl) rfl (by kernel_rfl) keep_none ⟨1,rfl⟩ ?st ?en
 case st =>
  refine ⟨?_,?_,?_,?_,?_,?_,?_,?_,?_,?_,?_,?_,?_,?_,trivial⟩ <;> intro ρ W hr hS hs
  . exact step_plain rfl (leaves_move _ rfl ⟨hs.1,hS,Below.refl _ _⟩)
  . have h9:ρ (.tmp 9)=ptr fb:=hs.1
    refine step_plain rfl (leaves_value (w':=W) ?_ ⟨rfl,hS,Below.refl _ _⟩)
    obtain ⟨q,rfl⟩:=hS
    simp [go_sem,h9]
  . have h10:ρ (.tmp 10)=ptr fb:=hs.1
    refine step_plain rfl (leaves_value (w':=W) ?_ ⟨rfl,hS,Below.refl _ _⟩)
    obtain ⟨q,rfl⟩:=hS
    simp [go_sem,h10]
  . have h11:ρ (.tmp 11)=.pointer (some ⟨fb,0,none⟩):=hs.1
    refine step_plain rfl (leaves_value (w':=W) ?_ ⟨rfl,hS,Below.refl _ _⟩)
    obtain ⟨q,rfl⟩:=hS
    simp [go_sem,h11,x0]
  . exact step_plain rfl (leaves_move _ rfl ⟨hs.1,hS,Below.refl _ _⟩)
  . have h12:ρ (.tmp 12)=ptr sb:=hs.1;have h13:ρ (.tmp 13)=.int .i64 k:=hs.2.1;obtain ⟨q,rfl⟩:=hS
    refine step_plain rfl (leaves_call2 en_dir hr (.tmp 12) (.tmp 13) _ _ rfl h12 h13 ((cK q).mono ?_))
    rintro e W' ⟨rfl,rfl⟩
    exact ⟨_,rfl,rfl,⟨q,rfl⟩,Below.refl _ _⟩
  . exact step_plain rfl (leaves_move _ rfl ⟨hs.1,hS,Below.refl _ _⟩)
  . have h15:ρ (.tmp 15)=ptr fb:=hs.1
    refine step_plain rfl (leaves_value (w':=W) ?_ ⟨rfl,hS,Below.refl _ _⟩)
    obtain ⟨q,rfl⟩:=hS
    simp [go_sem,h15]
  . have h16:ρ (.tmp 16)=ptr fb:=hs.1
    refine step_plain rfl (leaves_value (w':=W) ?_ ⟨rfl,hS,Below.refl _ _⟩)
    obtain ⟨q,rfl⟩:=hS
    simp [go_sem,h16]
  . have h17:ρ (.tmp 17)=.pointer (some ⟨fb,0,none⟩):=hs.1
    refine step_plain rfl (leaves_value (w':=W) ?_ ⟨rfl,hS,Below.refl _ _⟩)
    obtain ⟨q,rfl⟩:=hS
    simp [go_sem,h17,x0]
  . exact step_plain rfl (leaves_move _ rfl ⟨hs.1,hS,Below.refl _ _⟩)
  . have h18:ρ (.tmp 18)=ptr sb:=hs.1;have h19:ρ (.tmp 19)=.int .i64 was:=hs.2.1;obtain ⟨q,rfl⟩:=hS
    refine step_plain rfl (leaves_call2 en_dir hr (.tmp 18) (.tmp 19) _ _ rfl h18 h19 ((cW q).mono ?_))
    rintro e W' ⟨rfl,rfl⟩
    exact ⟨_,rfl,rfl,⟨q,rfl⟩,Below.refl _ _⟩
  . exact step_plain rfl (leaves_assign _ rfl ⟨hs.1,hS,Below.refl _ _⟩)
  . exact step_plain rfl (leaves_assign _ rfl ⟨hs.1,hS,Below.refl _ _⟩)
 case en =>
  intro W hS v0 h0 v1 h1 v2 h2 v3 h3 v4 h4 v5 h5 v6 h6 v7 h7 v8 h8 v9 h9 v10 h10 v11 h11 v12 h12 v13 h13
  obtain rfl:v0=ptr fb:=h0 rfl;obtain rfl:v1=ptr fb:=h1 rfl;obtain rfl:v2=.pointer (some ⟨fb,0,none⟩):=h2 rfl;obtain rfl:v3=ptr sb:=h3 rfl;obtain rfl:v4=.int .i64 k:=h4 rfl;have e5:v5=kv:=h5 rfl;subst v5;obtain rfl:v6=ptr fb:=h6 rfl;obtain rfl:v7=ptr fb:=h7 rfl;obtain rfl:v8=.pointer (some ⟨fb,0,none⟩):=h8 rfl;obtain rfl:v9=ptr sb:=h9 rfl;obtain rfl:v10=.int .i64 was:=h10 rfl;have e11:v11=wv:=h11 rfl;subst v11
  have e12:v12=kv:=h12 rfl;subst v12;have e13:v13=wv:=h13 rfl;subst v13;clear h0 h1 h2 h3 h4 h5 h6 h7 h8 h9 h10 h11 h12 h13
  simp only [ends,Act.put,List.setIfInBounds_toArray,List.set_cons_succ,List.set_cons_zero]
  obtain ⟨q,rfl⟩:=hS;clear cK cW
  cases ik with
  | true =>
   obtain rfl:kv=ptr kb:=HK.out
   cases iw with
   | true =>
    obtain rfl:wv=ptr wb:=HW.out;have HL2:Hid _:=HL.out rfl
    have HE2:Hid (ue=if 0 < (entsOf s was).length then 66 else 0):=HE.out
    clear HL HE HK HW
    by_cases hl:0 < (entsOf s was).length
    . have hlz:(0:Int) < ((entsOf s was).length:Int):=by omega
      have HEE:Hid (ue=66):=by have:=HE2.out;rwa [if_pos hl] at this
      clear HE2;generalize (entsOf s was).length=ln at *;go_wp2_with fail;refine (HL2.out _).mono ?_;rintro e w1 ⟨rfl,hw1⟩;subst w1;go_wp2
      go_ret
      exact ⟨by rw [HEE.out];rfl,HB.out _⟩
    . have hlz:(entsOf s was).length=0:=by omega
      have HEE:Hid (ue=0):=by have:=HE2.out;rwa [if_neg hl] at this
      rw [hlz] at HL2;clear hl hlz HE2;go_wp2_with fail;refine (HL2.out _).mono ?_;rintro e w1 ⟨rfl,hw1⟩;subst w1;go_wp2
      go_ret
      exact ⟨by rw [HEE.out];rfl,HB.out _⟩
   | false =>
    obtain rfl:wv=.pointer none:=HW.out;have HEE:Hid (ue=20):=HE.out;clear HL HE HK HW;go_wp2
    go_ret
    exact ⟨by rw [HEE.out];rfl,HB.out _⟩
  | false =>
   obtain rfl:kv=.pointer none:=HK.out
   cases iw with
   | true =>
    obtain rfl:wv=ptr wb:=HW.out;have HEE:Hid (ue=21):=HE.out;clear HL HE HK HW;go_wp2
    go_ret
    exact ⟨by rw [HEE.out];rfl,HB.out _⟩
   | false =>
    obtain rfl:wv=.pointer none:=HW.out;have HEE:Hid (ue=0):=HE.out;clear HL HE HK HW;go_wp2
    go_ret
    exact ⟨by rw [HEE.out];rfl,HB.out _⟩
def hindE (s:SS) (d1 k d2 was:Int):Int:=if withinB s k d2=true then 22 else if was ≠ 0 then unlikeE s k was else if d1 ≠ d2/\64<=(entsOf s d2).length then 28 else 0
theorem hinders7 (h:FsM n w fb sb ub c s B U) (hf:Wf s c) (hc:c<=900) (ht:Tree s) (ha:Agree s U) (d1 k d2 was:Int) (_hd1:(Lit.int .i64 d1).wf=true) (hk:(Lit.int .i64 k).wf=true) (hd2:(Lit.int .i64 d2).wf=true) (hw:(Lit.int .i64 was).wf=true) (h2:dirE s d2=0):Calls Tryz.prog 101 #[ptr fb,.int .i64 d1,.int .i64 k,.int .i64 d2,.int .i64 was] w fun e w'=>e=.returned (.int .i64 (hindE s d1 k d2 was))/\Below w.heap.size w w':=by
 obtain ⟨i,dn,hx,hdk,hg⟩:=dirE_ok h2;obtain ⟨hm,e2⟩:=look_mem hx
 have c1:=within7 h hf hc ht ha k hk hm hdk (by omega)
 rw [e2] at c1;have c2:=unlike7 h hf k was hk hw;have c3:=dir_at h.store d2 hd2;obtain ⟨_,_,v,hx',_,_,eds,edv,hd0,_⟩:=h.into hf h2;rw [hx] at hx'
 cases hx'
 rw [edv] at c3;have c4:=full_any _ v dn.ds hd0;rw [eds] at c4;have x0:=h.box.cell 0 rfl;unfold hindE;clear h hf ht ha hx hd0 eds edv hm hk hd2 hw hdk hg h2;generalize withinB s k d2=wb at *;generalize unlikeE s k was=ue at *;generalize B dn.ino=db at *
 cases wb with
 | true =>
  rw [if_pos rfl];clear c2 c3 c4;go_enter Tryz.func101,Tryz.ntmps101;go_wp2_with fail;refine c1.mono ?_;rintro e w1 ⟨rfl,hw1⟩;subst w1;go_wp2
  go_ret
  exact ⟨rfl,Below.refl _ _⟩
 | false =>
  rw [if_neg (by simp)]
  by_cases h0:was ≠ 0
  . rw [if_pos h0];have hwb:(was != 0)=true:=bne_iff_ne.2 h0;clear c3 c4;go_enter Tryz.func101,Tryz.ntmps101;go_wp2_with fail;refine c1.mono ?_;rintro e w1 ⟨rfl,hw1⟩;subst w1;go_wp2_with fail;refine c2.mono ?_;rintro e w1 ⟨rfl,hb⟩;go_wp2
    go_ret
    exact ⟨rfl,hb⟩
  . rw [if_neg h0]
    obtain rfl:was=0:=by omega
    clear c2 h0
    by_cases h1:d1=d2
    . subst h1
      rw [if_neg fun h=>h.1 rfl]
      clear c3 c4;go_enter Tryz.func101,Tryz.ntmps101;go_wp2_with fail;refine c1.mono ?_;rintro e w1 ⟨rfl,hw1⟩;subst w1;go_wp2
      go_ret
      exact ⟨rfl,Below.refl _ _⟩
    . have h1b:(d1 != d2)=true:=bne_iff_ne.2 h1
      by_cases hfu:64<=(entsOf s d2).length
      . rw [if_pos ⟨h1,hfu⟩];rw [decide_eq_true hfu] at c4;clear hfu;go_enter Tryz.func101,Tryz.ntmps101;go_wp2_with fail;refine c1.mono ?_;rintro e w1 ⟨rfl,hw1⟩;subst w1;go_wp2_with fail;refine c3.mono ?_;rintro e w1 ⟨rfl,hw1⟩;subst w1;go_wp2_with fail;refine c4.mono ?_;rintro e w1 ⟨rfl,hw1⟩;subst w1;go_wp2
        go_ret
        exact ⟨rfl,Below.refl _ _⟩
      . rw [if_neg fun h=>hfu h.2]
        rw [decide_eq_false hfu] at c4;clear hfu;go_enter Tryz.func101,Tryz.ntmps101;go_wp2_with fail;refine c1.mono ?_;rintro e w1 ⟨rfl,hw1⟩;subst w1;go_wp2_with fail;refine c3.mono ?_;rintro e w1 ⟨rfl,hw1⟩;subst w1;go_wp2_with fail;refine c4.mono ?_;rintro e w1 ⟨rfl,hw1⟩;subst w1;go_wp2
        go_ret
        exact ⟨rfl,Below.refl _ _⟩
end
end Go.Proofs.YthlaoaaafafafaaGreat
