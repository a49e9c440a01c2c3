/- Ours. -/
import Derived.Test.YthlaoaaafafafaaGreatShelf
import Derived.Lib.IndexBytes
import Derived.Lib.DecodeN
import Derived.Lib.OthersKept
import Derived.Lib.IndexAny
import Derived.Laws.RangeAny
import Derived.Laws.Runes
import Derived.WalkMore
import Derived.Test.YthlaoaaafafafaaGreatC1
import Derived.Laws.Externs
set_option maxRecDepth 100000
set_option maxHeartbeats 16000000
namespace Go.Proofs.YthlaoaaafafafaaGreat
open Go Go.RowKit
def byteAt (s:ByteArray) (k:Nat):UInt8:=s.data.toList.getD k 0
theorem size_list (s:ByteArray):s.data.toList.length=s.size:=by rw [Array.length_toList];rfl
theorem idx_str (s:ByteArray) (k:Nat) (hk:k < s.size) (w:World):(Instr.index 9 (.string s) (.int .i64 (k:Int))).run Tryz.prog w=.ok (.int .u8 ((byteAt s k).toNat:Int)) w:=by
 rw [run_index_string w 9 s .i64 (k:Int) Tryz.underlying9]
 have e:byteAt s k=s[k]:=by
  unfold byteAt
  simp [List.getD,hk]
  rfl
 rw [e]
 simp [hk]
theorem byte_ne {s:ByteArray} {k:Nat} (h:byteAt s k ≠ 47):(((byteAt s k).toNat:Int) == 47)=false:=by
 rw [beq_eq_false_iff_ne]
 intro e
 have:(byteAt s k).toNat=47:=by omega
 exact h (UInt8.toNat_inj.1 (this.trans (by rfl)))
theorem byte_nz {s:ByteArray} {k:Nat} (h:byteAt s k ≠ 0):(((byteAt s k).toNat:Int) == 0)=false:=by
 rw [beq_eq_false_iff_ne]
 intro e
 have:(byteAt s k).toNat=0:=by omega
 exact h (UInt8.toNat_inj.1 (this.trans (by rfl)))
theorem byte_found (c:UInt8):∀ l:List UInt8,decide (0<=Lib.indexByte l c)=l.contains c
 | []=>rfl
 | b :: l=>by
  have IH:=byte_found c l;have hge:=Lib.indexByte_ge l c;rw [List.contains_cons]
  by_cases hb:b=c
  . have e:Lib.indexByte (b :: l) c=0:=by rw [Lib.indexByte,if_pos (by simpa using hb)]
    rw [e,hb];simp
  . have hcb:(c == b)=false:=beq_eq_false_iff_ne.2 fun e=>hb e.symm
    rw [hcb,Bool.false_or,<- IH]
    by_cases h1:Lib.indexByte l c = -1
    . have e:Lib.indexByte (b :: l) c = -1:=by rw [Lib.indexByte,if_neg (by simpa using hb),if_pos (by simpa using h1)]
      rw [e,h1]
    . have e:Lib.indexByte (b :: l) c=Lib.indexByte l c+1:=by rw [Lib.indexByte,if_neg (by simpa using hb),if_neg (by simpa using h1)]
      rw [e,decide_eq_true (by omega),decide_eq_true (by omega)]
theorem empty_iff (s:ByteArray):s.toList.isEmpty=decide (s.size=0):=by
 rw [ByteArray.toList_eq,<- size_list]
 cases s.data.toList <;> simp
theorem tooLong_any (x:ByteArray) (W:World) (hx:x.size<=10000):Calls Tryz.prog 115 #[.string x] W fun e w'=>e=.returned (.bool (decide (32 < x.size)))/\w'=W:=by
 by_cases h:32 < x.size
 . have hz:(32:Int) < (x.size:Int):=by omega
   rw [decide_eq_true h];go_enter Tryz.func115,Tryz.ntmps115;go_wp2
   go_ret
   exact ⟨rfl,rfl⟩
 . have hz:¬ (32:Int) < (x.size:Int):=by omega
   rw [decide_eq_false h];go_enter Tryz.func115,Tryz.ntmps115;go_wp2
   go_ret
   exact ⟨rfl,rfl⟩
theorem leaves_sliceO {P:Program} {o:Oper} {ρ:Operand->Value} {w:World} {post:Value->World->Prop} (t:TypeId) (x:Operand) (lo hi mx:Option Operand) (ho:o.op=.slice t x lo hi mx) {v:Value} (hrun:(Instr.sliceAt t (ρ x) (lo.map ρ) (hi.map ρ) (mx.map ρ)).run P w=.ok v w) (h:post v w):leaves P o ρ w post:=by
 refine leaves_value (v:=v) (w':=w) ?_ h
 obtain ⟨dst,op,ty,pos,after,guard⟩:=o
 simp only at ho
 subst ho
 simp [execOp,hrun]
theorem get_byte (s:ByteArray) (k:Nat):s.get! k=byteAt s k:=by
 unfold byteAt
 show s.data[k]! = _
 rw [List.getD_eq_getElem?_getD,Array.getElem?_toList]
 by_cases h:k < s.data.size
 . rw [getElem!_pos s.data k h,Array.getElem?_eq_getElem h];rfl
 . rw [getElem!_neg s.data k h,Array.getElem?_eq_none (by omega)];rfl
theorem decode_far (s:ByteArray) (i:Nat) (h:128<=(byteAt s i).toNat) (hi:i < s.size) :
 1<=(Utf8.decode s i).2/\i+(Utf8.decode s i).2<=s.size/\128<=(Utf8.decode s i).1/\(∀ j,i<=j->j < i+(Utf8.decode s i).2->128<=(byteAt s j).toNat)/\Lib.validRune ((Utf8.decode s i).1:Int)=true:=by
 have hb:∀ k,(byteAt s k).toNat < 256:=fun k=>(byteAt s k).toNat_lt
 have h1:=hb (i+1);have h2:=hb (i+2);have h3:=hb (i+3);have h0:=hb i;rw [Lib.decode_at,get_byte,get_byte,get_byte,get_byte]
 have key:∀ wd,(∀ k,k < wd->128<=(byteAt s (i+k)).toNat)->∀ j,i<=j->j < i+wd->128<=(byteAt s j).toNat:=fun wd hk j hj1 hj2=>by
  have:=hk (j - i) (by omega)
  rwa [show i+(j - i)=j by omega] at this
 obtain ⟨b0,e0⟩:∃ b,(byteAt s i).toNat=b:=⟨_,rfl⟩;obtain ⟨b1,e1⟩:∃ b,(byteAt s (i+1)).toNat=b:=⟨_,rfl⟩;obtain ⟨b2,e2⟩:∃ b,(byteAt s (i+2)).toNat=b:=⟨_,rfl⟩;obtain ⟨b3,e3⟩:∃ b,(byteAt s (i+3)).toNat=b:=⟨_,rfl⟩;rw [e0] at h h0;rw [e1] at h1;rw [e2] at h2;rw [e3] at h3;rw [e0,e1,e2,e3]
 have one:∀ k,k < 1->128<=(byteAt s (i+k)).toNat:=fun k hk=>by
  obtain rfl:k=0:=by omega
  rw [Nat.add_zero,e0];exact h
 unfold Lib.decodeN
 rw [if_neg (by omega)]
 split
 . rename_i hc
   split
   . refine ⟨by omega,by simp only;omega,by simp only;omega,key 2 fun k hk => ?_,?_⟩
     . match k,hk with
       | 0,_=>rw [Nat.add_zero,e0];exact h
       | 1,_=>rw [e1];omega
     . simp only [Lib.validRune];exact decide_eq_true (.inl (by omega))
   . exact ⟨by omega,by simp only;omega,by simp only;omega,key 1 one,by decide⟩
 . split
   . rename_i hc
     split
     . rename_i hv
       refine ⟨by omega,by simp only;omega,by simp only;omega,key 3 fun k hk => ?_,?_⟩
       . match k,hk with
         | 0,_=>rw [Nat.add_zero,e0];exact h
         | 1,_=>rw [e1];omega
         | 2,_=>rw [e2];omega
       . simp only [Lib.validRune]
         refine decide_eq_true ?_
         rcases hv.2 with hv | hv
         . exact .inl (by omega)
         . exact .inr (by omega)
     . exact ⟨by omega,by simp only;omega,by simp only;omega,key 1 one,by decide⟩
   . split
     . rename_i hc
       split
       . rename_i hv
         refine ⟨by omega,by simp only;omega,by simp only;omega,key 4 fun k hk => ?_,?_⟩
         . match k,hk with
           | 0,_=>rw [Nat.add_zero,e0];exact h
           | 1,_=>rw [e1];omega
           | 2,_=>rw [e2];omega
           | 3,_=>rw [e3];omega
         . simp only [Lib.validRune]
           refine decide_eq_true ?_
           rcases hv.2 with hv | hv
           . exact .inl (by omega)
           . exact .inr (by omega)
       . exact ⟨by omega,by simp only;omega,by simp only;omega,key 1 one,by decide⟩
     . exact ⟨by omega,by simp only;omega,by simp only;omega,key 1 one,by decide⟩
def slB : ByteArray:=⟨#[47,0]⟩
theorem runeErr (w:World):Calls Tryz.prog 186 #[.string slB,.int .i32 65533] w fun e w'=>e=.returned (.int .i64 (-1))/\Below w.heap.size w w':=by
 have n0:=fun ty=>run_next_ascii (P:=Tryz.prog) w slB 0 ty (by decide) (by decide)
 have n1:=fun ty=>run_next_ascii (P:=Tryz.prog) w slB 1 ty (by decide) (by decide)
 have n2:=fun ty=>run_next_end (P:=Tryz.prog) w slB 2 ty (by decide)
 have v0:((slB[0]'(by decide)).toNat:Int)=47:=rfl
 have v1:((slB[1]'(by decide)).toNat:Int)=0:=rfl
 rw [v0] at n0;rw [v1] at n1
 have HB:Hid (∀ k,Below w.heap.size w (w.iter slB k)):=fun k=>on_alloc w _
 clear v0 v1;generalize slB=s at *;go_enter Tryz.func186,Tryz.ntmps186;go_wp2
 go_loopg [5,6] 2 (fun g _ _ wx=>g<=2/\wx=w.iter s (2 - g))
 case atStart=>exact ⟨Nat.le_refl _,rfl⟩
 case round =>
  obtain ⟨hg,rfl⟩:=hrel
  match gk,hg with
  | 0,_ =>
   go_wp2
   go_ret
   exact ⟨rfl,HB.out _⟩
  | 1,_ =>
   go_wp2
   go_roundg 0
   case measure=>omega
   case rel=>exact ⟨by omega,rfl⟩
  | 2,_ =>
   go_wp2
   go_roundg 1
   case measure=>omega
   case rel=>exact ⟨by omega,rfl⟩
theorem en_indexByte : ∀ args w,(callFunc 168 args).run Tryz.prog w=.ok (.enter 168 args) w:=enters_of Tryz.func168 (by kernel_rfl) rfl
theorem last_byte (s:ByteArray) (h:s.size - 1 < s.size):byteAt s (s.size - 1)=s[s.size - 1]'h:=by
 unfold byteAt
 rw [List.getD_eq_getElem?_getD,Array.getElem?_toList,Array.getElem?_eq_getElem (show s.size - 1 < s.data.size from h)]
 rfl
theorem valid_of (r:Int) (hv:Lib.validRune r=true):Utf8.valid r=true:=by
 rw [validRune_eq];unfold Lib.validRune at hv;unfold validRune
 simpa using hv
theorem enc_facts (r:Nat) (h:128<=r) (hv:Lib.validRune (r:Int)=true):2<=(Utf8.encode (r:Int)).size/\(Utf8.encode (r:Int)).size<=4/\128<=(byteAt (Utf8.encode (r:Int)) ((Utf8.encode (r:Int)).size - 1)).toNat:=by
 have h0:(128:Int)<=(r:Int):=by omega
 obtain ⟨h1,h2,h3⟩:=encode_facts (r:Int) (valid_of _ hv) h0
 refine ⟨h1,h2,?_⟩
 have h4:(Utf8.encode (r:Int)).size - 1 < (Utf8.encode (r:Int)).size:=Nat.sub_lt (Nat.lt_of_lt_of_le (by decide) h1) (by decide)
 rw [last_byte _ h4]
 exact h3 h4
theorem runeFar (r:Nat) (w:World) (h:128<=r) (hne:r ≠ 65533) (hv:Lib.validRune (r:Int)=true) (hr:r<=2147483647):Calls Tryz.prog 186 #[.string slB,.int .i32 (r:Int)] w fun e w'=>e=.returned (.int .i64 (-1))/\Below w.heap.size w w':=by
 obtain ⟨e1,e2,e3⟩:=enc_facts r h hv;have cV:=Tryz.utf8_ValidRune (r:Int);rw [hv] at cV
 have g0:(0:Int)<=(r:Int):=by omega
 have g1:¬ (r:Int) < 128:=by omega
 have g2:((r:Int) == 65533)=false:=by rw [beq_eq_false_iff_ne];omega
 have hwr:wrap64 (((Utf8.encode (r:Int)).size:Int) - 1)=((Utf8.encode (r:Int)).size:Int) - 1:=by unfold wrap64;omega
 have hsz:slB.size=2:=rfl;clear hv h hne
 by_cases h2:(Utf8.encode (r:Int)).size=2
 . have hx0:∀ w,(Instr.index 9 (.string slB) (.int .i64 1)).run Tryz.prog w=.ok (.int .u8 0) w:=idx_str slB 1 (by decide)
   obtain ⟨c,hc⟩:∃ c,(byteAt (Utf8.encode (r:Int)) 1).toNat=c:=⟨_,rfl⟩
   have hx1:∀ w,(Instr.index 9 (.string (Utf8.encode (r:Int))) (.int .i64 1)).run Tryz.prog w=.ok (.int .u8 (c:Int)) w:=by rw [<- hc];exact idx_str (Utf8.encode (r:Int)) 1 (by omega)
   rw [h2] at e3
   have e4:128<=c:=by rw [<- hc];exact e3
   have hsl:∀ W:World,(Instr.sliceAt 9 (.string slB) (some (.int .i64 2)) none none).run Tryz.prog W=.ok (.string ByteArray.empty) W:=fun W=>by kernel_rfl
   have hnq:((0:Int) == (c:Int))=false:=by rw [beq_eq_false_iff_ne];omega
   have hnq2:((0:Int) != (c:Int))=true:=by simp only [bne,hnq];rfl
   have cI:∀ W,Calls Tryz.prog 168 #[.string ByteArray.empty,.int .u8 (c:Int)] W fun e w'=>e=.returned (.int .i64 (-1))/\w'=W:=fun W=>Tryz.strings_IndexByte ByteArray.empty (c:Int) W
   have hwr1:wrap64 (((Utf8.encode (r:Int)).size:Int) - 1)=1:=by rw [hwr];omega
   clear hc e3 hwr;generalize slB=s at *;go_enter Tryz.func186,Tryz.ntmps186
   go_wp2_with (go_at_call 199;refine (cV _).mono ?_;rintro e w' ⟨rfl,hw⟩;replace hw:=hw.symm;subst hw)
   go_step3
   go_wp2;generalize Utf8.encode (r:Int)=rs at *
   go_loopw [9,10] (fun s9 _ wr=>s9=.int .i64 1/\∃ q,wr=w.drewN q) (fun _ _ _=>0)
   case atStart=>exact ⟨rfl,0,rfl⟩
   case round =>
    obtain ⟨rfl,q,rfl⟩:=hrel;go_wp2
    go_step3
    go_wp2;go_quiet (fail);go_wp2
    refine wp_region_left (S:=fun W=>Below w.heap.size w W) (Keep:=KeepK [])
     (g:=fun i v W=>(([.is (.string s),.is (.int .i64 1),.is (.int .i64 2),.is (.string ByteArray.empty),.is (.string rs),.is (.int .i64 1),.is (.int .u8 (c:Int)),.is (.int .i64 (-1)),.is (.int .i64 (-1))]:List (Kd 0)).getD i Kd.any).ok v W)
     (tab:=[[(0,none)],[(9,none)],[(35,some 1)],[(34,some 0),(36,some 2)],[(7,none)],[(8,none)],[(38,some 4),(39,some 5)],[(37,some 3),(40,some 6)],[(41,some 7)]]) (tl:=[]) (n:=187)
     (by kernel_rfl) rfl (by kernel_rfl) keep_none (on_drew (on_drewN (on_drewN (Below.refl _ _) _) _)) ?st ?en
    case st =>
     refine ⟨?_,?_,?_,?_,?_,?_,?_,?_,?_,trivial⟩ <;> intro ρ W hr hS hs
     . exact step_plain rfl (leaves_move (.tmp 0) rfl ⟨hs.1,hS,Below.refl _ _⟩)
     . exact step_plain rfl (leaves_move (.tmp 9) rfl ⟨hs.1,hS,Below.refl _ _⟩)
     . have h35:ρ (.tmp 35)=.int .i64 1:=hs.1;have hc1:=hr.const (.int .i64 1)
       refine step_plain rfl (leaves_value (w':=W) ?_ ⟨rfl,hS,Below.refl _ _⟩)
       simp [go_sem,h35,hc1]
       decide
     . obtain ⟨h34,h36,_⟩:=hs;have h34':ρ (.tmp 34)=.string s:=h34;have h36':ρ (.tmp 36)=.int .i64 2:=h36
       refine step_plain rfl (leaves_sliceO 9 (.tmp 34) (some (.tmp 36)) none none rfl (v:=.string ByteArray.empty) ?_ ⟨rfl,hS,Below.refl _ _⟩)
       simp only [Option.map_some,Option.map_none,h34',h36']
       exact hsl W
     . exact step_plain rfl (leaves_move (.tmp 7) rfl ⟨hs.1,hS,Below.refl _ _⟩)
     . exact step_plain rfl (leaves_move (.tmp 8) rfl ⟨hs.1,hS,Below.refl _ _⟩)
     . obtain ⟨h38,h39,_⟩:=hs;have h38':ρ (.tmp 38)=.string rs:=h38;have h39':ρ (.tmp 39)=.int .i64 1:=h39
       refine step_plain rfl (leaves_value (w':=W) ?_ ⟨rfl,hS,Below.refl _ _⟩)
       simp [execOp,h38',h39',hx1]
     . obtain ⟨h37,h40,_⟩:=hs
       refine step_plain rfl (leaves_call2 en_indexByte hr (.tmp 37) (.tmp 40) _ _ rfl h37 h40 ?_)
       refine (cI W).mono ?_
       rintro e W' ⟨rfl,rfl⟩
       exact ⟨_,rfl,rfl,hS,Below.refl _ _⟩
     . exact step_plain rfl (leaves_assign (.tmp 41) rfl ⟨hs.1,hS,Below.refl _ _⟩)
    case en =>
     intro W hS v0 h0 v1 h1 v2 h2 v3 h3 v4 h4 v5 h5 v6 h6 v7 h7 v8 h8
     obtain rfl:v8=.int .i64 (-1):=h8 rfl;clear h0 h1 h2 h3 h4 h5 h6 h7 h8
     simp only [ends,Act.put,List.setIfInBounds_toArray,List.set_cons_succ,List.set_cons_zero]
     go_wp2;rw [Exit.noGoto_ret];go_wp2;rw [Exit.noGoto_ret]
     go_ret
     exact ⟨rfl,hS⟩
 . have hlt:¬ (((Utf8.encode (r:Int)).size:Int) - 1) < 2:=by omega
   generalize slB=s at *;go_enter Tryz.func186,Tryz.ntmps186
   go_wp2_with (go_at_call 199;refine (cV _).mono ?_;rintro e w' ⟨rfl,hw⟩;replace hw:=hw.symm;subst hw)
   go_step3
   go_wp2;generalize Utf8.encode (r:Int)=rs at *
   go_loop [9,10] (fun s9 _=>s9=.int .i64 ((rs.size:Int) - 1)) (fun _ _=>0)
   case atStart=>rfl
   case round =>
    subst hrel;go_wp2
    go_ret
    exact ⟨rfl,Below.refl _ _⟩
theorem rune_far (r:Nat) (w:World) (h:128<=r) (hv:Lib.validRune (r:Int)=true) (hr:r<=2147483647):Calls Tryz.prog 186 #[.string slB,.int .i32 (r:Int)] w fun e w'=>e=.returned (.int .i64 (-1))/\Below w.heap.size w w':=by
 by_cases e:r=65533
 . subst e;exact runeErr w
 . exact runeFar r w h e hv hr
def badC (c:UInt8):Bool:=c == 47 || c == 0
def badB (s:ByteArray):Bool:=s.data.toList.any badC
theorem bad_at {s:ByteArray} {k:Nat} (hk:k < s.size) (h:badC (byteAt s k)=true):badB s=true:=by
 have hs:=size_list s;unfold badB
 refine List.any_eq_true.2 ⟨byteAt s k,?_,h⟩
 unfold byteAt
 rw [List.getD_eq_getElem?_getD,List.getElem?_eq_getElem (by omega)]
 exact List.getElem_mem _
theorem bad_none {s:ByteArray} (h:∀ j,j < s.size->badC (byteAt s j)=false):badB s=false:=by
 have hs:=size_list s;unfold badB
 refine List.any_eq_false.2 fun c hc => ?_
 obtain ⟨j,hj,e⟩:=List.getElem_of_mem hc
 have:=h j (by omega)
 unfold byteAt at this;rw [List.getD_eq_getElem?_getD,List.getElem?_eq_getElem hj] at this;rw [<- e]
 simpa using this
theorem bad_far {c:UInt8} (h:128<=c.toNat):badC c=false:=by
 unfold badC
 have h1:(c == 47)=false:=beq_eq_false_iff_ne.2 fun e=>by rw [e] at h;revert h;decide
 have h2:(c == 0)=false:=beq_eq_false_iff_ne.2 fun e=>by rw [e] at h;revert h;decide
 rw [h1,h2];rfl
theorem bad_index (c:UInt8):decide (0<=Lib.indexByte slB.data.toList c)=badC c:=by
 rw [byte_found]
 show [47,0].contains c=_
 unfold badC
 by_cases h1:c=47
 . subst h1;decide
 . by_cases h2:c=0
   . subst h2;decide
   . simp [h1,h2]
theorem indexAny_bad : ∀ l:List UInt8,decide (0<=Lib.indexAny l [47,0])=l.any badC
 | []=>rfl
 | b :: l=>by
  have IH:=indexAny_bad l;have hge:=Lib.indexAny_ge [47,0] l;rw [List.any_cons]
  have hb:([47,0]:List UInt8).contains b=badC b:=by
   have:=bad_index b;rw [byte_found] at this
   exact this
  by_cases h:badC b=true
  . have e:Lib.indexAny (b :: l) [47,0]=0:=by rw [Lib.indexAny,if_pos (by rw [hb];exact h)]
    rw [e,h];rfl
  . have h':badC b=false:=by simpa using h
    rw [h',Bool.false_or,<- IH]
    by_cases h1:Lib.indexAny l [47,0] = -1
    . have e:Lib.indexAny (b :: l) [47,0] = -1:=by rw [Lib.indexAny,if_neg (by rw [hb];exact h),if_pos (by simpa using h1)]
      rw [e,h1]
    . have e:Lib.indexAny (b :: l) [47,0]=Lib.indexAny l [47,0]+1:=by rw [Lib.indexAny,if_neg (by rw [hb];exact h),if_neg (by simpa using h1)]
      rw [e,decide_eq_true (by omega),decide_eq_true (by omega)]
def AnyPost (s:ByteArray) (w:World) (e:Ending) (w':World):Prop:=∃ n:Int,e=.returned (.int .i64 n)/\decide (0<=n)=badB s/\Below w.heap.size w w'
structure IterSt (s:ByteArray) (w:World) (i:Nat) (W:World):Prop where
 it:W.heap[w.heap.size]? = some (.stringIter s i)
 on:Below w.heap.size w W
 le:i<=s.size
 no:∀ j,j < i->badC (byteAt s j)=false
theorem indexAny_small (s:ByteArray) (w:World) (h8:s.size<=8):Calls Tryz.prog 170 #[.string s,.string slB] w (AnyPost s w):=by
 have hemp:slB.toList.isEmpty=false:=by rw [empty_iff];rfl
 have hn1:((slB.size:Int) == 1)=false:=rfl
 have cU:∀ W,Calls Tryz.prog 187 #[.int .i64 (s.size:Int)] W fun e w'=>e=.returned (.bool false)/\w'=W:=fun W=>by
  have:=Tryz.strings_shouldUseASCIISet (s.size:Int) W
  rwa [decide_eq_false (by omega)] at this
 have cA:=fun (r:Int) W h0 h1=>Tryz.strings_IndexRune_ascii slB r W h0 h1
 have cF:=rune_far;have HI:=bad_index
 have HS0:Hid (IterSt s w 0 (w.iter s 0)):=⟨World.iter_heap w s 0,on_alloc w _,Nat.zero_le _,fun j hj=>absurd hj (Nat.not_lt_zero _)⟩
 have HIX:Hid (∀ c,decide (0<=Lib.indexByte slB.data.toList c)=badC c):=HI;clear HI;generalize slB.data.toList=sl at *;generalize slB=t at *;go_enter Tryz.func170,Tryz.ntmps170
 go_wp2_with (go_at_call 187;refine (cU _).mono ?_;rintro e w' ⟨rfl,hw⟩;replace hw:=hw.symm;subst hw)
 go_loopg [9,10] s.size (fun g _ _ wx => ∃ i:Nat,s.size<=i+g/\Hid (IterSt s w i wx))
 case atStart=>exact ⟨0,by omega,HS0⟩
 case round =>
  obtain ⟨i,hig,HS⟩:=hrel
  by_cases hi:i < s.size
  . have HDF:Hid (128<=(byteAt s i).toNat->1<=(Utf8.decode s i).2/\i+(Utf8.decode s i).2<=s.size/\128<=(Utf8.decode s i).1/\(∀ j,i<=j->j < i+(Utf8.decode s i).2->128<=(byteAt s j).toNat)/\Lib.validRune ((Utf8.decode s i).1:Int)=true):=fun hb=>decode_far s i hb hi
    have hle:=decode_le s i
    have hnx:=fun ty=>Lib.run_next_any_at (P:=Tryz.prog) wr w.heap.size s i ty HS.out.it hi
    by_cases hlo:(byteAt s i).toNat < 128
    . have hby:byteAt s i=s[i]'hi:=by
       unfold byteAt
       rw [List.getD_eq_getElem?_getD,Array.getElem?_toList,Array.getElem?_eq_getElem (show i < s.data.size from hi)]
       rfl
      have hdec:Utf8.decode s i=((byteAt s i).toNat,1):=by rw [hby];exact decode_ascii s i hi (by rw [<- hby];exact hlo)
      rw [hdec] at hnx
      simp only at hnx
      have c1:=cA ((byteAt s i).toNat:Int)
      have hback:(((byteAt s i).toNat:Int)).toNat.toUInt8=byteAt s i:=by simp
      rw [hback] at c1;have hbi:=HIX.out (byteAt s i)
      have HST:Hid (badC (byteAt s i)=false->IterSt s w (i+1) (wr.iterAt w.heap.size s (i+1))):=fun hb=>⟨Lib.iterAt_heap wr _ s i (i+1) HS.out.it,Lib.below_iterAt HS.out.on (Nat.le_refl _) s (i+1),hi,fun j hj=>by
       by_cases e:j=i
       . subst e;exact hb
       . exact HS.out.no j (by omega)⟩
      have HBE:Hid (Below w.heap.size w (wr.iterAt w.heap.size s (i+1))):=Lib.below_iterAt HS.out.on (Nat.le_refl _) s (i+1)
      have HBA:Hid (badC (byteAt s i)=true->badB s=true):=fun h=>bad_at hi h
      clear hby hdec hback HDF hle cF;obtain ⟨b,hb⟩:∃ b,badC (byteAt s i)=b:=⟨_,rfl⟩;rw [hb] at hbi HST HBA;clear hb;generalize Lib.indexByte sl (byteAt s i)=n at *;generalize (byteAt s i).toNat=x at *
      have hx0:(0:Int)<=(x:Int):=by omega
      have hx1:(x:Int) < 128:=by omega
      have c2:=fun W=>c1 W hx0 hx1
      clear c1
      cases b with
      | true =>
       have hn:(0:Int)<=n:=of_decide_eq_true hbi;have HBT:Hid (badB s=true):=HBA.out rfl
       go_wp2_with (go_at_call 186;refine (c2 _).mono ?_;rintro e w' ⟨rfl,hw⟩;replace hw:=hw.symm;subst hw)
       go_ret
       exact ⟨(i:Int),rfl,by rw [HBT.out];exact decide_eq_true (by omega),HBE.out⟩
      | false =>
       have hn:¬ (0:Int)<=n:=of_decide_eq_false hbi;have HN:Hid (IterSt s w (i+1) (wr.iterAt w.heap.size s (i+1))):=HST.out rfl
       go_wp2_with (go_at_call 186;refine (c2 _).mono ?_;rintro e w' ⟨rfl,hw⟩;replace hw:=hw.symm;subst hw)
       go_roundg (gk - 1)
       case measure=>omega
       case rel=>exact ⟨i+1,by omega,HN⟩
    . obtain ⟨d1,d2,d3,d4,d5⟩:=HDF.out (by omega)
      have c2:=fun W=>cF (Utf8.decode s i).1 W d3 d5 hle
      have HN:Hid (∀ W',Below (wr.iterAt w.heap.size s (i+(Utf8.decode s i).2)).heap.size (wr.iterAt w.heap.size s (i+(Utf8.decode s i).2)) W'->IterSt s w (i+(Utf8.decode s i).2) W'):=fun W' hb'=>by
       have hlt:w.heap.size < (wr.iterAt w.heap.size s (i+(Utf8.decode s i).2)).heap.size:=by rw [Lib.iterAt_size];exact (Array.getElem?_eq_some_iff.1 HS.out.it).1
       refine ⟨(hb'.block _ hlt).trans (Lib.iterAt_heap wr _ s i _ HS.out.it),(Lib.below_iterAt HS.out.on (Nat.le_refl _) s _).trans (hb'.mono (by omega)),d2,fun j hj => ?_⟩
       by_cases e:j < i
       . exact HS.out.no j e
       . exact bad_far (d4 j (by omega) hj)
      clear HDF d4 d5 hle cF cA HIX;generalize (Utf8.decode s i).1=r at *;generalize (Utf8.decode s i).2=wd at *
      go_wp2_with (go_at_call 186;refine (c2 _).mono ?_;rintro e w' ⟨rfl,hb'⟩)
      have HN2:Hid (IterSt s w (i+wd) w'):=HN.out _ hb'
      go_roundg (gk - 1)
      case measure=>omega
      case rel=>exact ⟨i+wd,by omega,HN2⟩
  . have hnx:=fun ty=>Lib.run_next_end_at (P:=Tryz.prog) wr w.heap.size s i ty HS.out.it hi
    have HBN:Hid (badB s=false):=bad_none fun j hj=>HS.out.no j (by omega)
    have HBE:Hid (Below w.heap.size w wr):=HS.out.on;clear cA cF cU;go_wp2
    go_ret
    exact ⟨-1,rfl,by rw [HBN.out];rfl,HBE.out⟩
theorem containsAny_any (s:ByteArray) (w:World) (hs:s.size<=10000):Calls Tryz.prog 138 #[.string s,.string slB] w fun e w'=>e=.returned (.bool (badB s))/\Below w.heap.size w w':=by
 have cI:Calls Tryz.prog 170 #[.string s,.string slB] w (AnyPost s w):=by
  by_cases h8:s.size<=8
  . exact indexAny_small s w h8
  . refine (Tryz.strings_IndexAny_long (fun W=>by kernel_rfl) s slB w (by decide) (by omega) (by omega) (by decide) (fun j b h=>by
     match j,h with
     | 0,h=>simp [slB] at h;subst h;decide
     | 1,h=>simp [slB] at h;subst h;decide
     | j+2,h=>simp [slB] at h)).mono ?_
    rintro e w' ⟨rfl,rfl⟩
    exact ⟨_,rfl,indexAny_bad _,on_trans (on_alloc _ _) (on_alloc _ _)⟩
 generalize slB=t at *;go_enter Tryz.func138,Tryz.ntmps138;go_wp2_with fail;refine cI.mono ?_;rintro e w1 ⟨n,rfl,hn,hb⟩;have HN:Hid (decide (0<=n)=badB s):=hn;clear hn;go_wp2
 go_ret
 exact ⟨by rw [<- HN.out];rfl,hb⟩
def nameE (s:ByteArray):Int:=if s.size=0 then 2 else if 32 < s.size then 63 else if s.toList == [46] || s.toList == [46,46] || badB s then 22 else 0
theorem name_any (s:ByteArray) (w:World) (hs:s.size<=10000):Calls Tryz.prog 100 #[.string s] w fun e w'=>e=.returned (.int .i64 (nameE s))/\Below w.heap.size w w':=by
 have cT:=fun W=>tooLong_any s W hs
 have cC:=fun W=>containsAny_any s W hs
 unfold slB at cC;have hE:=empty_iff s
 have HN:Hid (nameE s=if s.size=0 then 2 else if 32 < s.size then 63 else if s.toList == [46] || s.toList == [46,46] || badB s then 22 else 0):=rfl
 obtain ⟨n,hn⟩:∃ n,nameE s=n:=⟨_,rfl⟩;have hN:=HN.out;rw [hn] at hN ⊢;clear HN hn
 by_cases h0:s.size=0
 . rw [if_pos h0] at hN;rw [decide_eq_true h0] at hE;subst hN;clear h0 cT cC;go_enter Tryz.func100,Tryz.ntmps100;go_wp2
   go_ret
   exact ⟨rfl,Below.refl _ _⟩
 rw [if_neg h0] at hN;rw [decide_eq_false h0] at hE
 by_cases h1:32 < s.size
 . rw [if_pos h1] at hN;rw [decide_eq_true h1] at cT;subst hN;clear h0 h1 cC;go_enter Tryz.func100,Tryz.ntmps100;go_wp2_with fail;refine (cT _).mono ?_;rintro e w1 ⟨rfl,rfl⟩;go_wp2
   go_ret
   exact ⟨rfl,Below.refl _ _⟩
 rw [if_neg h1] at hN;rw [decide_eq_false h1] at cT;clear h0 h1;generalize h2:(s.toList == [46])=b2 at *;generalize h3:(s.toList == [46,46])=b3 at *;generalize badB s=b4 at *
 cases b2 with
 | true =>
  simp only [Bool.true_or,if_true] at hN
  subst hN;clear cC;go_enter Tryz.func100,Tryz.ntmps100;go_wp2_with fail;refine (cT _).mono ?_;rintro e w1 ⟨rfl,rfl⟩;go_wp2
  go_ret
  exact ⟨rfl,Below.refl _ _⟩
 | false =>
  cases b3 with
  | true =>
   simp only [Bool.true_or,Bool.or_true,if_true] at hN
   subst hN;clear cC;go_enter Tryz.func100,Tryz.ntmps100;go_wp2_with fail;refine (cT _).mono ?_;rintro e w1 ⟨rfl,rfl⟩;go_wp2
   go_ret
   exact ⟨rfl,Below.refl _ _⟩
  | false =>
   simp only [Bool.false_or] at hN
   cases b4 with
   | true =>
    simp only [if_true] at hN
    subst hN;go_enter Tryz.func100,Tryz.ntmps100;go_wp2_with fail;refine (cT _).mono ?_;rintro e w1 ⟨rfl,rfl⟩;go_wp2_with fail;refine (cC _).mono ?_;rintro e w2 ⟨rfl,hb⟩;go_wp2
    go_ret
    exact ⟨rfl,hb⟩
   | false =>
    simp only [Bool.false_eq_true,if_false] at hN
    subst hN;go_enter Tryz.func100,Tryz.ntmps100;go_wp2_with fail;refine (cT _).mono ?_;rintro e w1 ⟨rfl,rfl⟩;go_wp2_with fail;refine (cC _).mono ?_;rintro e w2 ⟨rfl,hb⟩;go_wp2
    go_ret
    exact ⟨rfl,hb⟩
theorem refName_any (s:ByteArray) (w:World) (hs:s.size<=10000):Calls Tryz.prog 27 #[.string s] w fun e w'=>e=.returned (.int .i64 (nameE s))/\w'=w:=by
 have hE:=empty_iff s
 have HN:Hid (nameE s=if s.size=0 then 2 else if 32 < s.size then 63 else if s.toList == [46] || s.toList == [46,46] || badB s then 22 else 0):=rfl
 obtain ⟨n,hn⟩:∃ n,nameE s=n:=⟨_,rfl⟩;have hN:=HN.out;rw [hn] at hN ⊢;clear HN hn
 by_cases h0:s.size=0
 . rw [if_pos h0] at hN;rw [decide_eq_true h0] at hE;subst hN;clear h0;go_enter Tryz.func27,Tryz.ntmps27;go_wp2
   go_ret
   exact ⟨rfl,rfl⟩
 rw [if_neg h0] at hN;rw [decide_eq_false h0] at hE
 by_cases h1:32 < s.size
 . rw [if_pos h1] at hN
   have hz:(32:Int) < (s.size:Int):=by omega
   subst hN;clear h0 h1;go_enter Tryz.func27,Tryz.ntmps27;go_wp2
   go_ret
   exact ⟨rfl,rfl⟩
 rw [if_neg h1] at hN
 have hz:¬ (32:Int) < (s.size:Int):=by omega
 clear h0 h1
 have HNN:Hid (n=if s.toList == [46] || s.toList == [46,46] || badB s then 22 else 0):=hN
 clear hN;go_enter Tryz.func27,Tryz.ntmps27;go_wp2
 go_loop [3] (fun i => ∃ k:Nat,k<=s.size/\i=.int .i64 k/\Hid (∀ j,j < k->badC (byteAt s j)=false)) (fun i=>s.size - (intOf i).toNat)
 case atStart=>exact ⟨0,Nat.zero_le _,rfl,fun j hj=>absurd hj (Nat.not_lt_zero _)⟩
 case round =>
  obtain ⟨k,hk,rfl,H⟩:=hrel
  by_cases hlt:k < s.size
  . have hltz:(k:Int) < (s.size:Int):=by omega
    have hix:=idx_str s k hlt
    have HBA:Hid (badC (byteAt s k)=true->badB s=true):=fun hh=>bad_at hlt hh
    by_cases h47:byteAt s k=47
    . have HB:Hid (n=22):=by
       show n=22
       rw [HNN.out,HBA.out (by unfold badC;rw [h47];rfl)];simp
      have hcq:(((byteAt s k).toNat:Int) == 47)=true:=by rw [h47];rfl
      clear h47 HBA;generalize (byteAt s k).toNat=c at *;go_wp2
      go_ret
      exact ⟨by rw [HB.out];rfl,rfl⟩
    . have hcq:(((byteAt s k).toNat:Int) == 47)=false:=byte_ne h47
      by_cases hz0:byteAt s k=0
      . have HB:Hid (n=22):=by
         show n=22
         rw [HNN.out,HBA.out (by unfold badC;rw [hz0];rfl)];simp
        have hcq0:(((byteAt s k).toNat:Int) == 0)=true:=by rw [hz0];rfl
        clear h47 hz0 HBA;generalize (byteAt s k).toNat=c at *;go_wp2
        go_ret
        exact ⟨by rw [HB.out];rfl,rfl⟩
      . have hcq0:(((byteAt s k).toNat:Int) == 0)=false:=byte_nz hz0
        have HBF:Hid (badC (byteAt s k)=false):=by
         show badC (byteAt s k)=false
         unfold badC;rw [beq_eq_false_iff_ne.2 h47,beq_eq_false_iff_ne.2 hz0];rfl
        clear h47 hz0 HBA;generalize (byteAt s k).toNat=c at *;go_wp2
        go_round
        case rel=>exact ⟨k+1,by omega,by go_num,fun j hj=>by
         by_cases e:j=k
         . subst e;exact HBF.out
         . exact H.out j (by omega)⟩
        case measure=>simp [intOf];omega
  . obtain rfl:k=s.size:=by omega
    have hltz:¬ (s.size:Int) < (s.size:Int):=by omega
    have hbad:badB s=false:=bad_none fun j hj=>H.out j hj
    have hN:=HNN.out;rw [hbad,Bool.or_false] at hN;clear HNN hbad;generalize h2:(s.toList == [46])=b2 at *;generalize h3:(s.toList == [46,46])=b3 at *
    cases b2 with
    | true =>
     simp only [Bool.true_or,if_true] at hN
     subst hN;go_wp2
     go_ret
     exact ⟨rfl,rfl⟩
    | false =>
     cases b3 with
     | true =>
      simp only [Bool.or_true,if_true] at hN
      subst hN;go_wp2
      go_ret
      exact ⟨rfl,rfl⟩
     | false =>
      simp only [Bool.or_self,Bool.false_eq_true,if_false] at hN
      subst hN;go_wp2
      go_ret
      exact ⟨rfl,rfl⟩
theorem place1_any (hi d nb db:Nat) (v:Value) (S:List Ent) (nm:ByteArray) (k:Nat) (W:World) (hk:k < S.length) (_hlen:S.length<=1000) (hn:Blk W nb 9 [.string nm]) (hp:Blk W db 123 [.pointer (some ⟨d,0,none⟩)]) (h:DirAt hi W d v S) :
 Calls Tryz.prog 152 #[.int .i64 k,.pointer (some ⟨nb,0,none⟩),.pointer (some ⟨db,0,none⟩)] W fun e w'=>e=.returned (.int .i64 (Lib.compareBytes nm.toList S[k].1.toList))/\Below W.heap.size W w':=by
 have x0:=hn.cell 0 rfl;have x1:=hp.cell 0 rfl;have x2:=h.box.cell 0 rfl;obtain ⟨p,cap,rfl,hat,_⟩:=rowS_at h.row
 obtain ⟨g,off,rfl,_,hlt,hc⟩:=hat.place (k:=k * 2) (by rw [flat_length];omega)
 have x3:=hc (k * 2) _ (flat_name S k hk)
 have cC:=fun w=>Tryz.strings_Compare nm S[k].1 w
 rw [<- ByteArray.toList_eq,<- ByteArray.toList_eq] at cC
 have hkz:(k:Int) < (S.length:Int):=by omega
 clear h hn hp hc hat;generalize S[k].1=y at *;generalize Lib.compareBytes nm.toList y.toList=r at *;go_enter Tryz.func152,Tryz.ntmps152;go_wp2
 go_quiet (first | (go_at_call 153;refine Calls.quiet_of_same (cC _)))
 go_wp2
 go_ret
 exact ⟨rfl,on_drewN (Below.refl _ _) _⟩
theorem find_some (g:Nat) (lb:Array Value) (c:Nat->Int) (S:World->Prop) (n p:Nat) (eg:∀ args w,(callFunc g args).run Tryz.prog w=.ok (.enter g args) w)
 (hS:∀ W W',S W->Below W.heap.size W W'->S W') (hg:∀ k W,k < n->S W->Calls Tryz.prog g (#[.int .i64 (k:Int)] ++ lb) W fun e w'=>e=.returned (.int .i64 (c k))/\Below W.heap.size W w')
 (hp:p<=n) (hc:∀ k,k < n->decide (0 < c k)=decide (k < p)) (w:World) (hSw:S w) (hn:n<=1000) :
 Calls Tryz.prog 151 #[.int .i64 (n:Int),.func (.func g) #[] lb] w fun e w'=>e=.returned (.tuple #[.int .i64 (p:Int),.bool (decide (p < n) && c p == 0)])/\Below w.heap.size w w':=by
 have HSw:Hid (S w):=hSw;have HS:Hid (∀ W W',S W->Below W.heap.size W W'->S W'):=hS
 have HG:Hid (∀ k W,k < n->S W->Calls Tryz.prog g (#[.int .i64 (k:Int)] ++ lb) W fun e w'=>e=.returned (.int .i64 (c k))/\Below W.heap.size W w'):=hg
 have HC:Hid (∀ k,k < n->decide (0 < c k)=decide (k < p)):=hc;have HP:Hid (p<=n):=hp;obtain ⟨R,hR⟩:∃ R,(decide (p < n) && c p == 0)=R:=⟨_,rfl⟩;have HR:Hid ((decide (p < n) && c p == 0)=R):=hR;rw [hR];clear hSw hS hg hc hp hR;go_enter Tryz.func151,Tryz.ntmps151;go_wp2
 go_loopw [4,6] (fun i j wr => ∃ a b:Nat,i=.int .i64 (a:Int)/\j=.int .i64 (b:Int)/\Hid (a<=p/\p<=b)/\b<=n/\Below w.heap.size w wr) (fun i j _=>(intOf j).toNat - (intOf i).toNat)
 case atStart=>exact ⟨0,n,rfl,rfl,⟨Nat.zero_le _,HP.out⟩,Nat.le_refl _,Below.refl _ _⟩
 case round =>
  obtain ⟨a,b,rfl,rfl,H,hbn,hBr⟩:=hrel
  by_cases hlt:a < b
  . have hltz:(a:Int) < (b:Int):=by omega
    have hm:(a+b) / 2 < n:=by omega
    have hG:=HG.out ((a+b) / 2) wr hm (HS.out w wr HSw.out hBr)
    have e2:(((a+b) / 2:Nat):Int)=((a:Int)+(b:Int)) / 2:=by omega
    have HCk:Hid (decide (0 < c ((a+b) / 2))=decide ((a+b) / 2 < p)):=HC.out _ hm;rw [e2] at hG
    by_cases hq:0 < c ((a+b) / 2)
    . have HK:Hid ((a+b) / 2 < p):=by
       have:=HCk.out;rw [decide_eq_true hq] at this
       show (a+b) / 2 < p
       exact of_decide_eq_true this.symm
      generalize c ((a+b) / 2)=r at *
      go_wp2_with (go_at_fn g;refine hG.mono ?_;rintro e w1 ⟨rfl,hb1⟩)
      go_roundw
      case rel=>exact ⟨(a+b) / 2+1,b,by go_num,rfl,⟨HK.out,H.out.2⟩,hbn,on_trans hBr hb1⟩
      case measure=>simp [intOf];omega
    . have HK:Hid (p<=(a+b) / 2):=by
       have:=HCk.out;rw [decide_eq_false hq] at this
       exact Nat.le_of_not_lt (of_decide_eq_false this.symm)
      generalize c ((a+b) / 2)=r at *
      go_wp2_with (go_at_fn g;refine hG.mono ?_;rintro e w1 ⟨rfl,hb1⟩)
      go_roundw
      case rel=>exact ⟨a,(a+b) / 2,rfl,by go_num,⟨H.out.1,HK.out⟩,by omega,on_trans hBr hb1⟩
      case measure=>simp [intOf];omega
  . have hltz:¬ (a:Int) < (b:Int):=by omega
    obtain rfl:a=p:=by have:=H.out;omega
    by_cases hpn:a < n
    . have hpz:(a:Int) < (n:Int):=by omega
      have hG:=HG.out a wr hpn (HS.out w wr HSw.out hBr)
      have HRR:Hid ((c a == 0)=R):=by
       have:=HR.out;rw [decide_eq_true hpn,Bool.true_and] at this
       exact this
      obtain ⟨r,hr⟩:∃ r,c a=r:=⟨_,rfl⟩;rw [hr] at hG HRR;clear hr
      go_wp2_with (go_at_fn g;refine hG.mono ?_;rintro e w1 ⟨rfl,hb1⟩)
      go_ret2
      exact ⟨by rw [<- HRR.out];rfl,on_trans hBr hb1⟩
    . have hpz:¬ (a:Int) < (n:Int):=by omega
      have HRR:Hid (R=false):=by
       have:=HR.out;rw [decide_eq_false hpn,Bool.false_and] at this
       exact this.symm
      go_wp2
      go_ret2
      exact ⟨by rw [HRR.out];rfl,hBr⟩
theorem en_place1 : ∀ args w,(callFunc 152 args).run Tryz.prog w=.ok (.enter 152 args) w:=enters_of Tryz.func152 (by kernel_rfl) rfl
theorem DirAt.on {hi d:Nat} {w w':World} {v:Value} {S:List Ent} (h:DirAt hi w d v S) (hb:Below w.heap.size w w'):DirAt hi w' d v S:=⟨h.box.on hb,rowS_on h.row hb,h.hid⟩
theorem DirAt.slice {hi d:Nat} {w:World} {v:Value} {S:List Ent} (h:DirAt hi w d v S):∃ p cap,v=.slice p S.length cap:=by
 obtain ⟨p,cap,e,_⟩:=rowS_at h.row
 exact ⟨p,cap,e⟩
theorem len_any (hi d:Nat) (v:Value) (S:List Ent) (w:World) (h:DirAt hi w d v S) :
 Calls Tryz.prog 98 #[.pointer (some ⟨d,0,none⟩)] w fun e w'=>e=.returned (.int .i64 (S.length:Int))/\w'=w:=by
 have x0:=h.box.cell 0 rfl;obtain ⟨p,cap,rfl⟩:=h.slice;clear h;go_enter Tryz.func98,Tryz.ntmps98;go_wp2
 go_ret
 exact ⟨rfl,rfl⟩
theorem place_any (hi d:Nat) (v:Value) (S:List Ent) (nm:ByteArray) (w:World) (hlen:S.length<=1000) (hs:Sorted S) (h:DirAt hi w d v S) :
 Calls Tryz.prog 118 #[.pointer (some ⟨d,0,none⟩),.string nm] w fun e w'=>e=.returned (.tuple #[.int .i64 (under nm S:Int),.bool (has nm S)])/\Below w.heap.size w w':=by
 let c:Nat->Int:=fun k=>if hk:k < S.length then Lib.compareBytes nm.toList S[k].1.toList else 0
 have hc:∀ k,k < S.length->decide (0 < c k)=decide (k < under nm S):=fun k hk=>by
  show decide (0 < if hk:k < S.length then Lib.compareBytes nm.toList S[k].1.toList else 0)=_
  rw [dif_pos hk,cmp_gt]
  exact sorted_under nm S hs k hk
 have hh:(decide (under nm S < S.length) && c (under nm S) == 0)=has nm S:=by
  rw [sorted_has hs]
  by_cases hk:under nm S < S.length
  . rw [dif_pos hk,decide_eq_true hk,Bool.true_and]
    show ((if hk:under nm S < S.length then Lib.compareBytes nm.toList S[under nm S].1.toList else 0) == 0)=_
    rw [dif_pos hk,cmp_eq];unfold same
    exact Bool.beq_comm
  . rw [dif_neg hk,decide_eq_false hk,Bool.false_and]
 have cL:=fun W (hb:Below w.heap.size w W)=>len_any hi d v S W (h.on hb)
 have B1:=on_trans (on_alloc w (.cells #[.pointer (some ⟨d,0,none⟩)] 123)) (on_alloc _ (.cells #[.string nm] 9))
 have cF:=find_some 152 #[.pointer (some ⟨w.heap.size+1,0,none⟩),.pointer (some ⟨w.heap.size,0,none⟩)] c
  (fun W=>Blk W (w.heap.size+1) 9 [.string nm]/\Blk W w.heap.size 123 [.pointer (some ⟨d,0,none⟩)]/\DirAt hi W d v S) S.length (under nm S) en_place1
  (fun W W' h hb=>⟨h.1.on hb,h.2.1.on hb,h.2.2.on hb⟩)
  (fun k W hk hS=>by
   have:=place1_any hi d (w.heap.size+1) w.heap.size v S nm k W hk hlen hS.1 hS.2.1 hS.2.2
   show Calls Tryz.prog _ #[_,_,_] W fun e w'=>e=.returned (.int .i64 (if hk:k < S.length then Lib.compareBytes nm.toList S[k].1.toList else 0))/\_
   rw [dif_pos hk]
   exact this)
  (under_le _ _) hc ((w.alloc (.cells #[.pointer (some ⟨d,0,none⟩)] 123)).alloc (.cells #[.string nm] 9))
  ⟨by have:=Blk.new (w.alloc (.cells #[.pointer (some ⟨d,0,none⟩)] 123)) 9 [.string nm];simpa using this,(Blk.new w 123 [.pointer (some ⟨d,0,none⟩)]).alloc _,h.on B1⟩ hlen
 rw [hh] at cF;have CL:Hid _:=cL;have HB:Hid _:=B1;clear hh hc h cL B1;generalize under nm S=p at *;generalize has nm S=f at *;clear_value c;go_enter Tryz.func118,Tryz.ntmps118;go_wp2_with fail
 refine (CL.out _ HB.out).mono ?_
 rintro e w1 ⟨rfl,rfl⟩;go_wp2_with fail;refine cF.mono ?_;rintro e w1 ⟨rfl,hb⟩;go_wp2
 go_ret2
 exact ⟨rfl,on_trans HB.out hb⟩
end Go.Proofs.YthlaoaaafafafaaGreat
