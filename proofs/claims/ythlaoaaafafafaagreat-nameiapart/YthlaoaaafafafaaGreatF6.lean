/- Package memfs: text. -/
import Derived.Test.YthlaoaaafafafaaGreatF4
import Derived.Laws.IdiomStrings
import Derived.Lib.BufferRead
import Derived.Test.YthlaoaaafafafaaGreatC8
set_option maxRecDepth 100000
set_option maxHeartbeats 16000000
namespace Go.Proofs.YthlaoaaafafafaaGreat
open Go Go.RowKit Go.Maps
def textOf (s:SS) (x m:Int):ByteArray:=if tgtB s x=true then tgtT s x else ⟨(readS s x 0 m).toArray⟩
theorem bytes_conv {lo:Nat} {w:World} {p:Option Addr} {c:Nat} {l:List UInt8} (h:AtF lo w p (bytesV l)):(convert 68 9 (.slice p l.length c)).run Tryz.prog w=.ok (.string ⟨l.toArray⟩) w:=by
 by_cases hl:l=[]
 . subst hl
   cases p with
   | none=>exact Lib.run_convert_nil_bytes w _ _ 5 c Tryz.underlying68 Tryz.underlying5 Tryz.underlying9
   | some a=>exact run_convert_bytes_back w _ _ 5 a c [] Tryz.underlying68 Tryz.underlying5 Tryz.underlying9 (fun j hj=>absurd hj (Nat.not_lt_zero _))
 . rcases h with h | ⟨b,off,rfl,_,_,hc⟩
   . exact absurd (by simpa [bytesV] using h) hl
   . refine run_convert_bytes_back w _ _ 5 ⟨b,off,none⟩ c l Tryz.underlying68 Tryz.underlying5 Tryz.underlying9 (fun j hj => ?_)
     have e:(⟨b,off,none⟩:Addr).add j=⟨b,off+j,none⟩:=by unfold Addr.add;split <;> simp_all
     rw [e]
     exact hc j _ (by simp [bytesV,List.getElem?_eq_getElem hj];rfl)
section
variable {n fb sb ub c:Nat} {w:World} {s:SS} {B:Nat->Nat} {U:Int->Int}
theorem text7 (h:FsM n w fb sb ub c s B U) (hf:Wf s c) (x m:Int) (hw:(Lit.int .i64 x).wf=true):Calls Tryz.prog 88 #[ptr fb,.int .i64 x,.int .i64 m] w fun e w'=>e=.returned (.string (textOf s x m))/\Below w.heap.size w w':=by
 have c1:=target_any h.store.at x hw;have c2:=read_any6 h.store.at hf x 0 m hw;have x0:=h.box.cell 0 rfl;unfold textOf
 have HR:Hid (∀ e w',ReadPost s x 0 m w e w'->∃ v r,e=.returned (.tuple #[v,r])/\(convert 68 9 v).run Tryz.prog w'=.ok (.string ⟨(readS s x 0 m).toArray⟩) w'/\Below w.heap.size w w'):=fun e w' ⟨p,cc,h1,h2,h3⟩=>⟨_,_,h1,bytes_conv h2,h3⟩
 generalize ReadPost s x 0 m w=RP at *;generalize (⟨(readS s x 0 m).toArray⟩:ByteArray)=rs at *;generalize tgtT s x=tt at *;clear h hf
 cases hb:tgtB s x with
 | true =>
  rw [hb] at c1;rw [if_pos rfl];clear hb;go_enter Tryz.func88,Tryz.ntmps88;go_wp2_with fail;refine c1.mono ?_;rintro e w1 ⟨rfl,hw1⟩;subst w1;go_wp2
  go_ret
  exact ⟨rfl,Below.refl _ _⟩
 | false =>
  rw [hb] at c1
  rw [if_neg (by simp)]
  clear hb;go_enter Tryz.func88,Tryz.ntmps88;go_wp2_with fail;refine c1.mono ?_;rintro e w1 ⟨rfl,hw1⟩;subst w1;go_wp2_with fail;refine c2.mono ?_
  intro e w1 hp
  obtain ⟨v,r,rfl,hcv,hb⟩:=HR.out e w1 hp;clear hp HR c1 c2;go_wp2
  go_ret
  exact ⟨rfl,hb⟩
end
theorem names7 {n fb sb ub c:Nat} {w:World} {s:SS} {B:Nat->Nat} {U:Int->Int} (h:FsM n w fb sb ub c s B U) (hf:Wf s c) (ht:Tree s) {m:Nd} (hm:m ∈ s.L):Calls Tryz.prog 89 #[dirV B s m.ino] w (RetNames w (names m.ds)):=by
 obtain ⟨i,hi⟩:=look_of hf hm;unfold dirV isDir;rw [hi]
 by_cases hk:m.kind=2
 . obtain ⟨v,h2,_⟩:=h.store.dir hf hi hk
   show Calls _ _ #[if (m.kind == 2)=true then _ else _] _ _
   rw [if_pos (by simpa using hk),Int.toNat_natCast]
   exact names_dir 0 _ v m.ds w (by have:=hf.ds _ hm;omega) h2
 . have hd:m.ds=[]:=by
    by_cases h0:m.ds=[]
    . exact h0
    . exact absurd (ht.dirs m hm h0).1 hk
   show Calls _ _ #[if (m.kind == 2)=true then _ else _] _ _
   rw [if_neg (by simpa using hk),hd]
   refine (names_nil w).mono ?_
   rintro e w1 ⟨rfl,rfl⟩
   exact ⟨_,rfl,.inl ⟨rfl,rfl⟩,Below.refl _ _⟩
theorem en_text : ∀ args w,(callFunc 88 args).run Tryz.prog w=.ok (.enter 88 args) w:=fun _ _=>by simp [callFunc,Tryz.func88];rfl
theorem en_names : ∀ args w,(callFunc 89 args).run Tryz.prog w=.ok (.enter 89 args) w:=fun _ _=>by simp [callFunc,Tryz.func89];rfl
def inoC (U:Int->Int) (T:ByteArray) (m:Nd) (nv iv:Value):List Value:=[.int .i64 m.ino,.int .i64 m.kind,.int .i64 m.links,.int .i64 m.holds,.int .i64 (U m.ino),.string T,.int .i64 m.f.blocks,nv,iv]
def ino0 : List Value:=[.int .i64 0,.int .i64 0,.int .i64 0,.int .i64 0,.int .i64 0,.string ⟨#[]⟩,.int .i64 0,.slice none 0 0,.slice none 0 0]
theorem leaves_ino {o:Oper} {ρ:Operand->Value} {w:World} {post:Value->World->Prop} {b:Nat} {cs:List Value} (hcl:cs.length=9) {z0 z1 z2 z3 z4 z6:Int} {t:ByteArray} {p q:Option Addr} {a1 a2 b1 b2:Nat} (x y:Operand) (ho:o.op=.store 97 x y) (hx:ρ x=.pointer (some ⟨b,0,none⟩)) (hy:ρ y=.agg #[.int .i64 z0,.int .i64 z1,.int .i64 z2,.int .i64 z3,.int .i64 z4,.string t,.int .i64 z6,.slice p a1 a2,.slice q b1 b2])
 (hb:Blk w b 97 cs) (h:post undef (putL w b 0 [.int .i64 z0,.int .i64 z1,.int .i64 z2,.int .i64 z3,.int .i64 z4,.string t,.int .i64 z6,.slice p a1 a2,.slice q b1 b2])):leaves Tryz.prog o ρ w post:=by
 refine leaves_skip (w':=putL w b 0 [.int .i64 z0,.int .i64 z1,.int .i64 z2,.int .i64 z3,.int .i64 z4,.string t,.int .i64 z6,.slice p a1 a2,.slice q b1 b2]) ?_ h
 match cs,hcl with
 | [c0,c1,c2,c3,c4,c5,c6,c7,c8],_ =>
  have f0:=hb.free 0;have f1:=hb.free 1;have f2:=hb.free 2;have f3:=hb.free 3;have f4:=hb.free 4;have f5:=hb.free 5;have f6:=hb.free 6;have f7:=hb.free 7;have f8:=hb.free 8;have x0:=hb.cell 0 rfl;have x1:=hb.cell 1 rfl;have x2:=hb.cell 2 rfl;have x3:=hb.cell 3 rfl;have x4:=hb.cell 4 rfl;have x5:=hb.cell 5 rfl;have x6:=hb.cell 6 rfl;have x7:=hb.cell 7 rfl;have x8:=hb.cell 8 rfl;obtain ⟨dst,op,ty,pos,after,guard⟩:=o
  simp only at ho
  subst ho
  simp [go_sem,hx,hy,f0,f1,f2,f3,f4,f5,f6,f7,f8,x0,x1,x2,x3,x4,x5,x6,x7,x8,putL]
def MadeN (H:Nat) (x:Value) (W:World):Prop:=∃ b,x=.pointer (some ⟨b,0,none⟩)/\H<=b/\∃ cs:List Value,cs.length=9/\Blk W b 97 cs
def BuiltN (H:Nat) (U:Int->Int) (T:ByteArray) (m:Nd) (v:Value) (W:World):Prop:=∃ nv,v=.agg (inoC U T m nv (.slice none 0 0)).toArray/\NamesAt H W nv (names m.ds)
def MadeI (H:Nat) (U:Int->Int) (T:ByteArray) (m:Nd) (x:Value) (W:World):Prop:=∃ b nv,x=.pointer (some ⟨b,0,none⟩)/\H<=b/\Blk W b 97 (inoC U T m nv (.slice none 0 0))/\NamesAt H W nv (names m.ds)
theorem MadeN.on {H:Nat} {x:Value} {W W':World} (h:MadeN H x W) (hb:Below W.heap.size W W'):MadeN H x W':=by
 obtain ⟨b,h1,h2,cs,h3,h4⟩:=h
 exact ⟨b,h1,h2,cs,h3,h4.on hb⟩
theorem BuiltN.on {H:Nat} {U:Int->Int} {T:ByteArray} {m:Nd} {v:Value} {W W':World} (h:BuiltN H U T m v W) (hb:Below W.heap.size W W'):BuiltN H U T m v W':=by
 obtain ⟨nv,h1,h2⟩:=h
 exact ⟨nv,h1,h2.on hb⟩
theorem MadeI.on {H:Nat} {U:Int->Int} {T:ByteArray} {m:Nd} {x:Value} {W W':World} (h:MadeI H U T m x W) (hb:Below W.heap.size W W'):MadeI H U T m x W':=by
 obtain ⟨b,nv,h1,h2,h3,h4⟩:=h
 exact ⟨b,nv,h1,h2,h3.on hb,h4.on hb⟩
theorem NamesAt.but {lo b:Nat} {w w':World} {v:Value} {l:List ByteArray} {cs:List Value} {t:TypeId} (h:NamesAt lo w v l) (hb:But b w w') (hB:Blk w b t cs) (ht:t ≠ 9):NamesAt lo w' v l:=by
 rcases h with h | ⟨g,c,h1,h2,h3⟩
 . exact .inl h
 . refine .inr ⟨g,c,h1,h2,h3.but hb fun e => ?_⟩
   have:=h3.row;rw [e,hB.row] at this
   simp at this
   exact ht this.2
def nodS (H:Nat) (w0:World) (f:Bool) (x:Value) (W:World):Prop:=Below H w0 W/\(f=false->MadeN H x W)
def inG (H:Nat) (ks:List Value) (U:Int->Int) (T:ByteArray) (m:Nd) (x:Value) (i:Nat) (v:Value) (W:World):Prop :=
 if i=21 then NamesAt H W v (names m.ds) else if i=22 then BuiltN H U T m v W else if i=24 then MadeI H U T m x W else match ks[i]? with | some u=>v=u | none=>True
theorem find_ent {S:List Ent} (hs:Sorted S) {k:Nat} (hk:k < S.length):find (names S)[k]! S=S[k].2:=by
 have e:(names S)[k]! = S[k].1:=by
  rw [getElem!_pos (names S) k (by rw [names_len];exact hk)]
  simp [names]
 rw [e]
 exact find_of (fun x hx y hy h=>sorted_one hs hx hy h) (List.getElem_mem hk)
end Go.Proofs.YthlaoaaafafafaaGreat
