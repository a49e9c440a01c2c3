/- Ours. -/
import Derived.Test.YthlaoaaafafafaaGreatK0
set_option maxRecDepth 100000
set_option maxHeartbeats 16000000
namespace Go.Proofs.YthlaoaaafafafaaGreat
open Go Go.RowKit Go.Maps
def parU (s:SS) (x:Int):Int:=match look s x with | none=>0 | some (_,n)=>n.par
theorem agree_par {s:SS} {c:Nat} (hf:Wf s c):Agree s (parU s):=fun m hm _ _=>by
 obtain ⟨i,hi⟩:=look_of hf hm;unfold parU;rw [hi]
structure RfOk (s:SS) (c:Nat):Prop where
 wf:Wf s c
 tree:Tree s
theorem FsOk.rf {s:SS} {U:Int->Int} {c:Nat} (h:FsOk s U c):RfOk s c:=⟨h.wf,h.tree⟩
theorem RfOk.fs {s:SS} {c:Nat} (h:RfOk s c):FsOk s (parU s) c:=⟨h.wf,h.tree,agree_par h.wf⟩
def PPost (n fb c:Nat) (s:SS) (U:Int->Int) (v:Value) (w:World) (e:Ending) (w':World):Prop:=e=.returned v/\FsAt n w' fb c s U/\Turns isP (.up n) w w'
def QPost (hi rb:Nat) (s:SS) (v:Value) (w:World) (e:Ending) (w':World):Prop:=e=.returned v/\RefAt6 hi w' rb s/\Turns isR (.up hi) w w'
def createT (s:SS) (d:Int) (nm:ByteArray) (kind:Int) (t:ByteArray):SS:=if createE s d nm kind t=0 then createF s d nm kind t else s
def createTU (s:SS) (U:Int->Int) (d:Int) (nm:ByteArray) (kind:Int) (t:ByteArray):Int->Int:=if createE s d nm kind t=0/\kind=2 then updU U s.next d else U
def createV (s:SS) (d:Int) (nm:ByteArray) (kind:Int) (t:ByteArray):Int:=if createE s d nm kind t=0 then (s.next:Int) else 0
def linkT (s:SS) (d:Int) (nm:ByteArray) (k:Int):SS:=if linkE s d nm k=0 then linkP s d nm k else s
def unlT (s:SS) (d:Int) (nm:ByteArray):SS:=if unlinkE s d nm=0 then dropF s d nm else s
def unlTU (s:SS) (U:Int->Int) (d:Int) (nm:ByteArray):Int->Int:=if unlinkE s d nm=0 then fogU (dropP s d nm (find nm (entsOf s d))) U (find nm (entsOf s d)) else U
def rmdT (s:SS) (d:Int) (nm:ByteArray):SS:=if rmdirE s d nm=0 then dropF s d nm else s
def rmdTU (s:SS) (U:Int->Int) (d:Int) (nm:ByteArray):Int->Int:=if rmdirE s d nm=0 then fogU (dropP s d nm (find nm (entsOf s d))) U (find nm (entsOf s d)) else U
def renT (s:SS) (d1:Int) (n1:ByteArray) (d2:Int) (n2:ByteArray):SS:=if renDo s d1 n1 d2 n2=true then renF s d1 n1 d2 n2 else s
def renTU (s:SS) (U:Int->Int) (d1:Int) (n1:ByteArray) (d2:Int) (n2:ByteArray):Int->Int:=if renDo s d1 n1 d2 n2=true then renU (renP s d1 n1 d2 n2 (find n1 (entsOf s d1)) (find n2 (entsOf s d2)) (has n2 (entsOf s d2))) U d2 (find n1 (entsOf s d1)) (find n2 (entsOf s d2)) (has n2 (entsOf s d2)) else U
def relT (s:SS) (x:Int):SS:=if relE s x=0 then lessS s x false else s
def relTU (s:SS) (U:Int->Int) (x:Int):Int->Int:=if relE s x=0 then fogU (lessS s x false) U x else U
section
variable {s : SS} {U:Int->Int} {c:Nat}
theorem unl_has {d:Int} {nm:ByteArray} (h:unlinkE s d nm=0):has nm (entsOf s d)=true/\isDir s (find nm (entsOf s d))=false:=by
 unfold unlinkE at h
 by_cases h1:entryE s d nm=0
 . rw [if_neg (by simp [h1])] at h
   refine ⟨(entryE_ok h1).2,?_⟩
   cases hd:isDir s (find nm (entsOf s d)) with
   | false=>rfl
   | true=>rw [hd] at h;simp at h
 . rw [if_pos h1] at h
   exact absurd h h1
theorem rmd_has {d:Int} {nm:ByteArray} (h:rmdirE s d nm=0):has nm (entsOf s d)=true/\(entsOf s (find nm (entsOf s d))).length=0:=by
 unfold rmdirE at h
 by_cases h1:entryE s d nm=0
 . rw [if_neg (by simp [h1])] at h
   refine ⟨(entryE_ok h1).2,?_⟩
   cases hd:isDir s (find nm (entsOf s d)) with
   | false=>rw [hd] at h;simp at h
   | true =>
    rw [hd,if_neg (by simp)] at h
    by_cases h2:0 < (entsOf s (find nm (entsOf s d))).length
    . rw [if_pos h2] at h;cases h
    . omega
 . rw [if_pos h1] at h
   exact absurd h h1
theorem ents_none (_hf:Wf s c) (ht:Tree s) {x:Int} (h:isDir s x=false):entsOf s x=[]:=by
 rw [isDir_kind] at h;unfold entsOf;unfold kindOf at h
 cases hx:look s x with
 | none=>rfl
 | some y =>
  obtain ⟨i,n⟩:=y;rw [hx] at h;have hm:=(look_mem hx).1
  show n.ds=[]
  by_cases hd:n.ds=[]
  . exact hd
  . have:=(ht.dirs n hm hd).1
    simp [this] at h
theorem unl_drop (h:FsOk s U c) {d:Int} {nm:ByteArray} (he:unlinkE s d nm=0):has nm (entsOf s d)=true/\entsOf s (find nm (entsOf s d))=[]:=⟨(unl_has he).1,ents_none h.wf h.tree (unl_has he).2⟩
theorem rmd_drop {d:Int} {nm:ByteArray} (he:rmdirE s d nm=0):has nm (entsOf s d)=true/\entsOf s (find nm (entsOf s d))=[]:=⟨(rmd_has he).1,List.eq_nil_of_length_eq_zero (rmd_has he).2⟩
theorem create_okT (h:FsOk s U c) (d:Int) (nm:ByteArray) (kind:Int) (t:ByteArray):FsOk (createT s d nm kind t) (createTU s U d nm kind t) (c+4):=by
 unfold createT createTU
 by_cases he:createE s d nm kind t=0
 . obtain ⟨h1,h2,h3⟩:=create_tree h.wf h.tree he h.agree;rw [if_pos he]
   refine ⟨h1,h2,?_⟩
   by_cases hk:kind=2
   . rw [if_pos ⟨he,hk⟩];rwa [if_pos hk] at h3
   . rw [if_neg fun h7=>hk h7.2];rwa [if_neg hk] at h3
 . rw [if_neg he,if_neg fun h7=>he h7.1]
   exact h.more (by omega)
theorem link_okT (h:FsOk s U c) (d:Int) (nm:ByteArray) (k:Int):FsOk (linkT s d nm k) U (c+4):=by
 unfold linkT
 split
 . rename_i he
   exact (link_ok h he).more (by omega)
 . exact h.more (by omega)
theorem unl_okT (h:FsOk s U c) (d:Int) (nm:ByteArray):FsOk (unlT s d nm) (unlTU s U d nm) (c+4):=by
 unfold unlT unlTU
 by_cases he:unlinkE s d nm=0
 . rw [if_pos he,if_pos he]
   exact (drop_ok h (unl_drop h he).1 (unl_drop h he).2).2.more (by omega)
 . rw [if_neg he,if_neg he];exact h.more (by omega)
theorem rmd_okT (h:FsOk s U c) (d:Int) (nm:ByteArray):FsOk (rmdT s d nm) (rmdTU s U d nm) (c+4):=by
 unfold rmdT rmdTU
 by_cases he:rmdirE s d nm=0
 . rw [if_pos he,if_pos he]
   exact (drop_ok h (rmd_drop he).1 (rmd_drop he).2).2.more (by omega)
 . rw [if_neg he,if_neg he];exact h.more (by omega)
theorem ren_okT (h:FsOk s U c) (d1:Int) (n1:ByteArray) (d2:Int) (n2:ByteArray):FsOk (renT s d1 n1 d2 n2) (renTU s U d1 n1 d2 n2) (c+4):=by
 unfold renT renTU
 by_cases he:renDo s d1 n1 d2 n2=true
 . rw [if_pos he,if_pos he]
   exact (rename_ok h he).2.more (by omega)
 . rw [if_neg he,if_neg he];exact h.more (by omega)
theorem hold_okT (h:FsOk s U c) (x:Int):FsOk (moreS s x false) U (c+4):=(hold_ok h x).more (by omega)
theorem rel_okT (h:FsOk s U c) (x:Int):FsOk (relT s x) (relTU s U x) (c+4):=by
 unfold relT relTU
 by_cases he:relE s x=0
 . rw [if_pos he,if_pos he]
   exact (release_ok h x he).more (by omega)
 . rw [if_neg he,if_neg he];exact h.more (by omega)
theorem write_okT (h:FsOk s U c) (x off:Int) (D:List UInt8):FsOk (writeS s x off D) U (c+4):=(write_ok h x off D).more (by omega)
theorem trunc_okT (h:FsOk s U c) (x m:Int):FsOk (truncS s x m) U (c+4):=(trunc_ok h x m).more (by omega)
end
section
variable {n fb c:Nat} {w:World} {s:SS} {U:Int->Int}
theorem pcreate (h:FsAt n w fb c s U) (hk:FsOk s U c) (hc:c<=800) (d:Int) (hd:(Lit.int .i64 d).wf=true) (nm:ByteArray) (hn:nm.size<=10000) (kind:Int) (t:ByteArray) (ht:t.size<=10000) :
 Calls Tryz.prog 30 #[ptr fb,.int .i64 d,.string nm,.int .i64 kind,.string t] w (PPost n fb (c+4) (createT s d nm kind t) (createTU s U d nm kind t) (.tuple #[.int .i64 (createV s d nm kind t),.int .i64 (createE s d nm kind t)]) w):=by
 refine (create7 h hk.wf hk.tree hc d hd nm hn kind t (by omega)).mono ?_
 rintro e w' ⟨h1,h2,h3⟩
 refine ⟨h1,FsAt.more ?_ (show c+1<=c+4 by omega),h3⟩
 unfold createT createTU
 by_cases he:createE s d nm kind t=0
 . rw [if_pos he] at h2 ⊢
   exact h2.bare (create_same hk.wf he)
 . rw [if_neg he] at h2 ⊢
   exact h2
theorem plink (h:FsAt n w fb c s U) (hk:FsOk s U c) (hc:c<=800) (d:Int) (hd:(Lit.int .i64 d).wf=true) (nm:ByteArray) (hn:nm.size<=10000) (k:Int) (hkw:(Lit.int .i64 k).wf=true) :
 Calls Tryz.prog 47 #[ptr fb,.int .i64 d,.string nm,.int .i64 k] w (PPost n fb (c+4) (linkT s d nm k) U (.int .i64 (linkE s d nm k)) w) :=
 (link7 h hk.wf hk.tree hc d hd nm hn k hkw).mono fun _ _ ⟨h1,h2,h3⟩=>⟨h1,h2.more (by omega),h3⟩
theorem punlink (h:FsAt n w fb c s U) (hk:FsOk s U c) (hc:c<=800) (d:Int) (hd:(Lit.int .i64 d).wf=true) (nm:ByteArray) (hn:nm.size<=10000) :
 Calls Tryz.prog 49 #[ptr fb,.int .i64 d,.string nm] w (PPost n fb (c+4) (unlT s d nm) (unlTU s U d nm) (.int .i64 (unlinkE s d nm)) w):=by
 refine (unlinkE7 h hk.wf hk.tree hc d hd nm hn).mono ?_
 rintro e w' ⟨h1,h2,h3⟩
 refine ⟨h1,FsAt.more ?_ (show c<=c+4 by omega),h3⟩
 unfold unlT unlTU
 by_cases he:unlinkE s d nm=0
 . rw [if_pos he,if_pos he] at h2 ⊢
   exact h2.bare (drop_ok hk (unl_drop hk he).1 (unl_drop hk he).2).1
 . rw [if_neg he,if_neg he] at h2 ⊢
   exact h2
theorem prmdir (h:FsAt n w fb c s U) (hk:FsOk s U c) (hc:c<=800) (d:Int) (hd:(Lit.int .i64 d).wf=true) (nm:ByteArray) (hn:nm.size<=10000) :
 Calls Tryz.prog 51 #[ptr fb,.int .i64 d,.string nm] w (PPost n fb (c+4) (rmdT s d nm) (rmdTU s U d nm) (.int .i64 (rmdirE s d nm)) w):=by
 refine (rmdir7 h hk.wf hk.tree hc d hd nm hn).mono ?_
 rintro e w' ⟨h1,h2,h3⟩
 refine ⟨h1,FsAt.more ?_ (show c<=c+4 by omega),h3⟩
 unfold rmdT rmdTU
 by_cases he:rmdirE s d nm=0
 . rw [if_pos he,if_pos he] at h2 ⊢
   exact h2.bare (drop_ok hk (rmd_drop he).1 (rmd_drop he).2).1
 . rw [if_neg he,if_neg he] at h2 ⊢
   exact h2
theorem prename (h:FsAt n w fb c s U) (hk:FsOk s U c) (hc:c<=800) (d1 d2:Int) (hd1:(Lit.int .i64 d1).wf=true) (hd2:(Lit.int .i64 d2).wf=true) (n1 n2:ByteArray) (hn1:n1.size<=10000) (hn2:n2.size<=10000) :
 Calls Tryz.prog 53 #[ptr fb,.int .i64 d1,.string n1,.int .i64 d2,.string n2] w (PPost n fb (c+4) (renT s d1 n1 d2 n2) (renTU s U d1 n1 d2 n2) (.int .i64 (renE s d1 n1 d2 n2)) w):=by
 refine (rename7 h hk.wf hk.tree hk.agree hc d1 d2 hd1 hd2 n1 n2 hn1 hn2).mono ?_
 rintro e w' ⟨h1,h2,h3⟩
 refine ⟨h1,FsAt.more ?_ (show c+1<=c+4 by omega),h3⟩
 unfold renT renTU
 by_cases he:renDo s d1 n1 d2 n2=true
 . rw [if_pos he,if_pos he] at h2 ⊢
   exact h2.bare (rename_ok hk he).1
 . rw [if_neg he,if_neg he] at h2 ⊢
   exact h2
theorem phold (h:FsAt n w fb c s U) (hk:FsOk s U c) (hc:c<=800) (x:Int) (hw:(Lit.int .i64 x).wf=true):Calls Tryz.prog 55 #[ptr fb,.int .i64 x] w (PPost n fb (c+4) (moreS s x false) U (.int .i64 (moreE s x false:Nat)) w) :=
 (hold7 h hk.wf hc x hw).mono fun _ _ ⟨h1,h2,h3⟩=>⟨h1,h2.more (by omega),h3⟩
theorem prelease (h:FsAt n w fb c s U) (hk:FsOk s U c) (hc:c<=800) (x:Int) (hw:(Lit.int .i64 x).wf=true):Calls Tryz.prog 57 #[ptr fb,.int .i64 x] w (PPost n fb (c+4) (relT s x) (relTU s U x) (.int .i64 (relE s x:Nat)) w) :=
 (release7 h hk.wf hc x hw).mono fun _ _ ⟨h1,h2,h3⟩=>⟨h1,h2.more (by omega),h3⟩
theorem pwrite (h:FsAt n w fb c s U) (hk:FsOk s U c) (x off:Int) (hw:(Lit.int .i64 x).wf=true) (hoff:(Lit.int .i64 off).wf=true) (p:Option Addr) (cap:Nat) (D:List UInt8) (hD:D.length<=1000000) (hcap:D.length<=cap) (hat:At w p (bytesV D)) (ho:Off (.up n) w p) :
 Calls Tryz.prog 59 #[ptr fb,.int .i64 x,.int .i64 off,.slice p D.length cap] w (PPost n fb (c+4) (writeS s x off D) U (.int .i64 (writeE s x off D:Nat)) w) :=
 (write7 h hk.wf x off hw hoff p cap D hD hcap hat ho).mono fun _ _ ⟨h1,h2,h3⟩=>⟨h1,h2.more (by omega),h3⟩
theorem ptrunc (h:FsAt n w fb c s U) (hk:FsOk s U c) (x m:Int) (hw:(Lit.int .i64 x).wf=true) :
 Calls Tryz.prog 61 #[ptr fb,.int .i64 x,.int .i64 m] w (PPost n fb (c+4) (truncS s x m) U (.int .i64 (truncE s x m:Nat)) w) :=
 (trunc7 h hk.wf x m hw).mono fun _ _ ⟨h1,h2,h3⟩=>⟨h1,h2.more (by omega),h3⟩
end
section
variable {hi rb c:Nat} {w:World} {s:SS}
theorem drop_is (hk:RfOk s c) {d:Int} {nm:ByteArray} (hh:has nm (entsOf s d)=true):rdropP s d nm (find nm (entsOf s d))=dropF s d nm:=by
 obtain ⟨i,dn,j,kn,hx,eds,hy,hfd,hent⟩:=entry_node hk.wf hk.tree hh;obtain ⟨hdm,hdi⟩:=look_mem hx;obtain ⟨hkm,_⟩:=look_mem hy;unfold dropF;rw [hfd,<- hdi,Int.toNat_natCast,Int.toNat_natCast]
 exact rdrop_is hk.wf hdm hkm (hk.tree.entry hdm hent hkm rfl) nm
theorem qcreate (h:RefAt6 hi w rb s) (hk:RfOk s c) (hc:c<=800) (d:Int) (nm:ByteArray) (hsz:nm.size<=10000) (kind:Int) (t:ByteArray) (hst:t.size<=10000):Calls Tryz.prog 46 #[ptr rb,.int .i64 d,.string nm,.int .i64 kind,.string t] w (QPost hi rb (createT s d nm kind t) (.tuple #[.int .i64 (createV s d nm kind t),.int .i64 (createE s d nm kind t)]) w) :=
 rcreate7 h hk.wf hk.tree hc d nm hsz kind t (by omega)
theorem qlink (h:RefAt6 hi w rb s) (hk:RfOk s c) (hc:c<=800) (d:Int) (nm:ByteArray) (hsz:nm.size<=10000) (k:Int):Calls Tryz.prog 48 #[ptr rb,.int .i64 d,.string nm,.int .i64 k] w (QPost hi rb (linkT s d nm k) (.int .i64 (linkE s d nm k)) w) :=
 rlink7 h hk.wf hk.tree (by omega) d nm hsz k
theorem qunlink (h:RefAt6 hi w rb s) (hk:RfOk s c) (hc:c<=800) (d:Int) (nm:ByteArray) (hsz:nm.size<=10000):Calls Tryz.prog 50 #[ptr rb,.int .i64 d,.string nm] w (QPost hi rb (unlT s d nm) (.int .i64 (unlinkE s d nm)) w):=by
 refine (runlink7 h hk.wf hk.tree (by omega) d nm hsz).mono ?_
 rintro e w' ⟨h1,h2,h3⟩
 refine ⟨h1,?_,h3⟩
 unfold unlT
 by_cases he:unlinkE s d nm=0
 . rw [if_pos he] at h2 ⊢;rwa [drop_is hk (unl_has he).1] at h2
 . rw [if_neg he] at h2 ⊢;exact h2
theorem qrmdir (h:RefAt6 hi w rb s) (hk:RfOk s c) (hc:c<=800) (d:Int) (nm:ByteArray) (hsz:nm.size<=10000):Calls Tryz.prog 52 #[ptr rb,.int .i64 d,.string nm] w (QPost hi rb (rmdT s d nm) (.int .i64 (rmdirE s d nm)) w):=by
 refine (rrmdir7 h hk.wf hk.tree (by omega) d nm hsz).mono ?_
 rintro e w' ⟨h1,h2,h3⟩
 refine ⟨h1,?_,h3⟩
 unfold rmdT
 by_cases he:rmdirE s d nm=0
 . rw [if_pos he] at h2 ⊢;rwa [drop_is hk (rmd_has he).1] at h2
 . rw [if_neg he] at h2 ⊢;exact h2
theorem qrename (h:RefAt6 hi w rb s) (hk:RfOk s c) (hc:c<=800) (d1 d2:Int) (n1 n2:ByteArray) (hs1:n1.size<=10000) (hs2:n2.size<=10000):Calls Tryz.prog 54 #[ptr rb,.int .i64 d1,.string n1,.int .i64 d2,.string n2] w (QPost hi rb (renT s d1 n1 d2 n2) (.int .i64 (renE s d1 n1 d2 n2)) w) :=
 rrename7 h hk.wf hk.tree hc d1 d2 n1 n2 hs1 hs2
theorem qhold (h:RefAt6 hi w rb s) (hk:RfOk s c) (hc:c<=800) (x:Int):Calls Tryz.prog 56 #[ptr rb,.int .i64 x,.bool false,.int .i64 1] w (QPost hi rb (moreS s x false) (.int .i64 (moreE s x false:Nat)) w) :=
 rmoreH h hk.wf (by omega) x
theorem qrelease (h:RefAt6 hi w rb s) (hk:RfOk s c) (hc:c<=800) (x:Int):Calls Tryz.prog 58 #[ptr rb,.int .i64 x] w (QPost hi rb (relT s x) (.int .i64 (relE s x:Nat)) w) :=
 rrelease7 h hk.wf hk.tree (by omega) x
theorem qwrite (h:RefAt6 hi w rb s) (hk:RfOk s c) (x off:Int) (p:Option Addr) (cd:Nat) (D:List UInt8) (hD:D.length<=1000000) (hat:At w p (bytesV D)):Calls Tryz.prog 60 #[ptr rb,.int .i64 x,.int .i64 off,.slice p D.length cd] w (QPost hi rb (writeS s x off D) (.int .i64 (writeE s x off D:Nat)) w) :=
 rwrite_any h hk.wf x off p cd D hD hat
theorem qtrunc (h:RefAt6 hi w rb s) (hk:RfOk s c) (x m:Int):Calls Tryz.prog 62 #[ptr rb,.int .i64 x,.int .i64 m] w (QPost hi rb (truncS s x m) (.int .i64 (truncE s x m:Nat)) w) :=
 rtruncate_any h hk.wf x m
end
def Nam (s:SS):Prop:=∀ m ∈ s.L,∀ e ∈ m.ds,nameE e.1=0
theorem mem_addS {nm:ByteArray} {k:Int} {S:List IEnt} {e:IEnt} (h:e ∈ addS nm k S):e ∈ S ∨ e.1=nm:=by
 unfold addS at h
 split at h
 . rcases List.mem_append.1 h with h | h
   . exact .inl (List.mem_of_mem_take h)
   . rcases List.mem_cons.1 h with h | h
     . exact .inr (by rw [h])
     . exact .inl (List.mem_of_mem_drop h)
 . exact .inl h
theorem mem_remS {nm:ByteArray} {S:List IEnt} {e:IEnt} (h:e ∈ remS nm S):e ∈ S:=by
 unfold remS at h
 split at h
 . rcases List.mem_append.1 h with h | h
   . exact List.mem_of_mem_take h
   . exact List.mem_of_mem_drop h
 . exact h
section
variable {s : SS}
theorem Nam.map (h:Nam s) (g:Nd->Nd) (hg:∀ n ∈ s.L,∀ e ∈ (g n).ds,e ∈ n.ds ∨ nameE e.1=0):Nam (mapS s g):=fun m hm e he=>by
 obtain ⟨n,hn,rfl⟩:=List.mem_map.1 hm
 rcases hg n hn e he with h1 | h1
 . exact h n hn e h1
 . exact h1
theorem Nam.gc (h:Nam s):Nam s.gc:=fun m hm=>h m (List.mem_filter.1 hm).1
theorem Nam.link (h:Nam s) (d k:Nat) {nm:ByteArray} (hn:nameE nm=0):Nam (mapS s (linkG d k nm)):=h.map _ fun n _ e he=>by
 have he:e ∈ (if n.ino=d then addS nm k n.ds else n.ds):=he
 split at he
 . rcases mem_addS he with h1 | h1
   . exact .inl h1
   . exact .inr (by rw [h1];exact hn)
 . exact .inl he
theorem Nam.unlink (h:Nam s) (d k:Nat) (nm:ByteArray):Nam (mapS s (unlinkG d k nm)):=h.map _ fun n _ e he=>by
 have he:e ∈ (if n.ino=d then remS nm n.ds else n.ds):=he
 split at he
 . exact .inl (mem_remS he)
 . exact .inl he
theorem Nam.set (h:Nam s) {x:Int} {i:Nat} {n n':Nd} (hx:look s x=some (i,n)) (hd:n'.ds=n.ds):Nam (s.set i n'):=fun m hm e he=>by
 rcases List.mem_or_eq_of_mem_set hm with h1 | h1
 . exact h m h1 e he
 . subst h1
   exact h n (look_mem hx).1 e (by rw [<- hd];exact he)
theorem Nam.del (h:Nam s) (i:Nat):Nam (s.del i):=fun m hm=>h m (List.mem_of_mem_eraseIdx hm)
theorem Nam.more (h:Nam s) (x:Int) (l:Bool):Nam (moreS s x l):=by
 unfold moreS
 cases hx:look s x with
 | none=>exact h
 | some y =>
  obtain ⟨i,n⟩:=y
  show Nam (if l=true/\32<=n.links then s else s.set i (n.cntd l (n.cnt l+1)))
  split
  . exact h
  . exact h.set hx (cntd_ino n l _).2.2.2.2.1
theorem Nam.less (h:Nam s) (x:Int) (l:Bool):Nam (lessS s x l):=by
 unfold lessS
 cases hx:look s x with
 | none=>exact h
 | some y =>
  obtain ⟨i,n⟩:=y
  show Nam (if n.cnt l=0 then s else if n.links+n.holds=1 then s.del i else s.set i (n.cntd l (n.cnt l - 1)))
  split
  . exact h
  . split
    . exact h.del i
    . exact h.set hx (cntd_ino n l _).2.2.2.2.1
theorem nam_create (d:Int) (nm:ByteArray) (kind:Int) (t:ByteArray) (h:Nam s):Nam (createT s d nm kind t):=by
 unfold createT
 split
 . rename_i he
   have hn:=(placeE_ok (createE_ok he).1).2
   intro m hm e hem
   obtain ⟨n,hn2,rfl⟩:=List.mem_map.1 hm
   have hem:e ∈ (if n.ino=d.toNat then addS nm s.next n.ds else n.ds):=hem
   have h1:e ∈ n.ds->nameE e.1=0:=fun h2=>by
    rcases List.mem_append.1 hn2 with h3 | h3
    . exact h n h3 e h2
    . rw [List.mem_singleton.1 h3] at h2;cases h2
   split at hem
   . rcases mem_addS hem with h2 | h2
     . exact h1 h2
     . rw [h2];exact hn
   . exact h1 hem
 . exact h
theorem nam_link (d:Int) (nm:ByteArray) (k:Int) (h:Nam s):Nam (linkT s d nm k):=by
 unfold linkT
 split
 . rename_i he
   have hn:=(placeE_ok (linkE_ok he).1).2
   refine Nam.more (s:=addEnt s d nm k) (fun m hm e hem => ?_) k true
   obtain ⟨n,hn2,rfl⟩:=List.mem_map.1 hm
   split at hem
   . rcases mem_addS (show e ∈ addS nm k n.ds from hem) with h2 | h2
     . exact h n hn2 e h2
     . rw [h2];exact hn
   . exact h n hn2 e hem
 . exact h
theorem nam_unl (d:Int) (nm:ByteArray) (h:Nam s):Nam (unlT s d nm):=by
 unfold unlT
 split
 . exact (h.unlink _ _ _).gc
 . exact h
theorem nam_rmd (d:Int) (nm:ByteArray) (h:Nam s):Nam (rmdT s d nm):=by
 unfold rmdT
 split
 . exact (h.unlink _ _ _).gc
 . exact h
theorem nam_ren (d1:Int) (n1:ByteArray) (d2:Int) (n2:ByteArray) (h:Nam s):Nam (renT s d1 n1 d2 n2):=by
 unfold renT
 split
 . rename_i he
   have h0:renE s d1 n1 d2 n2=0:=(of_decide_eq_true he).1
   have hn:nameE n2=0:=by
    unfold renE at h0
    split at h0
    . omega
    . split at h0
      . omega
      . split at h0
        . omega
        . rename_i h3
          have h3:nmE n1 n2=0:=by simpa using h3
          unfold nmE at h3
          split at h3
          . exact h3
          . omega
   unfold renF
   split
   . exact (((h.unlink _ _ _).unlink _ _ _).link _ _ hn).gc
   . exact ((h.unlink _ _ _).link _ _ hn).gc
 . exact h
theorem nam_new (a b:Nat):Nam (newF a b):=fun m hm e he=>by
 rw [List.mem_singleton.1 hm] at he;cases he
theorem nam_hold (x:Int) (h:Nam s):Nam (moreS s x false):=h.more x false
theorem nam_rel (x:Int) (h:Nam s):Nam (relT s x):=by
 unfold relT
 split
 . exact h.less x false
 . exact h
theorem nam_write (x off:Int) (D:List UInt8) (h:Nam s):Nam (writeS s x off D):=by
 unfold writeS
 cases hx:look s x with
 | none=>exact h
 | some y =>
  obtain ⟨i,n⟩:=y
  show Nam (if n.kind=1 then s.set i (n.withF (n.f.wrote off D s.bl)) else s)
  split
  . exact h.set hx rfl
  . exact h
theorem nam_trunc (x m:Int) (h:Nam s):Nam (truncS s x m):=by
 unfold truncS
 cases hx:look s x with
 | none=>exact h
 | some y =>
  obtain ⟨i,n⟩:=y
  show Nam (if n.kind=1 then s.set i (n.withF (n.f.cut m)) else s)
  split
  . exact h.set hx rfl
  . exact h
end
theorem kind7 (n:Int) (w:World) (hn:(Lit.int .i64 n).wf=true):Calls Tryz.prog 45 #[.int .i64 n] w fun e w' => ∃ r:Int,(0<=r/\r < 9)/\e=.returned (.int .i64 r)/\w'=w:=by
 have hb:-9223372036854775808<=n/\n<=9223372036854775807:=by have:=hn;simp [Lit.wf,IntKind.min,IntKind.max,IntKind.signed,IntKind.bits] at this;omega
 by_cases h:0<=n
 . refine Calls.mono (R:=fun e w'=>e=.returned (.int .i64 (n % 9))/\w'=w) ?_ fun e w' ⟨e1,e2⟩=>⟨n % 9,by omega,e1,e2⟩
   have h1:¬ n % 9 < 0:=by omega
   go_enter Tryz.func45,Tryz.ntmps45;go_wp2
   go_ret
   exact ⟨rfl,rfl⟩
 . have hz:=Int.lt_tmod_of_pos n (b:=9) (by decide)
   have hz2:n.tmod 9<=0:=by
    rw [show n = -(-n) by omega,Int.neg_tmod,Int.tmod_eq_emod_of_nonneg (by omega)];omega
   by_cases hr:n.tmod 9 < 0
   . refine Calls.mono (R:=fun e w'=>e=.returned (.int .i64 (n.tmod 9+9))/\w'=w) ?_ fun e w' ⟨e1,e2⟩=>⟨n.tmod 9+9,by omega,e1,e2⟩
     go_enter Tryz.func45,Tryz.ntmps45;go_wp2
     go_ret
     exact ⟨rfl,rfl⟩
   . refine Calls.mono (R:=fun e w'=>e=.returned (.int .i64 (n.tmod 9))/\w'=w) ?_ fun e w' ⟨e1,e2⟩=>⟨n.tmod 9,by omega,e1,e2⟩
     go_enter Tryz.func45,Tryz.ntmps45;go_wp2
     go_ret
     exact ⟨rfl,rfl⟩
def actC (k d:Int) (n1 n2:ByteArray) (a:Int):List Value:=[.int .i64 k,.int .i64 d,.string n1,.string n2,.int .i64 a]
def ShortPost (k d:Int) (w:World) (e:Ending) (w':World):Prop:=∃ n1 n2 a,e=.returned (.agg (actC k d n1 n2 a).toArray)/\n1.size<=300/\n2.size<=300/\(Lit.int .i64 a).wf=true/\Below w.heap.size w w'
theorem infoAct7 : (Tryz.prog.info? 54).map (·.size)=some 5:=by kernel_rfl
theorem cut_size (t:ByteArray):(t.extract 0 300).size<=300:=by rw [ByteArray.size_extract];omega
theorem short7 (k d:Int) (n1 n2:ByteArray) (a:Int) (w:World) (hk:(Lit.int .i64 k).wf=true) (ha:(Lit.int .i64 a).wf=true) (h1:n1.size<=9223372036854775807) (h2:n2.size<=9223372036854775807):Calls Tryz.prog 44 #[.agg (actC k d n1 n2 a).toArray] w (ShortPost k d w):=by
 have HB:Hid (∀ o1 o2,Below w.heap.size w ((w.alloc o1).alloc o2)):=fun o1 o2=>on_trans (on_alloc _ _) (on_alloc _ _)
 have HX:Hid (∀ (o1:Obj) (cs:List Value),Blk ((w.alloc o1).alloc (.cells cs.toArray 54)) (w.heap.size+1) 54 cs):=fun o1 cs=>by
  have:=Blk.new (w.alloc o1) 54 cs;rwa [World.size_alloc] at this
 have HP:Hid (∀ m1 m2 b w',m1.size<=300->m2.size<=300->(Lit.int .i64 b).wf=true->Below w.heap.size w w'->ShortPost k d w (.returned (.agg (actC k d m1 m2 b).toArray)) w'):=fun m1 m2 b w' h1 h2 h3 h4=>⟨m1,m2,b,rfl,h1,h2,h3,h4⟩
 have cK:=fun w=>kind7 k w hk
 have HA:Hid ((Lit.int .i64 a).wf=true):=ha
 have HA2:Hid (0<=a->(Lit.int .i64 (a % 3000)).wf=true):=fun h=>WalkArith.wf_i64 (by omega)
 generalize ShortPost k d w=Post at *;unfold actC at *
 by_cases c1:300 < n1.size
 . have c1z:(300:Int) < (n1.size:Int):=by omega
   by_cases c2:300 < n2.size
   . have c2z:(300:Int) < (n2.size:Int):=by omega
     go_enter Tryz.func44,Tryz.ntmps44;go_wp2_with fail;refine (cK _).mono ?_;rintro e w1 ⟨r,hr,rfl,hw1⟩;subst w1
     by_cases c3:6 < r
     . by_cases c4:3000 < a
       . by_cases c5:a < 65000
         . have ha0:0<=a:=by omega
           go_wp2
           exact bodyPost_ret (results_blk (cs:=[.int .i64 k,.int .i64 d,.string (n1.extract 0 300),.string (n2.extract 0 300),.int .i64 (a % 3000)]) Tryz.isAgg54 infoAct7 rfl _ _ rfl (HX.out _ _)) rfl (HP.out _ _ _ _ (cut_size _) (cut_size _) (HA2.out ha0) (HB.out _ _))
         . go_wp2
           exact bodyPost_ret (results_blk (cs:=[.int .i64 k,.int .i64 d,.string (n1.extract 0 300),.string (n2.extract 0 300),.int .i64 a]) Tryz.isAgg54 infoAct7 rfl _ _ rfl (HX.out _ _)) rfl (HP.out _ _ _ _ (cut_size _) (cut_size _) HA.out (HB.out _ _))
       . go_wp2
         exact bodyPost_ret (results_blk (cs:=[.int .i64 k,.int .i64 d,.string (n1.extract 0 300),.string (n2.extract 0 300),.int .i64 a]) Tryz.isAgg54 infoAct7 rfl _ _ rfl (HX.out _ _)) rfl (HP.out _ _ _ _ (cut_size _) (cut_size _) HA.out (HB.out _ _))
     . go_wp2
       exact bodyPost_ret (results_blk (cs:=[.int .i64 k,.int .i64 d,.string (n1.extract 0 300),.string (n2.extract 0 300),.int .i64 a]) Tryz.isAgg54 infoAct7 rfl _ _ rfl (HX.out _ _)) rfl (HP.out _ _ _ _ (cut_size _) (cut_size _) HA.out (HB.out _ _))
   . have c2z:¬ (300:Int) < (n2.size:Int):=by omega
     go_enter Tryz.func44,Tryz.ntmps44;go_wp2_with fail;refine (cK _).mono ?_;rintro e w1 ⟨r,hr,rfl,hw1⟩;subst w1
     by_cases c3:6 < r
     . by_cases c4:3000 < a
       . by_cases c5:a < 65000
         . have ha0:0<=a:=by omega
           go_wp2
           exact bodyPost_ret (results_blk (cs:=[.int .i64 k,.int .i64 d,.string (n1.extract 0 300),.string n2,.int .i64 (a % 3000)]) Tryz.isAgg54 infoAct7 rfl _ _ rfl (HX.out _ _)) rfl (HP.out _ _ _ _ (cut_size _) (by omega) (HA2.out ha0) (HB.out _ _))
         . go_wp2
           exact bodyPost_ret (results_blk (cs:=[.int .i64 k,.int .i64 d,.string (n1.extract 0 300),.string n2,.int .i64 a]) Tryz.isAgg54 infoAct7 rfl _ _ rfl (HX.out _ _)) rfl (HP.out _ _ _ _ (cut_size _) (by omega) HA.out (HB.out _ _))
       . go_wp2
         exact bodyPost_ret (results_blk (cs:=[.int .i64 k,.int .i64 d,.string (n1.extract 0 300),.string n2,.int .i64 a]) Tryz.isAgg54 infoAct7 rfl _ _ rfl (HX.out _ _)) rfl (HP.out _ _ _ _ (cut_size _) (by omega) HA.out (HB.out _ _))
     . go_wp2
       exact bodyPost_ret (results_blk (cs:=[.int .i64 k,.int .i64 d,.string (n1.extract 0 300),.string n2,.int .i64 a]) Tryz.isAgg54 infoAct7 rfl _ _ rfl (HX.out _ _)) rfl (HP.out _ _ _ _ (cut_size _) (by omega) HA.out (HB.out _ _))
 . have c1z:¬ (300:Int) < (n1.size:Int):=by omega
   by_cases c2:300 < n2.size
   . have c2z:(300:Int) < (n2.size:Int):=by omega
     go_enter Tryz.func44,Tryz.ntmps44;go_wp2_with fail;refine (cK _).mono ?_;rintro e w1 ⟨r,hr,rfl,hw1⟩;subst w1
     by_cases c3:6 < r
     . by_cases c4:3000 < a
       . by_cases c5:a < 65000
         . have ha0:0<=a:=by omega
           go_wp2
           exact bodyPost_ret (results_blk (cs:=[.int .i64 k,.int .i64 d,.string n1,.string (n2.extract 0 300),.int .i64 (a % 3000)]) Tryz.isAgg54 infoAct7 rfl _ _ rfl (HX.out _ _)) rfl (HP.out _ _ _ _ (by omega) (cut_size _) (HA2.out ha0) (HB.out _ _))
         . go_wp2
           exact bodyPost_ret (results_blk (cs:=[.int .i64 k,.int .i64 d,.string n1,.string (n2.extract 0 300),.int .i64 a]) Tryz.isAgg54 infoAct7 rfl _ _ rfl (HX.out _ _)) rfl (HP.out _ _ _ _ (by omega) (cut_size _) HA.out (HB.out _ _))
       . go_wp2
         exact bodyPost_ret (results_blk (cs:=[.int .i64 k,.int .i64 d,.string n1,.string (n2.extract 0 300),.int .i64 a]) Tryz.isAgg54 infoAct7 rfl _ _ rfl (HX.out _ _)) rfl (HP.out _ _ _ _ (by omega) (cut_size _) HA.out (HB.out _ _))
     . go_wp2
       exact bodyPost_ret (results_blk (cs:=[.int .i64 k,.int .i64 d,.string n1,.string (n2.extract 0 300),.int .i64 a]) Tryz.isAgg54 infoAct7 rfl _ _ rfl (HX.out _ _)) rfl (HP.out _ _ _ _ (by omega) (cut_size _) HA.out (HB.out _ _))
   . have c2z:¬ (300:Int) < (n2.size:Int):=by omega
     go_enter Tryz.func44,Tryz.ntmps44;go_wp2_with fail;refine (cK _).mono ?_;rintro e w1 ⟨r,hr,rfl,hw1⟩;subst w1
     by_cases c3:6 < r
     . by_cases c4:3000 < a
       . by_cases c5:a < 65000
         . have ha0:0<=a:=by omega
           go_wp2
           exact bodyPost_ret (results_blk (cs:=[.int .i64 k,.int .i64 d,.string n1,.string n2,.int .i64 (a % 3000)]) Tryz.isAgg54 infoAct7 rfl _ _ rfl (HX.out _ _)) rfl (HP.out _ _ _ _ (by omega) (by omega) (HA2.out ha0) (HB.out _ _))
         . go_wp2
           exact bodyPost_ret (results_blk (cs:=[.int .i64 k,.int .i64 d,.string n1,.string n2,.int .i64 a]) Tryz.isAgg54 infoAct7 rfl _ _ rfl (HX.out _ _)) rfl (HP.out _ _ _ _ (by omega) (by omega) HA.out (HB.out _ _))
       . go_wp2
         exact bodyPost_ret (results_blk (cs:=[.int .i64 k,.int .i64 d,.string n1,.string n2,.int .i64 a]) Tryz.isAgg54 infoAct7 rfl _ _ rfl (HX.out _ _)) rfl (HP.out _ _ _ _ (by omega) (by omega) HA.out (HB.out _ _))
     . go_wp2
       exact bodyPost_ret (results_blk (cs:=[.int .i64 k,.int .i64 d,.string n1,.string n2,.int .i64 a]) Tryz.isAgg54 infoAct7 rfl _ _ rfl (HX.out _ _)) rfl (HP.out _ _ _ _ (by omega) (by omega) HA.out (HB.out _ _))
theorem FsAt.low {n n' fb c:Nat} {w:World} {s:SS} {U:Int->Int} (h:FsAt n w fb c s U) (hl:n'<=n):FsAt n' w fb c s U:=by
 obtain ⟨sb,ub,B,h⟩:=h
 refine ⟨sb,ub,B,h.box,?_,h.up,Nat.le_trans hl h.lo⟩
 obtain ⟨mb,D,Fs,h1,h2⟩:=h.store;have:=h.up.lt;have:=h.lo
 exact ⟨mb,D,Fs,h1.lower (by show max n' (ub+1)<=_;omega) fun x _ hx=>⟨Nat.le_trans hl hx.1,hx.2⟩,h2⟩
theorem RefAt6.low {hi hi' rb:Nat} {w:World} {s:SS} (h:RefAt6 hi w rb s) (hl:hi'<=hi):RefAt6 hi' w rb s:=by
 obtain ⟨rv,Q,h1,h2⟩:=h
 exact ⟨rv,Q,h1,h2.box,rowS_low h2.row hl,h2.node,Nat.le_trans hl h2.lo⟩
theorem ok_new {N B:Nat} (h:1<=N/\N<=256/\B<=4096):FsOk (newF N B) newU 1:=⟨wf_newF h,tree_newF N B,agree_newF N B⟩
end Go.Proofs.YthlaoaaafafafaaGreat
