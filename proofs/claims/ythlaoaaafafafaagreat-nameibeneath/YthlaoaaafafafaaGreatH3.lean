/- Ours. -/
import Derived.Test.YthlaoaaafafafaaGreatRows
import Derived.Deep.Slices
import Derived.Deep.Strs
import Derived.ProofKit
import Derived.OpenShut
import Derived.Deep.DeepHandedRow
import Derived.Lib.SmallJoins
import Derived.ChangeOld
import Derived.SizedLaws
import Derived.ShutString
import Derived.SliceStrings
import Derived.Test.YthlaoaaafafafaaGreatH1
set_option maxRecDepth 100000
set_option maxHeartbeats 16000000
namespace Go.Proofs.YthlaoaaafafafaaGreat
open Go.ChangeShapes Go.WideShapes Go.ChangeAt Go.RowKit Go.Joins
theorem own : ownKnob Tryz.prog.godebug=none:=by kernel_rfl
theorem laidOut : laidOutB Tryz.prog=true:=by kernel_rfl
theorem cellsAct7 : Tryz.prog.cellsOf 54=5:=by kernel_rfl
structure Act7 where
 k:Int
 d:Int
 n1:ByteArray
 n2:ByteArray
 a:Int
def Act7.cells (x:Act7):List Value:=actC x.k x.d x.n1 x.n2 x.a
def actsV7 (l:List Act7):List Value:=l.flatMap Act7.cells
theorem actsV7_len (l:List Act7):(actsV7 l).length=l.length * 5:=by
 induction l with
 | nil=>rfl
 | cons x r ih=>simp only [actsV7,List.flatMap_cons,List.length_append,List.length_cons] at *;rw [ih];simp [Act7.cells,actC];omega
theorem actsV7_get {l:List Act7} {k i:Nat} (hk:k < l.length) (hi:i < 5):(actsV7 l)[k * 5+i]? = (l[k].cells)[i]? := by
 induction l generalizing k with
 | nil=>simp at hk
 | cons x r ih =>
  simp only [actsV7,List.flatMap_cons]
  have hx:x.cells.length=5:=rfl
  cases k with
  | zero=>rw [List.getElem?_append_left (by omega)];simp
  | succ k =>
   rw [List.getElem?_append_right (by omega),hx,show (k+1) * 5+i - 5=k * 5+i by omega]
   exact ih (by simpa using hk)
structure Act7Ok (x:Act7):Prop where
 kw:(Lit.int .i64 x.k).wf=true
 dw:(Lit.int .i64 x.d).wf=true
 w1:x.n1.size<=9223372036854775807
 w2:x.n2.size<=9223372036854775807
 aw:(Lit.int .i64 x.a).wf=true
theorem addr_add (b off:Nat) (j:Nat):(⟨b,off,none⟩:Addr).add j=⟨b,off+j,none⟩:=by unfold Addr.add;split <;> simp_all
theorem act_cells7 {w wr:World} {p:Option Addr} {l:List Act7} {k:Nat} (hat:At w p (actsV7 l)) (hb:Below w.heap.size w wr) (hk:k < l.length):∃ b off,p=some ⟨b,off,none⟩/\wr.cell? ⟨b,off+k * 5,none⟩=some (.int .i64 l[k].k)/\wr.cell? ⟨b,off+k * 5+1,none⟩=some (.int .i64 l[k].d)/\wr.cell? ⟨b,off+k * 5+2,none⟩=some (.string l[k].n1)/\wr.cell? ⟨b,off+k * 5+3,none⟩=some (.string l[k].n2)/\wr.cell? ⟨b,off+k * 5+4,none⟩=some (.int .i64 l[k].a):=by
 obtain ⟨b,off,e,_,hlt,hc⟩:=hat.place (k:=k * 5) (by rw [actsV7_len];omega)
 have key:∀ i,i < 5->∀ v,(l[k].cells)[i]? = some v->wr.cell? ⟨b,off+k * 5+i,none⟩=some v:=fun i hi v hv=>by
  have:=hc (k * 5+i) v (by rw [actsV7_get hk hi];exact hv)
  rw [<- this,Nat.add_assoc]
  exact hb.cell (p:=⟨b,off+(k * 5+i),none⟩) hlt
 exact ⟨b,off,e,key 0 (by omega) _ rfl,key 1 (by omega) _ rfl,key 2 (by omega) _ rfl,key 3 (by omega) _ rfl,key 4 (by omega) _ rfl⟩
section
variable {H : Type} {enc:TypeId × Value->H} {w:World}
theorem trod_struct5 {P:Program} {base:Nat} {spare:Nat->Bool} {held:Bool} {t:TypeId} {f0 f1 f2 f3 f4:Field} {fuel:Nat} {cs:List Value} {x:DataW H × List MemPlace} (ht:P.underlying t=some (.struct #[f0,f1,f2,f3,f4])) (h:DataW.trod enc P w base spare held fuel t cs=some x) :
 ∃ y0 y1 y2 y3 y4 n,cs.length=P.cellsOf t/\DataW.trod enc P w base spare held n f0.type ((cs.drop f0.offset).take (P.cellsOf f0.type))=some y0 ∧
  DataW.trod enc P w base spare held n f1.type ((cs.drop f1.offset).take (P.cellsOf f1.type))=some y1/\DataW.trod enc P w base spare held n f2.type ((cs.drop f2.offset).take (P.cellsOf f2.type))=some y2 ∧
  DataW.trod enc P w base spare held n f3.type ((cs.drop f3.offset).take (P.cellsOf f3.type))=some y3/\DataW.trod enc P w base spare held n f4.type ((cs.drop f4.offset).take (P.cellsOf f4.type))=some y4:=by
 obtain ⟨xs,n,_,rfl,hl,hlen,hf⟩:=DataW.trod_struct ht h
 match xs,hlen with
 | [y0,y1,y2,y3,y4],_=>exact ⟨y0,y1,y2,y3,y4,n,hl,by simpa using hf 0 f0 rfl,by simpa using hf 1 f1 rfl,by simpa using hf 2 f2 rfl,by simpa using hf 3 f3 rfl,by simpa using hf 4 f4 rfl⟩
theorem cells_act7 {n:Nat} {v0 v1 v2 v3 v4:Value} {y0 y1 y2 y3 y4:DataW H × List MemPlace} (h0:DataW.trod enc Tryz.prog w 0 (fun _=>true) true n 3 [v0]=some y0) (h1:DataW.trod enc Tryz.prog w 0 (fun _=>true) true n 3 [v1]=some y1) (h2:DataW.trod enc Tryz.prog w 0 (fun _=>true) true n 9 [v2]=some y2) (h3:DataW.trod enc Tryz.prog w 0 (fun _=>true) true n 9 [v3]=some y3) (h4:DataW.trod enc Tryz.prog w 0 (fun _=>true) true n 3 [v4]=some y4) :
 ∃ x:Act7,Act7Ok x/\v0=.int .i64 x.k/\v1=.int .i64 x.d/\v2=.string x.n1/\v3=.string x.n2/\v4=.int .i64 x.a:=by
 obtain ⟨z0,e0,_,w0⟩:=DataW.trod_int Tryz.underlying3 h0;obtain ⟨z1,e1,_,w1⟩:=DataW.trod_int Tryz.underlying3 h1;obtain ⟨z2,e2,_,w2⟩:=DataW.trod_string Tryz.underlying9 h2;obtain ⟨z3,e3,_,w3⟩:=DataW.trod_string Tryz.underlying9 h3;obtain ⟨z4,e4,_,w4⟩:=DataW.trod_int Tryz.underlying3 h4
 exact ⟨⟨z0,z1,z2,z3,z4⟩,⟨w0,w1,by unfold maxLen at w2;show z2.size<=_;omega,by unfold maxLen at w3;show z3.size<=_;omega,w4⟩,by simpa using e0,by simpa using e1,by simpa using e2,by simpa using e3,by simpa using e4⟩
theorem open_acts7 {b0:Nat} {v:Value} {d:DataW H} {ps:List MemPlace} (hv:Value.okWide Tryz.prog w .any b0 22 v) (h:DataW.Trod enc Tryz.prog w 0 (fun _=>true) true 22 v d ps) :
 ∃ (p:Option Addr) (cap:Nat) (l:List Act7),v=.slice p l.length cap/\At w p (actsV7 l)/\(∀ x ∈ l,Act7Ok x)/\l.length<=cap/\l.length<=9223372036854775807:=by
 obtain ⟨a0,len0,cap0,rfl⟩:=okWide_slice Tryz.underlying22 hv;obtain ⟨fuel,hf⟩:=h
 rcases Deep.open_slice Tryz.underlying22 hf with ⟨hcs,_⟩ | ⟨a,len,cap,m,n,D,Pl,hcs,_,hl,hm,hmm,_,hx⟩
 . have hcs':[Value.slice a0 len0 cap0]=[.slice none 0 0]:=hcs
   have e:Value.slice a0 len0 cap0=.slice none 0 0:=by simpa using hcs'
   rw [e]
   exact ⟨none,0,[],rfl,.nil _ _ _,(fun x hx=>by cases hx),Nat.le_refl _,by simp⟩
 . have hcs':[Value.slice a0 len0 cap0]=[.slice (some a) len cap]:=hcs
   have e:Value.slice a0 len0 cap0=.slice (some a) len cap:=by simpa using hcs'
   rw [e]
   have hml:m=cap:=by simpa using hmm
   rw [cellsAct7] at hx
   have each:∀ i,i < len->∃ x:Act7,Act7Ok x/\∀ r,r < 5->w.cell? ((a.add (i * 5)).add r)=(x.cells)[r]? := fun i hi=>by
    obtain ⟨cs',h1,h2⟩:=hx i (by omega)
    obtain ⟨_,hlen,hcell⟩:=World.cells?_some h1;obtain ⟨y0,y1,y2,y3,y4,n',_,g0,g1,g2,g3,g4⟩:=trod_struct5 Tryz.underlying54 h2
    match cs',hlen with
    | [v0,v1,v2,v3,v4],_ =>
     obtain ⟨x,ok,rfl,rfl,rfl,rfl,rfl⟩:=cells_act7 (v0:=v0) (v1:=v1) (v2:=v2) (v3:=v3) (v4:=v4) g0 g1 g2 g3 g4
     exact ⟨x,ok,fun r hr=>hcell r hr⟩
   let f:Nat->Act7:=fun i=>if hi:i < len then Classical.choose (each i hi) else ⟨0,0,⟨#[]⟩,⟨#[]⟩,0⟩
   have hfi:∀ i,i < len->Act7Ok (f i)/\∀ r,r < 5->w.cell? ((a.add (i * 5)).add r)=((f i).cells)[r]? := fun i hi=>by
    have:=Classical.choose_spec (each i hi)
    simp only [f,dif_pos hi]
    exact this
   have hll:((List.range len).map f).length=len:=by simp
   refine ⟨some a,cap,(List.range len).map f,by rw [hll],?_,fun x hx => ?_,by rw [hll];exact hl,by rw [hll];unfold maxLen at hm;omega⟩
   . by_cases hn:len=0
     . subst hn;exact .inl rfl
     . have hc0:=(hfi 0 (by omega)).2 0 (by omega)
       have hc0':w.cell? ((a.add (0 * 5)).add 0)=some (.int .i64 (f 0).k):=hc0;obtain ⟨b,off,spot⟩:=a
       have hspot:spot=none:=by simpa [Addr.add] using World.cell?_spot hc0'
       subst hspot
       have hlt:b < w.heap.size:=by
        have:=World.block_lt_of_cell? w _ hc0'
        simpa [Addr.add] using this
       refine .inr ⟨b,off,rfl,Nat.zero_le _,hlt,fun j u hu => ?_⟩
       have hj:j < len * 5:=by have:=(List.getElem?_eq_some_iff.1 hu).1;rw [actsV7_len,hll] at this;exact this
       have h1:=actsV7_get (l:=(List.range len).map f) (k:=j / 5) (by rw [hll];omega) (i:=j % 5) (by omega)
       rw [show j / 5 * 5+j % 5=j by omega,hu] at h1
       have h2:=(hfi (j / 5) (by omega)).2 (j % 5) (by omega)
       rw [addr_add,addr_add,show off+j / 5 * 5+j % 5=off+j by omega] at h2
       rw [h2,h1]
       simp
   . obtain ⟨i,hi,rfl⟩:=List.mem_map.1 hx
     exact (hfi i (List.mem_range.1 hi)).1
end
end Go.Proofs.YthlaoaaafafafaaGreat
