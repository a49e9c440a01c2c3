/- Ours. -/
import Derived.Lib.IndexBytes
import Derived.Test.YthlaoaaafafafaaGreatProg
import Derived.WalkKit
import Derived.WalkLawsBesides
import Derived.WalkSpells
import Derived.Laws.Rows
import Derived.BigQuiet
import Derived.Deep.QuietTactic
import Derived.RangeFuncRecord
import Derived.Laws.ResultCell
import Derived.Laws.AppendOwn
import Derived.Test.YthlaoaaafafafaaGreatA1
import Derived.ArgAppend
import Derived.Laws.OwnMore
set_option maxRecDepth 100000
set_option maxHeartbeats 16000000
namespace Go.Proofs.YthlaoaaafafafaaGreat.P
open Go
def byteAt (s:ByteArray) (k:Nat):UInt8:=s.data.toList.getD k 0
theorem size_list (s:ByteArray):s.data.toList.length=s.size:=by rw [Array.length_toList];rfl
def stAt (s:ByteArray):Nat->Nat × List ByteArray
 | 0=>(0,[])
 | k+1=>if byteAt s k=47 then (k+1,if (stAt s k).1 < k then (stAt s k).2 ++ [s.extract (stAt s k).1 k] else (stAt s k).2) else stAt s k
def partsOf (s:ByteArray):List ByteArray:=if (stAt s s.size).1 < s.size then (stAt s s.size).2 ++ [s.extract (stAt s s.size).1 s.size] else (stAt s s.size).2
theorem st_le (s:ByteArray):∀ k,(stAt s k).1<=k
 | 0=>Nat.le_refl _
 | k+1=>by
  unfold stAt
  split
  . exact Nat.le_refl _
  . exact Nat.le_succ_of_le (st_le s k)
theorem st_slash {s:ByteArray} {k:Nat} (h:byteAt s k=47):stAt s (k+1)=(k+1,if (stAt s k).1 < k then (stAt s k).2 ++ [s.extract (stAt s k).1 k] else (stAt s k).2):=by
 rw [stAt,if_pos h]
theorem st_other {s:ByteArray} {k:Nat} (h:byteAt s k ≠ 47):stAt s (k+1)=stAt s k:=by
 rw [stAt,if_neg h]
theorem st_len (s:ByteArray):∀ k,(stAt s k).2.length<=k
 | 0=>Nat.le_refl _
 | k+1=>by
  have:=st_len s k;unfold stAt
  split
  . simp only
    split
    . simp;omega
    . omega
  . omega
theorem parts_len (s:ByteArray):(partsOf s).length<=s.size+1:=by
 have:=st_len s s.size;unfold partsOf
 split
 . simp;omega
 . omega
def fields (cur:List UInt8):List UInt8->List (List UInt8)
 | []=>if cur=[] then [] else [cur]
 | c :: r=>if c=47 then (if cur=[] then fields [] r else cur :: fields [] r) else fields (cur ++ [c]) r
theorem take_succ_getD {l:List UInt8} {st k:Nat} (h:st<=k) (hk:k < l.length):(l.drop st).take (k+1 - st)=(l.drop st).take (k - st) ++ [l.getD k 0]:=by
 rw [show k+1 - st=(k - st)+1 by omega,List.take_add_one]
 congr 1
 rw [List.getElem?_drop,show st+(k - st)=k by omega]
 simp [List.getD,hk]
theorem st_fields (s:ByteArray):∀ k,k<=s.size->fields [] s.data.toList=(stAt s k).2.map (·.data.toList) ++ fields ((s.data.toList.drop (stAt s k).1).take (k - (stAt s k).1)) (s.data.toList.drop k)
 | 0,_=>by simp [stAt]
 | k+1,hk=>by
  have hs:=size_list s
  have IH:=st_fields s k (by omega)
  have hle:=st_le s k
  rw [IH,List.drop_eq_getElem_cons (show k < s.data.toList.length by omega)]
  have hg:s.data.toList[k]'(by omega)=byteAt s k:=by unfold byteAt;rw [List.getD_eq_getElem?_getD,List.getElem?_eq_getElem (show k < s.data.toList.length by omega)];rfl
  rw [hg,fields]
  by_cases hc:byteAt s k=47
  . rw [if_pos hc,st_slash hc]
    simp only [Nat.sub_self,List.take_zero]
    by_cases hlt:(stAt s k).1 < k
    . rw [if_pos hlt,if_neg]
      . simp
      . intro e
        have:=congrArg List.length e
        simp at this
        omega
    . rw [if_neg hlt,if_pos]
      rw [show k - (stAt s k).1=0 by omega,List.take_zero]
  . rw [if_neg hc,st_other hc,take_succ_getD hle (by omega)]
    rfl
theorem parts_fields (s:ByteArray):(partsOf s).map (·.data.toList)=fields [] s.data.toList:=by
 have hs:=size_list s;rw [st_fields s s.size (Nat.le_refl _)];have hle:=st_le s s.size
 rw [List.drop_of_length_le (show s.data.toList.length<=s.size by omega),fields]
 unfold partsOf
 by_cases hlt:(stAt s s.size).1 < s.size
 . rw [if_pos hlt,if_neg]
   . simp
   . intro e
     have:=congrArg List.length e
     simp at this
     omega
 . rw [if_neg hlt,if_pos]
   . simp
   . rw [show s.size - (stAt s s.size).1=0 by omega,List.take_zero]
theorem fields_good : ∀ (r cur:List UInt8),(47:UInt8) ∉ cur->∀ p ∈ fields cur r,p ≠ []/\(47:UInt8) ∉ p
 | [],cur,hc,p,hp=>by
  unfold fields at hp
  split at hp
  . simp at hp
  . rename_i hne
    simp at hp;subst hp;exact ⟨hne,hc⟩
 | c :: r,cur,hc,p,hp=>by
  unfold fields at hp
  split at hp
  . split at hp
    . exact fields_good r [] (by simp) p hp
    . rename_i hne
      rcases List.mem_cons.1 hp with rfl | hp
      . exact ⟨hne,hc⟩
      . exact fields_good r [] (by simp) p hp
  . rename_i h47
    exact fields_good r _ (by simp only [List.mem_append,List.mem_singleton,not_or];exact ⟨hc,fun e=>h47 e.symm⟩) p hp
def joinL : List (List UInt8)->List UInt8
 | []=>[]
 | [a]=>a
 | a :: b :: r=>a ++ 47 :: joinL (b :: r)
theorem joinL_cons {a:List UInt8} {r:List (List UInt8)} (h:r ≠ []):joinL (a :: r)=a ++ 47 :: joinL r:=by
 cases r with
 | nil=>exact absurd rfl h
 | cons b r=>rfl
def endsSl (r:List UInt8):Bool:=r.getLast? == some 47
def tailL (d:Bool):List UInt8:=if d then [47] else []
theorem endsSl_cons {c:UInt8} {r:List UInt8} (h:r ≠ []):endsSl (c :: r)=endsSl r:=by
 unfold endsSl
 cases r with
 | nil=>exact absurd rfl h
 | cons b r=>rfl
theorem fields_sub : ∀ (r cur:List UInt8),fields cur r ≠ []->(joinL (fields cur r) ++ tailL (endsSl r)).Sublist (cur ++ r)
 | [],cur,h=>by
  unfold fields at h ⊢
  split at h
  . exact absurd rfl h
  . rename_i hne
    rw [if_neg hne]
    simp [joinL,endsSl,tailL]
 | c :: r,cur,h=>by
  unfold fields at h ⊢
  by_cases hc:c=47
  . rw [if_pos hc] at h ⊢
    by_cases hcur:cur=[]
    . rw [if_pos hcur] at h ⊢
      have hr:r ≠ []:=by
       rintro rfl
       simp [fields] at h
      rw [endsSl_cons hr,hcur]
      exact (fields_sub r [] h).trans (List.sublist_cons_self _ _)
    . rw [if_neg hcur] at h ⊢;subst hc
      by_cases hf:fields [] r=[]
      . rw [hf]
        simp only [joinL]
        refine List.Sublist.append (List.Sublist.refl _) ?_
        unfold tailL
        split
        . exact List.Sublist.cons_cons _ (List.nil_sublist _)
        . exact List.nil_sublist _
      . have hr:r ≠ []:=by
         rintro rfl
         simp [fields] at hf
        rw [joinL_cons hf,endsSl_cons hr,List.append_assoc]
        refine List.Sublist.append (List.Sublist.refl _) ?_
        exact List.Sublist.cons_cons _ (fields_sub r [] hf)
  . rw [if_neg hc] at h ⊢
    by_cases hr:r=[]
    . subst hr;have:=fields_sub [] (cur ++ [c]) h
      have e:endsSl [c]=false:=by unfold endsSl;simpa using hc
      rw [e]
      simpa [endsSl] using this
    . rw [endsSl_cons hr];have:=fields_sub r (cur ++ [c]) h
      simpa using this
def hasLong (l:List ByteArray):Bool:=l.any fun x=>decide (32 < x.size)
def hasZero (s:ByteArray):Bool:=s.data.toList.contains 0
def pE (s:ByteArray):Int:=if s.size=0 then 2 else if 256 < s.size then 63 else if hasZero s then 22 else if hasLong (partsOf s) then 63 else 0
def pL (s:ByteArray):List ByteArray:=if pE s=0 then partsOf s else []
def pA (s:ByteArray):Bool:=if pE s=0 then byteAt s 0 == 47 else false
def pD (s:ByteArray):Bool:=if pE s=0 then byteAt s (s.size - 1) == 47 && decide (0 < (partsOf s).length) else false
theorem pE_ok {s:ByteArray} (h:pE s=0):s.size ≠ 0/\s.size<=256/\hasZero s=false/\hasLong (partsOf s)=false:=by
 unfold pE at h
 split at h
 . omega
 . split at h
   . omega
   . split at h
     . omega
     . split at h
       . omega
       . refine ⟨by assumption,by omega,by simp_all,by simp_all⟩
theorem pE_mk {s:ByteArray} (h:s.size ≠ 0/\s.size<=256/\hasZero s=false/\hasLong (partsOf s)=false):pE s=0:=by
 unfold pE
 rw [if_neg h.1,if_neg (by omega),h.2.2.1,h.2.2.2];rfl
end Go.Proofs.YthlaoaaafafafaaGreat.P
namespace Go.Proofs.YthlaoaaafafafaaGreat.P
open Go Go.RowKit
def At (w:World) (p:Option Addr) (l:List ByteArray):Prop :=
 l=[] ∨ ∃ b off,p=some ⟨b,off,none⟩/\b < w.heap.size/\∀ j,j < l.length->w.cell? ⟨b,off+j,none⟩=some (.string (l.getD j ByteArray.empty))
theorem At.below {w w':World} {p:Option Addr} {l:List ByteArray} (h:At w p l) {B:Nat} (hb:Below B w w') (hB:w.heap.size<=B):At w' p l:=by
 rcases h with h | ⟨b,off,hp,hlt,hc⟩
 . exact .inl h
 . exact .inr ⟨b,off,hp,Nat.lt_of_lt_of_le hlt hb.size,fun j hj=>(hb.cell (p:=⟨b,off+j,none⟩) (Nat.lt_of_lt_of_le hlt hB)).trans (hc j hj)⟩
theorem At.on {w w':World} {p:Option Addr} {l:List ByteArray} (h:At w p l) (hb:Below w.heap.size w w'):At w' p l:=h.below hb (Nat.le_refl _)
theorem on_alloc (w:World) (o:Obj):Below w.heap.size w (w.alloc o):=(Below.refl _ w).alloc (Nat.le_refl _) o
theorem on_trans {w w1 w2:World} (h:Below w.heap.size w w1) (h2:Below w1.heap.size w1 w2):Below w.heap.size w w2:=h.trans (h2.mono h.size)
theorem on_drewN {w w1:World} (h:Below w.heap.size w w1) (q:Nat):Below w.heap.size w (w1.drewN q):=⟨h.os,h.tape,h.output,h.size,h.block⟩
theorem on_drew {w w1:World} (h:Below w.heap.size w w1):Below w.heap.size w w1.drew:=⟨h.os,h.tape,h.output,h.size,h.block⟩
structure Box (w:World) (b:Nat) (v0 v1 v2:Value):Prop where
 row:w.heap[b]? = some (.cells #[v0,v1,v2] 61 (0,0))
section
variable {w w':World} {b B:Nat} {v0 v1 v2:Value}
theorem Box.lt (h:Box w b v0 v1 v2):b < w.heap.size:=(Array.getElem?_eq_some_iff.1 h.row).1
theorem Box.fst (h:Box w b v0 v1 v2):w.cell? ⟨b,0,none⟩=some v0:=cell_of_row _ _ 0 _ _ _ h.row
theorem Box.snd (h:Box w b v0 v1 v2):w.cell? ⟨b,1,none⟩=some v1:=cell_of_row _ _ 1 _ _ _ h.row
theorem Box.thd (h:Box w b v0 v1 v2):w.cell? ⟨b,2,none⟩=some v2:=cell_of_row _ _ 2 _ _ _ h.row
theorem Box.free (h:Box w b v0 v1 v2) (k:Nat):w.frozen? ⟨b,k,none⟩=false:=by simp [World.frozen?,h.row]
theorem Box.new (w:World) (v0 v1 v2:Value):Box (w.alloc (.cells #[v0,v1,v2] 61)) w.heap.size v0 v1 v2:=⟨World.alloc_heap_new w _⟩
theorem Box.below (h:Box w b v0 v1 v2) (hb:Below B w w') (hB:b < B):Box w' b v0 v1 v2:=⟨(hb.block b hB).trans h.row⟩
theorem Box.on (h:Box w b v0 v1 v2) (hb:Below w.heap.size w w'):Box w' b v0 v1 v2:=h.below hb h.lt
theorem Box.drew (h:Box w b v0 v1 v2):Box w.drew b v0 v1 v2:=⟨h.row⟩
end
def AtF (base:Nat) (w:World) (p:Option Addr) (l:List ByteArray):Prop :=
 l=[] ∨ ∃ b off,p=some ⟨b,off,none⟩/\base<=b/\b < w.heap.size/\∀ j,j < l.length->w.cell? ⟨b,off+j,none⟩=some (.string (l.getD j ByteArray.empty))
section
variable {base base':Nat} {w w':World} {p:Option Addr} {l:List ByteArray}
theorem AtF.at (h:AtF base w p l):At w p l:=by
 rcases h with h | ⟨b,off,hp,_,hlt,hc⟩
 . exact .inl h
 . exact .inr ⟨b,off,hp,hlt,hc⟩
theorem AtF.nil (base:Nat) (w:World) (p:Option Addr):AtF base w p []:=.inl rfl
theorem AtF.less (h:AtF base w p l) (hb:base'<=base):AtF base' w p l:=by
 rcases h with h | ⟨b,off,hp,hl,hlt,hc⟩
 . exact .inl h
 . exact .inr ⟨b,off,hp,Nat.le_trans hb hl,hlt,hc⟩
theorem AtF.on (h:AtF base w p l) (hb:Below w.heap.size w w'):AtF base w' p l:=by
 rcases h with h | ⟨b,off,hp,hl,hlt,hc⟩
 . exact .inl h
 . exact .inr ⟨b,off,hp,hl,Nat.lt_of_lt_of_le hlt hb.size,fun j hj=>(hb.cell (p:=⟨b,off+j,none⟩) hlt).trans (hc j hj)⟩
end
structure But (b:Nat) (w w':World):Prop where
 os:w'.os=w.os
 tape:w'.tape=w.tape
 output:w'.output=w.output
 size:w'.heap.size=w.heap.size
 block:∀ k,k ≠ b->w'.heap[k]? = w.heap[k]?
theorem But.trans {b:Nat} {w w1 w2:World} (h:But b w w1) (k:But b w1 w2):But b w w2 :=
 ⟨k.os.trans h.os,k.tape.trans h.tape,k.output.trans h.output,k.size.trans h.size,fun j hj=>(k.block j hj).trans (h.block j hj)⟩
theorem but_set (w:World) (b o:Nat) (v:Value):But b w (w.setCell ⟨b,o,none⟩ v) :=
 ⟨rfl,rfl,rfl,by simp [World.setCell],fun k hk=>by simp [World.setCell,Array.getElem?_modify,Ne.symm hk]⟩
def put3 (w:World) (b:Nat) (v0 v1 v2:Value):World:=((w.setCell ⟨b,0,none⟩ v0).setCell ⟨b,1,none⟩ v1).setCell ⟨b,2,none⟩ v2
theorem but_put3 (w:World) (b:Nat) (v0 v1 v2:Value):But b w (put3 w b v0 v1 v2):=((but_set w b 0 v0).trans (but_set _ b 1 v1)).trans (but_set _ b 2 v2)
theorem below_but {B b:Nat} {w0 w w':World} (h:Below B w0 w) (k:But b w w') (hb:B<=b):Below B w0 w' :=
 ⟨k.os.trans h.os,k.tape.trans h.tape,k.output.trans h.output,by rw [k.size];exact h.size,fun j hj=>(k.block j (by omega)).trans (h.block j hj)⟩
theorem Box.but {w w':World} {b c:Nat} {v0 v1 v2:Value} (h:Box w c v0 v1 v2) (k:But b w w') (hne:c ≠ b):Box w' c v0 v1 v2:=⟨(k.block c hne).trans h.row⟩
theorem AtF.but {base b:Nat} {w w':World} {p:Option Addr} {l:List ByteArray} (h:AtF base w p l) (k:But b w w') (hb:b < base):AtF base w' p l:=by
 rcases h with h | ⟨g,off,hp,hl,hlt,hc⟩
 . exact .inl h
 . refine .inr ⟨g,off,hp,hl,by rw [k.size];exact hlt,fun j hj => ?_⟩
   rw [<- hc j hj]
   simp only [World.cell?,k.block g (by omega)]
section
variable {w : World} {b:Nat} {u0 u1 u2:Value}
theorem Box.put (h:Box w b u0 u1 u2) (v0 v1 v2:Value):Box (put3 w b v0 v1 v2) b v0 v1 v2 :=
 ⟨by simp [put3,World.setCell,Array.getElem?_modify,h.row]⟩
end
theorem infoPath : (Tryz.prog.info? 61).map (·.size)=some 3:=by kernel_rfl
theorem run_loadVar_box {w:World} {b:Nat} {v0 v1 v2:Value} (h:Box w b v0 v1 v2):(loadVar 61 ⟨b,0,none⟩).run Tryz.prog w=.ok (.agg #[v0,v1,v2]) w:=by
 have hl:(loadCells ⟨b,0,none⟩ [v0,v1,v2].length).run Tryz.prog w=.ok [v0,v1,v2].toArray w :=
  run_loadCells_list (P:=Tryz.prog) w ⟨b,0,none⟩ [v0,v1,v2] (fun j v hv=>by
   match j,hv with
   | 0,hv=>simp at hv;subst hv;exact h.fst
   | 1,hv=>simp at hv;subst hv;exact h.snd
   | 2,hv=>simp at hv;subst hv;exact h.thd)
 have hi:=infoPath
 cases hq:Tryz.prog.info? 61 with
 | none=>simp [hq] at hi
 | some i =>
  have hs:i.size=3:=by simpa [hq] using hi
  have hagg:(isAgg 61).run Tryz.prog w=.ok true w:=Tryz.isAgg61 w;have hl':(loadCells ⟨b,0,none⟩ 3).run Tryz.prog w=.ok #[v0,v1,v2] w:=hl
  simp [loadVar,Sem.run_bind,hagg,sizeOf,typeInfo,hq,hs,hl']
theorem results_box_tmp {fn:Func} {p u:Tmp} (h:fn.results=#[.cell p 61,.tmp u]) (tmps:Array Value) (w:World) {b:Nat} {v0 v1 v2 v3:Value}
 (hp:tmps.getD p undef=.pointer (some ⟨b,0,none⟩)) (hu:tmps.getD u undef=v3) (hb:Box w b v0 v1 v2):(results fn tmps).run Tryz.prog w=.ok (.tuple #[.agg #[v0,v1,v2],v3]) w:=by
 rw [results_cell_tmp h,hp,hu]
 simp [asAddr,run_loadVar_box hb,Result.andThen]
theorem at_of_row {w:World} {base n:Nat} {v:Value} {l:List ByteArray} (h:w.ownsRow base 9 1 v n (l.map Value.string)) :
 ∃ p cap,v=.slice p l.length cap/\AtF base w p l/\l.length<=cap:=by
 have hn:n=l.length:=by have:=h.1;simpa using this.symm
 rcases h.2 with ⟨h0,h1⟩ | ⟨g,cap,cur,rfl,hb,hg,hc,_,hs,ht⟩
 . subst hn;have e:l=[]:=List.eq_nil_of_length_eq_zero h1;subst e
   exact ⟨none,0,by rw [h0];rfl,.nil _ _ _,Nat.le_refl _⟩
 . refine ⟨some ⟨g,0,none⟩,cap,by rw [hn],.inr ⟨g,0,rfl,hb,(Array.getElem?_eq_some_iff.1 hg).1,fun j hj => ?_⟩,by omega⟩
   have hu:(l.map Value.string)[j]? = some (.string (l.getD j ByteArray.empty)):=by simp [List.getD,hj]
   rw [<- ht,List.getElem?_take_of_lt (by omega)] at hu
   simp only [World.cell?,hg]
   simpa using hu
theorem idx_str (s:ByteArray) (k:Nat) (hk:k < s.size) (w:World):(Instr.index 9 (.string s) (.int .i64 (k:Int))).run Tryz.prog w=.ok (.int .u8 ((byteAt s k).toNat:Int)) w:=by
 rw [run_index_string w 9 s .i64 (k:Int) Tryz.underlying9]
 have e:byteAt s k=s[k]:=by
  unfold byteAt
  simp [List.getD,hk]
  rfl
 rw [e]
 simp [hk]
end Go.Proofs.YthlaoaaafafafaaGreat.P
namespace Go.Proofs.YthlaoaaafafafaaGreat.P
open Go Go.RowKit
theorem leaves_append {P:Program} {o:Oper} {ρ:Operand->Value} {w w':World} {v:Value} {post:Value->World->Prop} (s x:Operand) (t:TypeId)
 (ho:o.op=.call { callee:=.builtin .append,args:=#[s,x],argTypes:=#[t,t] }) (hrun:(Builtin.append_ #[t,t] o.type #[ρ s,ρ x]).run P w=.ok v w') (hp:post v w'):leaves P o ρ w post:=by
 refine leaves_value (v:=v) (w':=w') ?_ hp
 obtain ⟨dst,op,ty,pos,after,guard⟩:=o
 simp only at ho
 subst ho;rw [BigFrame.execOp_builtin,BigFrame.builtin_append]
 simp only [List.map_toArray,List.map_cons,List.map_nil]
 rw [Sem.run_bind,hrun]
 rfl
theorem wpList_run_append {P:Program} {ops:Array Oper} {rest:List Oper} {o:Oper} {a:Act} {w w':World} {v:Value} {Q:Exit->Act->World->Prop} (hgd:o.guard=none) (s x:Operand) (t:TypeId)
 (ho:o.op=.call { callee:=.builtin .append,args:=#[s,x],argTypes:=#[t,t] }) (u1 u2:Value) (h1:a.eval s=u1) (h2:a.eval x=u2)
 (hrun:(Builtin.append_ #[t,t] o.type #[u1,u2]).run P w=.ok v w') (h:wpList P ops Q rest (a.put o.dst v) w'):wpList P ops Q (o :: rest) a w:=by
 subst h1 h2
 refine wpList_plain hgd fun K hK => ?_
 exact leaves_wp (leaves_append (post:=fun u W=>u=v/\W=w') s x t ho hrun ⟨rfl,rfl⟩) fun u W h2=>by
  obtain ⟨rfl,rfl⟩:=h2
  exact hK _ _ h
def Kd : Type:=Option (Value ⊕ List ByteArray ⊕ (Bool × Bool × List ByteArray) ⊕ (Bool × Bool × List ByteArray × Int) ⊕ Unit ⊕ (Nat × Bool × Bool × List ByteArray))
def Kd.any : Kd:=none
def Kd.is (v:Value):Kd:=some (.inl v)
def Kd.box (b:Nat) (a d:Bool) (l:List ByteArray):Kd:=some (.inr (.inr (.inr (.inr (.inr (b,a,d,l))))))
def Kd.ok (hi:Nat) (k:Kd) (v:Value) (W:World):Prop :=
 match k with
 | none=>True
 | some (.inl u)=>v=u
 | some (.inr (.inl l)) => ∃ p c,v=.slice p l.length c/\AtF hi W p l/\l.length<=c
 | some (.inr (.inr (.inl (a,d,l)))) => ∃ p c,v=.agg #[.bool a,.bool d,.slice p l.length c]/\AtF hi W p l/\l.length<=c
 | some (.inr (.inr (.inr (.inl (a,d,l,e))))) => ∃ p c,v=.tuple #[.agg #[.bool a,.bool d,.slice p l.length c],.int .i64 e]/\AtF hi W p l/\l.length<=c
 | some (.inr (.inr (.inr (.inr (.inl _))))) => ∃ b,v=.slice (some ⟨b,0,none⟩) 0 0
 | some (.inr (.inr (.inr (.inr (.inr (b,a,d,l)))))) => ∃ p c,Box W b (.bool a) (.bool d) (.slice p l.length c)/\AtF hi W p l/\l.length<=c
def Kd.blk (k:Kd):Option Nat :=
 match k with
 | some (.inr (.inr (.inr (.inr (.inr (b,_,_,_))))))=>some b
 | _=>none
theorem blk_none {k:Kd} {b:Nat} (h:k.blk=none):k.blk ≠ some b:=by rw [h];simp
theorem blk_other {k:Kd} {b b':Nat} (h:k.blk=some b') (hne:b' ≠ b):k.blk ≠ some b:=by rw [h];simpa using hne
def KeepK (kp:List (Nat × Nat)) (i:Nat) (w w':World):Prop:=match kp.lookup i with | none=>Below w.heap.size w w' | some b=>But b w w'
theorem Kd.on {hi:Nat} {k:Kd} {v:Value} {w w':World} (h:k.ok hi v w) (hb:Below w.heap.size w w'):k.ok hi v w':=by
 match k,h with
 | none,_=>trivial
 | some (.inl _),h=>exact h
 | some (.inr (.inl _)),h=>obtain ⟨p,c,h1,h2,h3⟩:=h;exact ⟨p,c,h1,h2.on hb,h3⟩
 | some (.inr (.inr (.inl (_,_,_)))),h=>obtain ⟨p,c,h1,h2,h3⟩:=h;exact ⟨p,c,h1,h2.on hb,h3⟩
 | some (.inr (.inr (.inr (.inl (_,_,_,_))))),h=>obtain ⟨p,c,h1,h2,h3⟩:=h;exact ⟨p,c,h1,h2.on hb,h3⟩
 | some (.inr (.inr (.inr (.inr (.inl _))))),h=>exact h
 | some (.inr (.inr (.inr (.inr (.inr (_,_,_,_)))))),h=>obtain ⟨p,c,h1,h2,h3⟩:=h;exact ⟨p,c,h1.on hb,h2.on hb,h3⟩
theorem Kd.but {hi b:Nat} {k:Kd} {v:Value} {w w':World} (h:k.ok hi v w) (hb:But b w w') (hlt:b < hi) (hne:k.blk ≠ some b):k.ok hi v w':=by
 match k,h,hne with
 | none,_,_=>trivial
 | some (.inl _),h,_=>exact h
 | some (.inr (.inl _)),h,_=>obtain ⟨p,c,h1,h2,h3⟩:=h;exact ⟨p,c,h1,h2.but hb hlt,h3⟩
 | some (.inr (.inr (.inl (_,_,_)))),h,_=>obtain ⟨p,c,h1,h2,h3⟩:=h;exact ⟨p,c,h1,h2.but hb hlt,h3⟩
 | some (.inr (.inr (.inr (.inl (_,_,_,_))))),h,_=>obtain ⟨p,c,h1,h2,h3⟩:=h;exact ⟨p,c,h1,h2.but hb hlt,h3⟩
 | some (.inr (.inr (.inr (.inr (.inl _))))),h,_=>exact h
 | some (.inr (.inr (.inr (.inr (.inr (b',_,_,_)))))),h,hne =>
  obtain ⟨p,c,h1,h2,h3⟩:=h
  exact ⟨p,c,h1.but hb (fun e=>hne (congrArg some e)),h2.but hb hlt,h3⟩
theorem keep_kd {hi:Nat} {ops:Array Oper} {kp:List (Nat × Nat)} {ks:List Kd} {tl:Till} (h:∀ i b,kp.lookup i=some b->b < hi/\∀ j,j ≠ i->(ks.getD j .any).blk ≠ some b) :
 ∀ i j v w w',KeepK kp i w w'->j ≠ i->edge ops j i=false->(∀ u,tl.lookup j=some u->u ≠ i/\edge ops i u=false)->(ks.getD j .any).ok hi v w->(ks.getD j .any).ok hi v w':=by
 intro i j v w w' hk hne _ _ hok
 unfold KeepK at hk
 cases hb:kp.lookup i with
 | none=>rw [hb] at hk;exact Kd.on hok hk
 | some b =>
  rw [hb] at hk
  exact Kd.but hok hk (h i b hb).1 ((h i b hb).2 j hne)
theorem keep_none {hi:Nat} {ops:Array Oper} {ks:List Kd} {tl:Till}:∀ i j v w w',KeepK [] i w w'->j ≠ i->edge ops j i=false->(∀ u,tl.lookup j=some u->u ≠ i/\edge ops i u=false)->(ks.getD j .any).ok hi v w->(ks.getD j .any).ok hi v w' :=
 keep_kd (fun i b h=>by simp at h)
theorem keep_one {hi n b:Nat} {ops:Array Oper} {ks:List Kd} {tl:Till} (hb:b < hi) (h:∀ j,j ≠ n->(ks.getD j .any).blk=none) :
 ∀ i j v w w',KeepK [(n,b)] i w w'->j ≠ i->edge ops j i=false->(∀ u,tl.lookup j=some u->u ≠ i/\edge ops i u=false)->(ks.getD j .any).ok hi v w->(ks.getD j .any).ok hi v w':=by
 refine keep_kd fun i b' hk => ?_
 have:i=n/\b'=b:=by
  simp only [List.lookup] at hk
  split at hk
  . rename_i h7
    exact ⟨by simpa using h7,by simpa using hk.symm⟩
  . cases hk
 obtain ⟨rfl,rfl⟩:=this
 exact ⟨hb,fun j hj=>blk_none (h j hj)⟩
end Go.Proofs.YthlaoaaafafafaaGreat.P
namespace Go.Proofs.YthlaoaaafafafaaGreat.P
open Go Go.RowKit
section
variable {P : Program} {o:Oper} {ρ:Operand->Value} {w:World} {post:Value->World->Prop}
theorem leaves_call {f:FuncId} (he:∀ args w,(callFunc f args).run P w=.ok (.enter f args) w) (hr:Reads ρ) (xs:Array Operand) (ats:Array TypeId)
 (ho:o.op=.call { callee:=.value (.func f),args:=xs,argTypes:=ats }) (vs:Array Value) (hv:xs.map ρ=vs)
 (hc:Calls P f vs w fun e w' => ∃ v,e=.returned v/\post v w'):leaves P o ρ w post:=by
 refine leaves_enter (f:=f) (args:=vs) (w':=w) ?_ hc
 obtain ⟨dst,op,ty,pos,after,guard⟩:=o
 simp only at ho
 subst ho hv;have hfv:=hr.fn f
 simp [execOp,resolve,hfv,Deferred.ofValue,invoke,he]
theorem leaves_call1 {f:FuncId} (he:∀ args w,(callFunc f args).run P w=.ok (.enter f args) w) (hr:Reads ρ) (x:Operand) (t:TypeId)
 (ho:o.op=.call { callee:=.value (.func f),args:=#[x],argTypes:=#[t] }) {u:Value} (hv:ρ x=u)
 (hc:Calls P f #[u] w fun e w' => ∃ v,e=.returned v/\post v w'):leaves P o ρ w post :=
 leaves_call he hr #[x] #[t] ho #[u] (by simp [hv]) hc
theorem leaves_call2 {f:FuncId} (he:∀ args w,(callFunc f args).run P w=.ok (.enter f args) w) (hr:Reads ρ) (x y:Operand) (t s:TypeId)
 (ho:o.op=.call { callee:=.value (.func f),args:=#[x,y],argTypes:=#[t,s] }) {u v:Value} (hu:ρ x=u) (hv:ρ y=v)
 (hc:Calls P f #[u,v] w fun e w' => ∃ v,e=.returned v/\post v w'):leaves P o ρ w post :=
 leaves_call he hr #[x,y] #[t,s] ho #[u,v] (by simp [hu,hv]) hc
theorem leaves_slice (t:TypeId) (x:Operand) (lo hi mx:Option Operand) (ho:o.op=.slice t x lo hi mx) {v:Value} (hrun:(Instr.sliceAt t (ρ x) (lo.map ρ) (hi.map ρ) (mx.map ρ)).run P w=.ok v w) (h:post v w):leaves P o ρ w post:=by
 refine leaves_value (v:=v) (w':=w) ?_ h
 obtain ⟨dst,op,ty,pos,after,guard⟩:=o
 simp only at ho
 subst ho
 simp [execOp,hrun]
theorem leaves_pick (c x y:Operand) (ho:o.op=.pick c x y) (b:Bool) (hb:ρ c=.bool b) (h:post (if b then ρ x else ρ y) w):leaves P o ρ w post:=by
 refine leaves_value (v:=if b then ρ x else ρ y) (w':=w) ?_ h
 obtain ⟨dst,op,ty,pos,after,guard⟩:=o
 simp only at ho
 subst ho
 cases b <;> simp [execOp,hb,asBool]
end
section
variable {o : Oper} {ρ:Operand->Value} {w:World} {post:Value->World->Prop} {b:Nat} {v0 v1 v2:Value}
theorem leaves_load (x:Operand) (ho:o.op=.load 61 x) (hx:ρ x=.pointer (some ⟨b,0,none⟩)) (hb:Box w b v0 v1 v2)
 (h:post (.agg #[v0,v1,v2]) w):leaves Tryz.prog o ρ w post:=by
 refine leaves_value (v:=.agg #[v0,v1,v2]) (w':=w) ?_ h
 unfold execOp
 simp only [ho,hx,Instr.loadAt,Instr.sureAddr,Sem.run_bind,Sem.run_pure,Result.andThen_ok,run_loadVar_box hb]
theorem leaves_loadS {k:Nat} {v:Value} (x:Operand) (ho:o.op=.load 55 x) (hx:ρ x=.pointer (some ⟨b,k,none⟩)) (hb:w.cell? ⟨b,k,none⟩=some v)
 (h:post v w):leaves Tryz.prog o ρ w post:=by
 refine leaves_value (v:=v) (w':=w) ?_ h
 obtain ⟨dst,op,ty,pos,after,guard⟩:=o
 simp only at ho
 subst ho
 simp [go_sem,hx,hb]
theorem leaves_field {k:Nat} (x:Operand) (ho:o.op=.fieldAddr 61 x k) (hk:k < 3) (hx:ρ x=.pointer (some ⟨b,0,none⟩)) (h:post (.pointer (some ⟨b,k,none⟩)) w):leaves Tryz.prog o ρ w post:=by
 refine leaves_value (v:=.pointer (some ⟨b,k,none⟩)) (w':=w) ?_ h
 obtain ⟨dst,op,ty,pos,after,guard⟩:=o
 simp only at ho
 subst ho
 match k,hk with
 | 0,_=>simp [go_sem,hx]
 | 1,_=>simp [go_sem,hx]
 | 2,_=>simp [go_sem,hx]
theorem leaves_store {u0 u1 u2:Value} {a d:Bool} {p:Option Addr} {n c:Nat} (x y:Operand) (ho:o.op=.store 61 x y) (hx:ρ x=.pointer (some ⟨b,0,none⟩)) (hy:ρ y=.agg #[.bool a,.bool d,.slice p n c])
 (hb:Box w b u0 u1 u2) (h:post undef (put3 w b (.bool a) (.bool d) (.slice p n c))):leaves Tryz.prog o ρ w post:=by
 refine leaves_skip (w':=put3 w b (.bool a) (.bool d) (.slice p n c)) ?_ h
 have f0:=hb.free 0;have f1:=hb.free 1;have f2:=hb.free 2;have x0:=hb.fst;have x1:=hb.snd;have x2:=hb.thd;obtain ⟨dst,op,ty,pos,after,guard⟩:=o
 simp only at ho
 subst ho
 simp [go_sem,hx,hy,f0,f1,f2,x0,x1,x2,put3]
end
end Go.Proofs.YthlaoaaafafafaaGreat.P
namespace Go.Proofs.YthlaoaaafafafaaGreat.P
open Go Go.RowKit
end Go.Proofs.YthlaoaaafafafaaGreat.P
namespace Go.Proofs.YthlaoaaafafafaaGreat.P
open Go Go.RowKit
theorem infoStr : (Tryz.prog.info? 9).map (fun i=>(i.zero,i.size,i.bytes))=some (some (.string ⟨#[]⟩),1,16):=by kernel_rfl
theorem append_none (b c:Nat) (w:World):(Builtin.append_ #[55,55] 55 #[.slice (some ⟨b,0,none⟩) 0 0,.slice none 0 c]).run Tryz.prog w=.ok (.slice (some ⟨b,0,none⟩) 0 0) w:=by
 kernel_rfl
theorem at_news {w:World} {a:Addr} {l:List ByteArray} (h:At w (some a) l):∀ (j:Nat) u,(l.map Value.string)[j]? = some u->w.cell? (a.add j)=some u:=fun j u hu=>by
 rw [List.getElem?_map] at hu
 cases hj:l[j]? with
 | none=>simp [hj] at hu
 | some x =>
  simp [hj] at hu
  subst hu;have hjl:=(List.getElem?_eq_some_iff.1 hj).1
  obtain ⟨bb,off,e,_,hc⟩:=h.resolve_left (fun e=>by rw [e] at hjl;simp at hjl)
  cases e
  have:=hc j hjl
  rw [show l.getD j ByteArray.empty=x by simp [List.getD,hj]] at this
  rw [<- this]
  congr 1
  unfold Addr.add
  split <;> simp_all
theorem append_copy (b:Nat) (p:Option Addr) (cap:Nat) (l:List ByteArray) (w:World) (hl:l.length * 16<=140737488355328) (h:At w p l) :
 ∃ p' c' w',(Builtin.append_ #[55,55] 55 #[.slice (some ⟨b,0,none⟩) 0 0,.slice p l.length cap]).run Tryz.prog w=.ok (.slice p' l.length c') w'/\Below w.heap.size w w'/\AtF w.heap.size w' p' l/\l.length<=c':=by
 obtain ⟨i0,hi,hz0,hz1,hz2⟩:=info_parts infoStr
 by_cases hnil:l=[]
 . subst hnil
   cases p with
   | none=>exact ⟨_,_,_,append_none b cap w,Below.refl _ _,.nil _ _ _,Nat.le_refl _⟩
   | some a =>
    have:=run_append_room_cells (P:=Tryz.prog) w 55 55 9 i0 Tryz.underlying55 hi b 0 0 0 a 0 cap [] (by simp) (fun j u hu=>by simp at hu) (fun u hu=>by simp at hu) (Nat.le_refl _) (fun j hj=>by simp at hj) (fun j hj=>by simp at hj)
    exact ⟨_,_,_,this,Below.refl _ _,.nil _ _ _,Nat.le_refl _⟩
 . obtain ⟨bb,off,rfl,hlt,hc⟩:=h.resolve_left hnil;have hpos:0 < l.length:=List.length_pos_iff.2 hnil
   obtain ⟨v',w',hrun,hown,hg⟩:=run_append_arg_grows (P:=Tryz.prog) w 55 55 9 i0 (.string ⟨#[]⟩) 1 16 Tryz.underlying55 hi hz0 hz1 hz2 rfl (by decide) ⟨b,0,none⟩ 0 0 [] rfl (fun j u hu=>by simp at hu)
    ⟨bb,off,none⟩ l.length cap (l.map Value.string) (by simp) (at_news h) (by omega) (by unfold maxLen;omega) (by omega)
   rw [Nat.zero_add,List.nil_append] at hown;obtain ⟨p',c',rfl,hat,hcc⟩:=at_of_row hown
   exact ⟨_,_,w',hrun,⟨hg.os,hg.tape,hg.output,hg.size,fun k hk=>hg.block k hk (by simp)⟩,hat,hcc⟩
abbrev OwnL (hi:Nat) (W:World) (v:Value) (s:List ByteArray):Prop:=W.ownsRow hi 9 1 v s.length (s.map Value.string)
theorem row_base {w:World} {base:Nat} {e:TypeId} {size:Nat} {v:Value} {n:Nat} {xs:List Value} (h:w.ownsRow base e size v n xs) (j:Nat) (ej:v.ownBlock=some j):base<=j:=by
 rcases h.2 with ⟨rfl,_⟩ | ⟨g,cap,cur,rfl,hb,_⟩
 . simp [Value.ownBlock] at ej
 . simp [Value.ownBlock] at ej;omega
theorem ownL_on {hi:Nat} {w w':World} {v:Value} {s:List ByteArray} (h:OwnL hi w v s) (hb:Below w.heap.size w w'):OwnL hi w' v s:=by
 refine ⟨h.1,?_⟩
 rcases h.2 with h0 | ⟨g,cap,cur,rfl,hbs,hg,h3,h4,h5,h6⟩
 . exact .inl h0
 . exact .inr ⟨g,cap,cur,rfl,hbs,(hb.block g (Array.getElem?_eq_some_iff.1 hg).1).trans hg,h3,h4,h5,h6⟩
theorem ownL_but {hi b:Nat} {w w':World} {v:Value} {s:List ByteArray} (h:OwnL hi w v s) (hb:But b w w') (hlt:b < hi):OwnL hi w' v s:=by
 refine ⟨h.1,?_⟩
 rcases h.2 with h0 | ⟨g,cap,cur,rfl,hbs,hg,h3,h4,h5,h6⟩
 . exact .inl h0
 . exact .inr ⟨g,cap,cur,rfl,hbs,(hb.block g (by omega)).trans hg,h3,h4,h5,h6⟩
theorem ownL_at {hi:Nat} {W:World} {v:Value} {s:List ByteArray} (h:OwnL hi W v s):∃ p c,v=.slice p s.length c/\AtF hi W p s/\s.length<=c:=at_of_row h
theorem ownL_nil (hi:Nat) (W:World):OwnL hi W (.slice none 0 0) []:=World.ownsRow_nil _ _ _ _
theorem append_own (hi:Nat) (v:Value) (s:List ByteArray) (a:Addr) (cap:Nat) (l:List ByteArray) (W:World) (hs:s.length<=10000) (hl:l.length<=10000) (hown:OwnL hi W v s) (h:At W (some a) l) (hhi:hi<=W.heap.size) :
 ∃ v' W',(Builtin.append_ #[55,55] 55 #[v,.slice (some a) l.length cap]).run Tryz.prog W=.ok v' W'/\OwnL hi W' v' (s ++ l)/\Below hi W W':=by
 obtain ⟨i0,hi0,hz0,hz1,hz2⟩:=info_parts infoStr
 obtain ⟨v',W',hrun,h1,hg,_⟩:=run_append_own (P:=Tryz.prog) W hi 55 55 9 i0 (.string ⟨#[]⟩) 1 16 Tryz.underlying55 hi0 hz0 hz1 hz2 rfl (by decide) v s.length _ hown
  a l.length cap (l.map Value.string) (by simp) (at_news h) (fun u hu=>by
   obtain ⟨x,_,rfl⟩:=List.mem_map.1 hu
   rfl) (by unfold maxLen;omega) (by omega) hhi
 refine ⟨v',W',hrun,?_,hg.os,hg.tape,hg.output,hg.size,fun k hk=>hg.block k (by omega) fun e => ?_⟩
 . show W'.ownsRow hi 9 1 v' (s ++ l).length ((s ++ l).map Value.string)
   rw [List.length_append,List.map_append];exact h1
 . have:=row_base hown k e.symm;omega
theorem at_row1 (w:World) (x:ByteArray):At (w.alloc (.cells #[.string x] 9)) (some ⟨w.heap.size,0,none⟩) [x] :=
 .inr ⟨w.heap.size,0,rfl,by simp,fun j hj=>by
  obtain rfl:j=0:=by simp at hj;omega
  rw [cell_of_row _ _ _ _ _ _ (World.alloc_heap_new w _)]
  rfl⟩
end Go.Proofs.YthlaoaaafafafaaGreat.P
