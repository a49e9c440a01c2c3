/- Ours. -/
import Derived.Test.YthlaoaaafafafaaGreatC7
import Derived.Test.YthlaoaaafafafaaGreatShelfS
set_option maxRecDepth 100000
set_option maxHeartbeats 16000000
namespace Go.Proofs.YthlaoaaafafafaaGreat
open Go Go.RowKit Go.Shelf Go.Sort
abbrev intsV (l:List Int):List Value:=l.map (Value.int .i64)
theorem elemInt : ElemOk Tryz.prog 41 3 (.int .i64 0) 8:=⟨Tryz.underlying41,by kernel_rfl,rfl,by decide⟩
theorem rises_unique : ∀ {a b:List Int},a.Pairwise (· < ·)->b.Pairwise (· < ·)->(∀ x,x ∈ a ↔ x ∈ b)->a=b
 | [],[],_,_,_=>rfl
 | [],y :: r,_,_,h=>absurd ((h y).2 (by simp)) (by simp)
 | x :: r,[],_,_,h=>absurd ((h x).1 (by simp)) (by simp)
 | x :: r,y :: t,ha,hb,h=>by
  have ha':=List.pairwise_cons.1 ha;have hb':=List.pairwise_cons.1 hb
  have hxy:x=y:=by
   rcases List.mem_cons.1 ((h x).1 (by simp)) with e | e
   . exact e
   . rcases List.mem_cons.1 ((h y).2 (by simp)) with e2 | e2
     . exact e2.symm
     . have h1:=hb'.1 x e;have h2:=ha'.1 y e2
       omega
  subst hxy
  congr 1
  refine rises_unique ha'.2 hb'.2 fun z=>⟨fun hz => ?_,fun hz => ?_⟩
  . rcases List.mem_cons.1 ((h z).1 (List.mem_cons_of_mem _ hz)) with e | e
    . have:=ha'.1 z hz;omega
    . exact e
  . rcases List.mem_cons.1 ((h z).2 (List.mem_cons_of_mem _ hz)) with e | e
    . have:=hb'.1 z hz;omega
    . exact e
theorem merge_rises {l:List Int} (h:l.Nodup):(l.mergeSort fun x y=>decide (x<=y)).Pairwise (· < ·):=by
 have h1:=List.pairwise_mergeSort (le:=fun x y:Int=>decide (x<=y)) (fun a b c h1 h2=>by simp at *;omega) (fun a b=>by simp;omega) l
 have h2:(l.mergeSort fun x y=>decide (x<=y)).Nodup:=(List.mergeSort_perm l _).nodup_iff.2 h
 refine (h1.and h2).imp ?_
 intro a b ⟨h3,h4⟩
 simp at h3
 omega
open Go Go.RowKit Go.Maps
end Go.Proofs.YthlaoaaafafafaaGreat
