/- Ours. -/
import Derived.Test.YthlaoaaafafafaaGreatC7
import Derived.Test.YthlaoaaafafafaaGreatShelfS
set_option maxRecDepth 100000
set_option maxHeartbeats 16000000
namespace Go.Proofs.YthlaoaaafafafaaGreat
open Go Go.RowKit Go.Shelf Go.Sort
abbrev intsV (l:List Int):List Value:=l.map (Value.int .i64)
theorem elemInt : ElemOk Tryz.prog 41 3 (.int .i64 0) 8:=⟨Tryz.underlying41,by kernel_rfl,rfl,by decide⟩
theorem merge_rises {l:List Int} (h:l.Nodup):(l.mergeSort fun x y=>decide (x<=y)).Pairwise (· < ·):=by
 have h1:=List.pairwise_mergeSort (le:=fun x y:Int=>decide (x<=y)) (fun a b c h1 h2=>by simp at *;omega) (fun a b=>by simp;omega) l
 have h2:(l.mergeSort fun x y=>decide (x<=y)).Nodup:=(List.mergeSort_perm l _).nodup_iff.2 h
 refine (h1.and h2).imp ?_
 intro a b ⟨h3,h4⟩
 simp at h3
 omega
open Go Go.RowKit Go.Maps
end Go.Proofs.YthlaoaaafafafaaGreat
