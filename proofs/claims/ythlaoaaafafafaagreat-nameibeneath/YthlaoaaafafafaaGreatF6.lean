/- Ours. -/
import Derived.Test.YthlaoaaafafafaaGreatF4
import Derived.Laws.IdiomStrings
import Derived.Lib.BufferRead
import Derived.Test.YthlaoaaafafafaaGreatC8
set_option maxRecDepth 100000
set_option maxHeartbeats 16000000
namespace Go.Proofs.YthlaoaaafafafaaGreat
open Go Go.RowKit Go.Maps
theorem find_ent {S:List Ent} (hs:Sorted S) {k:Nat} (hk:k < S.length):find (names S)[k]! S=S[k].2:=by
 have e:(names S)[k]! = S[k].1:=by
  rw [getElem!_pos (names S) k (by rw [names_len];exact hk)]
  simp [names]
 rw [e]
 exact find_of (fun x hx y hy h=>sorted_one hs hx hy h) (List.getElem_mem hk)
end Go.Proofs.YthlaoaaafafafaaGreat
