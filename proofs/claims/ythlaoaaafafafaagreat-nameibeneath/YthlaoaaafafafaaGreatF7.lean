/- Ours. -/
import Derived.Test.YthlaoaaafafafaaGreatF6
set_option maxRecDepth 100000
set_option maxHeartbeats 16000000
namespace Go.Proofs.YthlaoaaafafafaaGreat
open Go Go.RowKit Go.Maps
theorem rowS_low {hi hi' size n:Nat} {e:TypeId} {w:World} {v:Value} {s:List Value} (h:w.ownsRow hi e size v n s) (hl:hi'<=hi):w.ownsRow hi' e size v n s:=by
 refine ⟨h.1,?_⟩
 rcases h.2 with h0 | ⟨g,cap,cur,h1,h2,h3⟩
 . exact .inl h0
 . exact .inr ⟨g,cap,cur,h1,Nat.le_trans hl h2,h3⟩
end Go.Proofs.YthlaoaaafafafaaGreat
