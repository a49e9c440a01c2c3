/- Ours. -/
import Derived.Test.YthlaoaaafafafaaGreatC7
import Derived.Test.YthlaoaaafafafaaGreatShelfS
set_option maxRecDepth 100000
set_option maxHeartbeats 16000000
namespace Go.Proofs.YthlaoaaafafafaaGreat
open Go Go.RowKit Go.Shelf Go.Sort
open Go Go.RowKit Go.Maps
end Go.Proofs.YthlaoaaafafafaaGreat
