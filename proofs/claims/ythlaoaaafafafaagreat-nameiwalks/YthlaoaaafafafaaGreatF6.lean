/- Ours. -/
import Derived.Test.YthlaoaaafafafaaGreatF4
import Derived.Laws.IdiomStrings
import Derived.Lib.BufferRead
import Derived.Test.YthlaoaaafafafaaGreatC8
set_option maxRecDepth 100000
set_option maxHeartbeats 16000000
namespace Go.Proofs.YthlaoaaafafafaaGreat
open Go Go.RowKit Go.Maps
end Go.Proofs.YthlaoaaafafafaaGreat
