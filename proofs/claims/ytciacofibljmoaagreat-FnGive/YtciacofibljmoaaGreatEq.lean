/- The comparing of two slices that hold the same. -/
import Derived.Test.YtciacofibljmoaaGreatLeaf
namespace Go.Proofs.YtciacofibljmoaaGreat
open Go.RowKit

end Go.Proofs.YtciacofibljmoaaGreat
