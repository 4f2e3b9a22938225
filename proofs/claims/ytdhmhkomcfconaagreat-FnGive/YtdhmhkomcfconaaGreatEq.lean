/- The comparing of two slices that hold the same. -/
import Derived.Test.YtdhmhkomcfconaaGreatLeaf
namespace Go.Proofs.YtdhmhkomcfconaaGreat
open Go.RowKit

end Go.Proofs.YtdhmhkomcfconaaGreat
