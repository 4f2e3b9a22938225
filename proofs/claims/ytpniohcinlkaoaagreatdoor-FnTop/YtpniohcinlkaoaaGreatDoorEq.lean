/- The comparing of two slices that hold the same. -/
import Derived.Test.YtpniohcinlkaoaaGreatDoorLeaf
namespace Go.Proofs.YtpniohcinlkaoaaGreatDoor
open Go.RowKit

end Go.Proofs.YtpniohcinlkaoaaGreatDoor
