/- TakeNet and TakeNets of the program hand the rows out in new memory. -/
import Derived.Test.YtdjnaeifmeffoaaCutNet
import Derived.Test.YtdjnaeifmeffoaaCopyRows
import Derived.Test.YtdjnaeifmeffoaaShelf
namespace Go.Proofs.Ytdjnaeifmeffoaa
open Go.RowKit


end Go.Proofs.Ytdjnaeifmeffoaa
