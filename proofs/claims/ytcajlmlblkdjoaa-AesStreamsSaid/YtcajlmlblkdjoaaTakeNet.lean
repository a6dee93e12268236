/- TakeNet and TakeNets of the program hand the rows out in new memory. -/
import Derived.Test.YtcajlmlblkdjoaaCutNet
import Derived.Test.YtcajlmlblkdjoaaCopyRows
import Derived.Test.YtcajlmlblkdjoaaShelf
namespace Go.Proofs.Ytcajlmlblkdjoaa
open Go.RowKit


end Go.Proofs.Ytcajlmlblkdjoaa
