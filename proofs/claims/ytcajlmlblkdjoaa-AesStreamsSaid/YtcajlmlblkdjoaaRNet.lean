/- Net of the document writes what the program's writes. -/
import Derived.Test.YtcajlmlblkdjoaaDigits
import Derived.Test.YtcajlmlblkdjoaaMarked
namespace Go.Proofs.Ytcajlmlblkdjoaa
open Go.RowKit

end Go.Proofs.Ytcajlmlblkdjoaa
