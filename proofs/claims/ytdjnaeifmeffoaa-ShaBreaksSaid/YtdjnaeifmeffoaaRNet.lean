/- Net of the document writes what the program's writes. -/
import Derived.Test.YtdjnaeifmeffoaaDigits
import Derived.Test.YtdjnaeifmeffoaaMarked
namespace Go.Proofs.Ytdjnaeifmeffoaa
open Go.RowKit

end Go.Proofs.Ytdjnaeifmeffoaa
