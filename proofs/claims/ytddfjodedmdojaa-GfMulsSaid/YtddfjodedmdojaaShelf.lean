/- Contracts of library functions that this translation holds, laid by program in the translation's own numbers. -/
import Derived.Shelf.Lay
import Derived.Shelf.LaySoft
import Derived.Test.YtddfjodedmdojaaProg
namespace Go.Proofs
open Go.Shelf
end Go.Proofs
