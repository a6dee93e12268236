/- The document's own question: is it a matrix? -/
import Derived.Test.YtdaofffkbnkljaaProg
import Derived.Test.YtdaofffkbnkljaaRowsMem
import Derived.BigQuiet
namespace Go.Proofs.Ytdaofffkbnkljaa
open Go.RowKit

/-- A row that may stand in a matrix whose first row is k bytes long. -/
def rowOK (k q : Nat) : Prop := 1 ≤ q ∧ q ≤ 16 ∧ q = k
instance (k q : Nat) : Decidable (rowOK k q) := by unfold rowOK; infer_instance
def IsMx (ls : List (List UInt8)) : Prop := 1 ≤ ls.length ∧ ls.length ≤ 16 ∧ ∀ i (h : i < ls.length), rowOK (ls.getD 0 []).length ls[i].length
instance (ls : List (List UInt8)) : Decidable (IsMx ls) := by unfold IsMx; infer_instance
theorem isMx_no {ls : List (List UInt8)} {i : Nat} (h : i < ls.length) (k : ¬ rowOK (ls.getD 0 []).length ls[i].length) : decide (IsMx ls) = false := decide_eq_false fun m => k (m.2.2 i h)

end Go.Proofs.Ytdaofffkbnkljaa
