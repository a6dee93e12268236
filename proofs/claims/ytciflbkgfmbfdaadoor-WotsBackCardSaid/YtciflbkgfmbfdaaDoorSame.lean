/- The statements' own comparison of two byte slices answers whether they are the same list; it changes nothing. -/
import Derived.Test.YtciflbkgfmbfdaaDoorProg
import Derived.Test.YtciflbkgfmbfdaaDoorMem
namespace Go.Proofs.YtciflbkgfmbfdaaDoor
open Go.RowKit

theorem take_succ_ne {l k : List UInt8} {j : Nat} (h1 : j < l.length) (h2 : j < k.length) (h : l[j] ≠ k[j]) : l ≠ k := by
  rintro rfl
  exact h rfl

theorem take_succ_eq {l k : List UInt8} {j : Nat} (h1 : j < l.length) (h2 : j < k.length) (ht : l.take j = k.take j) (h : l[j] = k[j]) : l.take (j + 1) = k.take (j + 1) := by
  rw [List.take_succ_eq_append_getElem h1, List.take_succ_eq_append_getElem h2, ht, h]

end Go.Proofs.YtciflbkgfmbfdaaDoor
