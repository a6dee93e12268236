/- The statements' own comparison of two lists of rows; their copies. -/
import Derived.Test.YtciflbkgfmbfdaaDoorSame
import Derived.Test.YtciflbkgfmbfdaaDoorRowsMem
import Derived.Test.YtciflbkgfmbfdaaDoorAppend
import Derived.Test.YtciflbkgfmbfdaaDoorPut
namespace Go.Proofs.YtciflbkgfmbfdaaDoor
open Go.RowKit

theorem rows_take_eq {l k : List (List UInt8)} {j : Nat} (h1 : j < l.length) (h2 : j < k.length) (ht : l.take j = k.take j) (h : l[j] = k[j]) : l.take (j + 1) = k.take (j + 1) := by
  rw [List.take_succ_eq_append_getElem h1, List.take_succ_eq_append_getElem h2, ht, h]

theorem quiet_at {P : Program} {f : FuncId} {args : Array Value} {w : World} {a n : Nat} {v : Value}
    (h : ∀ m, Calls P f args (w.drewN m) fun e w' => e = .returned v ∧ ∃ q, w' = (w.drewN m).drewN q) :
    Calls P f args (w.drewN (a + n)) fun e w'' => e = .returned v ∧ ∃ m, w'' = w.drewN (a + m) :=
  (h (a + n)).mono fun _ _ ⟨he, m, hm⟩ => ⟨he, n + m, by rw [hm, World.drewN_drewN, Nat.add_assoc]⟩

end Go.Proofs.YtciflbkgfmbfdaaDoor
