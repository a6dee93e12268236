/- Nets of the program writes all rows, one behind the other. -/
import Derived.Test.YtcajlmlblkdjoaaNet
import Derived.Test.YtcajlmlblkdjoaaRowsMem
namespace Go.Proofs.Ytcajlmlblkdjoaa
open Go.RowKit

/-- All rows' bytes. -/
def netsL (ls : List (List UInt8)) : List UInt8 := (ls.map netL).flatten

theorem netsL_snoc (ls : List (List UInt8)) (l : List UInt8) : netsL (ls ++ [l]) = netsL ls ++ netL l := by simp [netsL]
theorem netsL_take (ls : List (List UInt8)) (k : Nat) (h : k < ls.length) : netsL (ls.take (k + 1)) = netsL (ls.take k) ++ netL ls[k] := by
  rw [List.take_succ_eq_append_getElem h, netsL_snoc]

theorem netsL_len (ls : List (List UInt8)) (h : ∀ r ∈ ls, r.length ≤ 1000) (k : Nat) (hk : k ≤ ls.length) : (netsL (ls.take k)).length ≤ 1022 * k := by
  induction k with
  | zero => simp [netsL]
  | succ k ih =>
    have hk' : k < ls.length := by omega
    have h1 := h ls[k] (List.getElem_mem hk')
    have h2 := netL_len ls[k] (by omega)
    have h3 := ih (by omega)
    rw [netsL_take ls k hk', List.length_append]
    omega

end Go.Proofs.Ytcajlmlblkdjoaa
