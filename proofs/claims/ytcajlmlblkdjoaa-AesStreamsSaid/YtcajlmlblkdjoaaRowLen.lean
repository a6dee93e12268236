/- The program reads a row's length as the plain lists' law does. -/
import Derived.Test.YtcajlmlblkdjoaaTakeL
import Derived.WalkLawsBesides
namespace Go.Proofs.Ytcajlmlblkdjoaa
open Go.RowKit

def lenV : Option (Nat × Nat) → Nat
  | none => 0
  | some x => x.1
def lenS : Option (Nat × Nat) → Nat
  | none => 0
  | some x => x.2 + 1

theorem lenFrom_first {z : Bool} {v d : Nat} {x : UInt8} {r : List UInt8} (h : isDig x = true) (h0 : 0 < d) (hz : z = true) : lenFrom z v d (x :: r) = none := by
  rw [lenFrom, if_pos h, if_pos ⟨h0, hz⟩]
theorem lenFrom_great {z : Bool} {v d : Nat} {x : UInt8} {r : List UInt8} (h : isDig x = true) (h0 : ¬ (0 < d ∧ z = true)) (hv : 16384 < v * 10 + (x.toNat - 48)) : lenFrom z v d (x :: r) = none := by
  rw [lenFrom, if_pos h, if_neg h0, if_pos hv]
theorem lenFrom_on {z : Bool} {v d : Nat} {x : UInt8} {r : List UInt8} (h : isDig x = true) (h0 : ¬ (0 < d ∧ z = true)) (hv : ¬ 16384 < v * 10 + (x.toNat - 48)) : lenFrom z v d (x :: r) = lenFrom z (v * 10 + (x.toNat - 48)) (d + 1) r := by
  rw [lenFrom, if_pos h, if_neg h0, if_neg hv]
theorem lenFrom_no {z : Bool} {v d : Nat} {x : UInt8} {r : List UInt8} (h : ¬ isDig x = true) (h0 : d = 0 ∨ x.toNat ≠ 58) : lenFrom z v d (x :: r) = none := by
  rw [lenFrom, if_neg h, if_pos h0]
theorem lenFrom_yes {z : Bool} {v d : Nat} {x : UInt8} {r : List UInt8} (h : ¬ isDig x = true) (h0 : ¬ (d = 0 ∨ x.toNat ≠ 58)) : lenFrom z v d (x :: r) = some (v, d) := by
  rw [lenFrom, if_neg h, if_neg h0]

end Go.Proofs.Ytcajlmlblkdjoaa
