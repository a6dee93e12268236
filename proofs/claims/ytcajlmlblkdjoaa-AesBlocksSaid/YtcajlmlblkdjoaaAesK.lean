/- AES's round keys in plain bytes. -/
import Derived.Test.YtcajlmlblkdjoaaAesL
namespace Go.Proofs.Ytcajlmlblkdjoaa
open Go.RowKit

def sU (x : UInt8) : UInt8 := boxL.getD x.toNat 0
/-- The round's constant, from the first on. -/
def conU : Nat → UInt8
  | 0 => 1
  | r + 1 => twU (conU r)
def kT0 (p : List UInt8) (c : UInt8) : List UInt8 := [sU (p.getD 13 0) ^^^ c, sU (p.getD 14 0), sU (p.getD 15 0), sU (p.getD 12 0)]
def kT (p t : List UInt8) : Nat → List UInt8
  | 0 => t
  | i + 1 => (kT p t i).set (i % 4) (p.getD i 0 ^^^ (kT p t i).getD (i % 4) 0)
def kO (p t : List UInt8) : Nat → List UInt8
  | 0 => []
  | i + 1 => kO p t i ++ [p.getD i 0 ^^^ (kT p t i).getD (i % 4) 0]
theorem kT_len (p t : List UInt8) (i : Nat) : (kT p t i).length = t.length := by
  induction i with
  | zero => rfl
  | succ i ih => rw [kT, List.length_set, ih]
theorem kO_len (p t : List UInt8) (i : Nat) : (kO p t i).length = i := by
  induction i with
  | zero => rfl
  | succ i ih => rw [kO, List.length_append, ih]; rfl
def rk (k : List UInt8) : Nat → List UInt8
  | 0 => k
  | r + 1 => kO (rk k r) (kT0 (rk k r) (conU r)) 16
theorem rk_len {k : List UInt8} (hk : k.length = 16) (r : Nat) : (rk k r).length = 16 := by
  cases r with
  | zero => exact hk
  | succ r => exact kO_len _ _ 16
/-- The first n round keys, one behind the other. -/
def keysTo (k : List UInt8) : Nat → List UInt8
  | 0 => []
  | n + 1 => keysTo k n ++ rk k n
theorem keysTo_len {k : List UInt8} (hk : k.length = 16) (n : Nat) : (keysTo k n).length = 16 * n := by
  induction n with
  | zero => rfl
  | succ n ih => rw [keysTo, List.length_append, ih, rk_len hk]; omega
theorem keysTo_last {k : List UInt8} (hk : k.length = 16) (n : Nat) : (keysTo k (n + 1)).drop (16 * n) = rk k n := by
  rw [keysTo, List.drop_append_of_le_length (by rw [keysTo_len hk]; exact Nat.le_refl _), List.drop_of_length_le (by rw [keysTo_len hk]; exact Nat.le_refl _)]; rfl
end Go.Proofs.Ytcajlmlblkdjoaa
