/- AES in plain bytes: the substitution, the round keys, a block. AES's round keys in plain bytes. A block of AES in plain bytes. -/
import Derived.Test.YtndknifdajjalaaGreatDoorPPut
namespace Go.Proofs.YtndknifdajjalaaGreatDoor
open Go.RowKit

/-- A row that is rewritten from the left: n of T, then what was. -/
def part (T x : List UInt8) (n : Nat) : List UInt8 := T.take n ++ x.drop n
end Go.Proofs.YtndknifdajjalaaGreatDoor
