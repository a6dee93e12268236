/- AES in plain bytes: the substitution, the round keys, a block. AES's round keys in plain bytes. A block of AES in plain bytes. -/
import Derived.Test.YtfgieebccjoboaaGreatDoorPPut
namespace Go.Proofs.YtfgieebccjoboaaGreatDoor
open Go.RowKit
def part (T x:List UInt8) (n:Nat):List UInt8:=T.take n++x.drop n
end Go.Proofs.YtfgieebccjoboaaGreatDoor
