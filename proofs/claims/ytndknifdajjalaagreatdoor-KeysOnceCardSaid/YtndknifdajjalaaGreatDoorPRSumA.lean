/- The document's twice, and its table of the substitution. The document's table of the substitution. The document's round keys. A piece of a function's code, taken out of the translation by its number, so that a theorem can speak of it without its text. One byte of a mixed column: the document's region, by itself. -/
import Derived.BigQuiet
import Derived.RegionTactic
import Derived.BigRegion
import Derived.Deep.RegionHeld3
import Derived.StillTailTactics
import Derived.IntWalk
import Derived.Test.YtndknifdajjalaaGreatDoorPAesB
import Derived.Test.YtndknifdajjalaaGreatDoorPU8
import Derived.Test.YtndknifdajjalaaGreatDoorProg
namespace Go.Proofs.YtndknifdajjalaaGreatDoor
open Go.RowKit

end Go.Proofs.YtndknifdajjalaaGreatDoor
namespace Go.Proofs.YtndknifdajjalaaGreatDoor
def regionOf (k : Nat) : Code → Option Code
  | .region id ops b => bif Nat.beq id k then some (.region id ops b) else none
  | .seq a b => match regionOf k a with
    | some c => some c
    | none => regionOf k b
  | .block _ c => regionOf k c
  | .loop c => regionOf k c
  | .scope c => regionOf k c
  | .cond _ a b => match regionOf k a with
    | some c => some c
    | none => regionOf k b
  | _ => none

end Go.Proofs.YtndknifdajjalaaGreatDoor
