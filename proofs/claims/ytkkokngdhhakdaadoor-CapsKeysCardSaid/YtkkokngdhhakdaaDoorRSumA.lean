/- The document's twice, and its table of the substitution. The document's table of the substitution. The document's round keys. A piece of a function's code, taken out of the translation by its number, so that a theorem can speak of it without its text. One byte of a mixed column: the document's region, by itself. -/
import Derived.Test.YtkkokngdhhakdaaDoorAesB
import Derived.Test.YtkkokngdhhakdaaDoorU8
import Derived.BigQuiet
import Derived.RegionTactic
import Derived.BigRegion
import Derived.Deep.RegionHeld3
import Derived.StillTailTactics
import Derived.Test.YtkkokngdhhakdaaDoorProg
import Derived.IntWalk
namespace Go.Proofs.YtkkokngdhhakdaaDoor
open Go.RowKit

theorem retU8 {a b : Int} (h : a = b) : Ending.returned (.int .u8 a) = .returned (.int .u8 b) := by rw [h]
end Go.Proofs.YtkkokngdhhakdaaDoor
namespace Go.Proofs.YtkkokngdhhakdaaDoor
open Go.RowKit

theorem zero256 (w : World) : (zeroValue 150).run Tryd.prog w = .ok (.agg (u8A (List.replicate 256 0))) w := by kernel_rfl

end Go.Proofs.YtkkokngdhhakdaaDoor
namespace Go.Proofs.YtkkokngdhhakdaaDoor
open Go.RowKit


end Go.Proofs.YtkkokngdhhakdaaDoor
namespace Go.Proofs.YtkkokngdhhakdaaDoor
def regionOf (k : Nat) : Code → Option Code
  | .region id ops b => bif Nat.beq id k then some (.region id ops b) else none
  | .seq a b => match regionOf k a with
    | some c => some c
    | none => regionOf k b
  | .block _ c => regionOf k c
  | .loop c => regionOf k c
  | .scope c => regionOf k c
  | .cond _ a b => match regionOf k a with
    | some c => some c
    | none => regionOf k b
  | _ => none
end Go.Proofs.YtkkokngdhhakdaaDoor
namespace Go.Proofs.YtkkokngdhhakdaaDoor
open Go.RowKit

end Go.Proofs.YtkkokngdhhakdaaDoor
