/- A piece of a function's code, taken out of the translation by its number, so that a theorem can speak of it without its text. -/
import Derived.Test.YtcajlmlblkdjoaaProg
namespace Go.Proofs.Ytcajlmlblkdjoaa
def regionOf (k : Nat) : Code → Option Code
  | .region id ops b => bif Nat.beq id k then some (.region id ops b) else none
  | .seq a b => match regionOf k a with
    | some c => some c
    | none => regionOf k b
  | .block _ c => regionOf k c
  | .loop c => regionOf k c
  | .scope c => regionOf k c
  | .cond _ a b => match regionOf k a with
    | some c => some c
    | none => regionOf k b
  | _ => none
end Go.Proofs.Ytcajlmlblkdjoaa
