/- TakeNets of the program hands just so many rows out, each in new memory, or tells that there are not just so many. -/
import Derived.Test.YtcajlmlblkdjoaaTakeNet
namespace Go.Proofs.Ytcajlmlblkdjoaa
open Go.RowKit

/-- Just so many rows. -/
def takesL : Nat → List UInt8 → Option (List (List UInt8))
  | 0, b => if b = [] then some [] else none
  | k + 1, b => match takeL b with
    | none => none
    | some x => (takesL k x.2).map fun y => x.1 :: y
def takesN (n : Int) (b : List UInt8) : Option (List (List UInt8)) := if n < 0 then none else takesL n.toNat b
/-- The rows (none of them beside a false). -/
def rowsOf (o : Option (List (List UInt8))) : List (List UInt8) := o.getD []

/-- How far the taking is. -/
def Taken (b : List UInt8) (N k : Nat) (out : List (List UInt8)) (rest : List UInt8) : Prop := takesL N b = (takesL (N - k) rest).map fun y => out ++ y
theorem Taken.start (b : List UInt8) (N : Nat) : Taken b N 0 [] b := by
  unfold Taken; rw [Nat.sub_zero]; cases takesL N b <;> simp
theorem Taken.bad {b : List UInt8} {N k : Nat} {out : List (List UInt8)} {rest : List UInt8} (h : Taken b N k out rest) (hk : k < N) (ht : takeL rest = none) : takesL N b = none := by
  unfold Taken at h
  rw [h, show N - k = (N - (k + 1)) + 1 from by omega, takesL, ht]
  rfl
theorem Taken.on {b : List UInt8} {N k : Nat} {out : List (List UInt8)} {rest x r : List UInt8} (h : Taken b N k out rest) (hk : k < N) (ht : takeL rest = some (x, r)) : Taken b N (k + 1) (out ++ [x]) r := by
  unfold Taken at h ⊢
  rw [h, show N - k = (N - (k + 1)) + 1 from by omega, takesL, ht]
  simp only [Option.map_map]
  cases takesL (N - (k + 1)) r <;> simp
theorem Taken.left {b : List UInt8} {N : Nat} {out : List (List UInt8)} {rest : List UInt8} (h : Taken b N N out rest) (hr : rest ≠ []) : takesL N b = none := by
  unfold Taken at h
  rw [h, Nat.sub_self, takesL, if_neg hr]; rfl
theorem Taken.done {b : List UInt8} {N : Nat} {out : List (List UInt8)} {rest : List UInt8} (h : Taken b N N out rest) (hr : rest = []) : takesL N b = some out := by
  unfold Taken at h
  rw [h, Nat.sub_self, takesL, if_pos hr]; simp

theorem takeL_less {l : List UInt8} {x r : List UInt8} (h : takeL l = some (x, r)) : x.length ≤ l.length ∧ r.length ≤ l.length := by
  unfold takeL at h
  cases hr : rowLen l with
  | none => rw [hr] at h; cases h
  | some y =>
    rw [hr] at h
    simp only at h
    split at h
    · simp only [Option.some.injEq, Prod.mk.injEq] at h
      obtain ⟨rfl, rfl⟩ := h
      simp; omega
    · cases h

theorem ret_rows {A1 : Option Addr} {c1 n1 m1 : Nat} {b : Bool} (h1 : n1 = m1) :
    Ending.returned (.tuple #[.slice A1 n1 c1, .bool b]) = Ending.returned (.tuple #[.slice A1 m1 c1, .bool b]) := by rw [h1]

end Go.Proofs.Ytcajlmlblkdjoaa
