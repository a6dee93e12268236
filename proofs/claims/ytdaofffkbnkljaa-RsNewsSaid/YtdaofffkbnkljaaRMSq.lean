/- Matrices out of any bytes, as the statements of chapter 5 make them. -/
import Derived.Test.YtdaofffkbnkljaaRMUnit
namespace Go.Proofs.Ytdaofffkbnkljaa
open Go.RowKit

/-- Bytes laid out in rows of m; noughts behind them. -/
def sqM (l : List UInt8) (m : Nat) : Mx := fun i j => l.getD (m * i + j) 0
theorem rowL_at (f : Mx) (m r : Nat) {j : Nat} (h : j < m) : (rowL f 0 m r).getD j 0 = f r j := by
  have := map_getD (fun j => f r (0 + j)) m j h
  rwa [Nat.zero_add] at this

theorem part_keep {T x : List UInt8} {m n : Nat} (hT : T.length = m) (hx : x.length = m) (hn : n < m) (h : T.getD n 0 = x.getD n 0) : part T x (n + 1) = part T x n := by
  rw [← part_set hT hx hn, h]
  apply List.ext_getElem?
  intro j
  by_cases e : n = j
  · subst e
    have hp : n < (part T x n).length := by rw [part_len hT hx (Nat.le_of_lt hn)]; exact hn
    rw [List.getElem?_set_self hp, List.getElem?_eq_getElem hp]
    have := part_later (T := T) (x := x) hT (Nat.le_of_lt hn) (Nat.le_refl n)
    rw [List.getD_eq_getElem?_getD, List.getElem?_eq_getElem hp] at this
    exact congrArg some this.symm
  · rw [List.getElem?_set_ne e]
end Go.Proofs.Ytdaofffkbnkljaa
