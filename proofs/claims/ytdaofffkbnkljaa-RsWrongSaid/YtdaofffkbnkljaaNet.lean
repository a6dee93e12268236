/- Net and Nets of the program write each row's length in decimal digits, a colon, its bytes, a comma. -/
import Derived.Test.YtdaofffkbnkljaaAppend
import Derived.Test.YtdaofffkbnkljaaPut
import Derived.Test.YtdaofffkbnkljaaShelf
namespace Go.Proofs.Ytdaofffkbnkljaa
open Go.RowKit

/-- A row's bytes. -/
def netL (l : List UInt8) : List UInt8 := Lib.itoa (l.length : Int) ++ [58] ++ l ++ [44]

abbrev Pow10 (B : Nat) (w : World) : Prop := Lib.TabBelow Try.prog B w "internal/strconv.uint64pow10" .u64 Lib.pow10Tab

/-- The table of powers of ten stands in every world that only has new things. -/
theorem tab_on {B B' : Nat} {w w' : World} (h : Pow10 B w) (hb : Below B w w') (hB : B ≤ B' := by simp) : Pow10 B' w' :=
  fun _ h' => (h.on hb) _ (h'.mono hB)

theorem decDigits_len (u : Nat) (h : u < 10 ^ 20) : (Lib.decDigits u).length ≤ 20 := by
  rw [Lib.decDigits_eq]
  simp
  rcases Nat.lt_or_ge 20 (Lib.nDigits u) with h' | h'
  · exfalso
    have hge : 10 ^ 20 ≤ u := by
      have : ∀ u, 10 ^ (Lib.nDigits u - 1) ≤ u ∨ u = 0 := by
        intro u
        induction u using Nat.strongRecOn with
        | _ u ih =>
          by_cases hu : u < 10
          · rw [Lib.nDigits_small hu]; omega
          · rw [Lib.nDigits_big hu]
            rcases ih (u / 10) (by omega) with h1 | h1
            · left
              have hp := Lib.nDigits_pos (u / 10)
              rw [show Lib.nDigits (u / 10) + 1 - 1 = (Lib.nDigits (u / 10) - 1) + 1 from by omega, Nat.pow_succ]
              omega
            · omega
      rcases this u with h1 | h1
      · exact Nat.le_trans (Nat.pow_le_pow_right (by omega) (by omega)) h1
      · subst h1; rw [Lib.nDigits_small (by omega)] at h'; omega
    omega
  · exact h'

theorem itoa_len (n : Nat) (h : n ≤ 1000000000) : (Lib.itoa (n : Int)).length ≤ 20 := by
  unfold Lib.itoa
  rw [if_neg (by omega)]
  exact decDigits_len _ (by simp; omega)

theorem netL_len (l : List UInt8) (h : l.length ≤ 1000000000) : (netL l).length ≤ l.length + 22 := by
  have := itoa_len l.length h
  simp [netL]; omega


end Go.Proofs.Ytdaofffkbnkljaa
