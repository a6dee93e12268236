/- Bit operations on ints that are not negative, as sums, quotients and remainders. -/
import Derived.WalkKit
namespace Go.Proofs.YtkkokngdhhakdaaDoor
open Go.RowKit

theorem ofInt64_nat (a : Nat) (ha : a < 9223372036854775808) : (BitVec.ofInt 64 (a : Int)).toNat = a := by
  rw [BitVec.ofInt_natCast, BitVec.toNat_ofNat]
  exact Nat.mod_eq_of_lt (by omega)

theorem bits_or_nat (a b : Nat) (ha : a < 9223372036854775808) (hb : b < 9223372036854775808) : bits .or .i64 (a : Int) (b : Int) = ((a ||| b : Nat) : Int) := by
  have hx : a ||| b < 2 ^ 63 := Nat.or_lt_two_pow (by omega) (by omega)
  show IntKind.i64.wrap ((BitVec.ofInt 64 (a : Int) ||| BitVec.ofInt 64 (b : Int)).toNat : Int) = _
  rw [BitVec.toNat_or, ofInt64_nat a ha, ofInt64_nat b hb, IntKind.wrap_i64]
  omega

theorem bits_and_nat (a b : Nat) (ha : a < 9223372036854775808) (hb : b < 9223372036854775808) : bits .and .i64 (a : Int) (b : Int) = ((a &&& b : Nat) : Int) := by
  have hx : a &&& b < 2 ^ 63 := Nat.and_lt_two_pow _ (by omega)
  show IntKind.i64.wrap ((BitVec.ofInt 64 (a : Int) &&& BitVec.ofInt 64 (b : Int)).toNat : Int) = _
  rw [BitVec.toNat_and, ofInt64_nat a ha, ofInt64_nat b hb, IntKind.wrap_i64]
  omega

/-- A byte behind what is held. -/
theorem or_byte (h x : Nat) (hh : h < 36028797018963968) (hx : x < 256) : bits .or .i64 ((h : Int) * 256) (x : Int) = ((h * 256 + x : Nat) : Int) := by
  have e : ((h : Int) * 256) = ((h * 256 : Nat) : Int) := by omega
  rw [e, bits_or_nat _ _ (by omega) (by omega)]
  have : h * 256 ||| x = h * 256 + x := by
    have := Nat.shiftLeft_add_eq_or_of_lt (show x < 2 ^ 8 from hx) h
    rw [Nat.shiftLeft_eq] at this
    exact this.symm
  rw [this]

/-- Five digits behind what is held. -/
theorem or_five (h x : Nat) (hh : h < 36028797018963968) (hx : x < 32) : bits .or .i64 ((h : Int) * 32) (x : Int) = ((h * 32 + x : Nat) : Int) := by
  have e : ((h : Int) * 32) = ((h * 32 : Nat) : Int) := by omega
  rw [e, bits_or_nat _ _ (by omega) (by omega)]
  have : h * 32 ||| x = h * 32 + x := by
    have := Nat.shiftLeft_add_eq_or_of_lt (show x < 2 ^ 5 from hx) h
    rw [Nat.shiftLeft_eq] at this
    exact this.symm
  rw [this]

/-- The lowest k digits. -/
theorem and_low (a k : Nat) (ha : a < 9223372036854775808) (hk : k < 63) : bits .and .i64 (a : Int) ((2 ^ k - 1 : Nat) : Int) = ((a % 2 ^ k : Nat) : Int) := by
  have h2 : 2 ^ k < 2 ^ 63 := Nat.pow_lt_pow_right (by omega) hk
  rw [bits_and_nat _ _ ha (by omega), Nat.and_two_pow_sub_one_eq_mod]

theorem and_mask (h k : Nat) (hh : h < 9223372036854775808) (hk : k < 62) : bits .and .i64 (h : Int) (wrap64 (wrap64 (2 ^ k) - 1)) = ((h % 2 ^ k : Nat) : Int) := by
  have e : (2 ^ k : Int) = ((2 ^ k : Nat) : Int) := by simp
  have h2 : 2 ^ k < 2 ^ 62 := Nat.pow_lt_pow_right (by omega) hk
  have h1 : 1 ≤ 2 ^ k := Nat.one_le_two_pow
  rw [e, IntWalk.wrap64_in ((2 ^ k : Nat) : Int) ⟨by omega, by omega⟩, IntWalk.wrap64_in (((2 ^ k : Nat) : Int) - 1) ⟨by omega, by omega⟩, show ((2 ^ k : Nat) : Int) - 1 = ((2 ^ k - 1 : Nat) : Int) from by omega]
  exact and_low h k hh (by omega)

theorem div_pow_cast (a k : Nat) : (a : Int) / 2 ^ k = ((a / 2 ^ k : Nat) : Int) := by
  rw [Int.natCast_ediv, Int.natCast_pow]; rfl
theorem mul_pow_cast (a k : Nat) : (a : Int) * 2 ^ k = ((a * 2 ^ k : Nat) : Int) := by
  rw [Int.natCast_mul, Int.natCast_pow]; rfl
/-- What stands above the lowest digits. -/
theorem div_lt_of_pow {a b k m : Nat} (h : a < 2 ^ b) (hb : b = k + m) : a / 2 ^ k < 2 ^ m := by
  subst hb
  rw [Nat.pow_add] at h
  exact Nat.div_lt_of_lt_mul h
end Go.Proofs.YtkkokngdhhakdaaDoor
