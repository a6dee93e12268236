/- AES in plain bytes: the substitution, the round keys, a block. -/
import Derived.Test.YtcajlmlblkdjoaaPut
namespace Go.Proofs.Ytcajlmlblkdjoaa
open Go.RowKit

theorem xor_u8 (a b : Nat) (ha : a < 256) (hb : b < 256) : bits .xor .u8 (a : Int) (b : Int) = ((a ^^^ b : Nat) : Int) := by
  have h : a ^^^ b < 256 := Nat.xor_lt_two_pow (n := 8) ha hb
  show IntKind.u8.wrap ((BitVec.ofInt 8 (a : Int) ^^^ BitVec.ofInt 8 (b : Int)).toNat : Int) = _
  rw [BitVec.toNat_xor, BitVec.ofInt_natCast, BitVec.ofInt_natCast, BitVec.toNat_ofNat, BitVec.toNat_ofNat, Nat.mod_eq_of_lt (show a < 2 ^ 8 from ha), Nat.mod_eq_of_lt (show b < 2 ^ 8 from hb)]
  show (((a ^^^ b : Nat) : Int)) % 256 = _
  omega
theorem or_u8 (a b : Nat) (ha : a < 256) (hb : b < 256) : bits .or .u8 (a : Int) (b : Int) = ((a ||| b : Nat) : Int) := by
  have h : a ||| b < 256 := Nat.or_lt_two_pow (n := 8) ha hb
  show IntKind.u8.wrap ((BitVec.ofInt 8 (a : Int) ||| BitVec.ofInt 8 (b : Int)).toNat : Int) = _
  rw [BitVec.toNat_or, BitVec.ofInt_natCast, BitVec.ofInt_natCast, BitVec.toNat_ofNat, BitVec.toNat_ofNat, Nat.mod_eq_of_lt (show a < 2 ^ 8 from ha), Nat.mod_eq_of_lt (show b < 2 ^ 8 from hb)]
  show (((a ||| b : Nat) : Int)) % 256 = _
  omega
theorem xor_byte8 (a b : UInt8) : bits .xor .u8 (a.toNat : Int) (b.toNat : Int) = ((a ^^^ b).toNat : Int) := by
  rw [xor_u8 _ _ a.toNat_lt b.toNat_lt, UInt8.toNat_xor]

/-- Twice a byte in the field. -/
def twU (a : UInt8) : UInt8 := if 128 ≤ a.toNat then UInt8.ofNat (2 * a.toNat) ^^^ 27 else UInt8.ofNat (2 * a.toNat)
/-- The n-th power of 3. -/
def powU : Nat → UInt8
  | 0 => 1
  | n + 1 => powU n ^^^ twU (powU n)
/-- Of which power each byte is, as far as n powers tell. -/
def logT : Nat → List UInt8
  | 0 => List.replicate 256 0
  | n + 1 => (logT n).set (powU n).toNat (UInt8.ofNat n)
def powT (n : Nat) : List UInt8 := (List.range n).map powU
theorem powT_len (n : Nat) : (powT n).length = n := by simp [powT]
theorem powT_succ (n : Nat) : powT (n + 1) = powT n ++ [powU n] := by simp [powT, List.range_succ]
theorem logT_len (n : Nat) : (logT n).length = 256 := by
  induction n with
  | zero => exact List.length_replicate ..
  | succ n ih => simp [logT, ih]
/-- The inverse in the field, of 0 it is 0. -/
def invU (a : Nat) : UInt8 := if 0 < a then (powT 255).getD ((255 - ((logT 255).getD a 0).toNat) % 255) 0 else 0
/-- The last step of the substitution, k digits of it. -/
def affU (x : UInt8) : Nat → UInt8
  | 0 => 99
  | k + 1 => affU x k ^^^ UInt8.ofNat (x.toNat * 2 ^ k % 256 ||| x.toNat / 2 ^ (8 - k))
def boxU (a : Nat) : UInt8 := affU (invU a) 5
def boxTo (n : Nat) : List UInt8 := (List.range n).map boxU
theorem boxTo_len (n : Nat) : (boxTo n).length = n := by simp [boxTo]
theorem boxTo_succ (n : Nat) : boxTo (n + 1) = boxTo n ++ [boxU n] := by simp [boxTo, List.range_succ]
def boxL : List UInt8 := boxTo 256
theorem boxL_len : boxL.length = 256 := boxTo_len 256
theorem affU_val (x : UInt8) (k : Nat) (s : UInt8) : bits .xor .u8 (s.toNat : Int) (bits .or .u8 ((x.toNat : Int) * 2 ^ k % 256) ((x.toNat : Int) / 2 ^ (8 - k))) = ((s ^^^ UInt8.ofNat (x.toNat * 2 ^ k % 256 ||| x.toNat / 2 ^ (8 - k))).toNat : Int) := by
  have hx := x.toNat_lt
  have e1 : ((x.toNat : Int) * 2 ^ k % 256) = ((x.toNat * 2 ^ k % 256 : Nat) : Int) := by simp
  have e2 : (x.toNat : Int) / 2 ^ (8 - k) = ((x.toNat / 2 ^ (8 - k) : Nat) : Int) := by simp
  have h1 : x.toNat * 2 ^ k % 256 < 256 := Nat.mod_lt _ (by decide)
  have h2 : x.toNat / 2 ^ (8 - k) < 256 := Nat.lt_of_le_of_lt (Nat.div_le_self _ _) hx
  have h3 : (x.toNat * 2 ^ k % 256 ||| x.toNat / 2 ^ (8 - k)) < 256 := Nat.or_lt_two_pow (n := 8) h1 h2
  rw [e1, e2, or_u8 _ _ h1 h2, xor_u8 _ _ s.toNat_lt h3, UInt8.toNat_xor, UInt8.toNat_ofNat', Nat.mod_eq_of_lt h3]
theorem twU_val (a : UInt8) : (128 ≤ a.toNat → bits .xor .u8 ((a.toNat : Int) * 2 % 256) 27 = ((twU a).toNat : Int)) ∧ (a.toNat < 128 → (a.toNat : Int) * 2 % 256 = ((twU a).toNat : Int)) := by
  have ha := a.toNat_lt
  have e1 : ((a.toNat : Int) * 2 % 256) = ((a.toNat * 2 % 256 : Nat) : Int) := by simp
  constructor
  · intro h
    rw [e1, show (27 : Int) = ((27 : Nat) : Int) from rfl, xor_u8 _ _ (Nat.mod_lt _ (by decide)) (by decide)]
    unfold twU
    rw [if_pos h, UInt8.toNat_xor, UInt8.toNat_ofNat', Nat.mul_comm]
    rfl
  · intro h
    unfold twU
    rw [if_neg (by omega), UInt8.toNat_ofNat']
    omega
end Go.Proofs.Ytcajlmlblkdjoaa
