/- What the program's small functions of the field hand back. -/
import Derived.Test.YtkgemngkkedcnaaGfM
import Derived.Test.YtkgemngkkedcnaaU8
import Derived.BigQuiet
import Derived.RegionTactic
namespace Go.Proofs.Ytkgemngkkedcnaa
open Go.RowKit

theorem retB {a b : Int} (h : a = b) : Ending.returned (.int .u8 a) = .returned (.int .u8 b) := by rw [h]
theorem pos8' {a : UInt8} (h : a ≠ 0) : (0 : Int) < (a.toNat : Int) := Int.ofNat_lt.2 (Nat.pos_of_ne_zero fun h0 => h (UInt8.toNat_inj.1 h0))
theorem retN {a b : Int} (h : a = b) : Ending.returned (.int .i64 a) = .returned (.int .i64 b) := by rw [h]
set_option maxRecDepth 100000 in
theorem dN_alt : ((List.range 256).all fun a => Nat.beq (Nat.xor (a * 2 % 256) (a / 128 * 29)) (dN a)) = true := by kernel_rfl
theorem dbl_val (x : UInt8) : bits .xor .u8 ((x.toNat : Int) * 2 % 256) ((x.toNat : Int) / 128 * 29) = ((dblU x).toNat : Int) := by
  have hx := x.toNat_lt
  rw [show (x.toNat : Int) * 2 % 256 = ((x.toNat * 2 % 256 : Nat) : Int) by omega, show (x.toNat : Int) / 128 * 29 = ((x.toNat / 128 * 29 : Nat) : Int) by omega, xor_u8 _ _ (by omega) (by omega), dblU_nat]
  exact congrArg Nat.cast (Nat.eq_of_beq_eq_true (List.all_eq_true.1 dN_alt x.toNat (List.mem_range.2 hx)))
set_option maxHeartbeats 400000 in
theorem double_any (x : UInt8) (w : World) :
    Calls Try.prog 61 #[.int .u8 (x.toNat : Int)] w fun e w' => e = .returned (.int .u8 ((dblU x).toNat : Int)) ∧ w = w' := by
  have hx := x.toNat_lt
  go_enter Try.func61, Try.ntmps61
  go_wp2_with fail
  go_ret
  exact ⟨retB (dbl_val x), rfl⟩

theorem add_any (a b : UInt8) (w : World) :
    Calls Try.prog 62 #[.int .u8 (a.toNat : Int), .int .u8 (b.toNat : Int)] w fun e w' => e = .returned (.int .u8 ((a ^^^ b).toNat : Int)) ∧ w = w' := by
  have ha := a.toNat_lt
  have hb := b.toNat_lt
  go_enter Try.func62, Try.ntmps62
  go_wp2_with fail
  go_ret
  exact ⟨retB (xor_byte8 a b), rfl⟩

/-! ### The product, digit by digit -/
def bitU (a b : UInt8) : UInt8 := UInt8.ofNat (a.toNat * (b.toNat % 2))
def hlfU (b : UInt8) : UInt8 := UInt8.ofNat (b.toNat / 2)
theorem hlfU_nat (b : UInt8) : (hlfU b).toNat = b.toNat / 2 := by
  have := b.toNat_lt
  unfold hlfU
  rw [UInt8.toNat_ofNat']; omega
theorem bitU_nat (a b : UInt8) : (bitU a b).toNat = a.toNat * (b.toNat % 2) := by
  have := a.toNat_lt
  unfold bitU
  rw [UInt8.toNat_ofNat']
  rcases Nat.mod_two_eq_zero_or_one b.toNat with h | h <;> rw [h] <;> omega
set_option maxRecDepth 100000 in
theorem halves_all : ((List.range 256).all fun b => Nat.beq (Nat.xor (b % 2) (dN (b / 2))) b) = true := by kernel_rfl
theorem halves (b : UInt8) : UInt8.ofNat (b.toNat % 2) ^^^ dblU (hlfU b) = b := by
  apply UInt8.toNat_inj.1
  have hb := b.toNat_lt
  rw [UInt8.toNat_xor, UInt8.toNat_ofNat', dblU_nat, hlfU_nat, show b.toNat % 2 % 2 ^ 8 = b.toNat % 2 by omega]
  exact Nat.eq_of_beq_eq_true (List.all_eq_true.1 halves_all b.toNat (List.mem_range.2 hb))
theorem mulU_step (a b : UInt8) : mulU a b = bitU a b ^^^ mulU (dblU a) (hlfU b) := by
  conv => lhs; rw [← halves b]
  rw [mulU_xor, mulU_dbl']
  congr 1
  unfold bitU
  rcases Nat.mod_two_eq_zero_or_one b.toNat with h | h <;> rw [h]
  · rw [Nat.mul_zero]; exact mulU_zero a
  · rw [Nat.mul_one, UInt8.ofNat_toNat]; exact mulU_one a

theorem and_one8 (b : UInt8) : bits .and .u8 (b.toNat : Int) 1 = ((b.toNat % 2 : Nat) : Int) := by
  have hb := b.toNat_lt
  show IntKind.u8.wrap ((BitVec.ofInt 8 (b.toNat : Int) &&& BitVec.ofInt 8 ((1 : Nat) : Int)).toNat : Int) = _
  rw [BitVec.toNat_and, BitVec.ofInt_natCast, BitVec.ofInt_natCast, BitVec.toNat_ofNat, BitVec.toNat_ofNat, Nat.mod_eq_of_lt (show b.toNat < 2 ^ 8 from hb), show 1 % 2 ^ 8 = 1 from rfl, Nat.and_one_is_mod]
  show ((b.toNat % 2 : Nat) : Int) % 256 = _
  omega
theorem bit_val (a b : UInt8) : (a.toNat : Int) * bits .and .u8 (b.toNat : Int) 1 % 256 = ((bitU a b).toNat : Int) := by
  have ha := a.toNat_lt
  rw [and_one8, bitU_nat]
  rcases Nat.mod_two_eq_zero_or_one b.toNat with h | h <;> rw [h] <;> simp
  omega
end Go.Proofs.Ytkgemngkkedcnaa
