/- The program's twice of a byte, its turns of a byte, and what it makes of a byte's inverse. -/
import Derived.Test.YtcajlmlblkdjoaaAesL
import Derived.Test.YtcajlmlblkdjoaaU8
import Derived.BigQuiet
import Derived.RegionTactic
namespace Go.Proofs.Ytcajlmlblkdjoaa
open Go.RowKit

theorem ret8 {a b : Int} (h : a = b) : Ending.returned (.int .u8 a) = .returned (.int .u8 b) := by rw [h]
theorem twU_other (x : UInt8) : bits .xor .u8 ((x.toNat : Int) * 2 % 256) ((x.toNat : Int) / 128 * 27) = ((twU x).toNat : Int) := by
  have hx := x.toNat_lt
  by_cases h : 128 ≤ x.toNat
  · rw [show (x.toNat : Int) / 128 * 27 = 27 by omega]
    exact (twU_val x).1 h
  · rw [show (x.toNat : Int) / 128 * 27 = ((0 : Nat) : Int) by omega, show (x.toNat : Int) * 2 % 256 = ((x.toNat * 2 : Nat) : Int) by omega, xor_u8 _ _ (by omega) (by decide), Nat.xor_zero]
    have := (twU_val x).2 (by omega)
    omega
set_option maxHeartbeats 400000 in
theorem double_any (x : UInt8) (w : World) :
    Calls Try.prog 34 #[.int .u8 (x.toNat : Int)] w fun e w' => e = .returned (.int .u8 ((twU x).toNat : Int)) ∧ w = w' := by
  have hx := x.toNat_lt
  go_enter Try.func34, Try.ntmps34
  go_wp2_with fail
  go_ret
  exact ⟨ret8 (twU_other x), rfl⟩
theorem and7 (k : Nat) (hk : k < 8) : bits .and .u64 (k : Int) 7 = (k : Int) := by
  have key : ∀ k : Fin 8, bits .and .u64 (k.val : Int) 7 = (k.val : Int) := by decide
  exact key ⟨k, hk⟩
set_option maxHeartbeats 400000 in
theorem rot8_any (x : UInt8) (k : Nat) (hk : k < 8) (w : World) :
    Calls Try.prog 40 #[.int .u8 (x.toNat : Int), .int .i64 (k : Int)] w fun e w' => e = .returned (.int .u8 (bits .or .u8 ((x.toNat : Int) * 2 ^ k % 256) ((x.toNat : Int) / 2 ^ (8 - k)))) ∧ w = w' := by
  have hx := x.toNat_lt
  have ha := and7 k hk
  have h8 : (0 : Int) ≤ 8 - (k : Int) := by omega
  have ht : (8 - (k : Int)).toNat = 8 - k := by omega
  go_enter Try.func40, Try.ntmps40
  go_wp2_with fail
  go_ret
  exact ⟨rfl, rfl⟩
theorem affU_one (x : UInt8) : bits .xor .u8 (x.toNat : Int) 99 = ((affU x 1).toNat : Int) := by
  have hx := x.toNat_lt
  rw [show (99 : Int) = ((99 : UInt8).toNat : Int) from rfl, xor_byte8]
  congr 2
  show x ^^^ 99 = 99 ^^^ UInt8.ofNat (x.toNat * 2 ^ 0 % 256 ||| x.toNat / 2 ^ (8 - 0))
  rw [Nat.pow_zero, Nat.mul_one, Nat.mod_eq_of_lt hx, Nat.div_eq_of_lt hx, Nat.or_zero, UInt8.ofNat_toNat, UInt8.xor_comm]
set_option maxHeartbeats 400000 in
theorem mixBits_any (x : UInt8) (w : World) :
    Calls Try.prog 32 #[.int .u8 (x.toNat : Int)] w fun e w' => e = .returned (.int .u8 ((affU x 5).toNat : Int)) ∧ w = w' := by
  have hx := x.toNat_lt
  have H1 := Lib.hid (affU_one x)
  go_enter Try.func32, Try.ntmps32
  go_wp2_with fail
  go_loop [3, 4] (fun s t => ∃ k : Nat, k ≤ 4 ∧ t = .int .i64 ((k : Int) + 1) ∧ s = .int .u8 ((affU x (k + 1)).toNat : Int)) (fun _ t => (5 - intOf t).toNat)
  case atStart => exact ⟨0, by omega, rfl, by rw [H1.out]⟩
  case round =>
    obtain ⟨k, hk, rfl, rfl⟩ := hrel
    by_cases hlt : k < 4
    · have hki : (k : Int) + 1 ≤ 4 := by omega
      have HV := Lib.hid (affU_val x (k + 1) (affU x (k + 1)))
      have HA := Lib.hid (show affU x (k + 1 + 1) = affU x (k + 1) ^^^ UInt8.ofNat (x.toNat * 2 ^ (k + 1) % 256 ||| x.toNat / 2 ^ (8 - (k + 1))) from rfl)
      have hs := (affU x (k + 1)).toNat_lt
      generalize affU x (k + 1) = s at *
      go_wp2_with fail
      refine (rot8_any x (k + 1) (by omega) _).mono ?_
      rintro e w' ⟨rfl, rfl⟩
      go_wp2_with fail
      go_round
      case rel => exact ⟨k + 1, by omega, by go_num, by rw [HA.out, ← HV.out, show 8 - (k + 1) = 7 - k by omega]⟩
      case measure => simp [intOf]; omega
    · obtain rfl : k = 4 := by omega
      go_wp2_with fail
      go_ret
      exact ⟨rfl, rfl⟩
end Go.Proofs.Ytcajlmlblkdjoaa
