/- Turns of a word, as the program has them. -/
import Derived.Test.YtdjnaeifmeffoaaDoorWord
namespace Go.Proofs.YtdjnaeifmeffoaaDoor
open Go.RowKit

theorem u64_low (i : Nat) (h0 : 0 < i) (h1 : i < 32) : bits .and .u64 (IntKind.u64.wrap (-(i : Int))) 31 = ((32 - i : Nat) : Int) := by
  have : ∀ i : Fin 32, 0 < i.val → bits .and .u64 (IntKind.u64.wrap (-(i.val : Int))) 31 = ((32 - i.val : Nat) : Int) := by decide
  exact this ⟨i, h1⟩ h0

set_option maxHeartbeats 400000 in
theorem rotl_any (x i : Nat) (w : World) (hx : x < 4294967296) (h0 : 0 < i) (h1 : i < 32) :
    Calls Tryd.prog 44 #[.int .u32 x, .int .i64 (-(i : Int))] w fun e w' => e = .returned (.int .u32 (rot x i : Int)) ∧ w = w' := by
  have hl := u64_low i h0 h1
  have hr : bits .or .u32 ((x : Int) * 2 ^ (32 - i) % 4294967296) ((x : Int) / 2 ^ i) = ((rot x i : Nat) : Int) := by
    have e1 : (x : Int) / 2 ^ i = ((x / 2 ^ i : Nat) : Int) := by simp
    have e2 : (x : Int) * 2 ^ (32 - i) % 4294967296 = ((x * 2 ^ (32 - i) % 4294967296 : Nat) : Int) := by simp
    rw [e1, e2, or_u32 _ _ (Nat.mod_lt _ (by decide)) (Nat.lt_of_le_of_lt (Nat.div_le_self _ _) hx), Nat.or_comm]
    rfl
  have HR := Lib.hid hr
  clear hr
  go_enter Tryd.func44, Tryd.ntmps44
  go_wp2
  go_ret
  exact ⟨ret_int (by rw [show 32 - (32 - i) = i from by omega]; exact HR.out), rfl⟩

theorem rotl_at (x i : Nat) (k : Int) (hk : k = -(i : Int)) (w : World) (hx : x < 4294967296) (h0 : 0 < i) (h1 : i < 32) :
    Calls Tryd.prog 44 #[.int .u32 x, .int .i64 k] w fun e w' => e = .returned (.int .u32 (rot x i : Int)) ∧ w = w' := by
  subst hk
  exact rotl_any x i w hx h0 h1

set_option maxHeartbeats 400000 in
theorem turns_any (x i j k : Nat) (w : World) (hx : x < 4294967296) (i0 : 0 < i) (i1 : i < 32) (j0 : 0 < j) (j1 : j < 32) (k0 : 0 < k) (k1 : k < 32) :
    Calls Tryd.prog 41 #[.int .u32 x, .int .i64 i, .int .i64 j, .int .i64 k] w fun e w' => e = .returned (.int .u32 ((((rot x i) ^^^ (rot x j)) ^^^ (rot x k) : Nat) : Int)) ∧ w = w' := by
  have X1 := Lib.hid (xor_u32 _ _ (rot_lt x i hx) (rot_lt x j hx))
  have X2 := Lib.hid (xor_u32 _ _ (xor_lt (rot_lt x i hx) (rot_lt x j hx)) (rot_lt x k hx))
  go_enter Tryd.func41, Tryd.ntmps41
  go_wp2_with fail
  refine (rotl_any x i _ hx i0 i1).mono ?_
  rintro e w' ⟨rfl, rfl⟩
  go_wp2_with fail
  refine (rotl_any x j _ hx j0 j1).mono ?_
  rintro e w' ⟨rfl, rfl⟩
  go_wp2_with fail
  refine (rotl_any x k _ hx k0 k1).mono ?_
  rintro e w' ⟨rfl, rfl⟩
  go_wp2_with fail
  go_ret
  exact ⟨ret_int (by rw [X1.out]; exact X2.out), rfl⟩
theorem turns_bg1 (e : Nat) (w : World) (he : e < 4294967296) :
    Calls Tryd.prog 41 #[.int .u32 e, .int .i64 6, .int .i64 11, .int .i64 25] w fun x w' => x = .returned (.int .u32 (bg1 e : Int)) ∧ w' = w :=
  (turns_any e 6 11 25 w he (by decide) (by decide) (by decide) (by decide) (by decide) (by decide)).mono fun _ _ ⟨h, k⟩ => ⟨h, k.symm⟩
theorem turns_bg0 (e : Nat) (w : World) (he : e < 4294967296) :
    Calls Tryd.prog 41 #[.int .u32 e, .int .i64 2, .int .i64 13, .int .i64 22] w fun x w' => x = .returned (.int .u32 (bg0 e : Int)) ∧ w' = w :=
  (turns_any e 2 13 22 w he (by decide) (by decide) (by decide) (by decide) (by decide) (by decide)).mono fun _ _ ⟨h, k⟩ => ⟨h, k.symm⟩
end Go.Proofs.YtdjnaeifmeffoaaDoor
