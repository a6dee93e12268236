/- Small helps of the statements: Within, Cut. -/
import Derived.Test.YtkkokngdhhakdaaDoorProg
import Derived.Test.YtkkokngdhhakdaaDoorMem
import Derived.WalkLawsBesides
namespace Go.Proofs.YtkkokngdhhakdaaDoor
open Go.RowKit

/-- Any number as one from 0 to n - 1. -/
def withinI (v n : Int) : Int := if n < 1 then 0 else v % n

theorem withinI_range (v n : Int) (h : 1 ≤ n) : 0 ≤ withinI v n ∧ withinI v n < n := by
  unfold withinI
  rw [if_neg (by omega)]
  exact ⟨Int.emod_nonneg _ (by omega), Int.emod_lt_of_pos _ (by omega)⟩

theorem tmod_neg {v n : Int} (hn : 1 ≤ n) (hv : v < 0) : -n < v.tmod n ∧ v.tmod n ≤ 0 ∧ (v.tmod n < 0 → v.tmod n + n = v % n) ∧ (v.tmod n = 0 → v % n = 0) := by
  have h := Int.tmod_eq_emod (a := v) (b := n)
  have h0 := Int.emod_nonneg v (show n ≠ 0 by omega)
  have h1 := Int.emod_lt_of_pos v (show 0 < n by omega)
  have hd : (n ∣ v) ↔ v % n = 0 := Int.dvd_iff_emod_eq_zero
  rw [h]
  have hna : (n.natAbs : Int) = n := Int.natAbs_of_nonneg (by omega)
  by_cases hz : v % n = 0
  · rw [if_pos (.inr (hd.2 hz))]
    omega
  · rw [if_neg (by rintro (h' | h'); omega; exact hz (hd.1 h')), hna]
    omega

set_option maxHeartbeats 400000 in
theorem within_any (v n : Int) (w : World) (h0 : -9223372036854775808 ≤ v) (h1 : v ≤ 9223372036854775807) (h2 : n ≤ 9223372036854775807) :
    Calls Tryd.prog 32 #[.int .i64 v, .int .i64 n] w fun e w' => e = .returned (.int .i64 (withinI v n)) ∧ w = w' := by
  by_cases hn : n < 1
  · have HR := Lib.hid (show withinI v n = 0 by unfold withinI; rw [if_pos hn])
    rw [HR.out]
    go_enter Tryd.func32, Tryd.ntmps32
    go_wp2
    go_ret
    exact ⟨rfl, rfl⟩
  · have hn1 : 1 ≤ n := by omega
    have HR := Lib.hid (show withinI v n = v % n by unfold withinI; rw [if_neg hn])
    rw [HR.out]
    by_cases hv : 0 ≤ v
    · have h3 := Int.emod_nonneg v (show n ≠ 0 by omega)
      go_enter Tryd.func32, Tryd.ntmps32
      go_wp2
      go_ret
      exact ⟨rfl, rfl⟩
    · obtain ⟨a1, a2, a3, a4⟩ := tmod_neg hn1 (show v < 0 by omega)
      by_cases ht : v.tmod n < 0
      · have HF := Lib.hid (a3 ht)
        clear a3 a4
        go_enter Tryd.func32, Tryd.ntmps32
        go_wp2
        go_ret
        exact ⟨ret_int HF.out, rfl⟩
      · have HF := Lib.hid (show v.tmod n = v % n by rw [a4 (by omega)]; omega)
        clear a3 a4
        go_enter Tryd.func32, Tryd.ntmps32
        go_wp2
        go_ret
        exact ⟨ret_int HF.out, rfl⟩

set_option maxHeartbeats 400000 in
theorem cut_any (A : Option Addr) (n c k : Nat) (w : World) (hc : n ≤ c) :
    Calls Tryd.prog 42 #[.slice A n c, .int .i64 (k : Int)] w fun e w' => e = .returned (.slice A (min n k) c) ∧ w = w' := by
  by_cases hle : n ≤ k
  · have HR := Lib.hid (show min n k = n from Nat.min_eq_left hle)
    rw [HR.out]
    go_enter Tryd.func42, Tryd.ntmps42
    go_wp2
    go_ret
    exact ⟨rfl, rfl⟩
  · have HR := Lib.hid (show min n k = k from Nat.min_eq_right (by omega))
    rw [HR.out]
    go_enter Tryd.func42, Tryd.ntmps42
    go_wp2
    go_ret
    exact ⟨rfl, rfl⟩
end Go.Proofs.YtkkokngdhhakdaaDoor
