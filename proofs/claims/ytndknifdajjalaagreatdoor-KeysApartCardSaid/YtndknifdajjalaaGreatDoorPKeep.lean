/- Small helps of the statements: Within, Cut. -/
import Derived.WalkLawsBesides
import Derived.Test.YtndknifdajjalaaGreatDoorProg
import Derived.Test.YtndknifdajjalaaGreatDoorPMem
namespace Go.Proofs.YtndknifdajjalaaGreatDoor
open Go.RowKit

set_option maxHeartbeats 400000 in
theorem cut_any (A : Option Addr) (n c k : Nat) (w : World) (hc : n ≤ c) :
    Calls Tryz.prog 9 #[.slice A n c, .int .i64 (k : Int)] w fun e w' => e = .returned (.slice A (min n k) c) ∧ w = w' := by
  by_cases hle : n ≤ k
  · have HR := Lib.hid (show min n k = n from Nat.min_eq_left hle)
    rw [HR.out]
    go_enter Tryz.func9, Tryz.ntmps9
    go_wp2
    go_ret
    exact ⟨rfl, rfl⟩
  · have HR := Lib.hid (show min n k = k from Nat.min_eq_right (by omega))
    rw [HR.out]
    go_enter Tryz.func9, Tryz.ntmps9
    go_wp2
    go_ret
    exact ⟨rfl, rfl⟩
end Go.Proofs.YtndknifdajjalaaGreatDoor
