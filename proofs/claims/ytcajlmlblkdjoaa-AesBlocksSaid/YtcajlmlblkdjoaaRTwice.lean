/- The document's twice, and its table of the substitution. -/
import Derived.Test.YtcajlmlblkdjoaaAesL
import Derived.Test.YtcajlmlblkdjoaaU8
import Derived.BigQuiet
import Derived.RegionTactic
namespace Go.Proofs.Ytcajlmlblkdjoaa
open Go.RowKit

theorem retU8 {a b : Int} (h : a = b) : Ending.returned (.int .u8 a) = .returned (.int .u8 b) := by rw [h]
set_option maxHeartbeats 400000 in
theorem rtwice_any (x : UInt8) (w : World) :
    Calls Try.prog 39 #[.int .u8 (x.toNat : Int)] w fun e w' => e = .returned (.int .u8 ((twU x).toNat : Int)) ∧ w = w' := by
  have hx := x.toNat_lt
  obtain ⟨h1, h2⟩ := twU_val x
  have H1 := Lib.hid h1
  have H2 := Lib.hid h2
  clear h1 h2
  by_cases h : 128 ≤ x.toNat
  · have hi : (128 : Int) ≤ (x.toNat : Int) := by omega
    go_enter Try.func39, Try.ntmps39
    go_wp2_with fail
    go_ret
    exact ⟨retU8 (H1.out h), rfl⟩
  · have hi : ¬ (128 : Int) ≤ (x.toNat : Int) := by omega
    go_enter Try.func39, Try.ntmps39
    go_wp2_with fail
    go_ret
    exact ⟨retU8 (by have := H2.out (by omega); omega), rfl⟩
end Go.Proofs.Ytcajlmlblkdjoaa
