/- Whether two rows of bytes, two rows of rows, are one. Whether two hashes, two rows of hashes, are one. Whether two hashes are one. -/
import Derived.DeepKeys
import Derived.Test.YtndknifdajjalaaDoorPU8
import Derived.Test.YtndknifdajjalaaDoorPShaD
namespace Go.Proofs.YtndknifdajjalaaDoor
open Go.RowKit

theorem infoByte : ∃ i, Tryd.prog.info? 5 = some i ∧ i.size = 1 := by
  have hz : (Tryd.prog.info? 5).map (·.size) = some 1 := by kernel_rfl
  cases hq : Tryd.prog.info? 5 with
  | none => simp [hq] at hz
  | some j => exact ⟨j, rfl, by simpa [hq] using hz⟩

end Go.Proofs.YtndknifdajjalaaDoor
