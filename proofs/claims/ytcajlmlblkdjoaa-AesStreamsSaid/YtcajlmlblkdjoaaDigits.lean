/- Digits of the document are the number's decimal digits. -/
import Derived.Test.YtcajlmlblkdjoaaAppend
import Derived.Test.YtcajlmlblkdjoaaNet
import Derived.Deep.RegionWith
namespace Go.Proofs.Ytcajlmlblkdjoaa
open Go.RowKit

theorem dig_small {u : Nat} (h : u < 10) : Lib.decDigits u = [UInt8.ofNat (48 + u)] := by rw [Lib.decDigits, dif_pos h]
theorem dig_big {u : Nat} (h : ¬ u < 10) : Lib.decDigits u = Lib.decDigits (u / 10) ++ [UInt8.ofNat (48 + u % 10)] := by rw [Lib.decDigits, dif_neg h]
theorem dig_byte {d : Nat} (h : d < 10) : (48 + (d : Int)) = ((UInt8.ofNat (48 + d)).toNat : Int) := by
  rw [UInt8.toNat_ofNat', Nat.mod_eq_of_lt (by omega)]; omega

theorem bcell {W w1 : World} (hb : Below W.heap.size W w1) : ∀ b o, b < W.heap.size → w1.cell? ⟨b, o, none⟩ = W.cell? ⟨b, o, none⟩ :=
  fun b o h => hb.cell (p := ⟨b, o, none⟩) h

/-- One digit's byte as a string, wherever it lies. -/
theorem run_digit {d : Nat} (h : d < 10) (W : World) (g : Nat) (hc : W.cell? ⟨g, 0, none⟩ = some (.int .u8 (48 + (d : Int)))) :
    (convert 24 9 (.slice (some ⟨g, 0, none⟩) 1 1)).run Try.prog W = .ok (.string ⟨[UInt8.ofNat (48 + d)].toArray⟩) W := by
  refine run_string_rd (P := Try.prog) 24 9 5 Try.underlying24 Try.underlying5 Try.underlying9 (g + 1) _ 1 1 [UInt8.ofNat (48 + d)] rfl (.inr ⟨g, 0, rfl, by omega, fun i hi => ?_⟩)
  obtain rfl : i = 0 := by simpa using hi
  rw [hc, dig_byte h]
  rfl

end Go.Proofs.Ytcajlmlblkdjoaa
