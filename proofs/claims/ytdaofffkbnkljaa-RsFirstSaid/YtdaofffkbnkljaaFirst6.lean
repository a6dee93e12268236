/- The first shares, one behind another. -/
import Derived.Test.YtdaofffkbnkljaaRsM
namespace Go.Proofs.Ytdaofffkbnkljaa
open Go.RowKit

theorem getD_dropTake (p : List UInt8) {m l x : Nat} (hx : x < l) : ((p.drop m).take l).getD x 0 = p.getD (m + x) 0 := by
  simp [List.getD_eq_getElem?_getD, hx, List.getElem?_drop]
/-- A share among the first, as a part of the bytes. -/
theorem first_part {k : Nat} {G : Mx} (hG : Gen k G) (b : List UInt8) (hk : 1 ≤ k) {i : Nat} (hi : i < k) : sumRow G (shL b k) k (segN b k) i = ((shL b k).drop (i * segN b k)).take (segN b k) := by
  have hm := seg_mul b hk
  have h2 : (i + 1) * segN b k ≤ k * segN b k := Nat.mul_le_mul_right _ hi
  rw [Nat.add_mul, Nat.one_mul] at h2
  refine list_ext8 ?_ fun x hx => ?_
  · rw [sumRow_len, List.length_take, List.length_drop]
    omega
  · rw [sumRow_len] at hx
    rw [enc_first hG b hi hx, getD_dropTake _ hx]
theorem first_step {k : Nat} {G : Mx} (hG : Gen k G) (b : List UInt8) (hk : 1 ≤ k) {i : Nat} (hi : i < k) : (shL b k).take ((i + 1) * segN b k) = (shL b k).take (i * segN b k) ++ sumRow G (shL b k) k (segN b k) i := by
  rw [first_part hG b hk hi, Nat.add_mul, Nat.one_mul, List.take_add]
theorem first_all (b : List UInt8) {k : Nat} (hk : 1 ≤ k) : (shL b k).take (k * segN b k) = shL b k := by
  rw [← seg_mul b hk, List.take_length]
/-- An element of the first rows. -/
theorem unit_one (i j : Nat) : ((unitM i j = 1) ↔ i = j) ∧ (unitM i j).toNat ≤ 1 := by
  by_cases h : i = j
  · subst h; rw [unitM_same]; exact ⟨by simp, by decide⟩
  · have : unitM i j = 0 := by unfold unitM; rw [if_neg h]
    rw [this]; exact ⟨by simp [h], by decide⟩
end Go.Proofs.Ytdaofffkbnkljaa
