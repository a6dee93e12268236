/- The program's steps of a block of AES are the document's, in plain bytes. -/
import Derived.Test.YtcajlmlblkdjoaaPMix
import Derived.Test.YtcajlmlblkdjoaaAesI
namespace Go.Proofs.Ytcajlmlblkdjoaa
open Go.RowKit

def keyL (ks : List UInt8) (r : Nat) : List UInt8 := (ks.drop (r * 16)).take 16
def keyA (ks : List UInt8) (r : Nat) : Array Value := (Lib.byteCells (keyL ks r)).toArray
theorem keyL_len {ks : List UInt8} (h : ks.length = 176) {r : Nat} (hr : r ≤ 10) : (keyL ks r).length = 16 := by
  unfold keyL
  rw [List.length_take, List.length_drop]
  omega
theorem keyL_at {ks : List UInt8} {r n : Nat} (hn : n < 16) : (keyL ks r).getD n 0 = ks.getD (r * 16 + n) 0 := by
  unfold keyL
  rw [List.getD_eq_getElem?_getD, List.getD_eq_getElem?_getD, List.getElem?_take, if_pos hn, List.getElem?_drop]
theorem xorL_key (ks y : List UInt8) (r : Nat) : xorL y (keyL ks r) = addU ks r y := by
  unfold xorL addU
  refine List.map_congr_left fun n hn => ?_
  rw [keyL_at (List.mem_range.1 hn)]
theorem turn_sub (x : List UInt8) : turnL (sAll x) = subU x := by
  unfold turnL subU
  refine List.map_congr_left fun n hn => ?_
  have hn := List.mem_range.1 hn
  rw [sAll_at x (Nat.mod_lt _ (by decide)), show n + n % 4 * 4 = 4 * (n / 4 + n % 4) + n % 4 by omega]
theorem mix_one (y : List UInt8) {c i : Nat} (hi : i < 4) : y.getD (4 * c + i) 0 ^^^ xAll y (4 * c) ^^^ twU (y.getD (4 * c + i) 0 ^^^ y.getD (4 * c + (i + 1) % 4) 0) = mixAt (colU y c) i := by
  unfold xAll
  rw [twU_xor]
  rcases (show i = 0 ∨ i = 1 ∨ i = 2 ∨ i = 3 by omega) with rfl | rfl | rfl | rfl
  · show y.getD (4 * c + 0) 0 ^^^ (y.getD (4 * c) 0 ^^^ y.getD (4 * c + 1) 0 ^^^ y.getD (4 * c + 2) 0 ^^^ y.getD (4 * c + 3) 0) ^^^ (twU (y.getD (4 * c + 0) 0) ^^^ twU (y.getD (4 * c + 1) 0)) = twU (y.getD (4 * c) 0) ^^^ twU (y.getD (4 * c + 1) 0) ^^^ y.getD (4 * c + 1) 0 ^^^ y.getD (4 * c + 2) 0 ^^^ y.getD (4 * c + 3) 0
    simp only [Nat.add_zero, UInt8.xor_assoc, UInt8.xor_comm, xor_left_comm8, xor_self_left]
  · show y.getD (4 * c + 1) 0 ^^^ (y.getD (4 * c) 0 ^^^ y.getD (4 * c + 1) 0 ^^^ y.getD (4 * c + 2) 0 ^^^ y.getD (4 * c + 3) 0) ^^^ (twU (y.getD (4 * c + 1) 0) ^^^ twU (y.getD (4 * c + 2) 0)) = twU (y.getD (4 * c + 1) 0) ^^^ twU (y.getD (4 * c + 2) 0) ^^^ y.getD (4 * c + 2) 0 ^^^ y.getD (4 * c + 3) 0 ^^^ y.getD (4 * c) 0
    simp only [UInt8.xor_assoc, UInt8.xor_comm, xor_left_comm8, xor_self_left]
  · show y.getD (4 * c + 2) 0 ^^^ (y.getD (4 * c) 0 ^^^ y.getD (4 * c + 1) 0 ^^^ y.getD (4 * c + 2) 0 ^^^ y.getD (4 * c + 3) 0) ^^^ (twU (y.getD (4 * c + 2) 0) ^^^ twU (y.getD (4 * c + 3) 0)) = twU (y.getD (4 * c + 2) 0) ^^^ twU (y.getD (4 * c + 3) 0) ^^^ y.getD (4 * c + 3) 0 ^^^ y.getD (4 * c) 0 ^^^ y.getD (4 * c + 1) 0
    simp only [UInt8.xor_assoc, UInt8.xor_comm, xor_left_comm8, xor_self_left]
  · show y.getD (4 * c + 3) 0 ^^^ (y.getD (4 * c) 0 ^^^ y.getD (4 * c + 1) 0 ^^^ y.getD (4 * c + 2) 0 ^^^ y.getD (4 * c + 3) 0) ^^^ (twU (y.getD (4 * c + 3) 0) ^^^ twU (y.getD (4 * c + 0) 0)) = twU (y.getD (4 * c + 3) 0) ^^^ twU (y.getD (4 * c) 0) ^^^ y.getD (4 * c) 0 ^^^ y.getD (4 * c + 1) 0 ^^^ y.getD (4 * c + 2) 0
    simp only [Nat.add_zero, UInt8.xor_assoc, UInt8.xor_comm, xor_left_comm8, UInt8.xor_self, UInt8.zero_xor]
theorem mixL_mixU (y : List UInt8) : mixL y = mixU y := by
  unfold mixL mixU
  refine List.map_congr_left fun n hn => ?_
  have hn := List.mem_range.1 hn
  rw [← mix_one y (c := n / 4) (i := n % 4) (Nat.mod_lt _ (by decide)), show 4 * (n / 4) + n % 4 = n by omega, show n - n % 4 = 4 * (n / 4) by omega, show (n % 4 + 1) % 4 = (n + 1) % 4 by omega]
/-- A round that is not the last. -/
theorem round_mid (ks x : List UInt8) {q : Nat} (hq : q < 9) : xorL (mixL (turnL (sAll (stU ks x q)))) (keyL ks (q + 1)) = stU ks x (q + 1) := by
  rw [xorL_key, mixL_mixU, turn_sub]
  show addU ks (q + 1) (mixU (subU (stU ks x q))) = addU ks (q + 1) (midU (q + 1) (stU ks x q))
  unfold midU
  rw [if_pos (by omega)]
theorem round_last (ks x : List UInt8) : xorL (turnL (sAll (stU ks x 9))) (keyL ks 10) = blockL ks x := by
  rw [xorL_key, turn_sub]
  rfl
theorem round_first (ks x : List UInt8) : xorL x (keyL ks 0) = stU ks x 0 := xorL_key ks x 0
end Go.Proofs.Ytcajlmlblkdjoaa
