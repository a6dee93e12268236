/- The stream in plain bytes. -/
import Derived.Test.YtcajlmlblkdjoaaAesB
namespace Go.Proofs.Ytcajlmlblkdjoaa
open Go.RowKit

/-- The n-th counter block. -/
def ctrL (n : Nat) : List UInt8 := List.replicate 8 0 ++ putL n 8
theorem ctrL_len (n : Nat) : (ctrL n).length = 16 := by unfold ctrL; rw [List.length_append, putL_length]; rfl
theorem ctrL_low (n : Nat) : part (ctrL n) (List.replicate 16 0) 8 = List.replicate 16 0 := by
  unfold part ctrL
  rw [List.take_append_of_le_length (by rw [List.length_replicate]; exact Nat.le_refl _)]
  rfl
theorem ctrL_at (n j : Nat) (h : j < 8) : (ctrL n).getD (8 + j) 0 = (putL n 8).getD j 0 := by
  unfold ctrL
  rw [List.getD_eq_getElem?_getD, List.getD_eq_getElem?_getD, List.getElem?_append_right (by rw [List.length_replicate]; omega), List.length_replicate, show 8 + j - 8 = j by omega]
def keyB (ks : List UInt8) (p : Nat) : UInt8 := (blockL ks (ctrL (p / 16))).getD (p % 16) 0
def streamL (ks : List UInt8) (N : Nat) (l : List UInt8) : List UInt8 := (List.range l.length).map fun i => l.getD i 0 ^^^ keyB ks (N + i)
theorem streamL_len (ks : List UInt8) (N : Nat) (l : List UInt8) : (streamL ks N l).length = l.length := by simp [streamL]
theorem streamL_at (ks : List UInt8) (N : Nat) (l : List UInt8) {i : Nat} (h : i < l.length) : (streamL ks N l).getD i 0 = l.getD i 0 ^^^ keyB ks (N + i) := map_getD _ _ i h
theorem streamL_twice (ks : List UInt8) (N : Nat) (l : List UInt8) : streamL ks N (streamL ks N l) = l := by
  apply List.ext_getElem (by rw [streamL_len, streamL_len])
  intro i h1 h2
  have e1 := streamL_at ks N (streamL ks N l) (i := i) (by rw [streamL_len]; exact h2)
  rw [streamL_at ks N l h2] at e1
  simp only [List.getD_eq_getElem?_getD, List.getElem?_eq_getElem h1, List.getElem?_eq_getElem h2, Option.getD_some] at e1
  rw [e1, UInt8.xor_assoc, UInt8.xor_self, UInt8.xor_zero]
theorem streamL_append (ks : List UInt8) (N : Nat) (a b : List UInt8) : streamL ks N (a ++ b) = streamL ks N a ++ streamL ks (N + a.length) b := by
  apply List.ext_getElem (by rw [List.length_append, streamL_len, streamL_len, streamL_len, List.length_append])
  intro i h1 h2
  have hl : i < (a ++ b).length := by rw [← streamL_len ks N]; exact h1
  have e1 := streamL_at ks N (a ++ b) hl
  rw [List.getD_eq_getElem?_getD, List.getElem?_eq_getElem h1, Option.getD_some] at e1
  rw [e1]
  by_cases h : i < a.length
  · rw [List.getElem_append_left (by rw [streamL_len]; exact h)]
    have e2 := streamL_at ks N a h
    rw [List.getD_eq_getElem?_getD, List.getElem?_eq_getElem (by rw [streamL_len]; exact h), Option.getD_some] at e2
    rw [e2, List.getD_eq_getElem?_getD, List.getElem?_append_left h, ← List.getD_eq_getElem?_getD]
  · have hb : i - a.length < b.length := by rw [List.length_append] at hl; omega
    rw [List.getElem_append_right (by rw [streamL_len]; omega)]
    have e2 := streamL_at ks (N + a.length) b hb
    rw [List.getD_eq_getElem?_getD, List.getElem?_eq_getElem (by rw [streamL_len]; exact hb), Option.getD_some] at e2
    simp only [streamL_len]
    rw [e2, List.getD_eq_getElem?_getD, List.getElem?_append_right (by omega), ← List.getD_eq_getElem?_getD, show N + a.length + (i - a.length) = N + i by omega]
theorem streamL_take (ks : List UInt8) (N : Nat) (l : List UInt8) (n : Nat) (h : n ≤ l.length) : streamL ks N l = streamL ks N (l.take n) ++ streamL ks (N + n) (l.drop n) := by
  have := streamL_append ks N (l.take n) (l.drop n)
  rwa [List.take_append_drop, List.length_take, Nat.min_eq_left h] at this
/-- What is added to the bytes is added to the stream. -/
theorem streamL_sum (ks : List UInt8) (N : Nat) (a s : List UInt8) {i : Nat} (ha : i < a.length) (hs : i < s.length) (y : UInt8) (h : s.getD i 0 = a.getD i 0 ^^^ y) : (streamL ks N s).getD i 0 = (streamL ks N a).getD i 0 ^^^ y := by
  rw [streamL_at ks N s hs, streamL_at ks N a ha, h, UInt8.xor_assoc, UInt8.xor_assoc, UInt8.xor_comm y]
theorem streamL_noughts (ks : List UInt8) (N n : Nat) {i : Nat} (h : i < n) : (streamL ks N (List.replicate n 0)).getD i 0 = keyB ks (N + i) := by
  rw [streamL_at ks N _ (by rw [List.length_replicate]; exact h), List.getD_eq_getElem?_getD, List.getElem?_replicate, if_pos h]
  exact UInt8.zero_xor ..
theorem streamL_blocks (ks : List UInt8) (n : Nat) : streamL ks (16 * n) (List.replicate 32 0) = blockL ks (ctrL n) ++ blockL ks (ctrL (n + 1)) := by
  have h16 : ∀ m, (blockL ks m).length = 16 := fun m => stU_len _ _ _
  apply List.ext_getElem (by rw [streamL_len, List.length_append, h16, h16, List.length_replicate])
  intro i h1 h2
  have hi : i < 32 := by rw [streamL_len, List.length_replicate] at h1; exact h1
  have e := streamL_noughts ks (16 * n) 32 hi
  rw [List.getD_eq_getElem?_getD, List.getElem?_eq_getElem h1, Option.getD_some] at e
  rw [e]
  unfold keyB
  by_cases h : i < 16
  · rw [List.getElem_append_left (by rw [h16]; exact h), show (16 * n + i) / 16 = n by omega, show (16 * n + i) % 16 = i by omega, List.getD_eq_getElem?_getD, List.getElem?_eq_getElem (by rw [h16]; exact h)]
    rfl
  · rw [List.getElem_append_right (by rw [h16]; omega)]
    simp only [h16]
    rw [show (16 * n + i) / 16 = n + 1 by omega, show (16 * n + i) % 16 = i - 16 by omega, List.getD_eq_getElem?_getD, List.getElem?_eq_getElem (by rw [h16]; omega)]
    rfl
end Go.Proofs.Ytcajlmlblkdjoaa
