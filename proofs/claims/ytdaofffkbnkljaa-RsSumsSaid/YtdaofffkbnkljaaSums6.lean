/- The sum of two strings of bytes, and its shares. -/
import Derived.Test.YtdaofffkbnkljaaRsM
import Derived.Test.YtdaofffkbnkljaaMxB
import Derived.Test.YtdaofffkbnkljaaMxL
namespace Go.Proofs.Ytdaofffkbnkljaa
open Go.RowKit

/-- The first x bytes of a sum, noughts behind them. -/
def xorP (a b : List UInt8) (S x : Nat) : List UInt8 := (List.range S).map fun q => if q < x then a.getD q 0 ^^^ b.getD q 0 else 0
theorem xorP_len (a b : List UInt8) (S x : Nat) : (xorP a b S x).length = S := by simp [xorP]
theorem xorP_none (a b : List UInt8) (S : Nat) : xorP a b S 0 = List.replicate S 0 := by
  apply List.ext_getElem (by simp [xorP])
  intro q h1 h2
  simp [xorP]
theorem xorP_step (a b : List UInt8) (S x : Nat) : (xorP a b S x).set x (a.getD x 0 ^^^ b.getD x 0) = xorP a b S (x + 1) := by
  apply List.ext_getElem (by rw [List.length_set, xorP_len, xorP_len])
  intro q h1 h2
  rw [List.getElem_set]
  simp only [xorP, List.getElem_map, List.getElem_range]
  by_cases h : x = q
  · subst h
    rw [if_pos rfl, if_pos (by omega)]
  · rw [if_neg h]
    by_cases h3 : q < x
    · rw [if_pos h3, if_pos (by omega)]
    · rw [if_neg h3, if_neg (by omega)]
theorem getD_over {l : List UInt8} {y : Nat} (h : l.length ≤ y) : l.getD y 0 = 0 := by
  simp [List.getD_eq_getElem?_getD, h]
theorem xorP_all {a b : List UInt8} {S : Nat} (ha : a.length = S) (hb : b.length = S) (y : Nat) : (xorP a b S S).getD y 0 = a.getD y 0 ^^^ b.getD y 0 := by
  by_cases h : y < S
  · unfold xorP
    rw [map_getD _ S y h, if_pos h]
  · rw [getD_over (by rw [xorP_len]; omega), getD_over (l := a) (by omega), getD_over (l := b) (by omega)]
    rfl
theorem shL_getD (b : List UInt8) (k y : Nat) : (shL b k).getD y 0 = b.getD y 0 := by
  by_cases h : y < b.length
  · simp [shL, List.getD_eq_getElem?_getD, List.getElem?_append_left h]
  · rw [getD_over (l := b) (by omega)]
    by_cases h2 : y < (shL b k).length
    · simp only [shL, List.getD_eq_getElem?_getD]
      rw [List.getElem?_append_right (by omega)]
      by_cases h3 : y - b.length < shN b.length k
      · simp [h3]
      · simp [h3]
    · exact getD_over (by omega)
theorem segN_like {a b : List UInt8} (h : a.length = b.length) (k : Nat) : segN a k = segN b k := by
  unfold segN
  rw [shL_len, shL_len, h]
theorem share_sum {G : Mx} {a b : List UInt8} {S k n i x : Nat} (ha : a.length = S) (hb : b.length = S) (hi : i < n) (hx : x < segN a k) :
    ((encL G (xorP a b S S) k n).getD i []).getD x 0 = ((encL G a k n).getD i []).getD x 0 ^^^ ((encL G b k n).getD i []).getD x 0 := by
  rw [encL_at _ _ _ hi, encL_at _ _ _ hi, encL_at _ _ _ hi, segN_like (a := xorP a b S S) (b := a) (by rw [xorP_len, ha]) k, segN_like (a := b) (b := a) (by rw [hb, ha]) k]
  exact sumRow_xor (fun y => by rw [shL_getD, shL_getD, shL_getD, xorP_all ha hb]) hx
theorem blk_bv {w : World} {g n : Nat} {l : List UInt8} (h : Blk w g (u8A l) 5) (hn : l.length = n) : BV w (.slice (some ⟨g, 0, none⟩) n n) l := by
  subst hn
  exact ⟨_, _, rfl, Nat.le_refl _, .inr ⟨g, 0, rfl, h.lt, fun i hi => by
    have := h.byteAt hi
    rw [Nat.zero_add, this]
    simp [List.getD_eq_getElem?_getD, hi]⟩⟩
end Go.Proofs.Ytdaofffkbnkljaa
