/- A block of AES in plain bytes. -/
import Derived.Test.YtcajlmlblkdjoaaAesK
namespace Go.Proofs.Ytcajlmlblkdjoaa
open Go.RowKit

/-- A row that is rewritten from the left: n of T, then what was. -/
def part (T x : List UInt8) (n : Nat) : List UInt8 := T.take n ++ x.drop n
theorem part_zero (T x : List UInt8) : part T x 0 = x := by simp [part]
theorem part_full {T x : List UInt8} {n : Nat} (hT : T.length = n) (hx : x.length = n) : part T x n = T := by
  unfold part; rw [List.take_of_length_le (by omega), List.drop_of_length_le (by omega), List.append_nil]
theorem part_len {T x : List UInt8} {m n : Nat} (hT : T.length = m) (hx : x.length = m) (hn : n ≤ m) : (part T x n).length = m := by
  unfold part; rw [List.length_append, List.length_take, List.length_drop]; omega
theorem part_set {T x : List UInt8} {m n : Nat} (hT : T.length = m) (hx : x.length = m) (hn : n < m) : (part T x n).set n (T.getD n 0) = part T x (n + 1) := by
  have hx' : n < x.length := by omega
  have hT' : n < T.length := by omega
  have h1 : x.drop n = x[n] :: x.drop (n + 1) := List.drop_eq_getElem_cons hx'
  have h2 : T.take (n + 1) = T.take n ++ [T[n]] := List.take_succ_eq_append_getElem hT'
  have h3 : T.getD n 0 = T[n] := by rw [List.getD_eq_getElem?_getD, List.getElem?_eq_getElem hT']; rfl
  unfold part
  rw [List.set_append_right _ _ (by rw [List.length_take]; omega), List.length_take, show n - min n T.length = 0 by omega, h1, List.set_cons_zero, h2, h3, List.append_assoc]
  rfl
theorem part_later {T x : List UInt8} {m n j : Nat} (hT : T.length = m) (hn : n ≤ m) (hj : n ≤ j) : (part T x n).getD j 0 = x.getD j 0 := by
  unfold part
  rw [List.getD_eq_getElem?_getD, List.getD_eq_getElem?_getD, List.getElem?_append_right (by rw [List.length_take]; omega), List.length_take, List.getElem?_drop]
  congr 2
  omega
theorem map_getD (f : Nat → UInt8) (m n : Nat) (h : n < m) : ((List.range m).map f).getD n 0 = f n := by
  simp [List.getD_eq_getElem?_getD, h]

/-- A round key added. -/
def addU (ks : List UInt8) (r : Nat) (y : List UInt8) : List UInt8 := (List.range 16).map fun n => y.getD n 0 ^^^ ks.getD (r * 16 + n) 0
/-- Substituted, and the rows turned. -/
def subU (x : List UInt8) : List UInt8 := (List.range 16).map fun n => sU (x.getD ((4 * (n / 4 + n % 4) + n % 4) % 16) 0)
/-- The columns mixed. -/
def mixAt (a : List UInt8) (i : Nat) : UInt8 := twU (a.getD i 0) ^^^ twU (a.getD ((i + 1) % 4) 0) ^^^ a.getD ((i + 1) % 4) 0 ^^^ a.getD ((i + 2) % 4) 0 ^^^ a.getD ((i + 3) % 4) 0
def colU (y : List UInt8) (c : Nat) : List UInt8 := [y.getD (4 * c) 0, y.getD (4 * c + 1) 0, y.getD (4 * c + 2) 0, y.getD (4 * c + 3) 0]
def mixU (y : List UInt8) : List UInt8 := (List.range 16).map fun n => mixAt (colU y (n / 4)) (n % 4)
def midU (r : Nat) (x : List UInt8) : List UInt8 := if r < 10 then mixU (subU x) else subU x
/-- The state behind the round r. -/
def stU (ks x : List UInt8) : Nat → List UInt8
  | 0 => addU ks 0 x
  | r + 1 => addU ks (r + 1) (midU (r + 1) (stU ks x r))
def blockL (ks x : List UInt8) : List UInt8 := stU ks x 10
theorem addU_len (ks : List UInt8) (r : Nat) (y : List UInt8) : (addU ks r y).length = 16 := by simp [addU]
theorem subU_len (x : List UInt8) : (subU x).length = 16 := by simp [subU]
theorem mixU_len (y : List UInt8) : (mixU y).length = 16 := by simp [mixU]
theorem midU_len (r : Nat) (x : List UInt8) : (midU r x).length = 16 := by unfold midU; split; exact mixU_len _; exact subU_len _
theorem stU_len (ks x : List UInt8) (r : Nat) : (stU ks x r).length = 16 := by cases r <;> exact addU_len _ _ _
theorem addU_at (ks : List UInt8) (r : Nat) (y : List UInt8) {n : Nat} (h : n < 16) : (addU ks r y).getD n 0 = y.getD n 0 ^^^ ks.getD (r * 16 + n) 0 := map_getD _ 16 n h
theorem subU_at (x : List UInt8) {n : Nat} (h : n < 16) : (subU x).getD n 0 = sU (x.getD ((4 * (n / 4 + n % 4) + n % 4) % 16) 0) := map_getD _ 16 n h
theorem mixU_at (y : List UInt8) {n : Nat} (h : n < 16) : (mixU y).getD n 0 = mixAt (colU y (n / 4)) (n % 4) := map_getD _ 16 n h
theorem xor5_val (a b c d e : UInt8) : bits .xor .u8 (bits .xor .u8 (bits .xor .u8 (bits .xor .u8 (a.toNat : Int) (b.toNat : Int)) (c.toNat : Int)) (d.toNat : Int)) (e.toNat : Int) = ((a ^^^ b ^^^ c ^^^ d ^^^ e).toNat : Int) := by
  rw [xor_byte8, xor_byte8, xor_byte8, xor_byte8]
end Go.Proofs.Ytcajlmlblkdjoaa
