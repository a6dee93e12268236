/- AES in plain bytes: the substitution, the round keys, a block. AES's round keys in plain bytes. A block of AES in plain bytes. -/
import Derived.Test.YtkkokngdhhakdaaDoorPut
namespace Go.Proofs.YtkkokngdhhakdaaDoor
open Go.RowKit

theorem xor_u8 (a b : Nat) (ha : a < 256) (hb : b < 256) : bits .xor .u8 (a : Int) (b : Int) = ((a ^^^ b : Nat) : Int) := by
  have h : a ^^^ b < 256 := Nat.xor_lt_two_pow (n := 8) ha hb
  show IntKind.u8.wrap ((BitVec.ofInt 8 (a : Int) ^^^ BitVec.ofInt 8 (b : Int)).toNat : Int) = _
  rw [BitVec.toNat_xor, BitVec.ofInt_natCast, BitVec.ofInt_natCast, BitVec.toNat_ofNat, BitVec.toNat_ofNat, Nat.mod_eq_of_lt (show a < 2 ^ 8 from ha), Nat.mod_eq_of_lt (show b < 2 ^ 8 from hb)]
  show (((a ^^^ b : Nat) : Int)) % 256 = _
  omega
theorem or_u8 (a b : Nat) (ha : a < 256) (hb : b < 256) : bits .or .u8 (a : Int) (b : Int) = ((a ||| b : Nat) : Int) := by
  have h : a ||| b < 256 := Nat.or_lt_two_pow (n := 8) ha hb
  show IntKind.u8.wrap ((BitVec.ofInt 8 (a : Int) ||| BitVec.ofInt 8 (b : Int)).toNat : Int) = _
  rw [BitVec.toNat_or, BitVec.ofInt_natCast, BitVec.ofInt_natCast, BitVec.toNat_ofNat, BitVec.toNat_ofNat, Nat.mod_eq_of_lt (show a < 2 ^ 8 from ha), Nat.mod_eq_of_lt (show b < 2 ^ 8 from hb)]
  show (((a ||| b : Nat) : Int)) % 256 = _
  omega
theorem xor_byte8 (a b : UInt8) : bits .xor .u8 (a.toNat : Int) (b.toNat : Int) = ((a ^^^ b).toNat : Int) := by
  rw [xor_u8 _ _ a.toNat_lt b.toNat_lt, UInt8.toNat_xor]

/-- Twice a byte in the field. -/
def twU (a : UInt8) : UInt8 := if 128 ≤ a.toNat then UInt8.ofNat (2 * a.toNat) ^^^ 27 else UInt8.ofNat (2 * a.toNat)
/-- The n-th power of 3. -/
def powU : Nat → UInt8
  | 0 => 1
  | n + 1 => powU n ^^^ twU (powU n)
/-- Of which power each byte is, as far as n powers tell. -/
def logT : Nat → List UInt8
  | 0 => List.replicate 256 0
  | n + 1 => (logT n).set (powU n).toNat (UInt8.ofNat n)
def powT (n : Nat) : List UInt8 := (List.range n).map powU
theorem powT_len (n : Nat) : (powT n).length = n := by simp [powT]
theorem powT_succ (n : Nat) : powT (n + 1) = powT n ++ [powU n] := by simp [powT, List.range_succ]
theorem logT_len (n : Nat) : (logT n).length = 256 := by
  induction n with
  | zero => exact List.length_replicate ..
  | succ n ih => simp [logT, ih]
/-- The inverse in the field, of 0 it is 0. -/
def invU (a : Nat) : UInt8 := if 0 < a then (powT 255).getD ((255 - ((logT 255).getD a 0).toNat) % 255) 0 else 0
/-- The last step of the substitution, k digits of it. -/
def affU (x : UInt8) : Nat → UInt8
  | 0 => 99
  | k + 1 => affU x k ^^^ UInt8.ofNat (x.toNat * 2 ^ k % 256 ||| x.toNat / 2 ^ (8 - k))
def boxU (a : Nat) : UInt8 := affU (invU a) 5
def boxTo (n : Nat) : List UInt8 := (List.range n).map boxU
theorem boxTo_len (n : Nat) : (boxTo n).length = n := by simp [boxTo]
theorem boxTo_succ (n : Nat) : boxTo (n + 1) = boxTo n ++ [boxU n] := by simp [boxTo, List.range_succ]
def boxL : List UInt8 := boxTo 256
theorem boxL_len : boxL.length = 256 := boxTo_len 256
theorem affU_val (x : UInt8) (k : Nat) (s : UInt8) : bits .xor .u8 (s.toNat : Int) (bits .or .u8 ((x.toNat : Int) * 2 ^ k % 256) ((x.toNat : Int) / 2 ^ (8 - k))) = ((s ^^^ UInt8.ofNat (x.toNat * 2 ^ k % 256 ||| x.toNat / 2 ^ (8 - k))).toNat : Int) := by
  have hx := x.toNat_lt
  have e1 : ((x.toNat : Int) * 2 ^ k % 256) = ((x.toNat * 2 ^ k % 256 : Nat) : Int) := by simp
  have e2 : (x.toNat : Int) / 2 ^ (8 - k) = ((x.toNat / 2 ^ (8 - k) : Nat) : Int) := by simp
  have h1 : x.toNat * 2 ^ k % 256 < 256 := Nat.mod_lt _ (by decide)
  have h2 : x.toNat / 2 ^ (8 - k) < 256 := Nat.lt_of_le_of_lt (Nat.div_le_self _ _) hx
  have h3 : (x.toNat * 2 ^ k % 256 ||| x.toNat / 2 ^ (8 - k)) < 256 := Nat.or_lt_two_pow (n := 8) h1 h2
  rw [e1, e2, or_u8 _ _ h1 h2, xor_u8 _ _ s.toNat_lt h3, UInt8.toNat_xor, UInt8.toNat_ofNat', Nat.mod_eq_of_lt h3]
theorem twU_val (a : UInt8) : (128 ≤ a.toNat → bits .xor .u8 ((a.toNat : Int) * 2 % 256) 27 = ((twU a).toNat : Int)) ∧ (a.toNat < 128 → (a.toNat : Int) * 2 % 256 = ((twU a).toNat : Int)) := by
  have ha := a.toNat_lt
  have e1 : ((a.toNat : Int) * 2 % 256) = ((a.toNat * 2 % 256 : Nat) : Int) := by simp
  constructor
  · intro h
    rw [e1, show (27 : Int) = ((27 : Nat) : Int) from rfl, xor_u8 _ _ (Nat.mod_lt _ (by decide)) (by decide)]
    unfold twU
    rw [if_pos h, UInt8.toNat_xor, UInt8.toNat_ofNat', Nat.mul_comm]
    rfl
  · intro h
    unfold twU
    rw [if_neg (by omega), UInt8.toNat_ofNat']
    omega
end Go.Proofs.YtkkokngdhhakdaaDoor
namespace Go.Proofs.YtkkokngdhhakdaaDoor
open Go.RowKit

def sU (x : UInt8) : UInt8 := boxL.getD x.toNat 0
/-- The round's constant, from the first on. -/
def conU : Nat → UInt8
  | 0 => 1
  | r + 1 => twU (conU r)
def kT0 (p : List UInt8) (c : UInt8) : List UInt8 := [sU (p.getD 13 0) ^^^ c, sU (p.getD 14 0), sU (p.getD 15 0), sU (p.getD 12 0)]
def kT (p t : List UInt8) : Nat → List UInt8
  | 0 => t
  | i + 1 => (kT p t i).set (i % 4) (p.getD i 0 ^^^ (kT p t i).getD (i % 4) 0)
def kO (p t : List UInt8) : Nat → List UInt8
  | 0 => []
  | i + 1 => kO p t i ++ [p.getD i 0 ^^^ (kT p t i).getD (i % 4) 0]
theorem kT_len (p t : List UInt8) (i : Nat) : (kT p t i).length = t.length := by
  induction i with
  | zero => rfl
  | succ i ih => rw [kT, List.length_set, ih]
theorem kO_len (p t : List UInt8) (i : Nat) : (kO p t i).length = i := by
  induction i with
  | zero => rfl
  | succ i ih => rw [kO, List.length_append, ih]; rfl
def rk (k : List UInt8) : Nat → List UInt8
  | 0 => k
  | r + 1 => kO (rk k r) (kT0 (rk k r) (conU r)) 16
theorem rk_len {k : List UInt8} (hk : k.length = 16) (r : Nat) : (rk k r).length = 16 := by
  cases r with
  | zero => exact hk
  | succ r => exact kO_len _ _ 16
/-- The first n round keys, one behind the other. -/
def keysTo (k : List UInt8) : Nat → List UInt8
  | 0 => []
  | n + 1 => keysTo k n ++ rk k n
theorem keysTo_len {k : List UInt8} (hk : k.length = 16) (n : Nat) : (keysTo k n).length = 16 * n := by
  induction n with
  | zero => rfl
  | succ n ih => rw [keysTo, List.length_append, ih, rk_len hk]; omega
theorem keysTo_last {k : List UInt8} (hk : k.length = 16) (n : Nat) : (keysTo k (n + 1)).drop (16 * n) = rk k n := by
  rw [keysTo, List.drop_append_of_le_length (by rw [keysTo_len hk]; exact Nat.le_refl _), List.drop_of_length_le (by rw [keysTo_len hk]; exact Nat.le_refl _)]; rfl
end Go.Proofs.YtkkokngdhhakdaaDoor
namespace Go.Proofs.YtkkokngdhhakdaaDoor
open Go.RowKit

/-- A row that is rewritten from the left: n of T, then what was. -/
def part (T x : List UInt8) (n : Nat) : List UInt8 := T.take n ++ x.drop n
theorem part_zero (T x : List UInt8) : part T x 0 = x := by simp [part]
theorem part_full {T x : List UInt8} {n : Nat} (hT : T.length = n) (hx : x.length = n) : part T x n = T := by
  unfold part; rw [List.take_of_length_le (by omega), List.drop_of_length_le (by omega), List.append_nil]
theorem part_len {T x : List UInt8} {m n : Nat} (hT : T.length = m) (hx : x.length = m) (hn : n ≤ m) : (part T x n).length = m := by
  unfold part; rw [List.length_append, List.length_take, List.length_drop]; omega
theorem part_set {T x : List UInt8} {m n : Nat} (hT : T.length = m) (hx : x.length = m) (hn : n < m) : (part T x n).set n (T.getD n 0) = part T x (n + 1) := by
  have hx' : n < x.length := by omega
  have hT' : n < T.length := by omega
  have h1 : x.drop n = x[n] :: x.drop (n + 1) := List.drop_eq_getElem_cons hx'
  have h2 : T.take (n + 1) = T.take n ++ [T[n]] := List.take_succ_eq_append_getElem hT'
  have h3 : T.getD n 0 = T[n] := by rw [List.getD_eq_getElem?_getD, List.getElem?_eq_getElem hT']; rfl
  unfold part
  rw [List.set_append_right _ _ (by rw [List.length_take]; omega), List.length_take, show n - min n T.length = 0 by omega, h1, List.set_cons_zero, h2, h3, List.append_assoc]
  rfl
theorem part_later {T x : List UInt8} {m n j : Nat} (hT : T.length = m) (hn : n ≤ m) (hj : n ≤ j) : (part T x n).getD j 0 = x.getD j 0 := by
  unfold part
  rw [List.getD_eq_getElem?_getD, List.getD_eq_getElem?_getD, List.getElem?_append_right (by rw [List.length_take]; omega), List.length_take, List.getElem?_drop]
  congr 2
  omega
theorem map_getD (f : Nat → UInt8) (m n : Nat) (h : n < m) : ((List.range m).map f).getD n 0 = f n := by
  simp [List.getD_eq_getElem?_getD, h]

/-- A round key added. -/
def addU (ks : List UInt8) (r : Nat) (y : List UInt8) : List UInt8 := (List.range 16).map fun n => y.getD n 0 ^^^ ks.getD (r * 16 + n) 0
/-- Substituted, and the rows turned. -/
def subU (x : List UInt8) : List UInt8 := (List.range 16).map fun n => sU (x.getD ((4 * (n / 4 + n % 4) + n % 4) % 16) 0)
/-- The columns mixed. -/
def mixAt (a : List UInt8) (i : Nat) : UInt8 := twU (a.getD i 0) ^^^ twU (a.getD ((i + 1) % 4) 0) ^^^ a.getD ((i + 1) % 4) 0 ^^^ a.getD ((i + 2) % 4) 0 ^^^ a.getD ((i + 3) % 4) 0
def colU (y : List UInt8) (c : Nat) : List UInt8 := [y.getD (4 * c) 0, y.getD (4 * c + 1) 0, y.getD (4 * c + 2) 0, y.getD (4 * c + 3) 0]
def mixU (y : List UInt8) : List UInt8 := (List.range 16).map fun n => mixAt (colU y (n / 4)) (n % 4)
def midU (r : Nat) (x : List UInt8) : List UInt8 := if r < 10 then mixU (subU x) else subU x
/-- The state behind the round r. -/
def stU (ks x : List UInt8) : Nat → List UInt8
  | 0 => addU ks 0 x
  | r + 1 => addU ks (r + 1) (midU (r + 1) (stU ks x r))
def blockL (ks x : List UInt8) : List UInt8 := stU ks x 10
theorem addU_len (ks : List UInt8) (r : Nat) (y : List UInt8) : (addU ks r y).length = 16 := by simp [addU]
theorem subU_len (x : List UInt8) : (subU x).length = 16 := by simp [subU]
theorem mixU_len (y : List UInt8) : (mixU y).length = 16 := by simp [mixU]
theorem midU_len (r : Nat) (x : List UInt8) : (midU r x).length = 16 := by unfold midU; split; exact mixU_len _; exact subU_len _
theorem stU_len (ks x : List UInt8) (r : Nat) : (stU ks x r).length = 16 := by cases r <;> exact addU_len _ _ _
theorem addU_at (ks : List UInt8) (r : Nat) (y : List UInt8) {n : Nat} (h : n < 16) : (addU ks r y).getD n 0 = y.getD n 0 ^^^ ks.getD (r * 16 + n) 0 := map_getD _ 16 n h
theorem subU_at (x : List UInt8) {n : Nat} (h : n < 16) : (subU x).getD n 0 = sU (x.getD ((4 * (n / 4 + n % 4) + n % 4) % 16) 0) := map_getD _ 16 n h
theorem mixU_at (y : List UInt8) {n : Nat} (h : n < 16) : (mixU y).getD n 0 = mixAt (colU y (n / 4)) (n % 4) := map_getD _ 16 n h
theorem xor5_val (a b c d e : UInt8) : bits .xor .u8 (bits .xor .u8 (bits .xor .u8 (bits .xor .u8 (a.toNat : Int) (b.toNat : Int)) (c.toNat : Int)) (d.toNat : Int)) (e.toNat : Int) = ((a ^^^ b ^^^ c ^^^ d ^^^ e).toNat : Int) := by
  rw [xor_byte8, xor_byte8, xor_byte8, xor_byte8]
end Go.Proofs.YtkkokngdhhakdaaDoor
