/- Trees of hashes: rows, roots, ways, breaks; over any texts of nodes and any hash. The program's tree of hashes: how high it is, how many leaves it is padded to. The document's own tree of hashes: how many leaves it is padded to. -/
import Derived.Lib.BitFns
import Derived.IntWalk
import Derived.Test.YtndknifdajjalaaGreatDoorPMem
import Derived.Test.YtndknifdajjalaaGreatDoorPShelf
import Derived.Test.YtndknifdajjalaaGreatDoorPHashB2
namespace Go.Proofs.YtndknifdajjalaaGreatDoor.tree

section
variable {α τ : Type}
/-- How high a tree of n leaves is. -/
def high (n : Nat) : Nat := if n ≤ 1 then 0 else high ((n + 1) / 2) + 1
termination_by n
decreasing_by omega
theorem high_le (n : Nat) : n ≤ 2 ^ high n := by
  induction n using Nat.strongRecOn with
  | _ n ih =>
    unfold high
    by_cases h : n ≤ 1
    · rw [if_pos h]; simpa using h
    · rw [if_neg h, Nat.pow_succ]
      have := ih ((n + 1) / 2) (by omega)
      omega
theorem high_least : ∀ k n, n ≤ 2 ^ k → high n ≤ k
  | 0, n, h => by
    unfold high
    rw [if_pos (by simpa using h)]
    exact Nat.le_refl _
  | k + 1, n, h => by
    unfold high
    by_cases h1 : n ≤ 1
    · rw [if_pos h1]; omega
    · rw [if_neg h1]
      have := high_least k ((n + 1) / 2) (by rw [Nat.pow_succ] at h; omega)
      omega
theorem high_more {k n : Nat} (h : 2 ^ k < n) : k < high n := by
  rcases Nat.lt_or_ge k (high n) with h1 | h1
  · exact h1
  · have h2 := high_le n
    have h3 : 2 ^ high n ≤ 2 ^ k := Nat.pow_le_pow_right (by omega) h1
    omega
theorem high_pow (k : Nat) : high (2 ^ k) = k := by
  have h1 := high_least k (2 ^ k) (Nat.le_refl _)
  have h2 := high_le (2 ^ k)
  have h3 : k ≤ high (2 ^ k) := (Nat.pow_le_pow_iff_right (by omega)).1 h2
  omega
def pad (n : Nat) : Nat := 2 ^ high n
variable (tx : α → α → τ) (hs : τ → α)
def nd (a b : α) : α := hs (tx a b)
def up : List α → List α
  | a :: b :: r => nd tx hs a b :: up r
  | _ => []
def upN : Nat → List α → List α
  | 0, l => l
  | k + 1, l => upN k (up tx hs l)
theorem up_len : ∀ l : List α, (up tx hs l).length = l.length / 2
  | [] => by simp [up]
  | [_] => by simp [up]
  | a :: b :: r => by simp only [up, List.length_cons, up_len r]; omega
theorem up_at (d : α) : ∀ (l : List α) (i : Nat), 2 * i + 1 < l.length → (up tx hs l).getD i d = nd tx hs (l.getD (2 * i) d) (l.getD (2 * i + 1) d)
  | [], i, h => by simp at h
  | [_], i, h => by simp at h
  | a :: b :: r, 0, _ => rfl
  | a :: b :: r, i + 1, h => by
    have := up_at d r i (by simp at h; omega)
    rw [show 2 * (i + 1) = 2 * i + 2 by omega]
    simpa [up] using this
theorem upN_len : ∀ (k : Nat) (l : List α), (upN tx hs k l).length = l.length / 2 ^ k
  | 0, l => by simp [upN]
  | k + 1, l => by rw [upN, upN_len k, up_len, Nat.pow_succ, Nat.mul_comm, Nat.div_div_eq_div_mul]
theorem upN_succ : ∀ (k : Nat) (l : List α), upN tx hs (k + 1) l = up tx hs (upN tx hs k l)
  | 0, l => rfl
  | k + 1, l => by rw [upN, upN_succ k]; rfl
/-- The root of a row of 2 ^ k. -/
def root (d : α) (k : Nat) (l : List α) : α := (upN tx hs k l).getD 0 d
/-- The row of leaves with pads behind them. -/
def row (p : α) (l : List α) : List α := l ++ List.replicate (pad l.length - l.length) p
theorem row_len (p : α) (l : List α) : (row p l).length = 2 ^ high l.length := by
  have := high_le l.length
  unfold row pad
  rw [List.length_append, List.length_replicate]
  omega
/-- The leaf beside. -/
def beside (i : Nat) : Nat := if i % 2 = 0 then i + 1 else i - 1
def proof (d : α) (k i : Nat) (l : List α) : List α := (List.range k).map fun j => (upN tx hs j l).getD (beside (i / 2 ^ j)) d
theorem proof_len (d : α) (k i : Nat) (l : List α) : (proof tx hs d k i l).length = k := by simp [proof]
theorem proof_succ (d : α) (k i : Nat) (l : List α) : proof tx hs d (k + 1) i l = l.getD (beside i) d :: proof tx hs d k (i / 2) (up tx hs l) := by
  unfold proof
  rw [List.range_succ_eq_map, List.map_cons, List.map_map]
  congr 1
  · simp [upN]
  · refine List.map_congr_left fun j _ => ?_
    show (upN tx hs (j + 1) l).getD (beside (i / 2 ^ (j + 1))) d = _
    rw [upN, Nat.pow_succ, Nat.mul_comm, ← Nat.div_div_eq_div_mul]
/-- The text of the node over a leaf and what lies beside it. -/
def text (i : Nat) (a x : α) : τ := if i % 2 = 0 then tx a x else tx x a
/-- The root that a leaf and a proof make; the texts on the way. -/
def climb : Nat → α → List α → α
  | _, a, [] => a
  | i, a, x :: p => climb (i / 2) (hs (text tx i a x)) p
def way : Nat → α → List α → List τ
  | _, _, [] => []
  | i, a, x :: p => text tx i a x :: way (i / 2) (hs (text tx i a x)) p
theorem text_up (d : α) {l : List α} {i : Nat} (h : i < l.length) (he : l.length % 2 = 0) : hs (text tx i (l.getD i d) (l.getD (beside i) d)) = (up tx hs l).getD (i / 2) d := by
  rw [up_at tx hs d l (i / 2) (by omega)]
  unfold text beside nd
  by_cases e : i % 2 = 0
  · rw [if_pos e, if_pos e, show 2 * (i / 2) = i by omega]
  · rw [if_neg e, if_neg e, show 2 * (i / 2) = i - 1 by omega, show i - 1 + 1 = i by omega]
/-- A leaf's proof leads to the root. -/
theorem climb_proof (d : α) : ∀ (k : Nat) (l : List α) (i : Nat), l.length = 2 ^ k → i < 2 ^ k → climb tx hs i (l.getD i d) (proof tx hs d k i l) = root tx hs d k l
  | 0, l, i, _, hi => by
    obtain rfl : i = 0 := by simpa using hi
    rfl
  | k + 1, l, i, hl, hi => by
    rw [proof_succ, climb, text_up tx hs d (by omega) (by rw [hl, Nat.pow_succ]; omega), climb_proof d k (up tx hs l) (i / 2) (by rw [up_len, hl, Nat.pow_succ]; omega) (by rw [Nat.pow_succ] at hi; omega)]
    rfl
/-- The texts of a row's nodes. -/
def texts : List α → List τ
  | a :: b :: r => tx a b :: texts r
  | _ => []
end
end Go.Proofs.YtndknifdajjalaaGreatDoor.tree
namespace Go.Proofs.YtndknifdajjalaaGreatDoor
open Go.RowKit

theorem bitLenAux_high : ∀ (f n : Nat), n ≤ 2 ^ f → Lib.bitLenAux f (n - 1) = tree.high n
  | 0, n, h => by
    rw [tree.high.eq_1, if_pos (by simpa using h)]; rfl
  | f + 1, n, h => by
    rw [tree.high.eq_1]
    unfold Lib.bitLenAux
    by_cases h1 : n ≤ 1
    · rw [if_pos h1, if_pos (by omega)]
    · rw [if_neg h1, if_neg (by omega)]
      have := bitLenAux_high f ((n + 1) / 2) (by rw [Nat.pow_succ] at h; omega)
      rw [show (n - 1) / 2 = (n + 1) / 2 - 1 by omega, this]
      omega
theorem bitLen_high {n : Nat} (h : n ≤ 1099511627776) : Lib.bitLen (n - 1) = tree.high n := bitLenAux_high 64 n (by omega)
theorem high_zero {n : Nat} (h : n ≤ 1) : tree.high n = 0 := by rw [tree.high.eq_1, if_pos h]
theorem high_le40 {n : Nat} (h : n ≤ 1099511627776) : tree.high n ≤ 40 := tree.high_least 40 n (by simpa using h)

set_option maxHeartbeats 1000000 in
theorem plen_any (x : Nat) (w : World) (h : x ≤ 18446744073709551615) :
    Calls Tryz.prog 149 #[.int .u64 (x : Int)] w fun e w' => e = .returned (.int .i64 (Lib.bitLen x : Int)) ∧ w = w' := by
  have HL := Lib.hid (Tryz.bits_Len64 (x : Int) w (by omega) (by omega))
  rw [Int.toNat_natCast] at HL
  go_enter Tryz.func149, Tryz.ntmps149
  go_wp2_with fail
  with_reducible refine (HL.out).mono ?_
  rintro e w1 ⟨rfl, rfl⟩
  go_wp2_with fail
  go_ret
  exact ⟨rfl, rfl⟩
set_option maxHeartbeats 1000000 in
theorem pheight_any (n : Int) (w : World) (h0 : -9223372036854775808 ≤ n) (h1 : n ≤ 1099511627776) :
    Calls Tryz.prog 146 #[.int .i64 n] w fun e w' => e = .returned (.int .i64 (tree.high n.toNat : Int)) ∧ w = w' := by
  by_cases h : n ≤ 1
  · have HH := Lib.hid (high_zero (n := n.toNat) (by omega))
    have HM : max n 1 = 1 := by omega
    have HL := Lib.hid (show Calls Tryz.prog 149 #[.int .u64 0] w fun e w' => e = .returned (.int .i64 0) ∧ w = w' from plen_any 0 w (by omega))
    go_enter Tryz.func146, Tryz.ntmps146
    go_wp2_with fail
    with_reducible refine (HL.out).mono ?_
    rintro e w1 ⟨rfl, rfl⟩
    go_wp2_with fail
    go_ret
    exact ⟨by rw [HH.out]; rfl, rfl⟩
  · obtain ⟨m, hm⟩ : ∃ m : Nat, n = (m : Int) + 1 := ⟨(n - 1).toNat, by omega⟩
    have hmax : max n 1 = n := by omega
    have hsub : n - 1 = (m : Int) := by omega
    have HH := Lib.hid (show tree.high n.toNat = Lib.bitLen m by
      rw [← bitLen_high (n := n.toNat) (by omega)]
      congr 1
      omega)
    have HL := Lib.hid (plen_any m w (by omega))
    have HM := Lib.hid hm
    clear hm
    go_enter Tryz.func146, Tryz.ntmps146
    go_wp2_with fail
    with_reducible refine (HL.out).mono ?_
    rintro e w1 ⟨rfl, rfl⟩
    go_wp2_with fail
    go_ret
    exact ⟨by rw [HH.out]; rfl, rfl⟩
theorem wrap_pow {k : Nat} (h : k ≤ 40) : wrap64 ((2 : Int) ^ k) = ((2 ^ k : Nat) : Int) := by
  have h1 : 2 ^ k ≤ 2 ^ 40 := Nat.pow_le_pow_right (by omega) h
  have h2 : ((2 ^ k : Nat) : Int) = (2 : Int) ^ k := by simp
  rw [← h2]
  generalize 2 ^ k = p at *
  unfold wrap64
  omega
set_option maxHeartbeats 1000000 in
theorem ppad_any (n : Int) (w : World) (h0 : -9223372036854775808 ≤ n) (h1 : n ≤ 1099511627776) :
    Calls Tryz.prog 141 #[.int .i64 n] w fun e w' => e = .returned (.int .i64 (tree.pad n.toNat : Int)) ∧ w = w' := by
  have HL := Lib.hid (pheight_any n w h0 h1)
  obtain ⟨k, hk⟩ : ∃ k, tree.high n.toNat = k := ⟨_, rfl⟩
  have hk40 : k ≤ 40 := by rw [← hk]; exact high_le40 (by omega)
  have HP := Lib.hid (show tree.pad n.toNat = 2 ^ k by unfold tree.pad; rw [hk])
  rw [hk] at HL
  have HW := Lib.hid (wrap_pow hk40)
  clear hk
  go_enter Tryz.func141, Tryz.ntmps141
  go_wp2_with fail
  with_reducible refine (HL.out).mono ?_
  rintro e w1 ⟨rfl, rfl⟩
  go_wp2_with fail
  have hz := HW.out
  go_ret
  exact ⟨by rw [HP.out, ← hz]; rfl, rfl⟩

set_option maxRecDepth 100000 in
set_option maxHeartbeats 2000000 in
theorem rpad7_any (n : Int) (w : World) (hn : n ≤ 1099511627776) :
    Calls Tryz.prog 70 #[.int .i64 n] w fun e w' => e = .returned (.int .i64 (tree.pad n.toNat : Int)) ∧ w = w' := by
  obtain ⟨N, hN⟩ : ∃ N, n.toNat = N := ⟨_, rfl⟩
  rw [hN]
  have HM := Lib.hid (fun k (h : 2 ^ k < N) => tree.high_more h)
  have HL := Lib.hid (fun k (h : N ≤ 2 ^ k) => tree.high_least k N h)
  have HN := Lib.hid hN
  have HP := Lib.hid (show tree.pad N = 2 ^ tree.high N from rfl)
  clear hN
  go_enter Tryz.func70, Tryz.ntmps70
  go_wp2_with fail
  go_loop [3] (fun t => ∃ k P : Nat, k ≤ tree.high N ∧ Hid (P = 2 ^ k) ∧ P ≤ 2199023255552 ∧ t = .int .i64 P) (fun t => 4398046511104 - (intOf t).toNat)
  case atStart => exact ⟨0, 1, Nat.zero_le _, Lib.hid rfl, by omega, rfl⟩
  case round =>
    obtain ⟨k, P, hk, HE, hP, rfl⟩ := hrel
    by_cases hlt : (P : Int) < n
    · have hbig : (P : Int) < 2305843009213693952 := by omega
      have hk2 : k < tree.high N := HM.out k (by rw [← HE.out]; have := HN.out; omega)
      have HE2 := Lib.hid (show 2 * P = 2 ^ (k + 1) by rw [Nat.pow_succ, ← HE.out]; omega)
      have h2 : 2 * P ≤ 2199023255552 := by omega
      have hP1 : 0 < P := by rw [HE.out]; exact Nat.pow_pos (by omega)
      go_wp2_with fail
      go_round
      case rel => exact ⟨k + 1, 2 * P, hk2, HE2, h2, by go_num⟩
      case measure => simp [intOf]; omega
    · have hk2 : k = tree.high N := by
        have := HL.out k (by rw [← HE.out]; have := HN.out; omega)
        omega
      have HE2 := Lib.hid (show tree.pad N = P by rw [HP.out, HE.out, hk2])
      clear hk hk2
      go_wp2_with fail
      go_ret
      exact ⟨by rw [HE2.out]; rfl, rfl⟩
end Go.Proofs.YtndknifdajjalaaGreatDoor
