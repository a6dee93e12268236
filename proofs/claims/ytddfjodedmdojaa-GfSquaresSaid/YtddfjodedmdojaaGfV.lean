/- Two lists, and both turned round: their sums of products. -/
import Derived.Test.YtddfjodedmdojaaGfW
import Derived.Test.YtddfjodedmdojaaMakeB
namespace Go.Proofs.Ytddfjodedmdojaa
open Go.RowKit

theorem made_zero (k : Nat) : madeCells #[Value.int .u8 0] k = u8A (List.replicate k 0) := by
  have := made_noughts k
  rw [Nat.mul_one] at this
  apply Array.ext'
  rw [byteCells_toList]
  exact this
/-- A list of k, turned round, its first i bytes; then noughts. -/
def revTo (l : List UInt8) (k i : Nat) : List UInt8 := (List.range k).map fun j => if j < i then l.getD (k - 1 - j) 0 else 0
theorem revTo_len (l : List UInt8) (k i : Nat) : (revTo l k i).length = k := by simp [revTo]
theorem revTo_zero (l : List UInt8) (k : Nat) : revTo l k 0 = List.replicate k 0 := by
  apply List.ext_getElem (by rw [revTo_len, List.length_replicate])
  intro i h1 h2
  simp [revTo]
theorem revTo_at (l : List UInt8) {k i j : Nat} (h : j < k) : (revTo l k i).getD j 0 = if j < i then l.getD (k - 1 - j) 0 else 0 := map_getD _ k j h
theorem revTo_get (l : List UInt8) {k j : Nat} (i : Nat) (h : j < k) : (revTo l k i)[j]? = some (if j < i then l.getD (k - 1 - j) 0 else 0) := by
  unfold revTo
  rw [List.getElem?_map, List.getElem?_range h]; rfl
theorem revTo_set (l : List UInt8) {k i : Nat} (h : i < k) : (revTo l k i).set i (l.getD (k - 1 - i) 0) = revTo l k (i + 1) := by
  apply List.ext_getElem?
  intro j
  by_cases hjk : j < k
  · rw [revTo_get l (i + 1) hjk]
    by_cases hj : i = j
    · subst hj
      rw [List.getElem?_set_self (by rw [revTo_len]; exact h), if_pos (by omega)]
    · rw [List.getElem?_set_ne hj, revTo_get l i hjk]
      congr 1
      by_cases hji : j < i
      · rw [if_pos hji, if_pos (by omega)]
      · rw [if_neg hji, if_neg (by omega)]
  · rw [List.getElem?_eq_none (by rw [List.length_set, revTo_len]; omega), List.getElem?_eq_none (by rw [revTo_len]; omega)]

/-- The sum of products of both lists turned round is the same sum. -/
theorem dotU_xor (a b : List UInt8) (n : Nat) : ∀ m, dotU a b (m + n) = dotU a b m ^^^ dotU (a.drop m) (b.drop m) n := by
  intro m
  induction n with
  | zero => rw [Nat.add_zero, dotU, UInt8.xor_zero]
  | succ n ih =>
    rw [← Nat.add_assoc, dotU, ih, dotU, UInt8.xor_assoc, List.getD_eq_getElem?_getD, List.getD_eq_getElem?_getD, List.getD_eq_getElem?_getD, List.getD_eq_getElem?_getD, List.getElem?_drop, List.getElem?_drop]
theorem dotU_ext {a b c d : List UInt8} {n : Nat} (h1 : ∀ j, j < n → a.getD j 0 = c.getD j 0) (h2 : ∀ j, j < n → b.getD j 0 = d.getD j 0) : dotU a b n = dotU c d n := by
  induction n with
  | zero => rfl
  | succ n ih => rw [dotU, dotU, h1 n (Nat.lt_succ_self n), h2 n (Nat.lt_succ_self n), ih (fun j hj => h1 j (by omega)) (fun j hj => h2 j (by omega))]
theorem dotU_rev : ∀ (k : Nat) (l r : List UInt8), dotU (revTo l k k) (revTo r k k) k = dotU l r k
  | 0, _, _ => rfl
  | k + 1, l, r => by
    have ih := dotU_rev k (l.drop 1) (r.drop 1)
    have e := dotU_xor l r k 1
    rw [Nat.add_comm 1 k] at e
    rw [e, dotU, ← ih, UInt8.xor_comm]
    congr 1
    · rw [revTo_at l (Nat.lt_succ_self k), revTo_at r (Nat.lt_succ_self k), if_pos (Nat.lt_succ_self k), if_pos (Nat.lt_succ_self k), show k + 1 - 1 - k = 0 by omega]
      show _ = 0 ^^^ _
      rw [UInt8.zero_xor]
    · have h : ∀ (x : List UInt8) j, j < k → (revTo x (k + 1) (k + 1)).getD j 0 = (revTo (x.drop 1) k k).getD j 0 := fun x j hj => by
        rw [revTo_at x (show j < k + 1 by omega), revTo_at (x.drop 1) hj, if_pos (by omega), if_pos hj, List.getD_eq_getElem?_getD, List.getD_eq_getElem?_getD, List.getElem?_drop, show k + 1 - 1 - j = 1 + (k - 1 - j) by omega]
      exact dotU_ext (h l) (h r)

theorem Fdd.set {W w : World} {g s i : Nat} (h : Fdd W g w) (hg : g < s) (hs : W.heap.size ≤ s) (v : Value) : Fdd W g (w.setCell ⟨s, i, none⟩ v) :=
  ⟨⟨h.1.1, h.1.2.other (by simp; omega) _⟩, h.2.setCell hs _⟩
/-- A field at g, and two rows of bytes of the caller's own, since W. -/
def Sq (W : World) (g bx bz : Nat) (cs ds : List UInt8) (w : World) : Prop := Fdd W g w ∧ Blk w bx (u8A cs) 5 ∧ Blk w bz (u8A ds) 5
theorem Sq.drewN {W w : World} {g bx bz : Nat} {cs ds : List UInt8} (h : Sq W g bx bz cs ds w) (q : Nat) : Sq W g bx bz cs ds (w.drewN q) := ⟨h.1.drewN q, h.2.1.drewN q, h.2.2.drewN q⟩
theorem Sq.store {W w : World} {g bx bz i : Nat} {cs ds cs' ds' : List UInt8} {x y : UInt8} (h : Sq W g bx bz cs ds w) (hx : g < bx) (hz : g < bz) (hwx : W.heap.size ≤ bx) (hwz : W.heap.size ≤ bz) (hne : ¬ bx = bz) (h1 : cs.set i x = cs') (h2 : ds.set i y = ds') :
    Sq W g bx bz cs' ds' ((w.setCell ⟨bx, i, none⟩ (.int .u8 (x.toNat : Int))).setCell ⟨bz, i, none⟩ (.int .u8 (y.toNat : Int))).drew := by
  subst h1 h2
  have h3 : Sq W g bx bz (cs.set i x) (ds.set i y) ((w.setCell ⟨bx, i, none⟩ (.int .u8 (x.toNat : Int))).setCell ⟨bz, i, none⟩ (.int .u8 (y.toNat : Int))) :=
    ⟨(h.1.set hx hwx _).set hz hwz _, (h.2.1.put i rfl).other (by simp; omega) _, (h.2.2.other (by simp; omega) _).put i rfl⟩
  exact h3.drewN 1
theorem Rd.of_blk {w : World} {g n : Nat} {l : List UInt8} {T : TypeId} (h : Blk w g (u8A l) T) (hn : n = w.heap.size) : Rd w n (some ⟨g, 0, none⟩) l :=
  .inr ⟨g, 0, rfl, by rw [hn]; exact h.lt, fun i hi => by
    rw [Nat.zero_add, h.byteAt hi, List.getD_eq_getElem?_getD, List.getElem?_eq_getElem hi]; rfl⟩
section
variable {W w : World} {g bx bz : Nat} {cs ds : List UInt8}
theorem qpow (h : Sq W g bx bz cs ds w) (a : UInt8) (n : Int) (hn : -9223372036854775808 ≤ n ∧ n < 9223372036854775808) :
    Calls Try.prog 12 #[.pointer (some ⟨g, 0, none⟩), .int .u8 (a.toNat : Int), .int .i64 n] w fun e w' => e = .returned (.int .u8 ((fpU a n).toNat : Int)) ∧ Sq W g bx bz cs ds w' :=
  (fpow_any g a n w hn h.1.1).mono fun _ _ ⟨he, q, hq⟩ => ⟨he, hq ▸ h.drewN q⟩
theorem qmul (h : Sq W g bx bz cs ds w) (a b : UInt8) :
    Calls Try.prog 14 #[.pointer (some ⟨g, 0, none⟩), .int .u8 (a.toNat : Int), .int .u8 (b.toNat : Int)] w fun e w' => e = .returned (.int .u8 ((mulU a b).toNat : Int)) ∧ Sq W g bx bz cs ds w' :=
  (fmul_any g a b w h.1.1).mono fun _ _ ⟨he, q, hq⟩ => ⟨he, hq ▸ h.drewN q⟩
theorem qdot (h : Sq W g bx bz cs ds w) (A B : Option Addr) (n m c d C D : Nat) (l k : List UInt8) (hn : l.length = n) (hm : k.length = m) (h1 : n ≤ 30) (h2 : m ≤ 30) (ha : Rd w C A l) (hb : Rd w D B k) :
    Calls Try.prog 15 #[.pointer (some ⟨g, 0, none⟩), .slice A n c, .slice B m d] w fun e w' => e = .returned (.int .u8 ((dotU l k (min n m)).toNat : Int)) ∧ Sq W g bx bz cs ds w' :=
  (fdot_any g A B n m c d C D l k w hn hm (Nat.le_trans h1 (by decide)) (Nat.le_trans h2 (by decide)) ha hb h.1.1).mono fun _ _ ⟨he, q, hq⟩ => ⟨he, hq ▸ h.drewN q⟩
end
theorem fpU_sq (x y : UInt8) : fpU (x ^^^ y) 2 = fpU x 2 ^^^ fpU y 2 := pwU_sq x y
theorem fpU_add (x : UInt8) {n m : Int} (hn : 0 ≤ n) (hm : 0 ≤ m) : mulU (fpU x n) (fpU x m) = fpU x (n + m) := by
  unfold fpU
  rw [pwU_add, show (n + m).toNat = n.toNat + m.toNat by omega]
end Go.Proofs.Ytddfjodedmdojaa
