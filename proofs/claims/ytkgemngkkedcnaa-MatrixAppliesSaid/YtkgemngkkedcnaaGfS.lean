/- The methods of the program's field: product, inverse, quotient, power, sum of products. The program's sum of products. -/
import Derived.Test.YtkgemngkkedcnaaGfN
import Derived.Test.YtkgemngkkedcnaaMem
namespace Go.Proofs.Ytkgemngkkedcnaa
open Go.RowKit

/-- At g there is a field, its tables made. -/
def FdAt (w : World) (g : Nat) : Prop := FdZ w g ivT
theorem FdAt.drewN {w : World} {g : Nat} (h : FdAt w g) (q : Nat) : FdAt (w.drewN q) g := FdZ.drewN h q
theorem FdAt.below {w w' : World} {B g : Nat} (h : FdAt w g) (hb : Below B w w') (hg : g < B) : FdAt w' g := FdZ.below h hb hg
theorem FdAt.lt {w : World} {g : Nat} (h : FdAt w g) : g < w.heap.size := FdZ.lt h

set_option maxRecDepth 100000 in
set_option maxHeartbeats 1000000 in
theorem fmul_any (g : Nat) (a b : UInt8) (w : World) (h : FdAt w g) :
    Calls Try.prog 53 #[.pointer (some ⟨g, 0, none⟩), .int .u8 (a.toNat : Int), .int .u8 (b.toNat : Int)] w fun e w' => e = .returned (.int .u8 ((mulU a b).toNat : Int)) ∧ ∃ q, w' = w.drewN q := by
  by_cases h0 : a = 0
  · subst h0
    have hz : ((0 : UInt8).toNat : Int) = 0 := rfl
    have HM := Lib.hid (mulU_zero' b)
    go_enter Try.func53, Try.ntmps53
    go_wp2_with fail
    go_ret
    exact ⟨retB (by rw [HM.out]; rfl), 0, rfl⟩
  · by_cases h1 : b = 0
    · subst h1
      have ha := pos8' h0
      have hz : ((0 : UInt8).toNat : Int) = 0 := rfl
      have hae : ((a.toNat : Int) == 0) = false := beq_eq_false_iff_ne.2 (by omega)
      have HM := Lib.hid (mulU_zero a)
      clear h0
      go_enter Try.func53, Try.ntmps53
      go_wp2_with fail
      go_ret
      exact ⟨retB (by rw [HM.out]; rfl), 0, rfl⟩
    · have ha := pos8' h0
      have hb := pos8' h1
      have hae : ((a.toNat : Int) == 0) = false := beq_eq_false_iff_ne.2 (by omega)
      have hbe : ((b.toNat : Int) == 0) = false := beq_eq_false_iff_ne.2 (by omega)
      have hl := (xp_lg h0).2
      have hl2 := (xp_lg h1).2
      have hc := FdZ.pow h (n := lgN a + lgN b) (by omega)
      have HL := Lib.hid (fun q => log_any g ivT a (w.drewN q) (h.drewN q))
      have HL2 := Lib.hid (fun q => log_any g ivT b (w.drewN q) (h.drewN q))
      have HV := Lib.hid (show xpU (lgN a + lgN b) = mulU a b by unfold mulU; rw [if_neg (by simp [h0, h1])])
      rw [HV.out] at hc
      clear h0 h1 HV
      generalize mulU a b = c at *
      generalize lgN a = n at *
      generalize lgN b = m at *
      obtain ⟨k, hk⟩ : ∃ k, n + m = k := ⟨_, rfl⟩
      rw [hk] at hc
      have e1 : (n : Int) + (m : Int) = (k : Int) := by omega
      have i1 : (k : Int) < 510 := by omega
      clear hk
      go_enter Try.func53, Try.ntmps53
      go_wp2_with fail
      go_quiet ((go_at_call 60; first | (with_reducible refine (HL.out _).mono ?_; exact fun e w'' h => ⟨h.1, _, h.2.symm⟩) | (with_reducible refine (HL2.out _).mono ?_; exact fun e w'' h => ⟨h.1, _, h.2.symm⟩)))
      go_wp2_with fail
      go_ret
      exact ⟨rfl, _, rfl⟩

theorem finv_any (g : Nat) (a : UInt8) (w : World) (h : FdAt w g) :
    Calls Try.prog 55 #[.pointer (some ⟨g, 0, none⟩), .int .u8 (a.toNat : Int)] w fun e w' => e = .returned (.int .u8 ((ivU a).toNat : Int)) ∧ w = w' := by
  have ha := a.toNat_lt
  have hai : (a.toNat : Int) < 256 := by omega
  have hc := FdZ.inv h (n := a.toNat) ha
  rw [ivT_at] at hc
  generalize ivU a = x at *
  go_enter Try.func55, Try.ntmps55
  go_wp2_with fail
  go_ret
  exact ⟨rfl, rfl⟩

/-- The error of a quotient. -/
def divE (b : UInt8) : Int := if b = 0 then 1 else 0
theorem divE_zero : divE 0 = 1 := rfl
theorem divE_else {b : UInt8} (h : b ≠ 0) : divE b = 0 := if_neg h

/-! ### Powers -/
def fpU (a : UInt8) (n : Int) : UInt8 := pwU a n.toNat
theorem fpU_none (a : UInt8) {n : Int} (h : n ≤ 0) : fpU a n = 1 := by unfold fpU; rw [show n.toNat = 0 by omega]; rfl
theorem fpU_zero {n : Int} (h : 0 < n) : fpU 0 n = 0 := pwU_zero (by omega)
theorem fpU_pos {a : UInt8} {n : Int} (h : a ≠ 0) : fpU a n = xpU (lgN a * n.toNat) := by
  unfold fpU
  conv => lhs; rw [← (xp_lg h).1, pwU_xp]
theorem fpU_mod {a : UInt8} {n : Int} (h : a ≠ 0) : xpU (lgN a * (n.toNat % 255) % 255) = fpU a n := by
  rw [fpU_pos h]
  exact xpU_congr (by rw [Nat.mod_mod, Nat.mul_mod, Nat.mod_mod, ← Nat.mul_mod])
set_option maxRecDepth 100000 in
set_option maxHeartbeats 1000000 in
theorem fpow_any (g : Nat) (a : UInt8) (n : Int) (w : World) (hn : -9223372036854775808 ≤ n ∧ n < 9223372036854775808) (h : FdAt w g) :
    Calls Try.prog 41 #[.pointer (some ⟨g, 0, none⟩), .int .u8 (a.toNat : Int), .int .i64 n] w fun e w' => e = .returned (.int .u8 ((fpU a n).toNat : Int)) ∧ ∃ q, w' = w.drewN q := by
  obtain ⟨hn0, hn1⟩ := hn
  by_cases hb : n ≤ 0
  · have HP := Lib.hid (fpU_none a hb)
    go_enter Try.func41, Try.ntmps41
    go_wp2_with fail
    go_ret
    exact ⟨retB (by rw [HP.out]; rfl), 0, rfl⟩
  · by_cases h0 : a = 0
    · subst h0
      have hz : ((0 : UInt8).toNat : Int) = 0 := rfl
      have HP := Lib.hid (fpU_zero (show 0 < n by omega))
      go_enter Try.func41, Try.ntmps41
      go_wp2_with fail
      go_ret
      exact ⟨retB (by rw [HP.out]; rfl), 0, rfl⟩
    · have ha := pos8' h0
      have hae : ((a.toNat : Int) == 0) = false := beq_eq_false_iff_ne.2 (by omega)
      have hl := (xp_lg h0).2
      have HL := Lib.hid (fun q => log_any g ivT a (w.drewN q) (h.drewN q))
      have hc := FdZ.pow h (n := lgN a * (n.toNat % 255) % 255) (by omega)
      have HV := Lib.hid (fpU_mod (n := n) h0)
      rw [HV.out] at hc
      clear h0 HV
      generalize fpU a n = c at *
      obtain ⟨r, hr⟩ : ∃ r, n.toNat % 255 = r := ⟨_, rfl⟩
      have e1 : n % 255 = (r : Int) := by omega
      have hrl : r < 255 := by omega
      rw [hr] at hc
      clear hr
      generalize lgN a = m at *
      obtain ⟨p, hp⟩ : ∃ p, m * r = p := ⟨_, rfl⟩
      have e2 : (m : Int) * (r : Int) = (p : Int) := by rw [← hp]; simp
      have hpl : p < 65536 := by rw [← hp]; exact Nat.lt_of_le_of_lt (Nat.mul_le_mul (show m ≤ 255 by omega) (show r ≤ 255 by omega)) (by decide)
      rw [hp] at hc
      obtain ⟨k, hk⟩ : ∃ k, p % 255 = k := ⟨_, rfl⟩
      have e3 : (p : Int) % 255 = (k : Int) := by omega
      have i1 : (k : Int) < 510 := by omega
      rw [hk] at hc
      clear hp hk
      go_enter Try.func41, Try.ntmps41
      go_wp2_with fail
      go_quiet ((go_at_call 60; (with_reducible refine (HL.out _).mono ?_; exact fun e w'' h => ⟨h.1, _, h.2.symm⟩)))
      go_wp2_with fail
      go_ret
      exact ⟨rfl, _, rfl⟩
end Go.Proofs.Ytkgemngkkedcnaa
namespace Go.Proofs.Ytkgemngkkedcnaa
open Go.RowKit

set_option maxRecDepth 100000 in
set_option maxHeartbeats 1000000 in
theorem sumOf_any (g : Nat) (A B : Option Addr) (n m c d C D : Nat) (l k : List UInt8) (w : World) (hn : l.length = n) (hm : k.length = m) (h1 : n ≤ maxLen) (_h2 : m ≤ maxLen) (ha : Rd w C A l) (hb : Rd w D B k) (hg : FdAt w g) :
    Calls Try.prog 52 #[.func (.func 53) #[.pointer (some ⟨g, 0, none⟩)] #[], .slice A n c, .slice B m d] w fun e w' => e = .returned (.int .u8 ((dotU l k (min n m)).toNat : Int)) ∧ ∃ q, w' = w.drewN q := by
  unfold maxLen at h1
  have HN := Lib.hid hn
  have HM := Lib.hid hm
  have HF := Lib.hid hg
  obtain ⟨o, ho⟩ : ∃ o, min n m = o := ⟨_, rfl⟩
  rw [ho]
  have h3 : o ≤ n := by omega
  have h4 : o ≤ m := by omega
  have e1 : min (n : Int) (m : Int) = (o : Int) := by omega
  have e2 : (if m < n then (m : Int) else (n : Int)) = (o : Int) := by split <;> omega
  have e3 : (if m < n then Value.int .i64 (m : Int) else Value.int .i64 (n : Int)) = Value.int .i64 (o : Int) := by split <;> (congr 1; omega)
  clear hn hm ho hg
  go_enter Try.func52, Try.ntmps52
  go_wp2_with fail
  go_loopw [7, 14] (fun s t wr => ∃ j q : Nat, j ≤ o ∧ t = .int .i64 j ∧ s = .int .u8 ((dotU l k j).toNat : Int) ∧ wr = w.drewN q) (fun _ t _ => o - (intOf t).toNat)
  case atStart => exact ⟨0, 0, Nat.zero_le _, rfl, rfl, rfl⟩
  case round =>
    obtain ⟨j, q, hj, rfl, rfl, rfl⟩ := hrel
    by_cases hlt : j < o
    · have hl1 : j < l.length := by rw [HN.out]; omega
      have hk1 : j < k.length := by rw [HM.out]; omega
      obtain ⟨b, off, rfl, _, hc⟩ := ha.at_ j hl1
      obtain ⟨b', off', rfl, _, hc'⟩ := hb.at_ j hk1
      have hi0 : (j : Int) < (o : Int) := by omega
      have hi1 : (j : Int) < (n : Int) := by omega
      have hi2 : (j : Int) < (m : Int) := by omega
      have HS := Lib.hid (show dotU l k j ^^^ mulU l[j] k[j] = dotU l k (j + 1) by
        rw [dotU, List.getD_eq_getElem?_getD, List.getD_eq_getElem?_getD, List.getElem?_eq_getElem hl1, List.getElem?_eq_getElem hk1]; rfl)
      generalize dotU l k j = s at *
      generalize l[j] = x at *
      generalize k[j] = y at *
      have HL := Lib.hid (fun r => fmul_any g x y (w.drewN r) (HF.out.drewN r))
      have HA := Lib.hid (fun r => add_any s (mulU x y) (w.drewN r))
      generalize mulU x y = p at *
      clear hl1 hk1
      go_wp2_with fail
      go_quiet (first
        | (go_at_call 53; (with_reducible refine (HL.out _).mono ?_; rintro e w'' ⟨rfl, r, rfl⟩; exact ⟨rfl, _, by rw [World.drewN_drewN, Nat.add_assoc]⟩))
        | (go_at_call 62; (with_reducible refine (HA.out _).mono ?_; exact fun e w'' h => ⟨h.1, _, h.2.symm⟩)))
      go_wp2_with fail
      go_roundw
      case rel => exact ⟨j + 1, _, by omega, by go_num, by rw [HS.out], rfl⟩
      case measure => simp [intOf]; omega
    · obtain rfl : o = j := by omega
      go_wp2_with fail
      go_ret
      exact ⟨rfl, _, rfl⟩

set_option maxRecDepth 100000 in
set_option maxHeartbeats 1000000 in
theorem fdot_any (g : Nat) (A B : Option Addr) (n m c d C D : Nat) (l k : List UInt8) (w : World) (hn : l.length = n) (hm : k.length = m) (h1 : n ≤ maxLen) (h2 : m ≤ maxLen) (ha : Rd w C A l) (hb : Rd w D B k) (hg : FdAt w g) :
    Calls Try.prog 32 #[.pointer (some ⟨g, 0, none⟩), .slice A n c, .slice B m d] w fun e w' => e = .returned (.int .u8 ((dotU l k (min n m)).toNat : Int)) ∧ ∃ q, w' = w.drewN q := by
  have HC := Lib.hid (sumOf_any g A B n m c d C D l k w hn hm h1 h2 ha hb hg)
  clear hn hm h1 h2 ha hb hg
  generalize dotU l k (min n m) = s at *
  go_enter Try.func32, Try.ntmps32
  go_wp2_with fail
  refine (HC.out).mono ?_
  rintro e w1 ⟨rfl, q, rfl⟩
  go_wp2_with fail
  go_ret
  exact ⟨rfl, q, rfl⟩
end Go.Proofs.Ytkgemngkkedcnaa
