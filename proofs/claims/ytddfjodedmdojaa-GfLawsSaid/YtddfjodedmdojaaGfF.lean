/- The methods of the program's field: product, inverse, quotient, power, sum of products. -/
import Derived.Test.YtddfjodedmdojaaGfN
import Derived.Test.YtddfjodedmdojaaMem
namespace Go.Proofs.Ytddfjodedmdojaa
open Go.RowKit

/-- At g there is a field, its tables made. -/
def FdAt (w : World) (g : Nat) : Prop := FdZ w g ivT
theorem FdAt.drewN {w : World} {g : Nat} (h : FdAt w g) (q : Nat) : FdAt (w.drewN q) g := FdZ.drewN h q
theorem FdAt.below {w w' : World} {B g : Nat} (h : FdAt w g) (hb : Below B w w') (hg : g < B) : FdAt w' g := FdZ.below h hb hg
theorem FdAt.lt {w : World} {g : Nat} (h : FdAt w g) : g < w.heap.size := FdZ.lt h

set_option maxRecDepth 100000 in
set_option maxHeartbeats 1000000 in
theorem fmul_any (g : Nat) (a b : UInt8) (w : World) (h : FdAt w g) :
    Calls Try.prog 14 #[.pointer (some ⟨g, 0, none⟩), .int .u8 (a.toNat : Int), .int .u8 (b.toNat : Int)] w fun e w' => e = .returned (.int .u8 ((mulU a b).toNat : Int)) ∧ ∃ q, w' = w.drewN q := by
  by_cases h0 : a = 0
  · subst h0
    have hz : ((0 : UInt8).toNat : Int) = 0 := rfl
    have HM := Lib.hid (mulU_zero' b)
    go_enter Try.func14, Try.ntmps14
    go_wp2_with fail
    go_ret
    exact ⟨retB (by rw [HM.out]; rfl), 0, rfl⟩
  · by_cases h1 : b = 0
    · subst h1
      have ha := pos8' h0
      have hz : ((0 : UInt8).toNat : Int) = 0 := rfl
      have hae : ((a.toNat : Int) == 0) = false := beq_eq_false_iff_ne.2 (by omega)
      have HM := Lib.hid (mulU_zero a)
      clear h0
      go_enter Try.func14, Try.ntmps14
      go_wp2_with fail
      go_ret
      exact ⟨retB (by rw [HM.out]; rfl), 0, rfl⟩
    · have ha := pos8' h0
      have hb := pos8' h1
      have hae : ((a.toNat : Int) == 0) = false := beq_eq_false_iff_ne.2 (by omega)
      have hbe : ((b.toNat : Int) == 0) = false := beq_eq_false_iff_ne.2 (by omega)
      have hl := (xp_lg h0).2
      have hl2 := (xp_lg h1).2
      have hc := FdZ.pow h (n := lgN a + lgN b) (by omega)
      have HL := Lib.hid (fun q => log_any g ivT a (w.drewN q) (h.drewN q))
      have HL2 := Lib.hid (fun q => log_any g ivT b (w.drewN q) (h.drewN q))
      have HV := Lib.hid (show xpU (lgN a + lgN b) = mulU a b by unfold mulU; rw [if_neg (by simp [h0, h1])])
      rw [HV.out] at hc
      clear h0 h1 HV
      generalize mulU a b = c at *
      generalize lgN a = n at *
      generalize lgN b = m at *
      obtain ⟨k, hk⟩ : ∃ k, n + m = k := ⟨_, rfl⟩
      rw [hk] at hc
      have e1 : (n : Int) + (m : Int) = (k : Int) := by omega
      have i1 : (k : Int) < 510 := by omega
      clear hk
      go_enter Try.func14, Try.ntmps14
      go_wp2_with fail
      go_quiet ((go_at_call 28; first | (with_reducible refine (HL.out _).mono ?_; exact fun e w'' h => ⟨h.1, _, h.2.symm⟩) | (with_reducible refine (HL2.out _).mono ?_; exact fun e w'' h => ⟨h.1, _, h.2.symm⟩)))
      go_wp2_with fail
      go_ret
      exact ⟨rfl, _, rfl⟩

theorem finv_any (g : Nat) (a : UInt8) (w : World) (h : FdAt w g) :
    Calls Try.prog 20 #[.pointer (some ⟨g, 0, none⟩), .int .u8 (a.toNat : Int)] w fun e w' => e = .returned (.int .u8 ((ivU a).toNat : Int)) ∧ w = w' := by
  have ha := a.toNat_lt
  have hai : (a.toNat : Int) < 256 := by omega
  have hc := FdZ.inv h (n := a.toNat) ha
  rw [ivT_at] at hc
  generalize ivU a = x at *
  go_enter Try.func20, Try.ntmps20
  go_wp2_with fail
  go_ret
  exact ⟨rfl, rfl⟩

/-- The error of a quotient. -/
def divE (b : UInt8) : Int := if b = 0 then 1 else 0
theorem divE_zero : divE 0 = 1 := rfl
theorem divE_else {b : UInt8} (h : b ≠ 0) : divE b = 0 := if_neg h
set_option maxRecDepth 100000 in
set_option maxHeartbeats 1000000 in
theorem fdiv_any (g : Nat) (a b : UInt8) (w : World) (h : FdAt w g) :
    Calls Try.prog 18 #[.pointer (some ⟨g, 0, none⟩), .int .u8 (a.toNat : Int), .int .u8 (b.toNat : Int)] w fun e w' => e = .returned (.tuple #[.int .u8 ((mulU a (ivU b)).toNat : Int), .int .i64 (divE b)]) ∧ ∃ q, w' = w.drewN q := by
  by_cases h0 : b = 0
  · subst h0
    have hz : ((0 : UInt8).toNat : Int) = 0 := rfl
    have HM := Lib.hid (show mulU a (ivU 0) = 0 by rw [ivU_zero, mulU_zero])
    have HI := Lib.hid divE_zero
    go_enter Try.func18, Try.ntmps18
    go_wp2_with fail
    go_ret2
    exact ⟨by rw [HM.out, HI.out]; rfl, 0, rfl⟩
  · have hb := pos8' h0
    have hbe : ((b.toNat : Int) == 0) = false := beq_eq_false_iff_ne.2 (by omega)
    have HI := Lib.hid (divE_else h0)
    have HV := Lib.hid (finv_any g b w h)
    have HM := Lib.hid (fmul_any g a (ivU b) w h)
    clear h0
    generalize ivU b = c at *
    go_enter Try.func18, Try.ntmps18
    go_wp2_with fail
    refine (HV.out).mono ?_
    rintro e w1 ⟨rfl, rfl⟩
    go_wp2_with fail
    refine (HM.out).mono ?_
    rintro e w1 ⟨rfl, q, rfl⟩
    go_wp2_with fail
    go_ret2
    exact ⟨by rw [HI.out]; rfl, q, rfl⟩

/-! ### Powers -/
def fpU (a : UInt8) (n : Int) : UInt8 := pwU a n.toNat
theorem fpU_none (a : UInt8) {n : Int} (h : n ≤ 0) : fpU a n = 1 := by unfold fpU; rw [show n.toNat = 0 by omega]; rfl
theorem fpU_zero {n : Int} (h : 0 < n) : fpU 0 n = 0 := pwU_zero (by omega)
theorem fpU_pos {a : UInt8} {n : Int} (h : a ≠ 0) : fpU a n = xpU (lgN a * n.toNat) := by
  unfold fpU
  conv => lhs; rw [← (xp_lg h).1, pwU_xp]
theorem fpU_mod {a : UInt8} {n : Int} (h : a ≠ 0) : xpU (lgN a * (n.toNat % 255) % 255) = fpU a n := by
  rw [fpU_pos h]
  exact xpU_congr (by rw [Nat.mod_mod, Nat.mul_mod, Nat.mod_mod, ← Nat.mul_mod])
set_option maxRecDepth 100000 in
set_option maxHeartbeats 1000000 in
theorem fpow_any (g : Nat) (a : UInt8) (n : Int) (w : World) (hn : -9223372036854775808 ≤ n ∧ n < 9223372036854775808) (h : FdAt w g) :
    Calls Try.prog 12 #[.pointer (some ⟨g, 0, none⟩), .int .u8 (a.toNat : Int), .int .i64 n] w fun e w' => e = .returned (.int .u8 ((fpU a n).toNat : Int)) ∧ ∃ q, w' = w.drewN q := by
  obtain ⟨hn0, hn1⟩ := hn
  by_cases hb : n ≤ 0
  · have HP := Lib.hid (fpU_none a hb)
    go_enter Try.func12, Try.ntmps12
    go_wp2_with fail
    go_ret
    exact ⟨retB (by rw [HP.out]; rfl), 0, rfl⟩
  · by_cases h0 : a = 0
    · subst h0
      have hz : ((0 : UInt8).toNat : Int) = 0 := rfl
      have HP := Lib.hid (fpU_zero (show 0 < n by omega))
      go_enter Try.func12, Try.ntmps12
      go_wp2_with fail
      go_ret
      exact ⟨retB (by rw [HP.out]; rfl), 0, rfl⟩
    · have ha := pos8' h0
      have hae : ((a.toNat : Int) == 0) = false := beq_eq_false_iff_ne.2 (by omega)
      have hl := (xp_lg h0).2
      have HL := Lib.hid (fun q => log_any g ivT a (w.drewN q) (h.drewN q))
      have hc := FdZ.pow h (n := lgN a * (n.toNat % 255) % 255) (by omega)
      have HV := Lib.hid (fpU_mod (n := n) h0)
      rw [HV.out] at hc
      clear h0 HV
      generalize fpU a n = c at *
      obtain ⟨r, hr⟩ : ∃ r, n.toNat % 255 = r := ⟨_, rfl⟩
      have e1 : n % 255 = (r : Int) := by omega
      have hrl : r < 255 := by omega
      rw [hr] at hc
      clear hr
      generalize lgN a = m at *
      obtain ⟨p, hp⟩ : ∃ p, m * r = p := ⟨_, rfl⟩
      have e2 : (m : Int) * (r : Int) = (p : Int) := by rw [← hp]; simp
      have hpl : p < 65536 := by rw [← hp]; exact Nat.lt_of_le_of_lt (Nat.mul_le_mul (show m ≤ 255 by omega) (show r ≤ 255 by omega)) (by decide)
      rw [hp] at hc
      obtain ⟨k, hk⟩ : ∃ k, p % 255 = k := ⟨_, rfl⟩
      have e3 : (p : Int) % 255 = (k : Int) := by omega
      have i1 : (k : Int) < 510 := by omega
      rw [hk] at hc
      clear hp hk
      go_enter Try.func12, Try.ntmps12
      go_wp2_with fail
      go_quiet ((go_at_call 28; (with_reducible refine (HL.out _).mono ?_; exact fun e w'' h => ⟨h.1, _, h.2.symm⟩)))
      go_wp2_with fail
      go_ret
      exact ⟨rfl, _, rfl⟩
end Go.Proofs.Ytddfjodedmdojaa
