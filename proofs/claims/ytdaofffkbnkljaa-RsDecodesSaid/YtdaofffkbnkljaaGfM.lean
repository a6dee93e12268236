/- The field of 256 in plain bytes: twice a byte, the powers of x, the logs, products, inverses. -/
import Derived.Test.YtdaofffkbnkljaaAesB
namespace Go.Proofs.Ytdaofffkbnkljaa
open Go.RowKit

/-- x times a byte. -/
def dN (x : Nat) : Nat := bif Nat.ble 128 x then Nat.xor (2 * x % 256) 29 else 2 * x % 256
set_option maxRecDepth 100000 in
theorem dN_all : ((List.range 256).all fun a => (List.range 256).all fun b => Nat.beq (dN (Nat.xor a b)) (Nat.xor (dN a) (dN b))) = true := by kernel_rfl
set_option maxRecDepth 100000 in
theorem dN_lt_all : ((List.range 256).all fun a => Nat.blt (dN a) 256) = true := by kernel_rfl
theorem dN_lt {a : Nat} (h : a < 256) : dN a < 256 := by
  have := List.all_eq_true.1 dN_lt_all a (List.mem_range.2 h)
  exact Nat.le_of_ble_eq_true this
def dblU (a : UInt8) : UInt8 := UInt8.ofNat (dN a.toNat)
theorem dblU_nat (a : UInt8) : (dblU a).toNat = dN a.toNat := by
  unfold dblU
  rw [UInt8.toNat_ofNat', Nat.mod_eq_of_lt (dN_lt a.toNat_lt)]
theorem dblU_xor (x y : UInt8) : dblU (x ^^^ y) = dblU x ^^^ dblU y := by
  apply UInt8.toNat_inj.1
  rw [UInt8.toNat_xor, dblU_nat, dblU_nat, dblU_nat, UInt8.toNat_xor]
  have h1 := List.all_eq_true.1 dN_all x.toNat (List.mem_range.2 x.toNat_lt)
  have h2 := List.all_eq_true.1 h1 y.toNat (List.mem_range.2 y.toNat_lt)
  exact Nat.eq_of_beq_eq_true h2
theorem dblU_zero : dblU 0 = 0 := by kernel_rfl

/-- x to the n. -/
def xpN : Nat → Nat
  | 0 => 1
  | n + 1 => dN (xpN n)
def xpU (n : Nat) : UInt8 := UInt8.ofNat (xpN n)
theorem xpN_lt (n : Nat) : xpN n < 256 := by
  induction n with
  | zero => decide
  | succ n ih => exact dN_lt ih
theorem xpU_nat (n : Nat) : (xpU n).toNat = xpN n := by
  unfold xpU
  rw [UInt8.toNat_ofNat', Nat.mod_eq_of_lt (xpN_lt n)]
theorem xpU_zero : xpU 0 = 1 := rfl
theorem xpU_succ (n : Nat) : xpU (n + 1) = dblU (xpU n) := by
  apply UInt8.toNat_inj.1
  rw [dblU_nat, xpU_nat, xpU_nat]; rfl
def xpT (n : Nat) : List UInt8 := (List.range n).map xpU
theorem xpT_len (n : Nat) : (xpT n).length = n := by simp [xpT]
theorem xpT_succ (n : Nat) : xpT (n + 1) = xpT n ++ [xpU n] := by simp [xpT, List.range_succ]
theorem xpT_at {m n : Nat} (h : n < m) : (xpT m).getD n 0 = xpU n := map_getD _ m n h

/-- Which power each byte is, as far as n powers tell. -/
def lgT : Nat → List UInt8
  | 0 => List.replicate 256 0
  | n + 1 => (lgT n).set (xpU n).toNat (UInt8.ofNat n)
theorem lgT_len (n : Nat) : (lgT n).length = 256 := by
  induction n with
  | zero => exact List.length_replicate ..
  | succ n ih => simp [lgT, ih]
/-- The log of a byte. -/
def lgN (a : UInt8) : Nat := ((lgT 255).getD a.toNat 0).toNat

/-- Powers and logs as numbers, so that the kernel makes each one once. -/
def lgGo : Nat → Nat → Nat → List Nat → List Nat → List Nat × List Nat
  | 0, _, _, e, t => (e, t)
  | f + 1, n, x, e, t => lgGo f (n + 1) (dN x) (x :: e) (t.set x n)
def xpR : Nat → List Nat
  | 0 => []
  | n + 1 => xpN n :: xpR n
def lgR : Nat → List Nat
  | 0 => List.replicate 256 0
  | n + 1 => (lgR n).set (xpN n) n
theorem lgGo_eq (f n : Nat) : lgGo f n (xpN n) (xpR n) (lgR n) = (xpR (n + f), lgR (n + f)) := by
  induction f generalizing n with
  | zero => rfl
  | succ f ih =>
    rw [lgGo, show n + (f + 1) = n + 1 + f by omega]
    exact ih (n + 1)
theorem lgR_lgT (n : Nat) : lgT n = (lgR n).map UInt8.ofNat := by
  induction n with
  | zero => rw [lgT, lgR, List.map_replicate]; rfl
  | succ n ih => rw [lgT, lgR, ih, xpU_nat, List.map_set]
theorem xpR_len (n : Nat) : (xpR n).length = n := by
  induction n with
  | zero => rfl
  | succ n ih => rw [xpR, List.length_cons, ih]
def xpV : List Nat := [1, 2, 4, 8, 16, 32, 64, 128, 29, 58, 116, 232, 205, 135, 19, 38, 76, 152, 45, 90, 180, 117, 234, 201, 143, 3, 6, 12, 24, 48, 96, 192, 157, 39, 78, 156, 37, 74, 148, 53, 106, 212, 181, 119, 238, 193, 159, 35, 70, 140, 5, 10, 20, 40, 80, 160, 93, 186, 105, 210, 185, 111, 222, 161, 95, 190, 97, 194, 153, 47, 94, 188, 101, 202, 137, 15, 30, 60, 120, 240, 253, 231, 211, 187, 107, 214, 177, 127, 254, 225, 223, 163, 91, 182, 113, 226, 217, 175, 67, 134, 17, 34, 68, 136, 13, 26, 52, 104, 208, 189, 103, 206, 129, 31, 62, 124, 248, 237, 199, 147, 59, 118, 236, 197, 151, 51, 102, 204, 133, 23, 46, 92, 184, 109, 218, 169, 79, 158, 33, 66, 132, 21, 42, 84, 168, 77, 154, 41, 82, 164, 85, 170, 73, 146, 57, 114, 228, 213, 183, 115, 230, 209, 191, 99, 198, 145, 63, 126, 252, 229, 215, 179, 123, 246, 241, 255, 227, 219, 171, 75, 150, 49, 98, 196, 149, 55, 110, 220, 165, 87, 174, 65, 130, 25, 50, 100, 200, 141, 7, 14, 28, 56, 112, 224, 221, 167, 83, 166, 81, 162, 89, 178, 121, 242, 249, 239, 195, 155, 43, 86, 172, 69, 138, 9, 18, 36, 72, 144, 61, 122, 244, 245, 247, 243, 251, 235, 203, 139, 11, 22, 44, 88, 176, 125, 250, 233, 207, 131, 27, 54, 108, 216, 173, 71, 142]
def lgV : List Nat := [0, 0, 1, 25, 2, 50, 26, 198, 3, 223, 51, 238, 27, 104, 199, 75, 4, 100, 224, 14, 52, 141, 239, 129, 28, 193, 105, 248, 200, 8, 76, 113, 5, 138, 101, 47, 225, 36, 15, 33, 53, 147, 142, 218, 240, 18, 130, 69, 29, 181, 194, 125, 106, 39, 249, 185, 201, 154, 9, 120, 77, 228, 114, 166, 6, 191, 139, 98, 102, 221, 48, 253, 226, 152, 37, 179, 16, 145, 34, 136, 54, 208, 148, 206, 143, 150, 219, 189, 241, 210, 19, 92, 131, 56, 70, 64, 30, 66, 182, 163, 195, 72, 126, 110, 107, 58, 40, 84, 250, 133, 186, 61, 202, 94, 155, 159, 10, 21, 121, 43, 78, 212, 229, 172, 115, 243, 167, 87, 7, 112, 192, 247, 140, 128, 99, 13, 103, 74, 222, 237, 49, 197, 254, 24, 227, 165, 153, 119, 38, 184, 180, 124, 17, 68, 146, 217, 35, 32, 137, 46, 55, 63, 209, 91, 149, 188, 207, 205, 144, 135, 151, 178, 220, 252, 190, 97, 242, 86, 211, 171, 20, 42, 93, 158, 132, 60, 57, 83, 71, 109, 65, 162, 31, 45, 67, 216, 183, 123, 164, 118, 196, 23, 73, 236, 127, 12, 111, 246, 108, 161, 59, 82, 41, 157, 85, 170, 251, 96, 134, 177, 187, 204, 62, 90, 203, 89, 95, 176, 156, 169, 160, 81, 11, 245, 22, 235, 122, 117, 44, 215, 79, 174, 213, 233, 230, 231, 173, 232, 116, 214, 244, 234, 168, 80, 88, 175]
set_option maxRecDepth 100000 in
theorem lgGo_tab : lgGo 255 0 1 [] (List.replicate 256 0) = (xpV.reverse, lgV) := by kernel_rfl
theorem lgGo_any (n : Nat) : lgGo n 0 1 [] (List.replicate 256 0) = (xpR n, lgR n) := by
  have := lgGo_eq n 0
  rw [Nat.zero_add] at this
  exact this
theorem lgGo_all : (xpR 255, lgR 255) = (xpV.reverse, lgV) := (lgGo_any 255).symm.trans lgGo_tab
theorem xpR_eq : xpR 255 = xpV.reverse := (Prod.mk.inj lgGo_all).1
theorem lgR_eq : lgR 255 = lgV := (Prod.mk.inj lgGo_all).2
theorem xpR_at {m n : Nat} (h : n < m) : (xpR m).reverse.getD n 0 = xpN n := by
  induction m with
  | zero => omega
  | succ m ih =>
    rw [xpR, List.reverse_cons]
    by_cases hm : n = m
    · subst hm
      rw [List.getD_eq_getElem?_getD, List.getElem?_append_right (by rw [List.length_reverse, xpR_len]; exact Nat.le_refl _), List.length_reverse, xpR_len, Nat.sub_self]
      rfl
    · rw [List.getD_eq_getElem?_getD, List.getElem?_append_left (by rw [List.length_reverse, xpR_len]; omega), ← List.getD_eq_getElem?_getD]
      exact ih (by omega)
theorem xpN_at {n : Nat} (h : n < 255) : xpV.getD n 0 = xpN n := by
  have := xpR_at h
  rwa [xpR_eq, List.reverse_reverse] at this
set_option maxRecDepth 100000 in
theorem lgV_lt : (lgV.all fun v => Nat.blt v 256) = true := by kernel_rfl
theorem lgN_at (a : UInt8) : lgN a = lgV.getD a.toNat 0 := by
  have hl : a.toNat < lgV.length := by rw [← lgR_eq, ← List.length_map (f := UInt8.ofNat), ← lgR_lgT, lgT_len]; exact a.toNat_lt
  unfold lgN
  rw [lgR_lgT, lgR_eq, List.getD_eq_getElem?_getD, List.getElem?_map, List.getD_eq_getElem?_getD, List.getElem?_eq_getElem hl]
  show (UInt8.ofNat lgV[a.toNat]).toNat = lgV[a.toNat]
  rw [UInt8.toNat_ofNat', Nat.mod_eq_of_lt]
  exact Nat.le_of_ble_eq_true (List.all_eq_true.1 lgV_lt _ (List.getElem_mem hl))
set_option maxRecDepth 100000 in
theorem lg_xp_all : ((List.range 255).all fun n => Nat.beq (lgV.getD (xpV.getD n 0) 0) n) = true := by kernel_rfl
set_option maxRecDepth 100000 in
theorem xp_lg_all : ((List.range 256).all fun a => Nat.beq a 0 || (Nat.beq (xpV.getD (lgV.getD a 0) 0) a && Nat.blt (lgV.getD a 0) 255)) = true := by kernel_rfl
theorem lg_xp {n : Nat} (h : n < 255) : lgN (xpU n) = n := by
  rw [lgN_at, xpU_nat, ← xpN_at h]
  exact Nat.eq_of_beq_eq_true (List.all_eq_true.1 lg_xp_all n (List.mem_range.2 h))
theorem xp_lg {a : UInt8} (h : a ≠ 0) : xpU (lgN a) = a ∧ lgN a < 255 := by
  have h1 := List.all_eq_true.1 xp_lg_all a.toNat (List.mem_range.2 a.toNat_lt)
  rw [← lgN_at] at h1
  have h0 : ¬ Nat.beq a.toNat 0 = true := fun hh => h (UInt8.toNat_inj.1 (Nat.eq_of_beq_eq_true hh))
  rw [Bool.or_eq_true, Bool.and_eq_true] at h1
  obtain h1 | ⟨h1, h2⟩ := h1
  · exact absurd h1 h0
  · have h3 : lgN a < 255 := Nat.le_of_ble_eq_true h2
    refine ⟨UInt8.toNat_inj.1 ?_, h3⟩
    rw [xpU_nat, ← xpN_at h3]
    exact Nat.eq_of_beq_eq_true h1
theorem xpN_end : xpN 255 = 1 := by
  show dN (xpN 254) = 1
  rw [← xpN_at (by decide)]
  kernel_rfl
theorem xpN_turn (n : Nat) : xpN (n + 255) = xpN n := by
  induction n with
  | zero => rw [Nat.zero_add]; exact xpN_end
  | succ n ih =>
    have : n + 1 + 255 = (n + 255) + 1 := by omega
    rw [this]
    show dN (xpN (n + 255)) = dN (xpN n)
    rw [ih]
theorem xpN_mod (n : Nat) : xpN n = xpN (n % 255) := by
  induction n using Nat.strongRecOn with
  | ind n ih =>
    by_cases h : n < 255
    · rw [Nat.mod_eq_of_lt h]
    · obtain ⟨m, rfl⟩ : ∃ m, n = m + 255 := ⟨n - 255, by omega⟩
      rw [xpN_turn, ih m (by omega), Nat.add_mod_right]
theorem xpU_mod (n : Nat) : xpU n = xpU (n % 255) := by unfold xpU; rw [xpN_mod]
theorem xpU_congr {m n : Nat} (h : m % 255 = n % 255) : xpU m = xpU n := by rw [xpU_mod m, xpU_mod n, h]
theorem xpU_turn (n : Nat) : xpU (n + 255) = xpU n := xpU_congr (by omega)
theorem lg_xp_any (n : Nat) : lgN (xpU n) = n % 255 := by rw [xpU_mod, lg_xp (Nat.mod_lt _ (by decide))]
theorem xpN_pos {n : Nat} (h : n < 255) : xpN n ≠ 0 := fun h0 => by
  have h1 := Nat.eq_of_beq_eq_true (List.all_eq_true.1 lg_xp_all n (List.mem_range.2 h))
  rw [xpN_at h, h0] at h1
  obtain rfl : n = 0 := by rw [← h1]; kernel_rfl
  exact absurd h0 (by decide)
theorem xpU_ne (n : Nat) : xpU n ≠ 0 := fun h => by
  rw [xpU_mod] at h
  have h1 := xpU_nat (n % 255)
  rw [h] at h1
  exact xpN_pos (Nat.mod_lt n (by decide)) h1.symm
theorem xpU_inj {m n : Nat} (h : xpU m = xpU n) : m % 255 = n % 255 := by rw [← lg_xp_any, ← lg_xp_any, h]

/-! ### The product -/
def mulU (a b : UInt8) : UInt8 := if a = 0 ∨ b = 0 then 0 else xpU (lgN a + lgN b)
theorem mulU_zero (a : UInt8) : mulU a 0 = 0 := by unfold mulU; rw [if_pos (.inr rfl)]
theorem mulU_zero' (a : UInt8) : mulU 0 a = 0 := by unfold mulU; rw [if_pos (.inl rfl)]
theorem mulU_comm (a b : UInt8) : mulU a b = mulU b a := by
  unfold mulU
  by_cases h : a = 0 ∨ b = 0
  · rw [if_pos h, if_pos h.symm]
  · rw [if_neg h, if_neg fun g => h g.symm, Nat.add_comm]
theorem mulU_xp (m n : Nat) : mulU (xpU m) (xpU n) = xpU (m + n) := by
  unfold mulU
  rw [if_neg (by simp [xpU_ne]), lg_xp_any, lg_xp_any]
  exact xpU_congr (by omega)
theorem byte_cases (a : UInt8) : a = 0 ∨ ∃ n, n < 255 ∧ a = xpU n := by
  by_cases h : a = 0
  · exact .inl h
  · exact .inr ⟨lgN a, (xp_lg h).2, (xp_lg h).1.symm⟩
theorem mulU_assoc (a b c : UInt8) : mulU (mulU a b) c = mulU a (mulU b c) := by
  obtain rfl | ⟨i, -, rfl⟩ := byte_cases a
  · simp only [mulU_zero']
  · obtain rfl | ⟨j, -, rfl⟩ := byte_cases b
    · simp only [mulU_zero', mulU_zero]
    · obtain rfl | ⟨k, -, rfl⟩ := byte_cases c
      · simp only [mulU_zero]
      · simp only [mulU_xp, Nat.add_assoc]
theorem mulU_one (a : UInt8) : mulU a 1 = a := by
  obtain rfl | ⟨i, -, rfl⟩ := byte_cases a
  · exact mulU_zero' _
  · rw [← xpU_zero, mulU_xp]; rfl
theorem mulU_two (a : UInt8) : mulU 2 a = dblU a := by
  have h2 : (2 : UInt8) = xpU 1 := rfl
  obtain rfl | ⟨i, -, rfl⟩ := byte_cases a
  · rw [mulU_zero, dblU_zero]
  · rw [h2, mulU_xp, Nat.add_comm, xpU_succ]
theorem mulU_dbl (a b : UInt8) : mulU (dblU a) b = dblU (mulU a b) := by rw [← mulU_two, mulU_assoc, mulU_two]
theorem mulU_dbl' (a b : UInt8) : mulU a (dblU b) = mulU (dblU a) b := by rw [mulU_comm, mulU_dbl, mulU_comm b a, mulU_dbl]
theorem mulU_xor_xp (i : Nat) (b c : UInt8) : mulU (xpU i) (b ^^^ c) = mulU (xpU i) b ^^^ mulU (xpU i) c := by
  induction i with
  | zero => rw [xpU_zero, mulU_comm, mulU_one, mulU_comm, mulU_one, mulU_comm, mulU_one]
  | succ i ih => rw [xpU_succ, mulU_dbl, mulU_dbl, mulU_dbl, ih, dblU_xor]
theorem mulU_xor (a b c : UInt8) : mulU a (b ^^^ c) = mulU a b ^^^ mulU a c := by
  obtain rfl | ⟨i, -, rfl⟩ := byte_cases a
  · simp only [mulU_zero', UInt8.xor_self]
  · exact mulU_xor_xp i b c
theorem mulU_xor' (a b c : UInt8) : mulU (a ^^^ b) c = mulU a c ^^^ mulU b c := by rw [mulU_comm, mulU_xor, mulU_comm c a, mulU_comm c b]
theorem mulU_ne {a b : UInt8} (ha : a ≠ 0) (hb : b ≠ 0) : mulU a b ≠ 0 := by
  unfold mulU
  rw [if_neg (by simp [ha, hb])]
  exact xpU_ne _

/-! ### Inverses -/
def ivU (a : UInt8) : UInt8 := if a = 0 then 0 else xpU (255 - lgN a)
theorem ivU_zero : ivU 0 = 0 := rfl
theorem ivU_mul {a : UInt8} (h : a ≠ 0) : mulU a (ivU a) = 1 := by
  obtain ⟨h1, h2⟩ := xp_lg h
  unfold ivU
  rw [if_neg h]
  have := mulU_xp (lgN a) (255 - lgN a)
  rw [h1, show lgN a + (255 - lgN a) = 0 + 255 by omega, xpU_turn] at this
  exact this
theorem ivU_ne {a : UInt8} (h : a ≠ 0) : ivU a ≠ 0 := fun h0 => by
  have := ivU_mul h
  rw [h0, mulU_zero] at this
  exact absurd this (by decide)
theorem ivU_only {a b : UInt8} (h : mulU a b = 1) : b = ivU a := by
  have ha : a ≠ 0 := fun h0 => by rw [h0, mulU_zero'] at h; exact absurd h (by decide)
  have h1 := congrArg (mulU (ivU a)) h
  rwa [← mulU_assoc, mulU_comm (ivU a) a, ivU_mul ha, mulU_comm, mulU_one, mulU_one] at h1
theorem ivU_ivU (a : UInt8) : ivU (ivU a) = a := by
  by_cases h : a = 0
  · subst h; rfl
  · exact (ivU_only (by rw [mulU_comm]; exact ivU_mul h)).symm
theorem mulU_over {a b : UInt8} (h : a ≠ 0) : mulU (mulU a b) (ivU a) = b := by
  rw [mulU_comm a b, mulU_assoc, ivU_mul h, mulU_one]

/-! ### Powers -/
def pwU (a : UInt8) : Nat → UInt8
  | 0 => 1
  | n + 1 => mulU (pwU a n) a
theorem pwU_xp (i n : Nat) : pwU (xpU i) n = xpU (i * n) := by
  induction n with
  | zero => rw [Nat.mul_zero]; rfl
  | succ n ih => rw [pwU, ih, mulU_xp, Nat.mul_succ]
theorem pwU_zero {n : Nat} (h : 0 < n) : pwU 0 n = 0 := by
  obtain ⟨m, rfl⟩ : ∃ m, n = m + 1 := ⟨n - 1, by omega⟩
  rw [pwU, mulU_zero]
theorem pwU_add (a : UInt8) (m n : Nat) : mulU (pwU a m) (pwU a n) = pwU a (m + n) := by
  induction n with
  | zero => rw [pwU, mulU_one]; rfl
  | succ n ih => rw [pwU, ← mulU_assoc, ih]; rfl
theorem pwU_turn {a : UInt8} {m n : Nat} (hm : 0 < m) (hn : 0 < n) (h : m % 255 = n % 255) : pwU a m = pwU a n := by
  obtain rfl | ⟨i, -, rfl⟩ := byte_cases a
  · rw [pwU_zero hm, pwU_zero hn]
  · rw [pwU_xp, pwU_xp]
    exact xpU_congr (by rw [Nat.mul_mod, h, ← Nat.mul_mod])
theorem pwU_two (a : UInt8) : pwU a 2 = mulU a a := by
  show mulU (mulU 1 a) a = _
  rw [mulU_comm 1 a, mulU_one]
theorem pwU_sq (a b : UInt8) : pwU (a ^^^ b) 2 = pwU a 2 ^^^ pwU b 2 := by
  rw [pwU_two, pwU_two, pwU_two, mulU_xor, mulU_xor', mulU_xor', mulU_comm b a, UInt8.xor_assoc, ← UInt8.xor_assoc (mulU a b), UInt8.xor_self, UInt8.zero_xor]
theorem pwU_x (n : Nat) : pwU 2 n = xpU n := by
  have := pwU_xp 1 n
  rwa [Nat.one_mul] at this
theorem pwU_255 {a : UInt8} (h : a ≠ 0) : pwU a 255 = 1 := by
  obtain rfl | ⟨i, -, rfl⟩ := byte_cases a
  · exact absurd rfl h
  · rw [pwU_xp, xpU_mod, Nat.mul_mod_left]; rfl

/-! ### Sums of products -/
def dotU (a b : List UInt8) : Nat → UInt8
  | 0 => 0
  | n + 1 => dotU a b n ^^^ mulU (a.getD n 0) (b.getD n 0)
theorem dotU_comm (a b : List UInt8) (n : Nat) : dotU a b n = dotU b a n := by
  induction n with
  | zero => rfl
  | succ n ih => rw [dotU, dotU, ih, mulU_comm]
end Go.Proofs.Ytdaofffkbnkljaa
