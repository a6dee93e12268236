/- Unlike blocks of one key are unlike still, in plain bytes. -/
import Derived.Test.YtcajlmlblkdjoaaAesT
namespace Go.Proofs.Ytcajlmlblkdjoaa
open Go.RowKit

theorem xor_self_left (x y : UInt8) : x ^^^ (x ^^^ y) = y := by rw [← UInt8.xor_assoc, UInt8.xor_self, UInt8.zero_xor]
theorem xor_left_comm8 (x y z : UInt8) : x ^^^ (y ^^^ z) = y ^^^ (x ^^^ z) := by rw [← UInt8.xor_assoc, UInt8.xor_comm x y, UInt8.xor_assoc]
theorem xor_cancel {x y c : UInt8} (h : x ^^^ c = y ^^^ c) : x = y := by
  have := congrArg (fun z => z ^^^ c) h
  simpa [UInt8.xor_assoc] using this
def tN (x : Nat) : Nat := bif Nat.ble 128 x then Nat.xor (2 * x % 256) 27 else 2 * x % 256
set_option maxRecDepth 100000 in
theorem tN_all : ((List.range 256).all fun a => (List.range 256).all fun b => Nat.beq (tN (Nat.xor a b)) (Nat.xor (tN a) (tN b))) = true := by kernel_rfl
theorem twU_nat (x : UInt8) : (twU x).toNat = tN x.toNat := by
  have hx := x.toNat_lt
  unfold twU tN
  by_cases h : 128 ≤ x.toNat
  · rw [if_pos h, UInt8.toNat_xor, UInt8.toNat_ofNat', show Nat.ble 128 x.toNat = true from by rw [Nat.ble_eq]; exact h]
    rfl
  · rw [if_neg h, UInt8.toNat_ofNat', show Nat.ble 128 x.toNat = false from by rw [← Bool.not_eq_true, Nat.ble_eq]; exact h]
    rfl
theorem twU_xor (x y : UInt8) : twU (x ^^^ y) = twU x ^^^ twU y := by
  apply UInt8.toNat_inj.1
  rw [UInt8.toNat_xor, twU_nat, twU_nat, twU_nat, UInt8.toNat_xor]
  have h1 := List.all_eq_true.1 tN_all x.toNat (List.mem_range.2 x.toNat_lt)
  have h2 := List.all_eq_true.1 h1 y.toNat (List.mem_range.2 y.toNat_lt)
  exact Nat.eq_of_beq_eq_true h2

/-! ### The substitution -/
def invB : List UInt8 := [82, 9, 106, 213, 48, 54, 165, 56, 191, 64, 163, 158, 129, 243, 215, 251, 124, 227, 57, 130, 155, 47, 255, 135, 52, 142, 67, 68, 196, 222, 233, 203, 84, 123, 148, 50, 166, 194, 35, 61, 238, 76, 149, 11, 66, 250, 195, 78, 8, 46, 161, 102, 40, 217, 36, 178, 118, 91, 162, 73, 109, 139, 209, 37, 114, 248, 246, 100, 134, 104, 152, 22, 212, 164, 92, 204, 93, 101, 182, 146, 108, 112, 72, 80, 253, 237, 185, 218, 94, 21, 70, 87, 167, 141, 157, 132, 144, 216, 171, 0, 140, 188, 211, 10, 247, 228, 88, 5, 184, 179, 69, 6, 208, 44, 30, 143, 202, 63, 15, 2, 193, 175, 189, 3, 1, 19, 138, 107, 58, 145, 17, 65, 79, 103, 220, 234, 151, 242, 207, 206, 240, 180, 230, 115, 150, 172, 116, 34, 231, 173, 53, 133, 226, 249, 55, 232, 28, 117, 223, 110, 71, 241, 26, 113, 29, 41, 197, 137, 111, 183, 98, 14, 170, 24, 190, 27, 252, 86, 62, 75, 198, 210, 121, 32, 154, 219, 192, 254, 120, 205, 90, 244, 31, 221, 168, 51, 136, 7, 199, 49, 177, 18, 16, 89, 39, 128, 236, 95, 96, 81, 127, 169, 25, 181, 74, 13, 45, 229, 122, 159, 147, 201, 156, 239, 160, 224, 59, 77, 174, 42, 245, 176, 200, 235, 187, 60, 131, 83, 153, 97, 23, 43, 4, 126, 186, 119, 214, 38, 225, 105, 20, 99, 85, 33, 12, 125]
set_option maxRecDepth 100000 in
theorem invB_all : ((List.range 256).all fun n => Nat.beq (invB.getD (boxV.getD n 0).toNat 0).toNat n) = true := by kernel_rfl
theorem sU_inj {x y : UInt8} (h : sU x = sU y) : x = y := by
  rw [sU_eq, sU_eq] at h
  unfold sV at h
  have h1 := Nat.eq_of_beq_eq_true (List.all_eq_true.1 invB_all x.toNat (List.mem_range.2 x.toNat_lt))
  have h2 := Nat.eq_of_beq_eq_true (List.all_eq_true.1 invB_all y.toNat (List.mem_range.2 y.toNat_lt))
  rw [h] at h1
  exact UInt8.toNat_inj.1 (h1.symm.trans h2)

theorem ext16 {x y : List UInt8} (hx : x.length = 16) (hy : y.length = 16) (h : ∀ n, n < 16 → x.getD n 0 = y.getD n 0) : x = y := by
  apply List.ext_getElem (by omega)
  intro n h1 h2
  have := h n (by omega)
  simpa [List.getD_eq_getElem?_getD, List.getElem?_eq_getElem h1, List.getElem?_eq_getElem h2] using this
theorem addU_inj {ks y z : List UInt8} {r : Nat} (hy : y.length = 16) (hz : z.length = 16) (h : addU ks r y = addU ks r z) : y = z := by
  refine ext16 hy hz fun n hn => ?_
  have h1 := addU_at ks r y hn
  rw [h, addU_at ks r z hn] at h1
  exact (xor_cancel h1).symm
theorem subU_inj {x y : List UInt8} (hx : x.length = 16) (hy : y.length = 16) (h : subU x = subU y) : x = y := by
  refine ext16 hx hy fun m hm => ?_
  have key : ∀ m : Fin 16, ∃ n : Fin 16, (4 * (n.val / 4 + n.val % 4) + n.val % 4) % 16 = m.val := by decide
  obtain ⟨n, hn⟩ := key ⟨m, hm⟩
  have h1 := subU_at x n.isLt
  rw [h, subU_at y n.isLt, hn] at h1
  exact (sU_inj h1).symm

/-! ### The columns -/
theorem col_inj {a b c d a' b' c' d' : UInt8} (h0 : twU a ^^^ twU b ^^^ b ^^^ c ^^^ d = twU a' ^^^ twU b' ^^^ b' ^^^ c' ^^^ d') (h1 : twU b ^^^ twU c ^^^ c ^^^ d ^^^ a = twU b' ^^^ twU c' ^^^ c' ^^^ d' ^^^ a')
    (h2 : twU c ^^^ twU d ^^^ d ^^^ a ^^^ b = twU c' ^^^ twU d' ^^^ d' ^^^ a' ^^^ b') (h3 : twU d ^^^ twU a ^^^ a ^^^ b ^^^ c = twU d' ^^^ twU a' ^^^ a' ^^^ b' ^^^ c') : a = a' ∧ b = b' ∧ c = c' ∧ d = d' := by
  have sum : ∀ a b c d : UInt8, (twU a ^^^ twU b ^^^ b ^^^ c ^^^ d) ^^^ (twU b ^^^ twU c ^^^ c ^^^ d ^^^ a) ^^^ (twU c ^^^ twU d ^^^ d ^^^ a ^^^ b) ^^^ (twU d ^^^ twU a ^^^ a ^^^ b ^^^ c) = a ^^^ b ^^^ c ^^^ d := by
    intro a b c d
    simp only [UInt8.xor_assoc, UInt8.xor_comm, xor_left_comm8, xor_self_left, UInt8.xor_self, UInt8.xor_zero]
  have hs : a ^^^ b ^^^ c ^^^ d = a' ^^^ b' ^^^ c' ^^^ d' := by rw [← sum a b c d, ← sum a' b' c' d', h0, h1, h2, h3]
  have even : ∀ a b c d : UInt8, (twU a ^^^ twU b ^^^ b ^^^ c ^^^ d) ^^^ (twU c ^^^ twU d ^^^ d ^^^ a ^^^ b) ^^^ twU (a ^^^ b ^^^ c ^^^ d) = a ^^^ c := by
    intro a b c d
    simp only [twU_xor, UInt8.xor_assoc, UInt8.xor_comm, xor_left_comm8, xor_self_left, UInt8.xor_self, UInt8.xor_zero]
  have hac : a ^^^ c = a' ^^^ c' := by rw [← even a b c d, ← even a' b' c' d', h0, h2, hs]
  have odd : ∀ a b c d : UInt8, (twU a ^^^ twU b ^^^ b ^^^ c ^^^ d) ^^^ (twU b ^^^ twU c ^^^ c ^^^ d ^^^ a) ^^^ twU (a ^^^ c) = a ^^^ b := by
    intro a b c d
    simp only [twU_xor, UInt8.xor_assoc, UInt8.xor_comm, xor_left_comm8, xor_self_left, UInt8.xor_self, UInt8.xor_zero]
  have hab : a ^^^ b = a' ^^^ b' := by rw [← odd a b c d, ← odd a' b' c' d', h0, h1, hac]
  have one : ∀ a b c d : UInt8, (twU a ^^^ twU b ^^^ b ^^^ c ^^^ d) ^^^ (a ^^^ b ^^^ c ^^^ d) ^^^ twU (a ^^^ b) = a := by
    intro a b c d
    simp only [twU_xor, UInt8.xor_assoc, UInt8.xor_comm, xor_left_comm8, xor_self_left, UInt8.xor_self, UInt8.xor_zero]
  have ha : a = a' := by rw [← one a b c d, ← one a' b' c' d', h0, hs, hab]
  subst ha
  have hb : b = b' := by rw [UInt8.xor_comm a b, UInt8.xor_comm a b'] at hab; exact xor_cancel hab
  have hc : c = c' := by rw [UInt8.xor_comm a c, UInt8.xor_comm a c'] at hac; exact xor_cancel hac
  subst hb hc
  refine ⟨rfl, rfl, rfl, ?_⟩
  rw [UInt8.xor_comm _ d, UInt8.xor_comm _ d'] at hs
  exact xor_cancel hs
theorem mixU_inj {y z : List UInt8} (hy : y.length = 16) (hz : z.length = 16) (h : mixU y = mixU z) : y = z := by
  have each : ∀ c, c < 4 → y.getD (4 * c) 0 = z.getD (4 * c) 0 ∧ y.getD (4 * c + 1) 0 = z.getD (4 * c + 1) 0 ∧ y.getD (4 * c + 2) 0 = z.getD (4 * c + 2) 0 ∧ y.getD (4 * c + 3) 0 = z.getD (4 * c + 3) 0 := by
    intro c hc
    have at_ : ∀ i, i < 4 → mixAt (colU y c) i = mixAt (colU z c) i := by
      intro i hi
      have h1 := mixU_at y (n := 4 * c + i) (by omega)
      rw [h, mixU_at z (by omega), show (4 * c + i) / 4 = c by omega, show (4 * c + i) % 4 = i by omega] at h1
      exact h1.symm
    exact col_inj (at_ 0 (by decide)) (at_ 1 (by decide)) (at_ 2 (by decide)) (at_ 3 (by decide))
  refine ext16 hy hz fun n hn => ?_
  obtain ⟨e0, e1, e2, e3⟩ := each (n / 4) (by omega)
  have : n = 4 * (n / 4) ∨ n = 4 * (n / 4) + 1 ∨ n = 4 * (n / 4) + 2 ∨ n = 4 * (n / 4) + 3 := by omega
  rcases this with e | e | e | e <;> rw [e] <;> assumption
theorem midU_inj {r : Nat} {x y : List UInt8} (hx : x.length = 16) (hy : y.length = 16) (h : midU r x = midU r y) : x = y := by
  unfold midU at h
  split at h
  · exact subU_inj hx hy (mixU_inj (subU_len x) (subU_len y) h)
  · exact subU_inj hx hy h
theorem stU_inj {ks x y : List UInt8} (hx : x.length = 16) (hy : y.length = 16) : ∀ r, stU ks x r = stU ks y r → x = y
  | 0, h => addU_inj hx hy h
  | r + 1, h => stU_inj hx hy r (midU_inj (stU_len _ _ _) (stU_len _ _ _) (addU_inj (midU_len _ _) (midU_len _ _) h))
theorem blockL_inj {ks x y : List UInt8} (hx : x.length = 16) (hy : y.length = 16) (h : blockL ks x = blockL ks y) : x = y := stU_inj hx hy 10 h
end Go.Proofs.Ytcajlmlblkdjoaa
