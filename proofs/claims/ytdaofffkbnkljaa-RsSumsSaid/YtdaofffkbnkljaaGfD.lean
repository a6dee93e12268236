/- The document's own product of two bytes. The document's own sum of products. -/
import Derived.Test.YtdaofffkbnkljaaGfS
import Derived.Test.YtdaofffkbnkljaaMem
namespace Go.Proofs.Ytdaofffkbnkljaa
open Go.RowKit

theorem xor_i64 (a b : Nat) (ha : a < 512) (hb : b < 512) : bits .xor .i64 (a : Int) (b : Int) = ((a ^^^ b : Nat) : Int) := by
  have h : a ^^^ b < 512 := Nat.xor_lt_two_pow (n := 9) ha hb
  show IntKind.i64.wrap ((BitVec.ofInt 64 (a : Int) ^^^ BitVec.ofInt 64 (b : Int)).toNat : Int) = _
  rw [BitVec.toNat_xor, BitVec.ofInt_natCast, BitVec.ofInt_natCast, BitVec.toNat_ofNat, BitVec.toNat_ofNat, Nat.mod_eq_of_lt (show a < 2 ^ 64 by omega), Nat.mod_eq_of_lt (show b < 2 ^ 64 by omega)]
  exact IntWalk.i64_in _ (by omega)
set_option maxRecDepth 100000 in
theorem dN_big : ((List.range 256).all fun a => !Nat.ble 128 a || Nat.beq (Nat.xor (a * 2) 285) (dN a)) = true := by kernel_rfl
theorem dbl_big {x : UInt8} (h : 128 ≤ x.toNat) : bits .xor .i64 ((x.toNat : Int) * 2) 285 = ((dblU x).toNat : Int) := by
  have hx := x.toNat_lt
  rw [show (x.toNat : Int) * 2 = ((x.toNat * 2 : Nat) : Int) by omega, show (285 : Int) = ((285 : Nat) : Int) from rfl, xor_i64 _ _ (by omega) (by omega), dblU_nat]
  have := List.all_eq_true.1 dN_big x.toNat (List.mem_range.2 hx)
  rw [show Nat.ble 128 x.toNat = true from Nat.ble_eq_true_of_le h, Bool.not_true, Bool.false_or] at this
  exact congrArg Nat.cast (Nat.eq_of_beq_eq_true this)
theorem dbl_small {x : UInt8} (h : x.toNat < 128) : (x.toNat : Int) * 2 = ((dblU x).toNat : Int) := by
  rw [dblU_nat]
  unfold dN
  rw [show Nat.ble 128 x.toNat = false from by rw [← Bool.not_eq_true, Nat.ble_eq]; omega]
  show _ = ((2 * x.toNat % 256 : Nat) : Int)
  omega
theorem xor_byte64 (a b : UInt8) : bits .xor .i64 (a.toNat : Int) (b.toNat : Int) = ((a ^^^ b).toNat : Int) := by
  have ha := a.toNat_lt
  have hb := b.toNat_lt
  rw [xor_i64 _ _ (by omega) (by omega), UInt8.toNat_xor]
def shU (b : UInt8) (i : Nat) : UInt8 := UInt8.ofNat (b.toNat / 2 ^ i)
theorem shU_nat (b : UInt8) (i : Nat) : (shU b i).toNat = b.toNat / 2 ^ i := by
  have hb := b.toNat_lt
  unfold shU
  rw [UInt8.toNat_ofNat', Nat.mod_eq_of_lt]
  exact Nat.lt_of_le_of_lt (Nat.div_le_self _ _) hb
theorem shU_succ (b : UInt8) (i : Nat) : shU b (i + 1) = hlfU (shU b i) := by
  apply UInt8.toNat_inj.1
  rw [hlfU_nat, shU_nat, shU_nat, Nat.pow_succ, Nat.div_div_eq_div_mul]
theorem shU_zero (b : UInt8) : shU b 0 = b := by
  apply UInt8.toNat_inj.1
  rw [shU_nat]; simp
theorem shU_eight (b : UInt8) : shU b 8 = 0 := by
  apply UInt8.toNat_inj.1
  have hb := b.toNat_lt
  rw [shU_nat]
  show b.toNat / 256 = 0
  omega

theorem bit_at (b : UInt8) (i : Nat) : bits .and .u8 ((b.toNat : Int) / 2 ^ i) 1 = (((shU b i).toNat % 2 : Nat) : Int) := by
  rw [← and_one8, shU_nat]
  congr 1
theorem bit_on {b : UInt8} {i : Nat} (x : UInt8) (h : (bits .and .u8 ((b.toNat : Int) / 2 ^ i) 1 == 1) = true) : bitU x (shU b i) = x := by
  rw [bit_at] at h
  apply UInt8.toNat_inj.1
  rw [bitU_nat, show (shU b i).toNat % 2 = 1 by have := beq_iff_eq.1 h; omega, Nat.mul_one]
theorem bit_off {b : UInt8} {i : Nat} (x : UInt8) (h : (bits .and .u8 ((b.toNat : Int) / 2 ^ i) 1 == 1) = false) : bitU x (shU b i) = 0 := by
  rw [bit_at] at h
  apply UInt8.toNat_inj.1
  rw [bitU_nat, show (shU b i).toNat % 2 = 0 by have := beq_eq_false_iff_ne.1 h; omega, Nat.mul_zero]; rfl
theorem mulU_at (o x b : UInt8) (i : Nat) : (o ^^^ bitU x (shU b i)) ^^^ mulU (dblU x) (shU b (i + 1)) = o ^^^ mulU x (shU b i) := by
  rw [shU_succ, UInt8.xor_assoc, ← mulU_step]
set_option maxRecDepth 100000 in
set_option maxHeartbeats 1000000 in
theorem rmul_any (a b : UInt8) (w : World) :
    Calls Try.prog 47 #[.int .u8 (a.toNat : Int), .int .u8 (b.toNat : Int)] w fun e w' => e = .returned (.int .u8 ((mulU a b).toNat : Int)) ∧ w = w' := by
  have ha := a.toNat_lt
  have hb := b.toNat_lt
  go_enter Try.func47, Try.ntmps47
  go_wp2_with fail
  go_loopw [5, 6, 7] (fun x o t wr => ∃ (x' o' : UInt8) (i : Nat), i ≤ 8 ∧ x = .int .i64 (x'.toNat : Int) ∧ o = .int .i64 (o'.toNat : Int) ∧ t = .int .i64 i ∧ Hid (o' ^^^ mulU x' (shU b i) = mulU a b) ∧ w = wr) (fun _ _ t _ => 8 - (intOf t).toNat)
  case atStart => exact ⟨a, 0, 0, by omega, rfl, rfl, rfl, Lib.hid (by rw [shU_zero, UInt8.zero_xor]), rfl⟩
  case round =>
    obtain ⟨x', o', i, hi, rfl, rfl, rfl, hp, rfl⟩ := hrel
    clear ha
    have hx := x'.toNat_lt
    have ho := o'.toNat_lt
    by_cases hlt : i < 8
    · have hii : (i : Int) < 8 := by omega
      have HM := Lib.hid (mulU_at o' x' b i)
      go_wp2_with fail
      all_goals
        rename_i hbit hbig
        refine ⟨⟨dblU x', o' ^^^ bitU x' (shU b i), i + 1, by omega, ?_, ?_, by go_num, Lib.hid (HM.out.trans hp.out), trivial⟩, by simp [intOf]; omega⟩
        · first | rw [dbl_small (by omega)] | rw [dbl_big (by omega)]
        · first | rw [bit_on x' hbit, xor_byte64] | rw [bit_off x' hbit, UInt8.xor_zero]
    · obtain rfl : i = 8 := by omega
      have hp' : o' = mulU a b := by rw [← hp.out, shU_eight, mulU_zero, UInt8.xor_zero]
      have HP := Lib.hid hp'
      clear hp' hlt hi
      go_wp2_with fail
      go_ret
      exact ⟨retB (by rw [HP.out]), rfl⟩

theorem pos8 {a : UInt8} (h : a ≠ 0) : 0 < a.toNat := Nat.pos_of_ne_zero fun h0 => h (UInt8.toNat_inj.1 h0)
theorem cast_ofNat {i : Nat} (h : i < 256) : ((UInt8.ofNat i).toNat : Int) = (i : Int) := by rw [UInt8.toNat_ofNat', Nat.mod_eq_of_lt h]
set_option maxRecDepth 100000 in
set_option maxHeartbeats 1000000 in
theorem rinv_any (a : UInt8) (w : World) :
    Calls Try.prog 65 #[.int .u8 (a.toNat : Int)] w fun e w' => e = .returned (.int .u8 ((ivU a).toNat : Int)) ∧ w = w' := by
  have ha := a.toNat_lt
  go_enter Try.func65, Try.ntmps65
  go_wp2_with fail
  go_loopw [3] (fun t wr => ∃ i : Nat, 1 ≤ i ∧ i ≤ 256 ∧ t = .int .i64 i ∧ Hid (∀ j, 1 ≤ j → j < i → mulU a (UInt8.ofNat j) ≠ 1) ∧ w = wr) (fun t _ => 256 - (intOf t).toNat)
  case atStart => exact ⟨1, by omega, by omega, rfl, Lib.hid (fun j h1 h2 => by omega), rfl⟩
  case round =>
    obtain ⟨i, h1, hi, rfl, hp, rfl⟩ := hrel
    by_cases hlt : i < 256
    · have hii : (i : Int) < 256 := by omega
      have HC := Lib.hid (show Calls Try.prog 47 #[.int .u8 (a.toNat : Int), .int .u8 (i : Int)] w fun e w' => e = .returned (.int .u8 ((mulU a (UInt8.ofNat i)).toNat : Int)) ∧ w = w' by
        rw [← cast_ofNat hlt]
        exact rmul_any a (UInt8.ofNat i) w)
      by_cases hm : mulU a (UInt8.ofNat i) = 1
      · have HI := Lib.hid (show (i : Int) = ((ivU a).toNat : Int) by rw [← ivU_only hm, cast_ofNat hlt])
        rw [hm] at HC
        clear hm
        go_wp2_with fail
        refine (HC.out).mono ?_
        rintro e w1 ⟨rfl, rfl⟩
        go_wp2_with fail
        go_ret
        exact ⟨retB HI.out, rfl⟩
      · have HP := Lib.hid (show ∀ j, 1 ≤ j → j < i + 1 → mulU a (UInt8.ofNat j) ≠ 1 from fun j h1 h2 => by
          by_cases hj : j = i
          · rw [hj]; exact hm
          · exact hp.out j h1 (by omega))
        have hne : ((mulU a (UInt8.ofNat i)).toNat : Int) ≠ 1 := fun h => hm (UInt8.toNat_inj.1 (Int.ofNat_inj.1 h))
        have hbe : (((mulU a (UInt8.ofNat i)).toNat : Int) == 1) = false := beq_eq_false_iff_ne.2 hne
        clear hm hne
        generalize mulU a (UInt8.ofNat i) = c at *
        go_wp2_with fail
        refine (HC.out).mono ?_
        rintro e w1 ⟨rfl, rfl⟩
        go_wp2_with fail
        go_roundw
        case rel => exact ⟨i + 1, by omega, by omega, by go_num, HP, trivial⟩
        case measure => simp [intOf]; omega
    · obtain rfl : i = 256 := by omega
      have hz : ivU a = 0 := by
        by_cases h : a = 0
        · rw [h]; rfl
        · exfalso
          have h2 := ivU_ne h
          refine hp.out (ivU a).toNat (pos8 h2) (ivU a).toNat_lt ?_
          rw [UInt8.ofNat_toNat]
          exact ivU_mul h
      have HP := Lib.hid hz
      clear hz hlt hi
      go_wp2_with fail
      go_ret
      exact ⟨retB (by rw [HP.out]; rfl), rfl⟩
/-- The exponent as the document's own answer cuts it. -/
def cutE (n : Int) : Int := if 255 < n then 255 + n % 255 else n
theorem cutE_pos (n : Int) (h : 255 < n) : cutE n = 255 + n % 255 := by unfold cutE; rw [if_pos h]
theorem cutE_neg (n : Int) (h : ¬ 255 < n) : cutE n = n := by unfold cutE; rw [if_neg h]
theorem cutE_pw (a : UInt8) (n : Int) : pwU a (cutE n).toNat = pwU a n.toNat := by
  by_cases h : 255 < n
  · rw [cutE_pos n h]
    exact pwU_turn (by omega) (by omega) (by omega)
  · rw [cutE_neg n h]
set_option maxRecDepth 100000 in
set_option maxHeartbeats 1000000 in
theorem rpow_any (a : UInt8) (n : Int) (w : World) (hn : -9223372036854775808 ≤ n ∧ n < 9223372036854775808) :
    Calls Try.prog 63 #[.int .u8 (a.toNat : Int), .int .i64 n] w fun e w' => e = .returned (.int .u8 ((pwU a n.toNat).toNat : Int)) ∧ w = w' := by
  obtain ⟨hn0, hn1⟩ := hn
  by_cases hb : 255 < n
  · have HE := Lib.hid (show pwU a (255 + n % 255).toNat = pwU a n.toNat from pwU_turn (by omega) (by omega) (by omega))
    go_enter Try.func63, Try.ntmps63
    go_wp2_with fail
    have hm0 : 255 + n % 255 < 9223372036854775807 := by omega
    have hm1 : 0 ≤ 255 + n % 255 := by omega
    generalize 255 + n % 255 = m at *
    clear hn0 hn1 hb
    go_loopw [5, 6] (fun p t wr => ∃ i : Nat, (i : Int) ≤ m ∧ t = .int .i64 i ∧ p = .int .u8 ((pwU a i).toNat : Int) ∧ w = wr) (fun _ t _ => (m - intOf t).toNat)
    case atStart => exact ⟨0, by omega, rfl, rfl, rfl⟩
    case round =>
      obtain ⟨i, hi, rfl, rfl, rfl⟩ := hrel
      by_cases hlt : (i : Int) < m
      · have HP := Lib.hid (show mulU (pwU a i) a = pwU a (i + 1) from rfl)
        generalize pwU a i = p at *
        go_wp2_with fail
        refine (rmul_any p a w).mono ?_
        rintro e w1 ⟨rfl, rfl⟩
        go_wp2_with fail
        go_roundw
        case rel => exact ⟨i + 1, by omega, by go_num, by rw [HP.out], trivial⟩
        case measure => simp [intOf]; omega
      · have hm : m.toNat = i := by omega
        have HQ := Lib.hid (show pwU a i = pwU a n.toNat by rw [← HE.out, hm])
        clear hm
        go_wp2_with fail
        go_ret
        exact ⟨retB (by rw [HQ.out]), rfl⟩
  · go_enter Try.func63, Try.ntmps63
    go_wp2_with fail
    go_loopw [5, 6] (fun p t wr => ∃ i : Nat, ((i : Int) ≤ n ∨ i = 0) ∧ t = .int .i64 i ∧ p = .int .u8 ((pwU a i).toNat : Int) ∧ w = wr) (fun _ t _ => (n - intOf t).toNat)
    case atStart => exact ⟨0, by omega, rfl, rfl, rfl⟩
    case round =>
      obtain ⟨i, hi, rfl, rfl, rfl⟩ := hrel
      by_cases hlt : (i : Int) < n
      · have HP := Lib.hid (show mulU (pwU a i) a = pwU a (i + 1) from rfl)
        generalize pwU a i = p at *
        go_wp2_with fail
        refine (rmul_any p a w).mono ?_
        rintro e w1 ⟨rfl, rfl⟩
        go_wp2_with fail
        go_roundw
        case rel => exact ⟨i + 1, by omega, by go_num, by rw [HP.out], trivial⟩
        case measure => simp [intOf]; omega
      · have hm : n.toNat = i := by omega
        have HQ := Lib.hid (show pwU a i = pwU a n.toNat by rw [hm])
        clear hm
        go_wp2_with fail
        go_ret
        exact ⟨retB (by rw [HQ.out]), rfl⟩
end Go.Proofs.Ytdaofffkbnkljaa
namespace Go.Proofs.Ytdaofffkbnkljaa
open Go.RowKit

set_option maxRecDepth 100000 in
set_option maxHeartbeats 1000000 in
theorem rdot_any (A B : Option Addr) (n m c d C D : Nat) (l k : List UInt8) (w : World) (hn : l.length = n) (hm : k.length = m) (h1 : n ≤ maxLen) (_h2 : m ≤ maxLen) (ha : Rd w C A l) (hb : Rd w D B k) :
    Calls Try.prog 66 #[.slice A n c, .slice B m d] w fun e w' => e = .returned (.int .u8 ((dotU l k (min n m)).toNat : Int)) ∧ ∃ q, w' = w.drewN q := by
  unfold maxLen at h1
  have HN := Lib.hid hn
  have HM := Lib.hid hm
  clear hn hm
  go_enter Try.func66, Try.ntmps66
  go_wp2_with fail
  go_loopw [5, 6] (fun s t wr => ∃ j q : Nat, j ≤ n ∧ j ≤ m ∧ t = .int .i64 j ∧ s = .int .u8 ((dotU l k j).toNat : Int) ∧ wr = w.drewN q) (fun _ t _ => n - (intOf t).toNat)
  case atStart => exact ⟨0, 0, Nat.zero_le _, Nat.zero_le _, rfl, rfl, rfl⟩
  case round =>
    obtain ⟨j, q, hj, hj2, rfl, rfl, rfl⟩ := hrel
    by_cases hlt : j < n
    · by_cases hlt2 : j < m
      · have hl1 : j < l.length := by rw [HN.out]; exact hlt
        have hk1 : j < k.length := by rw [HM.out]; exact hlt2
        obtain ⟨b, off, rfl, _, hc⟩ := ha.at_ j hl1
        obtain ⟨b', off', rfl, _, hc'⟩ := hb.at_ j hk1
        have hi1 : (j : Int) < (n : Int) := by omega
        have hi2 : (j : Int) < (m : Int) := by omega
        have HS := Lib.hid (show dotU l k j ^^^ mulU l[j] k[j] = dotU l k (j + 1) by
          rw [dotU, List.getD_eq_getElem?_getD, List.getD_eq_getElem?_getD, List.getElem?_eq_getElem hl1, List.getElem?_eq_getElem hk1]; rfl)
        generalize dotU l k j = s at *
        generalize l[j] = x at *
        generalize k[j] = y at *
        have hx := x.toNat_lt
        have hy := y.toNat_lt
        clear hl1 hk1
        go_wp2_with fail
        go_quiet ((go_at_call 47; exact (rmul_any x y _).mono fun e w'' h => ⟨h.1, _, h.2.symm⟩))
        go_wp2_with fail
        go_roundw
        case rel => exact ⟨j + 1, _, by omega, by omega, by go_num, by rw [xor_byte8, HS.out], rfl⟩
        case measure => simp [intOf]; omega
      · have hi1 : (j : Int) < (n : Int) := by omega
        have hi2 : ¬ (j : Int) < (m : Int) := by omega
        have HQ := Lib.hid (show dotU l k j = dotU l k (min n m) by rw [show min n m = j by omega])
        go_wp2_with fail
        go_ret
        exact ⟨retB (by rw [HQ.out]), _, rfl⟩
    · have hi1 : ¬ (j : Int) < (n : Int) := by omega
      have HQ := Lib.hid (show dotU l k j = dotU l k (min n m) by rw [show min n m = j by omega])
      go_wp2_with fail
      go_ret
      exact ⟨retB (by rw [HQ.out]), _, rfl⟩
end Go.Proofs.Ytdaofffkbnkljaa
