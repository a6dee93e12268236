/- The program's sum of products. -/
import Derived.Test.YtddfjodedmdojaaGfF
namespace Go.Proofs.Ytddfjodedmdojaa
open Go.RowKit

set_option maxRecDepth 100000 in
set_option maxHeartbeats 1000000 in
theorem sumOf_any (g : Nat) (A B : Option Addr) (n m c d C D : Nat) (l k : List UInt8) (w : World) (hn : l.length = n) (hm : k.length = m) (h1 : n ≤ maxLen) (_h2 : m ≤ maxLen) (ha : Rd w C A l) (hb : Rd w D B k) (hg : FdAt w g) :
    Calls Try.prog 29 #[.func (.func 14) #[.pointer (some ⟨g, 0, none⟩)] #[], .slice A n c, .slice B m d] w fun e w' => e = .returned (.int .u8 ((dotU l k (min n m)).toNat : Int)) ∧ ∃ q, w' = w.drewN q := by
  unfold maxLen at h1
  have HN := Lib.hid hn
  have HM := Lib.hid hm
  have HF := Lib.hid hg
  obtain ⟨o, ho⟩ : ∃ o, min n m = o := ⟨_, rfl⟩
  rw [ho]
  have h3 : o ≤ n := by omega
  have h4 : o ≤ m := by omega
  have e1 : min (n : Int) (m : Int) = (o : Int) := by omega
  have e2 : (if m < n then (m : Int) else (n : Int)) = (o : Int) := by split <;> omega
  have e3 : (if m < n then Value.int .i64 (m : Int) else Value.int .i64 (n : Int)) = Value.int .i64 (o : Int) := by split <;> (congr 1; omega)
  clear hn hm ho hg
  go_enter Try.func29, Try.ntmps29
  go_wp2_with fail
  go_loopw [7, 14] (fun s t wr => ∃ j q : Nat, j ≤ o ∧ t = .int .i64 j ∧ s = .int .u8 ((dotU l k j).toNat : Int) ∧ wr = w.drewN q) (fun _ t _ => o - (intOf t).toNat)
  case atStart => exact ⟨0, 0, Nat.zero_le _, rfl, rfl, rfl⟩
  case round =>
    obtain ⟨j, q, hj, rfl, rfl, rfl⟩ := hrel
    by_cases hlt : j < o
    · have hl1 : j < l.length := by rw [HN.out]; omega
      have hk1 : j < k.length := by rw [HM.out]; omega
      obtain ⟨b, off, rfl, _, hc⟩ := ha.at_ j hl1
      obtain ⟨b', off', rfl, _, hc'⟩ := hb.at_ j hk1
      have hi0 : (j : Int) < (o : Int) := by omega
      have hi1 : (j : Int) < (n : Int) := by omega
      have hi2 : (j : Int) < (m : Int) := by omega
      have HS := Lib.hid (show dotU l k j ^^^ mulU l[j] k[j] = dotU l k (j + 1) by
        rw [dotU, List.getD_eq_getElem?_getD, List.getD_eq_getElem?_getD, List.getElem?_eq_getElem hl1, List.getElem?_eq_getElem hk1]; rfl)
      generalize dotU l k j = s at *
      generalize l[j] = x at *
      generalize k[j] = y at *
      have HL := Lib.hid (fun r => fmul_any g x y (w.drewN r) (HF.out.drewN r))
      have HA := Lib.hid (fun r => add_any s (mulU x y) (w.drewN r))
      generalize mulU x y = p at *
      clear hl1 hk1
      go_wp2_with fail
      go_quiet (first
        | (go_at_call 14; (with_reducible refine (HL.out _).mono ?_; rintro e w'' ⟨rfl, r, rfl⟩; exact ⟨rfl, _, by rw [World.drewN_drewN, Nat.add_assoc]⟩))
        | (go_at_call 13; (with_reducible refine (HA.out _).mono ?_; exact fun e w'' h => ⟨h.1, _, h.2.symm⟩)))
      go_wp2_with fail
      go_roundw
      case rel => exact ⟨j + 1, _, by omega, by go_num, by rw [HS.out], rfl⟩
      case measure => simp [intOf]; omega
    · obtain rfl : o = j := by omega
      go_wp2_with fail
      go_ret
      exact ⟨rfl, _, rfl⟩

set_option maxRecDepth 100000 in
set_option maxHeartbeats 1000000 in
theorem fdot_any (g : Nat) (A B : Option Addr) (n m c d C D : Nat) (l k : List UInt8) (w : World) (hn : l.length = n) (hm : k.length = m) (h1 : n ≤ maxLen) (h2 : m ≤ maxLen) (ha : Rd w C A l) (hb : Rd w D B k) (hg : FdAt w g) :
    Calls Try.prog 15 #[.pointer (some ⟨g, 0, none⟩), .slice A n c, .slice B m d] w fun e w' => e = .returned (.int .u8 ((dotU l k (min n m)).toNat : Int)) ∧ ∃ q, w' = w.drewN q := by
  have HC := Lib.hid (sumOf_any g A B n m c d C D l k w hn hm h1 h2 ha hb hg)
  clear hn hm h1 h2 ha hb hg
  generalize dotU l k (min n m) = s at *
  go_enter Try.func15, Try.ntmps15
  go_wp2_with fail
  refine (HC.out).mono ?_
  rintro e w1 ⟨rfl, q, rfl⟩
  go_wp2_with fail
  go_ret
  exact ⟨rfl, q, rfl⟩
end Go.Proofs.Ytddfjodedmdojaa
