/- Lent bytes that are as they were are told to be so. -/
import Derived.Test.YtclmnpfmodlnjaaLend
import Derived.WalkLawsBesides
namespace Go.Proofs.Ytclmnpfmodlnjaa
open Go.RowKit

set_option maxHeartbeats 1000000 in
theorem intact_any (A B : Option Addr) (n d C D : Nat) (l : List UInt8) (w : World) (hl : l.length = n) (h1 : n ≤ 1000000) (ha : Rd w C A (l ++ tail3)) (hb : Rd w D B l) :
    Calls Try.prog 31 #[.slice A n (n + 3), .slice B n d] w fun e w' => e = .returned (.bool true) ∧ ∃ q, w' = w.drewN q := by
  have HL := Lib.hid hl
  clear hl
  go_enter Try.func31, Try.ntmps31
  go_wp2
  go_loopw [27] (fun i wr => ∃ k q : Nat, k ≤ n + 3 ∧ i = .int .i64 k ∧ wr = w.drewN q) (fun i _ => n + 3 - (intOf i).toNat)
  case atStart => exact ⟨0, 0, by omega, rfl, rfl⟩
  case round =>
    obtain ⟨k, q, hk, rfl, rfl⟩ := hrel
    have hk0 : (0 : Int) ≤ (k : Int) := by omega
    by_cases hlt : k < n + 3
    · have hlx : k < (l ++ tail3).length := by rw [List.length_append, HL.out]; exact hlt
      obtain ⟨b, off, rfl, _, hc⟩ := ha.at_ k hlx
      have hki : (k : Int) < (n : Int) + 3 := by omega
      by_cases hkn : k < n
      · have hkl : k < l.length := by rw [HL.out]; exact hkn
        obtain ⟨b', off', rfl, _, hc'⟩ := hb.at_ k hkl
        rw [List.getElem_append_left hkl] at hc
        have hd1 : decide ((k : Int) < (n : Int)) = true := decide_eq_true (by omega)
        have hd2 : decide (n ≤ k) = false := decide_eq_false (by omega)
        have hkn' : (k : Int) < (n : Int) := by omega
        generalize l[k] = x at hc hc'
        have hne : ((x.toNat : Int) != (x.toNat : Int)) = false := by simp
        clear hlx hkl
        go_wp2
        go_quiet (fail)
        go_wp2
        go_roundw
        case rel => exact ⟨k + 1, _, by omega, by go_num, rfl⟩
        case measure => simp [intOf]; omega
      · rw [List.getElem_append_right (by rw [HL.out]; omega)] at hc
        have h85 : ∀ i (h : i < tail3.length), tail3[i].toNat = 85 := by decide
        rw [h85] at hc
        have hd1 : decide ((k : Int) < (n : Int)) = false := decide_eq_false (by omega)
        have hd2 : decide ((n : Int) ≤ (k : Int)) = true := decide_eq_true (by omega)
        have hkn' : ¬ (k : Int) < (n : Int) := by omega
        clear hlx h85
        go_wp2
        go_quiet (fail)
        go_wp2
        go_roundw
        case rel => exact ⟨k + 1, _, by omega, by go_num, rfl⟩
        case measure => simp [intOf]; omega
    · have hge : ¬ (k : Int) < (n : Int) + 3 := by omega
      go_wp2
      go_ret
      exact ⟨rfl, _, rfl⟩
end Go.Proofs.Ytclmnpfmodlnjaa
