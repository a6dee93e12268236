/- The document's own sum of products. -/
import Derived.Test.YtddfjodedmdojaaGfR
import Derived.Test.YtddfjodedmdojaaMem
namespace Go.Proofs.Ytddfjodedmdojaa
open Go.RowKit

set_option maxRecDepth 100000 in
set_option maxHeartbeats 1000000 in
theorem rdot_any (A B : Option Addr) (n m c d C D : Nat) (l k : List UInt8) (w : World) (hn : l.length = n) (hm : k.length = m) (h1 : n ≤ maxLen) (_h2 : m ≤ maxLen) (ha : Rd w C A l) (hb : Rd w D B k) :
    Calls Try.prog 23 #[.slice A n c, .slice B m d] w fun e w' => e = .returned (.int .u8 ((dotU l k (min n m)).toNat : Int)) ∧ ∃ q, w' = w.drewN q := by
  unfold maxLen at h1
  have HN := Lib.hid hn
  have HM := Lib.hid hm
  clear hn hm
  go_enter Try.func23, Try.ntmps23
  go_wp2_with fail
  go_loopw [5, 6] (fun s t wr => ∃ j q : Nat, j ≤ n ∧ j ≤ m ∧ t = .int .i64 j ∧ s = .int .u8 ((dotU l k j).toNat : Int) ∧ wr = w.drewN q) (fun _ t _ => n - (intOf t).toNat)
  case atStart => exact ⟨0, 0, Nat.zero_le _, Nat.zero_le _, rfl, rfl, rfl⟩
  case round =>
    obtain ⟨j, q, hj, hj2, rfl, rfl, rfl⟩ := hrel
    by_cases hlt : j < n
    · by_cases hlt2 : j < m
      · have hl1 : j < l.length := by rw [HN.out]; exact hlt
        have hk1 : j < k.length := by rw [HM.out]; exact hlt2
        obtain ⟨b, off, rfl, _, hc⟩ := ha.at_ j hl1
        obtain ⟨b', off', rfl, _, hc'⟩ := hb.at_ j hk1
        have hi1 : (j : Int) < (n : Int) := by omega
        have hi2 : (j : Int) < (m : Int) := by omega
        have HS := Lib.hid (show dotU l k j ^^^ mulU l[j] k[j] = dotU l k (j + 1) by
          rw [dotU, List.getD_eq_getElem?_getD, List.getD_eq_getElem?_getD, List.getElem?_eq_getElem hl1, List.getElem?_eq_getElem hk1]; rfl)
        generalize dotU l k j = s at *
        generalize l[j] = x at *
        generalize k[j] = y at *
        have hx := x.toNat_lt
        have hy := y.toNat_lt
        clear hl1 hk1
        go_wp2_with fail
        go_quiet ((go_at_call 17; exact (rmul_any x y _).mono fun e w'' h => ⟨h.1, _, h.2.symm⟩))
        go_wp2_with fail
        go_roundw
        case rel => exact ⟨j + 1, _, by omega, by omega, by go_num, by rw [xor_byte8, HS.out], rfl⟩
        case measure => simp [intOf]; omega
      · have hi1 : (j : Int) < (n : Int) := by omega
        have hi2 : ¬ (j : Int) < (m : Int) := by omega
        have HQ := Lib.hid (show dotU l k j = dotU l k (min n m) by rw [show min n m = j by omega])
        go_wp2_with fail
        go_ret
        exact ⟨retB (by rw [HQ.out]), _, rfl⟩
    · have hi1 : ¬ (j : Int) < (n : Int) := by omega
      have HQ := Lib.hid (show dotU l k j = dotU l k (min n m) by rw [show min n m = j by omega])
      go_wp2_with fail
      go_ret
      exact ⟨retB (by rw [HQ.out]), _, rfl⟩
end Go.Proofs.Ytddfjodedmdojaa
