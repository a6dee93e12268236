/- The statements' own comparison of two lists of rows; their copies. -/
import Derived.Test.YtdaofffkbnkljaaSame
import Derived.Test.YtdaofffkbnkljaaRowsMem
import Derived.Test.YtdaofffkbnkljaaAppend
import Derived.Test.YtdaofffkbnkljaaPut
namespace Go.Proofs.Ytdaofffkbnkljaa
open Go.RowKit

theorem rows_take_eq {l k : List (List UInt8)} {j : Nat} (h1 : j < l.length) (h2 : j < k.length) (ht : l.take j = k.take j) (h : l[j] = k[j]) : l.take (j + 1) = k.take (j + 1) := by
  rw [List.take_succ_eq_append_getElem h1, List.take_succ_eq_append_getElem h2, ht, h]

theorem quiet_at {P : Program} {f : FuncId} {args : Array Value} {w : World} {a n : Nat} {v : Value}
    (h : ∀ m, Calls P f args (w.drewN m) fun e w' => e = .returned v ∧ ∃ q, w' = (w.drewN m).drewN q) :
    Calls P f args (w.drewN (a + n)) fun e w'' => e = .returned v ∧ ∃ m, w'' = w.drewN (a + m) :=
  (h (a + n)).mono fun _ _ ⟨he, m, hm⟩ => ⟨he, n + m, by rw [hm, World.drewN_drewN, Nat.add_assoc]⟩

set_option maxHeartbeats 1000000 in
theorem rows_any (A B : Option Addr) (n m c d C D : Nat) (l k : List (List UInt8)) (w : World) (hn : l.length = n) (hm : k.length = m) (h1 : n ≤ maxLen) (ha : RdR w C A l) (hb : RdR w D B k) (h2 : ∀ r ∈ l, r.length ≤ maxLen) :
    Calls Try.prog 16 #[.slice A n c, .slice B m d] w fun e w' => e = .returned (.bool (decide (l = k))) ∧ ∃ q, w' = w.drewN q := by
  unfold maxLen at h1
  by_cases hnm : n = m
  · have hne : ((n : Int) != (m : Int)) = false := by simp [hnm]
    have HN := Lib.hid hn
    have HM := Lib.hid hm
    have HE := Lib.hid hnm
    have H2 := Lib.hid h2
    clear hn hm hnm h2
    go_enter Try.func16, Try.ntmps16
    go_wp2
    go_loopw [5] (fun i wr => ∃ j q : Nat, j ≤ n ∧ i = .int .i64 j ∧ Hid (l.take j = k.take j) ∧ wr = w.drewN q) (fun i _ => n - (intOf i).toNat)
    case atStart => exact ⟨0, 0, Nat.zero_le _, rfl, Lib.hid rfl, rfl⟩
    case round =>
      obtain ⟨j, q, hj, rfl, ht, rfl⟩ := hrel
      by_cases hlt : j < n
      · have hl1 : j < l.length := by rw [HN.out]; exact hlt
        have hk1 : j < k.length := by rw [HM.out, ← HE.out]; exact hlt
        have hmm : j < m := by rw [← HE.out]; exact hlt
        obtain ⟨b, off, A1, c1, rfl, _, hc, _, _, hr1⟩ := ha.at_ j hl1
        obtain ⟨b', off', B1, d1, rfl, _, hc', _, _, hr2⟩ := hb.at_ j hk1
        have h0 : (0 : Int) ≤ (j : Int) := by omega
        have hi1 : (j : Int) < (n : Int) := by omega
        have hi2 : (j : Int) < (m : Int) := by omega
        have hlm : l[j].length ≤ maxLen := H2.out _ (List.getElem_mem hl1)
        have HR1 := Lib.hid hr1
        have HR2 := Lib.hid hr2
        have HSC := Lib.hid (fun W (h1 : Rd W C A1 l[j]) (h2 : Rd W D B1 k[j]) => same_any A1 B1 l[j].length k[j].length c1 d1 C D l[j] k[j] W rfl rfl hlm h1 h2)
        have HS2 := Lib.hid (fun m => HSC.out (w.drewN m) (HR1.out.drewN m) (HR2.out.drewN m))
        by_cases he : l[j] = k[j]
        · have HT := Lib.hid (rows_take_eq hl1 hk1 ht.out he)
          have HD := Lib.hid (show decide (l[j] = k[j]) = true from decide_eq_true he)
          rw [HD.out] at HS2
          clear he hr1 hr2 hlm HSC HD
          go_wp2
          go_quiet ((go_at_call 20; exact quiet_at HS2.out))
          go_wp2
          go_roundw
          case rel => exact ⟨j + 1, _, by omega, by go_num, HT, rfl⟩
          case measure => simp [intOf]; omega
        · have HF := Lib.hid (show decide (l = k) = false from decide_eq_false (by rintro rfl; exact he rfl))
          have HD := Lib.hid (show decide (l[j] = k[j]) = false from decide_eq_false he)
          rw [HD.out] at HS2
          clear he hr1 hr2 hlm HSC HD
          go_wp2
          go_quiet ((go_at_call 20; exact quiet_at HS2.out))
          go_wp2
          go_ret
          exact ⟨ret_bool HF.out.symm, _, World.drewN_drewN _ _ _⟩
      · have ht' : decide (l = k) = true := decide_eq_true (by
          have := ht.out
          rwa [List.take_of_length_le (by rw [HN.out]; omega), List.take_of_length_le (by rw [HM.out, ← HE.out]; omega)] at this)
        have HF := Lib.hid ht'
        have hge : ¬ (j : Int) < (n : Int) := by omega
        clear ht'
        go_wp2
        go_ret
        exact ⟨ret_bool HF.out.symm, _, rfl⟩
  · have hne : ((n : Int) != (m : Int)) = true := by simp only [bne_iff_ne, ne_eq]; omega
    have HF := Lib.hid (show decide (l = k) = false from decide_eq_false (by rintro rfl; exact hnm (hn.symm.trans hm)))
    clear hn hm hnm h2
    go_enter Try.func16, Try.ntmps16
    go_wp2
    go_ret
    exact ⟨ret_bool HF.out.symm, 0, rfl⟩
end Go.Proofs.Ytdaofffkbnkljaa
