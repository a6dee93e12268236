/- Names compared. -/
import Derived.Test.YtffllpjlghehiaaDoorWakes11
namespace Go.Proofs.YtffllpjlghehiaaDoor
open Go.RowKit
set_option maxRecDepth 100000

theorem RdS.at_ {w : World} {B : Nat} {A : Option Addr} {ls : List Name} (h : RdS w B A ls) {k : Nat} (hk : k < ls.length) : ∃ b off, A = some ⟨b, off, none⟩ ∧ b < B ∧ w.cell? ⟨b, off + k, none⟩ = some (.string ⟨ls[k].toArray⟩) := by
  rcases h with rfl | ⟨b, off, e, hb, hc⟩
  · simp at hk
  · exact ⟨b, off, e, hb, hc k hk⟩
theorem RdS.on {w w' : World} {A : Option Addr} {ls : List Name} (h : RdS w w.heap.size A ls) (hb : Below w.heap.size w w') : RdS w' w'.heap.size A ls := by
  rcases h with rfl | ⟨b, off, e, hlt, hc⟩
  · exact .inl rfl
  · exact .inr ⟨b, off, e, Nat.lt_of_lt_of_le hlt hb.size, fun i hi => (hb.cell (p := ⟨b, off + i, none⟩) hlt).trans (hc i hi)⟩
theorem takeS_ne {l k : List Name} {j : Nat} (h1 : j < l.length) (h2 : j < k.length) (h : l[j] ≠ k[j]) : l ≠ k := by
  rintro rfl
  exact h rfl
theorem takeS_eq {l k : List Name} {j : Nat} (h1 : j < l.length) (h2 : j < k.length) (ht : l.take j = k.take j) (h : l[j] = k[j]) : l.take (j + 1) = k.take (j + 1) := by
  rw [List.take_succ_eq_append_getElem h1, List.take_succ_eq_append_getElem h2, ht, h]

set_option maxHeartbeats 1000000 in
theorem samestr_any (A B : Option Addr) (n m c d C D : Nat) (l k : List Name) (w : World) (hn : l.length = n) (hm : k.length = m) (h1 : n ≤ 1000000) (ha : RdS w C A l) (hb : RdS w D B k) :
    Calls Tryd.prog 18 #[.slice A n c, .slice B m d] w fun e w' => e = .returned (.bool (decide (l = k))) ∧ ∃ q, w' = w.drewN q := by
  by_cases hnm : n = m
  · have hne : ((n : Int) != (m : Int)) = false := by simp [hnm]
    have HN := Lib.hid hn
    have HM := Lib.hid hm
    have HE := Lib.hid hnm
    clear hn hm hnm
    go_enter Tryd.func18, Tryd.ntmps18
    go_wp2
    go_loopw [5] (fun i wr => ∃ j q : Nat, j ≤ n ∧ i = .int .i64 j ∧ Hid (l.take j = k.take j) ∧ wr = w.drewN q) (fun i _ => n - (intOf i).toNat)
    case atStart => exact ⟨0, 0, Nat.zero_le _, rfl, Lib.hid rfl, rfl⟩
    case round =>
      obtain ⟨j, q, hj, rfl, ht, rfl⟩ := hrel
      by_cases hlt : j < n
      · have hl1 : j < l.length := by rw [HN.out]; exact hlt
        have hk1 : j < k.length := by rw [HM.out, ← HE.out]; exact hlt
        have hmm : j < m := by rw [← HE.out]; exact hlt
        obtain ⟨b, off, rfl, _, hc⟩ := ha.at_ hl1
        obtain ⟨b', off', rfl, _, hc'⟩ := hb.at_ hk1
        have h0 : (0 : Int) ≤ (j : Int) := by omega
        have hi1 : (j : Int) < (n : Int) := by omega
        have hi2 : (j : Int) < (m : Int) := by omega
        by_cases he : l[j] = k[j]
        · have HT := Lib.hid (takeS_eq hl1 hk1 ht.out he)
          rw [← he] at hc'
          clear he
          go_wp2
          go_quiet (fail)
          go_wp2
          go_roundw
          case rel => exact ⟨j + 1, _, by omega, by go_num, HT, rfl⟩
          case measure => simp [intOf]; omega
        · have hf : decide (l = k) = false := decide_eq_false (takeS_ne hl1 hk1 he)
          have HF := Lib.hid hf
          generalize l[j] = x at *
          generalize k[j] = y at *
          have hb0 : (x == y) = false := by simpa using he
          have hb1 : (x != y) = true := by simpa using he
          clear hf he
          go_wp2
          go_quiet (fail)
          go_wp2
          go_ret
          exact ⟨ret_bool HF.out.symm, _, World.drewN_drewN _ _ _⟩
      · have hjn : j = n := by omega
        have ht' : decide (l = k) = true := decide_eq_true (by
          have := ht.out
          rwa [List.take_of_length_le (by rw [HN.out]; omega), List.take_of_length_le (by rw [HM.out, ← HE.out]; omega)] at this)
        have HF := Lib.hid ht'
        clear ht'
        have hge : ¬ (j : Int) < (n : Int) := by omega
        clear hjn
        go_wp2
        go_ret
        exact ⟨ret_bool HF.out.symm, _, rfl⟩
  · have hne : ((n : Int) != (m : Int)) = true := by simp only [bne_iff_ne, ne_eq]; omega
    have HF := Lib.hid (show decide (l = k) = false from decide_eq_false (by rintro rfl; exact hnm (hn.symm.trans hm)))
    clear hn hm hnm
    go_enter Tryd.func18, Tryd.ntmps18
    go_wp2
    go_ret
    exact ⟨ret_bool HF.out.symm, 0, rfl⟩
end Go.Proofs.YtffllpjlghehiaaDoor
