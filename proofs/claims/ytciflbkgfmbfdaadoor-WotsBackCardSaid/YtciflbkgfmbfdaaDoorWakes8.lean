/- The statements' own comparison of two rows of numbers; the document's example of chapter 8. -/
import Derived.Test.YtciflbkgfmbfdaaDoorWotsA
namespace Go.Proofs.YtciflbkgfmbfdaaDoor
open Go.RowKit

theorem nums_ne {l k : List Nat} {j : Nat} (h : l.getD j 0 ≠ k.getD j 0) : l ≠ k := by
  rintro rfl
  exact h rfl
theorem nums_eq {l k : List Nat} {j : Nat} (h1 : j < l.length) (h2 : j < k.length) (ht : l.take j = k.take j) (h : l.getD j 0 = k.getD j 0) : l.take (j + 1) = k.take (j + 1) := by
  have e1 : l.getD j 0 = l[j] := by simp [List.getD_eq_getElem?_getD, h1]
  have e2 : k.getD j 0 = k[j] := by simp [List.getD_eq_getElem?_getD, h2]
  rw [List.take_succ_eq_append_getElem h1, List.take_succ_eq_append_getElem h2, ht, ← e1, ← e2, h]
set_option maxHeartbeats 1000000 in
theorem ksameint_any {w : World} {a b : Value} {l k : List Nat} (ha : DV w a l) (hb : DV w b k) (h1 : l.length ≤ 100000) :
    Calls Tryd.prog 18 #[a, b] w fun e w' => e = .returned (.bool (decide (l = k))) ∧ Below w.heap.size w w' := by
  obtain ⟨A, c, rfl, _, hra⟩ := id ha
  obtain ⟨B, d, rfl, _, hrb⟩ := id hb
  obtain ⟨n, hn⟩ : ∃ n, l.length = n := ⟨_, rfl⟩
  obtain ⟨m, hm⟩ : ∃ m, k.length = m := ⟨_, rfl⟩
  rw [hn] at ha h1
  rw [hm] at hb
  rw [hn, hm]
  clear hra hrb
  by_cases hnm : n = m
  · have hne : ((n : Int) != (m : Int)) = false := by simp [hnm]
    have HN := Lib.hid hn
    have HM := Lib.hid hm
    have HE := Lib.hid hnm
    clear hn hm hnm
    go_enter Tryd.func18, Tryd.ntmps18
    go_wp2
    go_loopw [5] (fun i wr => ∃ j q : Nat, j ≤ n ∧ i = .int .i64 j ∧ Hid (l.take j = k.take j) ∧ wr = w.drewN q) (fun i _ => n - (intOf i).toNat)
    case atStart => exact ⟨0, 0, Nat.zero_le _, rfl, Lib.hid rfl, rfl⟩
    case round =>
      obtain ⟨j, q, hj, rfl, ht, rfl⟩ := hrel
      by_cases hlt : j < n
      · have hl1 : j < l.length := by rw [HN.out]; exact hlt
        have hk1 : j < k.length := by rw [HM.out, ← HE.out]; exact hlt
        have hmm : j < m := by rw [← HE.out]; exact hlt
        obtain ⟨b, off, rfl, _, hc⟩ := ha.at_ hlt
        obtain ⟨b', off', rfl, _, hc'⟩ := hb.at_ hmm
        have HTY := Lib.hid (fun e => nums_eq hl1 hk1 ht.out e)
        have HTN := Lib.hid (fun e => nums_ne (l := l) (k := k) (j := j) e)
        have h0 : (0 : Int) ≤ (j : Int) := by omega
        have hi1 : (j : Int) < (n : Int) := by omega
        have hi2 : (j : Int) < (m : Int) := by omega
        generalize l.getD j 0 = x at *
        generalize k.getD j 0 = y at *
        by_cases he : x = y
        · have hb0 : ((x : Int) != (y : Int)) = false := by rw [he]; simp
          have HT := Lib.hid (HTY.out he)
          clear he HTY HTN hl1 hk1
          go_wp2
          go_quiet (fail)
          go_wp2
          go_roundw
          case rel => exact ⟨j + 1, _, by omega, by go_num, HT, rfl⟩
          case measure => simp [intOf]; omega
        · have hb0 : ((x : Int) != (y : Int)) = true := by
            simp only [bne_iff_ne, ne_eq]
            omega
          have HF := Lib.hid (decide_eq_false (HTN.out he))
          clear he HTY HTN hl1 hk1
          go_wp2
          go_quiet (fail)
          go_wp2
          go_ret
          exact ⟨ret_bool HF.out.symm, below_drewN (below_drewN (Below.refl _ _) _) _⟩
      · obtain rfl : j = n := by omega
        have hni : ¬ (j : Int) < (j : Int) := by omega
        have e : l = k := by
          have := ht.out
          rwa [List.take_of_length_le (by rw [HN.out]; exact Nat.le_refl _), List.take_of_length_le (by rw [HM.out, ← HE.out]; exact Nat.le_refl _)] at this
        have HF := Lib.hid (decide_eq_true e)
        clear e
        go_wp2
        go_ret
        exact ⟨ret_bool HF.out.symm, below_drewN (Below.refl _ _) _⟩
  · have hne : ((n : Int) != (m : Int)) = true := by simp; omega
    have HF := Lib.hid (show decide (l = k) = false from decide_eq_false (fun e => hnm (by rw [← hn, ← hm, e])))
    clear hnm hn hm
    go_enter Tryd.func18, Tryd.ntmps18
    go_wp2
    go_ret
    exact ⟨ret_bool HF.out.symm, Below.refl _ _⟩
set_option maxRecDepth 100000 in
set_option maxHeartbeats 4000000 in
theorem wakes8_any (w : World) (htab : Pow10 w.heap.size w) : Calls Tryd.prog 17 #[] w fun e w' => e = .returned (.bool true) ∧ Below w.heap.size w w' := by
  have HD := Lib.hid (pdigits_any none 0 0 [] w rfl (by omega) (Nat.le_refl _) (Nat.zero_le _) (.inl rfl) htab)
  have HDL := Lib.hid (digH_len (msgH_len []))
  generalize digH (msgH []) = D at *
  go_enter Tryd.func17, Tryd.ntmps17
  go_wp2_with fail
  with_reducible refine (HD.out).mono ?_
  rintro e w3 ⟨v3, rfl, hown3, hb3⟩
  obtain ⟨A3, c3, rfl, _, _⟩ := hown3.form HDL.out
  have HB := Lib.hid hb3
  clear hown3 hb3 HD
  go_wp2_with fail
  go_ret
  exact ⟨rfl, HB.out⟩
end Go.Proofs.YtciflbkgfmbfdaaDoor
