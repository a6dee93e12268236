/- The document's own question: is it a matrix? -/
import Derived.Test.YtkgemngkkedcnaaProg
import Derived.Test.YtkgemngkkedcnaaRowsMem
import Derived.BigQuiet
namespace Go.Proofs.Ytkgemngkkedcnaa
open Go.RowKit

/-- A row that may stand in a matrix whose first row is k bytes long. -/
def rowOK (k q : Nat) : Prop := 1 ≤ q ∧ q ≤ 16 ∧ q = k
instance (k q : Nat) : Decidable (rowOK k q) := by unfold rowOK; infer_instance
def IsMx (ls : List (List UInt8)) : Prop := 1 ≤ ls.length ∧ ls.length ≤ 16 ∧ ∀ i (h : i < ls.length), rowOK (ls.getD 0 []).length ls[i].length
instance (ls : List (List UInt8)) : Decidable (IsMx ls) := by unfold IsMx; infer_instance
theorem isMx_no {ls : List (List UInt8)} {i : Nat} (h : i < ls.length) (k : ¬ rowOK (ls.getD 0 []).length ls[i].length) : decide (IsMx ls) = false := decide_eq_false fun m => k (m.2.2 i h)

set_option maxRecDepth 100000 in
set_option maxHeartbeats 1000000 in
theorem rmay_any (A : Option Addr) (n c : Nat) (ls : List (List UInt8)) (w : World) (hn : ls.length = n) (hr : RdR w w.heap.size A ls) :
    Calls Try.prog 26 #[.slice A n c] w fun e w' => e = .returned (.bool (decide (IsMx ls))) ∧ ∃ q, w' = w.drewN q := by
  by_cases h1 : n < 1
  · have HF := Lib.hid (show decide (IsMx ls) = false from decide_eq_false fun m => by have := m.1; omega)
    have h1i : (n : Int) < 1 := by omega
    go_enter Try.func26, Try.ntmps26
    go_wp2_with fail
    go_ret
    exact ⟨ret_bool HF.out.symm, 0, rfl⟩
  · by_cases h2 : 16 < n
    · have HF := Lib.hid (show decide (IsMx ls) = false from decide_eq_false fun m => by have := m.2.1; omega)
      have h1i : ¬ (n : Int) < 1 := by omega
      have h2i : (16 : Int) < (n : Int) := by omega
      go_enter Try.func26, Try.ntmps26
      go_wp2_with fail
      go_ret
      exact ⟨ret_bool HF.out.symm, 0, rfl⟩
    · have h1i : ¬ (n : Int) < 1 := by omega
      have h2i : ¬ (16 : Int) < (n : Int) := by omega
      have hl0 : 0 < ls.length := by omega
      obtain ⟨b, off, A0, c0, rfl, hb0, hc0, hlc0, hcm0, hrd0⟩ := hr.at_ 0 hl0
      obtain ⟨k, hk⟩ : ∃ k, ls[0].length = k := ⟨_, rfl⟩
      rw [hk, Nat.add_zero] at hc0
      have HK := Lib.hid (show (ls.getD 0 []).length = k by rw [← hk]; simp [List.getD_eq_getElem?_getD, hl0])
      have HN := Lib.hid hn
      have hni : (0 : Int) < (n : Int) := by omega
      clear hrd0 hlc0 hcm0 hk
      go_enter Try.func26, Try.ntmps26
      go_wp2_with fail
      clear h1i h2i
      go_loopw [14] (fun t wr => ∃ i q : Nat, i ≤ n ∧ t = .int .i64 i ∧ Hid (∀ j (h : j < ls.length), j < i → rowOK k ls[j].length) ∧ wr = w.drewN q) (fun t _ => n - (intOf t).toNat)
      case atStart => exact ⟨0, 0, by omega, rfl, Lib.hid (fun j _ h => by omega), rfl⟩
      case round =>
        obtain ⟨i, q, hi, rfl, HP, rfl⟩ := hrel
        by_cases hlt : i < n
        · have hii : (i : Int) < (n : Int) := by omega
          have hil : i < ls.length := by rw [HN.out]; exact hlt
          obtain ⟨b', off', A1, c1, hA, hbs, hc, hlc, hcm, hrd⟩ := hr.at_ i hil
          obtain ⟨rfl, rfl⟩ : b = b' ∧ off = off' := by
            injection hA with hA
            injection hA with e1 e2
            exact ⟨e1, e2⟩
          obtain ⟨s, hs⟩ : ∃ s, ls[i].length = s := ⟨_, rfl⟩
          rw [hs] at hc hlc
          have HSF := Lib.hid (show ¬ rowOK k s → decide (IsMx ls) = false from fun h => isMx_no hil (by rw [HK.out, hs]; exact h))
          have HPN := Lib.hid (show rowOK k s → ∀ j (h : j < ls.length), j < i + 1 → rowOK k ls[j].length from fun h j hj hji => by
            by_cases e : j = i
            · subst e; rw [hs]; exact h
            · exact HP.out j hj (by omega))
          clear hA hrd hs hil
          by_cases g1 : s < 1
          · have HF := Lib.hid (HSF.out (fun h => by have := h.1; omega))
            have d1 : decide ((s : Int) < 1) = true := decide_eq_true (by omega)
            clear HSF HPN g1
            go_wp2
            go_quiet (fail)
            go_wp2
            go_ret
            exact ⟨ret_bool HF.out.symm, _, World.drewN_drewN _ _ _⟩
          · by_cases g2 : 16 < s
            · have HF := Lib.hid (HSF.out (fun h => by have := h.2.1; omega))
              have d1 : decide ((s : Int) < 1) = false := decide_eq_false (by omega)
              have d2 : decide ((16 : Int) < (s : Int)) = true := decide_eq_true (by omega)
              clear HSF HPN g1 g2
              go_wp2
              go_quiet (fail)
              go_wp2
              go_ret
              exact ⟨ret_bool HF.out.symm, _, World.drewN_drewN _ _ _⟩
            · have d1 : decide ((s : Int) < 1) = false := decide_eq_false (by omega)
              have d2 : decide ((16 : Int) < (s : Int)) = false := decide_eq_false (by omega)
              by_cases g3 : s = k
              · have HP2 := Lib.hid (HPN.out ⟨by omega, by omega, g3⟩)
                clear HSF HPN g1 g2
                subst g3
                have hne : ((s : Int) != (s : Int)) = false := by simp
                go_wp2
                go_quiet (fail)
                go_wp2
                go_roundw
                case rel => exact ⟨i + 1, _, by omega, by go_num, HP2, rfl⟩
                case measure => simp [intOf]; omega
              · have HF := Lib.hid (HSF.out (fun h => g3 h.2.2))
                have hne : ((s : Int) != (k : Int)) = true := by simp only [bne_iff_ne, ne_eq]; omega
                clear HSF HPN g1 g2 g3
                go_wp2
                go_quiet (fail)
                go_wp2
                go_ret
                exact ⟨ret_bool HF.out.symm, _, World.drewN_drewN _ _ _⟩
        · obtain rfl : i = n := by omega
          have HT := Lib.hid (show decide (IsMx ls) = true from decide_eq_true ⟨by rw [HN.out]; omega, by rw [HN.out]; omega, fun j hj => by rw [HK.out]; exact HP.out j hj (by rw [← HN.out]; exact hj)⟩)
          have hni : ¬ (i : Int) < (i : Int) := by omega
          go_wp2
          go_ret
          exact ⟨ret_bool HT.out.symm, _, rfl⟩
end Go.Proofs.Ytkgemngkkedcnaa
