/- The program's Same. -/
import Derived.Test.YtkkokngdhhakdaaDoorCapA
namespace Go.Proofs.YtkkokngdhhakdaaDoor
open Go.RowKit
set_option maxRecDepth 100000

set_option maxHeartbeats 4000000 in
theorem psame_any {w : World} {a b : Cap13} {A B : Option Addr} {n m c d : Nat} (ha : a.wf) (hb : b.wf) (hn : a.lit.length = n) (hm : b.lit.length = m) (hra : Rd w w.heap.size A a.lit) (hrb : Rd w w.heap.size B b.lit) :
    Calls Tryd.prog 31 #[.agg (capA a (.slice A n c)), .agg (capA b (.slice B m d))] w fun e w' => e = .returned (.bool (decide (a = b))) ∧ Below w.heap.size w w' := by
  obtain ⟨AX, hAX⟩ : ∃ x, capA a (.slice A n c) = x := ⟨_, rfl⟩
  obtain ⟨BX, hBX⟩ : ∃ x, capA b (.slice B m d) = x := ⟨_, rfl⟩
  have HA0 := Lib.hid (CapAt.new w (.slice A n c) ha hAX)
  have HB0 := Lib.hid (CapAt.new (w.alloc (.cells AX 28)) (.slice B m d) hb hBX)
  rw [hAX, hBX]
  have hs := a.same_iff b
  have hal : Below w.heap.size w ((w.alloc (.cells AX 28)).alloc (.cells BX 28)) := ((Below.refl _ _).alloc (Nat.le_refl _) _).alloc (by simp) _
  have HKE := Lib.hid (fun W => run_key_eq W a.key b.key ha.1 hb.1)
  have HFE := Lib.hid (fun W => run_hash_eq W a.fp b.fp ha.2 hb.2)
  have HEQ := Lib.hid (fun (W : World) (hW : Below w.heap.size w W) (t : Bool) (ht : (a.lit == b.lit) = t) => (show Calls Tryd.prog 61 #[.slice A n c, .slice B m d] W fun e w' => e = .returned (.bool t) ∧ W = w' from by subst ht; exact equalC_any A B n m c d _ _ a.lit b.lit W hn hm (hra.on hW) (hrb.on hW)))
  obtain ⟨KA, hKA⟩ : ∃ x, u8A a.key = x := ⟨_, rfl⟩
  obtain ⟨KB, hKB⟩ : ∃ x, u8A b.key = x := ⟨_, rfl⟩
  obtain ⟨FA, hFA⟩ : ∃ x, u8A a.fp = x := ⟨_, rfl⟩
  obtain ⟨FB, hFB⟩ : ∃ x, u8A b.fp = x := ⟨_, rfl⟩
  rw [hKA, hKB] at HKE
  rw [hFA, hFB] at HFE
  have HKA := Lib.hid hKA
  have HKB := Lib.hid hKB
  have HFA := Lib.hid hFA
  have HFB := Lib.hid hFB
  obtain ⟨R, hR⟩ : ∃ x, decide (a = b) = x := ⟨_, rfl⟩
  have HR := Lib.hid hR
  rw [hR]
  clear hKA hKB hFA hFB hAX hBX hra hrb hn hm hR ha hb
  go_enter Tryd.func31, Tryd.ntmps31
  go_upto_region 1 with fail
  have HA1 := Lib.hid (HA0.out.below ((Below.refl _ _).alloc (Nat.le_refl _) (.cells BX 28)))
  have HB1 := HB0
  clear HA0 HB0
  have HAL := Lib.hid hal
  have hsz : (w.alloc (.cells AX 28)).heap.size = w.heap.size + 1 := by simp
  rw [hsz] at HB1
  obtain ⟨gb, hgb⟩ : ∃ g, w.heap.size + 1 = g := ⟨_, rfl⟩
  rw [hgb] at HB1
  simp only [hgb]
  obtain ⟨ga, hga⟩ : ∃ g, w.heap.size = g := ⟨_, rfl⟩
  rw [hga] at HA1 ⊢
  generalize (w.alloc (.cells AX 28)).alloc (.cells BX 28) = w1 at *
  obtain ⟨a0, a49, a50, a51, a52⟩ := HA1.out.cells
  obtain ⟨b0, b49, b50, b51, b52⟩ := HB1.out.cells
  by_cases h0 : a.kind = b.kind
  · by_cases h1 : a.key = b.key
    · by_cases h2 : a.fp = b.fp
      · by_cases h3 : a.k = b.k
        · by_cases h4 : a.n = b.n
          · by_cases h5 : a.size = b.size
            · have hke := fun W => (show (Op.equalIn 10000 23 (.agg KA) (.agg KB)).run Tryd.prog W = .ok true W by rw [HKE.out W, decide_eq_true h1])
              have hfe := fun W => (show (Op.equalIn 10000 25 (.agg FA) (.agg FB)).run Tryd.prog W = .ok true W by rw [HFE.out W, decide_eq_true h2])
              obtain ⟨t, ht⟩ : ∃ t, (a.lit == b.lit) = t := ⟨_, rfl⟩
              obtain rfl : R = t := by
                rw [← HR.out, ← ht]
                by_cases h : a.lit = b.lit
                · rw [decide_eq_true (hs.2 ⟨h0, h1, h2, h3, h4, h5, h⟩), beq_iff_eq.2 h]
                · rw [decide_eq_false (fun e => h (hs.1 e).2.2.2.2.2.2), beq_eq_false_iff_ne.2 h]
              have hq := HEQ.out w1 HAL.out R ht
              clear hs ht
              go_wp2_with (first | (with_reducible refine hq.mono ?_; rintro e w2 ⟨rfl, rfl⟩) | (first | (refine wpList_load_keyC ?_ (.tmp 11) rfl ga rfl HA1.out HKA.out ?_; · rfl) | (refine wpList_load_keyC ?_ (.tmp 13) rfl gb rfl HB1.out HKB.out ?_; · rfl) | (refine wpList_load_fpC ?_ (.tmp 18) rfl ga rfl HA1.out HFA.out ?_; · rfl) | (refine wpList_load_fpC ?_ (.tmp 20) rfl gb rfl HB1.out HFB.out ?_; · rfl)))
              all_goals go_wp2_with fail
              all_goals go_ret
              exact ⟨rfl, HAL.out⟩
            · have hke := fun W => (show (Op.equalIn 10000 23 (.agg KA) (.agg KB)).run Tryd.prog W = .ok true W by rw [HKE.out W, decide_eq_true h1])
              have hfe := fun W => (show (Op.equalIn 10000 25 (.agg FA) (.agg FB)).run Tryd.prog W = .ok true W by rw [HFE.out W, decide_eq_true h2])
              obtain rfl : R = false := by rw [← HR.out]; exact decide_eq_false (fun e => h5 (hs.1 e).2.2.2.2.2.1)
              clear hs
              go_wp2_with (first | (refine wpList_load_keyC ?_ (.tmp 11) rfl ga rfl HA1.out HKA.out ?_; · rfl) | (refine wpList_load_keyC ?_ (.tmp 13) rfl gb rfl HB1.out HKB.out ?_; · rfl) | (refine wpList_load_fpC ?_ (.tmp 18) rfl ga rfl HA1.out HFA.out ?_; · rfl) | (refine wpList_load_fpC ?_ (.tmp 20) rfl gb rfl HB1.out HFB.out ?_; · rfl))
              go_ret
              exact ⟨rfl, HAL.out⟩
          · have hke := fun W => (show (Op.equalIn 10000 23 (.agg KA) (.agg KB)).run Tryd.prog W = .ok true W by rw [HKE.out W, decide_eq_true h1])
            have hfe := fun W => (show (Op.equalIn 10000 25 (.agg FA) (.agg FB)).run Tryd.prog W = .ok true W by rw [HFE.out W, decide_eq_true h2])
            obtain rfl : R = false := by rw [← HR.out]; exact decide_eq_false (fun e => h4 (hs.1 e).2.2.2.2.1)
            clear hs
            go_wp2_with (first | (refine wpList_load_keyC ?_ (.tmp 11) rfl ga rfl HA1.out HKA.out ?_; · rfl) | (refine wpList_load_keyC ?_ (.tmp 13) rfl gb rfl HB1.out HKB.out ?_; · rfl) | (refine wpList_load_fpC ?_ (.tmp 18) rfl ga rfl HA1.out HFA.out ?_; · rfl) | (refine wpList_load_fpC ?_ (.tmp 20) rfl gb rfl HB1.out HFB.out ?_; · rfl))
            go_ret
            exact ⟨rfl, HAL.out⟩
        · have hke := fun W => (show (Op.equalIn 10000 23 (.agg KA) (.agg KB)).run Tryd.prog W = .ok true W by rw [HKE.out W, decide_eq_true h1])
          have hfe := fun W => (show (Op.equalIn 10000 25 (.agg FA) (.agg FB)).run Tryd.prog W = .ok true W by rw [HFE.out W, decide_eq_true h2])
          obtain rfl : R = false := by rw [← HR.out]; exact decide_eq_false (fun e => h3 (hs.1 e).2.2.2.1)
          clear hs
          go_wp2_with (first | (refine wpList_load_keyC ?_ (.tmp 11) rfl ga rfl HA1.out HKA.out ?_; · rfl) | (refine wpList_load_keyC ?_ (.tmp 13) rfl gb rfl HB1.out HKB.out ?_; · rfl) | (refine wpList_load_fpC ?_ (.tmp 18) rfl ga rfl HA1.out HFA.out ?_; · rfl) | (refine wpList_load_fpC ?_ (.tmp 20) rfl gb rfl HB1.out HFB.out ?_; · rfl))
          go_ret
          exact ⟨rfl, HAL.out⟩
      · have hke := fun W => (show (Op.equalIn 10000 23 (.agg KA) (.agg KB)).run Tryd.prog W = .ok true W by rw [HKE.out W, decide_eq_true h1])
        have hfe := fun W => (show (Op.equalIn 10000 25 (.agg FA) (.agg FB)).run Tryd.prog W = .ok false W by rw [HFE.out W, decide_eq_false h2])
        obtain rfl : R = false := by rw [← HR.out]; exact decide_eq_false (fun e => h2 (hs.1 e).2.2.1)
        clear hs
        go_wp2_with (first | (refine wpList_load_keyC ?_ (.tmp 11) rfl ga rfl HA1.out HKA.out ?_; · rfl) | (refine wpList_load_keyC ?_ (.tmp 13) rfl gb rfl HB1.out HKB.out ?_; · rfl) | (refine wpList_load_fpC ?_ (.tmp 18) rfl ga rfl HA1.out HFA.out ?_; · rfl) | (refine wpList_load_fpC ?_ (.tmp 20) rfl gb rfl HB1.out HFB.out ?_; · rfl))
        go_ret
        exact ⟨rfl, HAL.out⟩
    · have hke := fun W => (show (Op.equalIn 10000 23 (.agg KA) (.agg KB)).run Tryd.prog W = .ok false W by rw [HKE.out W, decide_eq_false h1])
      obtain rfl : R = false := by rw [← HR.out]; exact decide_eq_false (fun e => h1 (hs.1 e).2.1)
      clear hs
      go_wp2_with (first | (refine wpList_load_keyC ?_ (.tmp 11) rfl ga rfl HA1.out HKA.out ?_; · rfl) | (refine wpList_load_keyC ?_ (.tmp 13) rfl gb rfl HB1.out HKB.out ?_; · rfl) | (refine wpList_load_fpC ?_ (.tmp 18) rfl ga rfl HA1.out HFA.out ?_; · rfl) | (refine wpList_load_fpC ?_ (.tmp 20) rfl gb rfl HB1.out HFB.out ?_; · rfl))
      go_ret
      exact ⟨rfl, HAL.out⟩
  · obtain rfl : R = false := by rw [← HR.out]; exact decide_eq_false (fun e => h0 (hs.1 e).1)
    clear hs
    go_wp2_with (first | (refine wpList_load_keyC ?_ (.tmp 11) rfl ga rfl HA1.out HKA.out ?_; · rfl) | (refine wpList_load_keyC ?_ (.tmp 13) rfl gb rfl HB1.out HKB.out ?_; · rfl) | (refine wpList_load_fpC ?_ (.tmp 18) rfl ga rfl HA1.out HFA.out ?_; · rfl) | (refine wpList_load_fpC ?_ (.tmp 20) rfl gb rfl HB1.out HFB.out ?_; · rfl))
    go_ret
    exact ⟨rfl, HAL.out⟩
end Go.Proofs.YtkkokngdhhakdaaDoor
