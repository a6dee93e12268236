/- The program's Valid. -/
import Derived.Test.YtkkokngdhhakdaaDoorCapS
namespace Go.Proofs.YtkkokngdhhakdaaDoor
open Go.RowKit
set_option maxRecDepth 100000

set_option maxHeartbeats 4000000 in
theorem pvalid_any {w : World} {c : Cap13} {A : Option Addr} {n cc : Nat} (hw : c.wf) (hn : c.lit.length = n) (hr : Rd w w.heap.size A c.lit) :
    Calls Tryd.prog 39 #[.agg (capA c (.slice A n cc))] w fun e w' => e = .returned (.bool (decide c.ok)) ∧ Below w.heap.size w w' := by
  obtain ⟨CX, hCX⟩ : ∃ x, capA c (.slice A n cc) = x := ⟨_, rfl⟩
  have HC0 := Lib.hid (CapAt.new w (.slice A n cc) hw hCX)
  rw [hCX]
  have hal : Below w.heap.size w (w.alloc (.cells CX 28)) := (Below.refl _ _).alloc (Nat.le_refl _) _
  have HCX := Lib.hid hCX
  have HSM := Lib.hid (fun (W : World) (hW : Below w.heap.size w W) => psame_any (w := W) (a := c) (b := ⟨c.kind, key0, hash0, 0, 0, 0, c.lit⟩) (A := A) (B := A) (n := n) (m := n) (c := cc) (d := cc) hw ⟨rfl, rfl⟩ hn hn (hr.on hW) (hr.on hW))
  have HFI := Lib.hid (fun h => ok_file hn (c := c) h)
  have HLI := Lib.hid (fun h => ok_lit hn (c := c) h)
  have HSL := Lib.hid (fun h => ok_slot hn (c := c) h)
  have hko : c.ok → 1 ≤ c.kind ∧ c.kind ≤ 9 := c.ok_kind
  have HKO := Lib.hid hko
  obtain ⟨R, hR⟩ : ∃ x, decide c.ok = x := ⟨_, rfl⟩
  have HR := Lib.hid hR
  obtain ⟨BX, hBX⟩ : ∃ x, capA ⟨c.kind, key0, hash0, 0, 0, 0, c.lit⟩ (.slice A n cc) = x := ⟨_, rfl⟩
  have HBX := Lib.hid hBX
  rw [hR]
  simp only [hCX, hBX] at HSM
  clear hCX hR hr hn hw hBX hko
  go_enter Tryd.func39, Tryd.ntmps39
  go_upto_region 1 with fail
  have HAL := Lib.hid hal
  obtain ⟨b, hb⟩ : ∃ g, w.heap.size = g := ⟨_, rfl⟩
  rw [hb] at HC0 ⊢
  generalize w.alloc (.cells CX 28) = w1 at *
  clear hal
  obtain ⟨c0, c49, c50, c51, c52⟩ := HC0.out.cells
  by_cases hk1 : c.kind = 1 ∨ c.kind = 2
  · have hok := HFI.out hk1
    clear HFI HLI HSL HSM HBX HKO
    rcases hk1 with hk | hk
    all_goals go_upto_region 4 with fail
    all_goals clear hk c0
    · by_cases h0 : 1 ≤ c.k
      · by_cases h1 : c.k ≤ c.n
        · by_cases h2 : c.n ≤ 16
          · by_cases h3 : 1 ≤ c.size
            · by_cases h4 : c.size ≤ 1024
              · by_cases h5 : (n : Int) = 0
                · obtain rfl : R = true := by rw [← HR.out]; exact decide_eq_true (hok.2 (by omega))
                  have hb0 : ((n : Int) == 0) = true := by rw [beq_iff_eq]; assumption
                  go_wp2_with fail
                  go_ret
                  exact ⟨rfl, by first | exact HAL.out | (rw [← hb]; exact HAL.out)⟩
                · obtain rfl : R = false := by rw [← HR.out]; exact decide_eq_false (fun h => by have := hok.1 h; omega)
                  have hb0 : ((n : Int) == 0) = false := by rw [beq_eq_false_iff_ne]; assumption
                  go_wp2_with fail
                  go_ret
                  exact ⟨rfl, by first | exact HAL.out | (rw [← hb]; exact HAL.out)⟩
              · obtain rfl : R = false := by rw [← HR.out]; exact decide_eq_false (fun h => by have := hok.1 h; omega)
                go_wp2_with fail
                go_ret
                exact ⟨rfl, by first | exact HAL.out | (rw [← hb]; exact HAL.out)⟩
            · obtain rfl : R = false := by rw [← HR.out]; exact decide_eq_false (fun h => by have := hok.1 h; omega)
              go_wp2_with fail
              go_ret
              exact ⟨rfl, by first | exact HAL.out | (rw [← hb]; exact HAL.out)⟩
          · obtain rfl : R = false := by rw [← HR.out]; exact decide_eq_false (fun h => by have := hok.1 h; omega)
            go_wp2_with fail
            go_ret
            exact ⟨rfl, by first | exact HAL.out | (rw [← hb]; exact HAL.out)⟩
        · obtain rfl : R = false := by rw [← HR.out]; exact decide_eq_false (fun h => by have := hok.1 h; omega)
          go_wp2_with fail
          go_ret
          exact ⟨rfl, by first | exact HAL.out | (rw [← hb]; exact HAL.out)⟩
      · obtain rfl : R = false := by rw [← HR.out]; exact decide_eq_false (fun h => by have := hok.1 h; omega)
        go_wp2_with fail
        go_ret
        exact ⟨rfl, by first | exact HAL.out | (rw [← hb]; exact HAL.out)⟩
    · by_cases h0 : 1 ≤ c.k
      · by_cases h1 : c.k ≤ c.n
        · by_cases h2 : c.n ≤ 16
          · by_cases h3 : 1 ≤ c.size
            · by_cases h4 : c.size ≤ 1024
              · by_cases h5 : (n : Int) = 0
                · obtain rfl : R = true := by rw [← HR.out]; exact decide_eq_true (hok.2 (by omega))
                  have hb0 : ((n : Int) == 0) = true := by rw [beq_iff_eq]; assumption
                  go_wp2_with fail
                  go_ret
                  exact ⟨rfl, by first | exact HAL.out | (rw [← hb]; exact HAL.out)⟩
                · obtain rfl : R = false := by rw [← HR.out]; exact decide_eq_false (fun h => by have := hok.1 h; omega)
                  have hb0 : ((n : Int) == 0) = false := by rw [beq_eq_false_iff_ne]; assumption
                  go_wp2_with fail
                  go_ret
                  exact ⟨rfl, by first | exact HAL.out | (rw [← hb]; exact HAL.out)⟩
              · obtain rfl : R = false := by rw [← HR.out]; exact decide_eq_false (fun h => by have := hok.1 h; omega)
                go_wp2_with fail
                go_ret
                exact ⟨rfl, by first | exact HAL.out | (rw [← hb]; exact HAL.out)⟩
            · obtain rfl : R = false := by rw [← HR.out]; exact decide_eq_false (fun h => by have := hok.1 h; omega)
              go_wp2_with fail
              go_ret
              exact ⟨rfl, by first | exact HAL.out | (rw [← hb]; exact HAL.out)⟩
          · obtain rfl : R = false := by rw [← HR.out]; exact decide_eq_false (fun h => by have := hok.1 h; omega)
            go_wp2_with fail
            go_ret
            exact ⟨rfl, by first | exact HAL.out | (rw [← hb]; exact HAL.out)⟩
        · obtain rfl : R = false := by rw [← HR.out]; exact decide_eq_false (fun h => by have := hok.1 h; omega)
          go_wp2_with fail
          go_ret
          exact ⟨rfl, by first | exact HAL.out | (rw [← hb]; exact HAL.out)⟩
      · obtain rfl : R = false := by rw [← HR.out]; exact decide_eq_false (fun h => by have := hok.1 h; omega)
        go_wp2_with fail
        go_ret
        exact ⟨rfl, by first | exact HAL.out | (rw [← hb]; exact HAL.out)⟩
  · clear HFI
    by_cases hk3 : c.kind = 3
    · have hok := HLI.out hk3
      clear HLI HSL HKO
      by_cases h0 : (n : Int) ≤ 64
      · obtain ⟨t, ht⟩ : ∃ t, decide (c = ⟨c.kind, key0, hash0, 0, 0, 0, c.lit⟩) = t := ⟨_, rfl⟩
        obtain rfl : R = t := by rw [← HR.out, ← ht]; exact decide_eq_decide.2 (by rw [hok]; exact ⟨fun h => h.2, fun h => ⟨h0, h⟩⟩)
        rw [ht] at HSM
        clear hok ht
        go_wp2_with (first | (refine wpList_load_capC ?_ (.tmp 1) rfl b rfl HC0.out HCX.out ?_; · rfl) | (refine wpList_build_C ?_ 28 #[(0, .tmp 48), (6, .tmp 50)] rfl _ rfl BX _ (built_cap06 _ _ _ _) HBX.out ?_; · rfl))
        have hq := HSM.out _ HAL.out
        rw [← HBX.out, hk3] at hq
        clear HSM
        refine hq.mono ?_
        rintro e w2 ⟨rfl, hb2⟩
        have hb3 := HAL.out.trans (hb2.mono HAL.out.size)
        clear hq hb2
        go_wp2_with fail
        go_ret
        exact ⟨rfl, by first | exact hb3 | (rw [← hb]; exact hb3)⟩
      · obtain rfl : R = false := by rw [← HR.out]; exact decide_eq_false (fun h => h0 (hok.1 h).1)
        clear hok HSM
        go_wp2_with fail
        go_ret
        exact ⟨rfl, by first | exact HAL.out | (rw [← hb]; exact HAL.out)⟩
    · clear HLI HSM HBX
      by_cases hk4 : 4 ≤ c.kind ∧ c.kind ≤ 9
      · have hok := HSL.out hk4
        clear HSL HKO
        obtain hk | hk | hk | hk | hk | hk : c.kind = 4 ∨ c.kind = 5 ∨ c.kind = 6 ∨ c.kind = 7 ∨ c.kind = 8 ∨ c.kind = 9 := by omega
        all_goals
          go_upto_region 13 with fail
          clear hk1 hk3 hk4 hk c0
          by_cases h0 : c.k = 0
          · by_cases h1 : c.n = 0
            · by_cases h2 : c.size = 0
              · by_cases h3 : (n : Int) = 0
                · obtain rfl : R = true := by rw [← HR.out]; exact decide_eq_true (hok.2 (by omega))
                  have hb0 : ((n : Int) == 0) = true := by rw [beq_iff_eq]; assumption
                  go_wp2_with fail
                  go_ret
                  exact ⟨rfl, by first | exact HAL.out | (rw [← hb]; exact HAL.out)⟩
                · obtain rfl : R = false := by rw [← HR.out]; exact decide_eq_false (fun h => by have := hok.1 h; omega)
                  have hb0 : ((n : Int) == 0) = false := by rw [beq_eq_false_iff_ne]; assumption
                  go_wp2_with fail
                  go_ret
                  exact ⟨rfl, by first | exact HAL.out | (rw [← hb]; exact HAL.out)⟩
              · obtain rfl : R = false := by rw [← HR.out]; exact decide_eq_false (fun h => by have := hok.1 h; omega)
                go_wp2_with fail
                go_ret
                exact ⟨rfl, by first | exact HAL.out | (rw [← hb]; exact HAL.out)⟩
            · obtain rfl : R = false := by rw [← HR.out]; exact decide_eq_false (fun h => by have := hok.1 h; omega)
              go_wp2_with fail
              go_ret
              exact ⟨rfl, by first | exact HAL.out | (rw [← hb]; exact HAL.out)⟩
          · obtain rfl : R = false := by rw [← HR.out]; exact decide_eq_false (fun h => by have := hok.1 h; omega)
            go_wp2_with fail
            go_ret
            exact ⟨rfl, by first | exact HAL.out | (rw [← hb]; exact HAL.out)⟩
      · obtain rfl : R = false := by rw [← HR.out]; exact decide_eq_false (fun h => by have := HKO.out h; omega)
        have e1 : c.kind ≠ 1 := by omega
        have e2 : c.kind ≠ 2 := by omega
        have e4 : c.kind ≠ 4 := by omega
        have e5 : c.kind ≠ 5 := by omega
        have e6 : c.kind ≠ 6 := by omega
        have e7 : c.kind ≠ 7 := by omega
        have e8 : c.kind ≠ 8 := by omega
        have e9 : c.kind ≠ 9 := by omega
        go_wp2_with fail
        go_ret
        exact ⟨rfl, by first | exact HAL.out | (rw [← hb]; exact HAL.out)⟩
end Go.Proofs.YtkkokngdhhakdaaDoor
