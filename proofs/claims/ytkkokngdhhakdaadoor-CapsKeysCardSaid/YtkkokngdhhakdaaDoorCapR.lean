/- The document's own Valid of capabilities. -/
import Derived.Test.YtkkokngdhhakdaaDoorCapA
import Derived.Deep.CutRange
namespace Go.Proofs.YtkkokngdhhakdaaDoor
open Go.RowKit
set_option maxRecDepth 100000

theorem zero_key (W : World) (x : List UInt8) (hx : x.length = 16) : (Op.equalIn 10000 23 (.agg (u8A x)) (.agg (u8A key0))).run Tryd.prog W = .ok (decide (x = key0)) W := run_key_eq W x key0 hx rfl
set_option maxHeartbeats 1000000 in
theorem rfile_any {w : World} {c : Cap13} {X : Value} (hw : c.wf) :
    Calls Tryd.prog 54 #[.agg (capA c X)] w fun e w' => e = .returned (.bool (decide (FileK c.kind))) ∧ Below w.heap.size w w' := by
  obtain ⟨CX, hCX⟩ : ∃ x, capA c X = x := ⟨_, rfl⟩
  have HC0 := Lib.hid (CapAt.new w X hw hCX)
  have hal : Below w.heap.size w (w.alloc (.cells CX 28)) := (Below.refl _ _).alloc (Nat.le_refl _) _
  have HAL := Lib.hid hal
  obtain ⟨R, hR⟩ : ∃ x, decide (FileK c.kind) = x := ⟨_, rfl⟩
  have HR := Lib.hid hR
  rw [hCX, hR]
  clear hCX hal hR
  go_enter Tryd.func54, Tryd.ntmps54
  go_upto_region 1 with fail
  obtain ⟨b, hb⟩ : ∃ g, w.heap.size = g := ⟨_, rfl⟩
  rw [hb] at HC0 ⊢
  generalize w.alloc (.cells CX 28) = w1 at *
  obtain ⟨c0, _, _, _, _⟩ := HC0.out.cells
  by_cases h1 : c.kind = 1
  · obtain rfl : R = true := by rw [← HR.out]; exact decide_eq_true (.inl h1)
    go_wp2_with fail
    go_ret
    exact ⟨rfl, by first | exact HAL.out | (rw [← hb]; exact HAL.out)⟩
  · by_cases h2 : c.kind = 2
    · obtain rfl : R = true := by rw [← HR.out]; exact decide_eq_true (.inr h2)
      go_wp2_with fail
      go_ret
      exact ⟨rfl, by first | exact HAL.out | (rw [← hb]; exact HAL.out)⟩
    · obtain rfl : R = false := by rw [← HR.out]; exact decide_eq_false (fun h => h.elim h1 h2)
      have e1 : (c.kind == 1) = false := beq_eq_false_iff_ne.2 h1
      have e2 : (c.kind == 2) = false := beq_eq_false_iff_ne.2 h2
      go_wp2_with fail
      go_ret
      exact ⟨rfl, by first | exact HAL.out | (rw [← hb]; exact HAL.out)⟩
set_option maxHeartbeats 1000000 in
theorem rslot_any {w : World} {c : Cap13} {X : Value} (hw : c.wf) :
    Calls Tryd.prog 66 #[.agg (capA c X)] w fun e w' => e = .returned (.bool (decide (4 ≤ c.kind ∧ c.kind ≤ 9))) ∧ Below w.heap.size w w' := by
  obtain ⟨CX, hCX⟩ : ∃ x, capA c X = x := ⟨_, rfl⟩
  have HC0 := Lib.hid (CapAt.new w X hw hCX)
  have hal : Below w.heap.size w (w.alloc (.cells CX 28)) := (Below.refl _ _).alloc (Nat.le_refl _) _
  have HAL := Lib.hid hal
  obtain ⟨R, hR⟩ : ∃ x, decide (4 ≤ c.kind ∧ c.kind ≤ 9) = x := ⟨_, rfl⟩
  have HR := Lib.hid hR
  rw [hCX, hR]
  clear hCX hal hR
  go_enter Tryd.func66, Tryd.ntmps66
  go_upto_region 1 with fail
  obtain ⟨b, hb⟩ : ∃ g, w.heap.size = g := ⟨_, rfl⟩
  rw [hb] at HC0 ⊢
  generalize w.alloc (.cells CX 28) = w1 at *
  obtain ⟨c0, _, _, _, _⟩ := HC0.out.cells
  by_cases h1 : 4 ≤ c.kind
  · by_cases h2 : c.kind ≤ 9
    · obtain rfl : R = true := by rw [← HR.out]; exact decide_eq_true ⟨h1, h2⟩
      go_wp2_with fail
      go_ret
      exact ⟨rfl, by first | exact HAL.out | (rw [← hb]; exact HAL.out)⟩
    · obtain rfl : R = false := by rw [← HR.out]; exact decide_eq_false (fun h => h2 h.2)
      go_wp2_with fail
      go_ret
      exact ⟨rfl, by first | exact HAL.out | (rw [← hb]; exact HAL.out)⟩
  · obtain rfl : R = false := by rw [← HR.out]; exact decide_eq_false (fun h => h1 h.1)
    go_wp2_with fail
    go_ret
    exact ⟨rfl, by first | exact HAL.out | (rw [← hb]; exact HAL.out)⟩

set_option maxHeartbeats 4000000 in
theorem rvalid_any {w : World} {c : Cap13} {A : Option Addr} {n cc : Nat} (hw : c.wf) (hn : c.lit.length = n) :
    Calls Tryd.prog 47 #[.agg (capA c (.slice A n cc))] w fun e w' => e = .returned (.bool (decide c.ok)) ∧ Below w.heap.size w w' := by
  obtain ⟨CX, hCX⟩ : ∃ x, capA c (.slice A n cc) = x := ⟨_, rfl⟩
  have HC0 := Lib.hid (CapAt.new w (.slice A n cc) hw hCX)
  have hal : Below w.heap.size w (w.alloc (.cells CX 28)) := (Below.refl _ _).alloc (Nat.le_refl _) _
  have HAL := Lib.hid hal
  have HCX := Lib.hid hCX
  have HFI := Lib.hid (fun h => ok_file hn (c := c) h)
  have HLI := Lib.hid (fun h => ok_lit hn (c := c) h)
  have HSL := Lib.hid (fun h => ok_slot hn (c := c) h)
  have HKO := Lib.hid (show c.ok → 1 ≤ c.kind ∧ c.kind ≤ 9 from c.ok_kind)
  have HKE := Lib.hid (fun W => run_key_eq W c.key key0 hw.1 rfl)
  have HFE := Lib.hid (fun W => run_hash_eq W c.fp hash0 hw.2 rfl)
  obtain ⟨FK, hFK⟩ : ∃ x, decide (FileK c.kind) = x := ⟨_, rfl⟩
  obtain ⟨SK, hSK⟩ : ∃ x, decide (4 ≤ c.kind ∧ c.kind ≤ 9) = x := ⟨_, rfl⟩
  obtain ⟨NN, hNN⟩ : ∃ x, decide c.none3 = x := ⟨_, rfl⟩
  have HRF := Lib.hid (fun (W : World) => rfile_any (w := W) (c := c) (X := .slice A n cc) hw)
  have HRS := Lib.hid (fun (W : World) => rslot_any (w := W) (c := c) (X := .slice A n cc) hw)
  rw [hCX, hFK] at HRF
  rw [hCX, hSK] at HRS
  have HFK := Lib.hid hFK
  have HSK := Lib.hid hSK
  have HNN := Lib.hid hNN
  obtain ⟨KX, hKX⟩ : ∃ x, u8A c.key = x := ⟨_, rfl⟩
  obtain ⟨KZ, hKZ⟩ : ∃ x, u8A key0 = x := ⟨_, rfl⟩
  obtain ⟨FX, hFX⟩ : ∃ x, u8A c.fp = x := ⟨_, rfl⟩
  obtain ⟨FZ, hFZ⟩ : ∃ x, u8A hash0 = x := ⟨_, rfl⟩
  rw [hKX, hKZ] at HKE
  rw [hFX, hFZ] at HFE
  have HKX := Lib.hid hKX
  have HKZ := Lib.hid hKZ
  have HFX := Lib.hid hFX
  have HFZ := Lib.hid hFZ
  obtain ⟨R, hR⟩ : ∃ x, decide c.ok = x := ⟨_, rfl⟩
  have HR := Lib.hid hR
  rw [hCX, hR]
  clear hCX hR hw hn hFK hSK hNN hKX hKZ hFX hFZ hal
  go_enter Tryd.func47, Tryd.ntmps47
  go_upto_region 1 with fail
  obtain ⟨b, hb⟩ : ∃ g, w.heap.size = g := ⟨_, rfl⟩
  rw [hb] at HC0 ⊢
  generalize w.alloc (.cells CX 28) = w1 at *
  obtain ⟨c0, c49, c50, c51, c52⟩ := HC0.out.cells
  go_cut [3] from 4 to 16 (fun v wx => v = .bool NN ∧ w1 = wx)
  case first =>
    by_cases h0 : c.k = 0
    · by_cases h1 : c.n = 0
      · by_cases h2 : c.size = 0
        · obtain rfl : NN = true := by rw [← HNN.out]; exact decide_eq_true ⟨h0, h1, h2⟩
          go_wp2_with fail
          go_meet
          exact ⟨rfl, rfl⟩
        · obtain rfl : NN = false := by rw [← HNN.out]; exact decide_eq_false (fun h => h2 h.2.2)
          have e : (c.size == 0) = false := beq_eq_false_iff_ne.2 h2
          go_wp2_with fail
          go_meet
          exact ⟨rfl, rfl⟩
      · obtain rfl : NN = false := by rw [← HNN.out]; exact decide_eq_false (fun h => h1 h.2.1)
        go_wp2_with fail
        go_meet
        exact ⟨rfl, rfl⟩
    · obtain rfl : NN = false := by rw [← HNN.out]; exact decide_eq_false (fun h => h0 h.1)
      go_wp2_with fail
      go_meet
      exact ⟨rfl, rfl⟩
  case rest =>
    obtain ⟨rfl, rfl⟩ := hcut
    by_cases hf : FileK c.kind
    · obtain rfl : FK = true := by rw [← HFK.out]; exact decide_eq_true hf
      have hok := HFI.out hf
      clear HFI HLI HSL HKO HRS HKE HFE c0
      go_upto_region 3 with (first | (refine wpList_load_capC ?_ (.tmp 1) rfl b rfl HC0.out HCX.out ?_; · rfl) | (with_reducible refine (HRF.out _).mono ?_; rintro e w2 ⟨rfl, hb2⟩))
      have HC2 := Lib.hid (HC0.out.below hb2)
      have HB2 := Lib.hid (HAL.out.trans (hb2.mono HAL.out.size))
      clear hb2 c49 c50 c51 c52
      obtain ⟨_, c49, c50, c51, c52⟩ := HC2.out.cells
      by_cases h0 : 1 ≤ c.k
      · by_cases h1 : c.k ≤ c.n
        · by_cases h2 : c.n ≤ 16
          · by_cases h3 : 1 ≤ c.size
            · by_cases h4 : c.size ≤ 1024
              · by_cases h5 : (n : Int) = 0
                · obtain rfl : R = true := by rw [← HR.out]; exact decide_eq_true (hok.2 (by omega))
                  have hb0 : ((n : Int) == 0) = true := by rw [beq_iff_eq]; assumption
                  go_wp2_with fail
                  go_ret
                  exact ⟨rfl, by first | exact HB2.out | (rw [← hb]; exact HB2.out)⟩
                · obtain rfl : R = false := by rw [← HR.out]; exact decide_eq_false (fun h => by have := hok.1 h; omega)
                  have hb0 : ((n : Int) == 0) = false := by rw [beq_eq_false_iff_ne]; assumption
                  go_wp2_with fail
                  go_ret
                  exact ⟨rfl, by first | exact HB2.out | (rw [← hb]; exact HB2.out)⟩
              · obtain rfl : R = false := by rw [← HR.out]; exact decide_eq_false (fun h => by have := hok.1 h; omega)
                go_wp2_with fail
                go_ret
                exact ⟨rfl, by first | exact HB2.out | (rw [← hb]; exact HB2.out)⟩
            · obtain rfl : R = false := by rw [← HR.out]; exact decide_eq_false (fun h => by have := hok.1 h; omega)
              go_wp2_with fail
              go_ret
              exact ⟨rfl, by first | exact HB2.out | (rw [← hb]; exact HB2.out)⟩
          · obtain rfl : R = false := by rw [← HR.out]; exact decide_eq_false (fun h => by have := hok.1 h; omega)
            go_wp2_with fail
            go_ret
            exact ⟨rfl, by first | exact HB2.out | (rw [← hb]; exact HB2.out)⟩
        · obtain rfl : R = false := by rw [← HR.out]; exact decide_eq_false (fun h => by have := hok.1 h; omega)
          go_wp2_with fail
          go_ret
          exact ⟨rfl, by first | exact HB2.out | (rw [← hb]; exact HB2.out)⟩
      · obtain rfl : R = false := by rw [← HR.out]; exact decide_eq_false (fun h => by have := hok.1 h; omega)
        go_wp2_with fail
        go_ret
        exact ⟨rfl, by first | exact HB2.out | (rw [← hb]; exact HB2.out)⟩
    · obtain rfl : FK = false := by rw [← HFK.out]; exact decide_eq_false hf
      go_upto_region 4 with (first | (refine wpList_load_capC ?_ (.tmp 1) rfl b rfl HC0.out HCX.out ?_; · rfl) | (with_reducible refine (HRF.out _).mono ?_; rintro e w2 ⟨rfl, hb2⟩))
      have HC2 := Lib.hid (HC0.out.below hb2)
      have HB2 := Lib.hid (HAL.out.trans (hb2.mono HAL.out.size))
      clear hb2 c0 c49 c50 c51 c52 HFI HRF
      obtain ⟨c0, _, _, _, c52⟩ := HC2.out.cells
      by_cases h3 : c.kind = 3
      · have hok := HLI.out h3
        clear HLI HSL HKO HRS
        have hs := c.same_iff ⟨c.kind, key0, hash0, 0, 0, 0, c.lit⟩
        have hke := HKE.out
        have hfe := HFE.out
        go_upto_region 5 with fail
        clear c0
        by_cases hn3 : c.none3
        · obtain rfl : NN = true := by rw [← HNN.out]; exact decide_eq_true hn3
          by_cases hk : c.key = key0
          · simp only [hk, decide_true] at hke
            by_cases hp : c.fp = hash0
            · simp only [hp, decide_true] at hfe
              by_cases h64 : (n : Int) ≤ 64
              · obtain rfl : R = true := by rw [← HR.out]; exact decide_eq_true (hok.2 ⟨h64, hs.2 ⟨rfl, hk, hp, hn3.1, hn3.2.1, hn3.2.2, rfl⟩⟩)
                clear hok hs hk hp hn3
                go_wp2_with (first | (refine wpList_load_keyC ?_ (.tmp 57) rfl b rfl HC2.out HKX.out ?_; · rfl) | (refine wpList_load_fpC ?_ (.tmp 63) rfl b rfl HC2.out HFX.out ?_; · rfl) | (refine wpList_build_C ?_ 23 #[] rfl [] (by simp) KZ _ built_key0 HKZ.out ?_; · rfl) | (refine wpList_build_C ?_ 25 #[] rfl [] (by simp) FZ _ built_hash0 HFZ.out ?_; · rfl))
                go_ret
                exact ⟨rfl, by first | exact HB2.out | (rw [← hb]; exact HB2.out)⟩
              · obtain rfl : R = false := by rw [← HR.out]; exact decide_eq_false (fun h => h64 (hok.1 h).1)
                clear hok hs hk hp hn3
                go_wp2_with (first | (refine wpList_load_keyC ?_ (.tmp 57) rfl b rfl HC2.out HKX.out ?_; · rfl) | (refine wpList_load_fpC ?_ (.tmp 63) rfl b rfl HC2.out HFX.out ?_; · rfl) | (refine wpList_build_C ?_ 23 #[] rfl [] (by simp) KZ _ built_key0 HKZ.out ?_; · rfl) | (refine wpList_build_C ?_ 25 #[] rfl [] (by simp) FZ _ built_hash0 HFZ.out ?_; · rfl))
                go_ret
                exact ⟨rfl, by first | exact HB2.out | (rw [← hb]; exact HB2.out)⟩
            · simp only [hp, decide_false] at hfe
              obtain rfl : R = false := by rw [← HR.out]; exact decide_eq_false (fun h => hp (hs.1 (hok.1 h).2).2.2.1)
              clear hok hs hk hn3
              go_wp2_with (first | (refine wpList_load_keyC ?_ (.tmp 57) rfl b rfl HC2.out HKX.out ?_; · rfl) | (refine wpList_load_fpC ?_ (.tmp 63) rfl b rfl HC2.out HFX.out ?_; · rfl) | (refine wpList_build_C ?_ 23 #[] rfl [] (by simp) KZ _ built_key0 HKZ.out ?_; · rfl) | (refine wpList_build_C ?_ 25 #[] rfl [] (by simp) FZ _ built_hash0 HFZ.out ?_; · rfl))
              go_ret
              exact ⟨rfl, by first | exact HB2.out | (rw [← hb]; exact HB2.out)⟩
          · simp only [hk, decide_false] at hke
            obtain rfl : R = false := by rw [← HR.out]; exact decide_eq_false (fun h => hk (hs.1 (hok.1 h).2).2.1)
            clear hok hs hn3
            go_wp2_with (first | (refine wpList_load_keyC ?_ (.tmp 57) rfl b rfl HC2.out HKX.out ?_; · rfl) | (refine wpList_load_fpC ?_ (.tmp 63) rfl b rfl HC2.out HFX.out ?_; · rfl) | (refine wpList_build_C ?_ 23 #[] rfl [] (by simp) KZ _ built_key0 HKZ.out ?_; · rfl) | (refine wpList_build_C ?_ 25 #[] rfl [] (by simp) FZ _ built_hash0 HFZ.out ?_; · rfl))
            go_ret
            exact ⟨rfl, by first | exact HB2.out | (rw [← hb]; exact HB2.out)⟩
        · obtain rfl : NN = false := by rw [← HNN.out]; exact decide_eq_false hn3
          obtain rfl : R = false := by rw [← HR.out]; exact decide_eq_false (fun h => hn3 ⟨(hs.1 (hok.1 h).2).2.2.2.1, (hs.1 (hok.1 h).2).2.2.2.2.1, (hs.1 (hok.1 h).2).2.2.2.2.2.1⟩)
          clear hok hs
          go_wp2_with (first | (refine wpList_load_keyC ?_ (.tmp 57) rfl b rfl HC2.out HKX.out ?_; · rfl) | (refine wpList_load_fpC ?_ (.tmp 63) rfl b rfl HC2.out HFX.out ?_; · rfl) | (refine wpList_build_C ?_ 23 #[] rfl [] (by simp) KZ _ built_key0 HKZ.out ?_; · rfl) | (refine wpList_build_C ?_ 25 #[] rfl [] (by simp) FZ _ built_hash0 HFZ.out ?_; · rfl))
          go_ret
          exact ⟨rfl, by first | exact HB2.out | (rw [← hb]; exact HB2.out)⟩
      · have e3 : (c.kind == 3) = false := beq_eq_false_iff_ne.2 h3
        clear HLI HKE HFE
        go_upto_region 6 with fail
        have hre : (R = true ↔ SK = true ∧ NN = true ∧ ((n : Int) == 0) = true) := by
          rw [← HR.out, ← HSK.out, ← HNN.out, decide_eq_true_iff, decide_eq_true_iff, decide_eq_true_iff, beq_iff_eq]
          constructor
          · intro h
            have hk := HKO.out h
            have hk4 : 4 ≤ c.kind ∧ c.kind ≤ 9 := by unfold FileK at hf; omega
            have := (HSL.out hk4).1 h
            exact ⟨hk4, ⟨this.1, this.2.1, this.2.2.1⟩, this.2.2.2⟩
          · rintro ⟨hk4, hn3, h0⟩
            exact (HSL.out hk4).2 ⟨hn3.1, hn3.2.1, hn3.2.2, h0⟩
        have HRE := Lib.hid hre
        clear hre HSL HKO HSK HNN HFK HR hf h3 c0
        obtain ⟨Z, hZ⟩ : ∃ x, ((n : Int) == 0) = x := ⟨_, rfl⟩
        rw [hZ] at HRE
        have HLD := Lib.hid HC2.out
        have hre := HRE.out
        clear HRE
        cases SK
        · obtain rfl : R = false := by cases R; rfl; exact absurd (hre.1 rfl).1 (by decide)
          clear hre c52 e3
          go_wp2_with (first | (refine wpList_load_capC ?_ (.tmp 1) rfl b rfl HLD.out HCX.out ?_; · rfl) | (with_reducible refine (HRS.out _).mono ?_; rintro e w3 ⟨rfl, hb3⟩; have hc52 := (HLD.out.below hb3).cells.2.2.2.2))
          all_goals (have HB3 := HB2.out.trans (hb3.mono HB2.out.size))
          all_goals go_ret
          all_goals exact ⟨by first | rfl | (rw [hZ]) | simp_all, by first | exact HB3 | (rw [← hb]; exact HB3)⟩
        · cases NN
          · obtain rfl : R = false := by cases R; rfl; exact absurd (hre.1 rfl).2.1 (by decide)
            clear hre c52 e3
            go_wp2_with (first | (refine wpList_load_capC ?_ (.tmp 1) rfl b rfl HLD.out HCX.out ?_; · rfl) | (with_reducible refine (HRS.out _).mono ?_; rintro e w3 ⟨rfl, hb3⟩; have hc52 := (HLD.out.below hb3).cells.2.2.2.2))
            all_goals (have HB3 := HB2.out.trans (hb3.mono HB2.out.size))
            all_goals go_ret
            all_goals exact ⟨by first | rfl | (rw [hZ]) | simp_all, by first | exact HB3 | (rw [← hb]; exact HB3)⟩
          · obtain rfl : R = Z := by cases R <;> cases Z <;> simp_all
            clear hre c52 e3
            go_wp2_with (first | (refine wpList_load_capC ?_ (.tmp 1) rfl b rfl HLD.out HCX.out ?_; · rfl) | (with_reducible refine (HRS.out _).mono ?_; rintro e w3 ⟨rfl, hb3⟩; have hc52 := (HLD.out.below hb3).cells.2.2.2.2))
            all_goals (have HB3 := HB2.out.trans (hb3.mono HB2.out.size))
            all_goals go_ret
            all_goals exact ⟨by first | rfl | (rw [hZ]) | simp_all, by first | exact HB3 | (rw [← hb]; exact HB3)⟩
end Go.Proofs.YtkkokngdhhakdaaDoor
