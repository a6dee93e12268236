/- WotsAlong: steps one behind the other are all steps at once; a value further along a chain leads to the same end. For all hashes and numbers. -/
import Derived.Test.YtciflbkgfmbfdaaDoorLaw
import Derived.Test.YtciflbkgfmbfdaaDoorKeep
import Derived.Test.YtciflbkgfmbfdaaDoorSix
import Derived.Test.YtciflbkgfmbfdaaDoorWakes8
import Derived.Test.YtciflbkgfmbfdaaDoorWotsD
import Derived.Test.YtciflbkgfmbfdaaDoorHashD
namespace Go.Proofs.YtciflbkgfmbfdaaDoor.wotsAlong
open Go.ChangeShapes Go.WideShapes Go.ChangeAt Go.RowKit

set_option maxRecDepth 100000 in
set_option maxHeartbeats 16000000 in
theorem walk (h : List UInt8) (a b : Int) (w : World) (hh : h.length = 32) (ha0 : -9223372036854775808 ≤ a) (ha1 : a ≤ 9223372036854775807) (hb0 : -9223372036854775808 ≤ b) (hb1 : b ≤ 9223372036854775807) (htab : Pow10 w.heap.size w) :
    Calls Tryd.prog 9 #[.agg (u8A h), .int .i64 a, .int .i64 b] w fun e w' => e = .returned (.bool true) ∧ Below w.heap.size w w' := by
  obtain ⟨p, hp, hp16⟩ : ∃ p : Nat, withinI a 16 = (p : Int) ∧ p < 16 := by
    have := withinI_range a 16 (by omega)
    exact ⟨(withinI a 16).toNat, by omega, by omega⟩
  obtain ⟨r, hr⟩ : ∃ r : Nat, 16 - p = r := ⟨_, rfl⟩
  have hrs : (16 : Int) - (p : Int) = (r : Int) := by omega
  obtain ⟨q, hq, hqr⟩ : ∃ q : Nat, withinI b (r : Int) = (q : Int) ∧ q < r := by
    have := withinI_range b (r : Int) (by omega)
    exact ⟨(withinI b (r : Int)).toNat, by omega, by omega⟩
  have HW1 := Lib.hid (fun W => (show Calls Tryd.prog 10 #[.int .i64 a, .int .i64 16] W fun e w' => e = .returned (.int .i64 (p : Int)) ∧ W = w' by rw [← hp]; exact within_any a 16 W ha0 ha1 (by omega)))
  have HW2 := Lib.hid (fun W => (show Calls Tryd.prog 10 #[.int .i64 b, .int .i64 (r : Int)] W fun e w' => e = .returned (.int .i64 (q : Int)) ∧ W = w' by rw [← hq]; exact within_any b (r : Int) W hb0 hb1 (by omega)))
  have hps : p + q ≤ 15 := by omega
  obtain ⟨s, hs⟩ : ∃ s, p + q = s := ⟨_, rfl⟩
  have HSW := Lib.hid (show IntKind.i64.wrap ((p : Int) + (q : Int)) = (s : Int) by rw [IntWalk.i64_in _ (by omega)]; omega)
  obtain ⟨C, hC⟩ : ∃ X, u8A h = X := ⟨_, rfl⟩
  have HEC := Lib.hid hC
  have HCS := Lib.hid (show C.size = 32 by rw [← hC, u8A_size]; exact hh)
  have HCO := Lib.hid (show C.all (·.oneCell') = true by rw [← hC]; exact u8A_one _)
  have HTAB := Lib.hid htab
  rw [hC]
  clear htab hp hq hr
  go_enter Tryd.func9, Tryd.ntmps9
  go_upto_region 1 with fail
  generalize hw3 : World.alloc _ _ = w3
  obtain ⟨g1, hg1⟩ : ∃ g, w.heap.size = g := ⟨_, rfl⟩
  have hf : Blk w3 g1 C 34 ∧ Below w.heap.size w w3 := by
    rw [← hw3, ← hg1]
    exact ⟨Blk.new w _ _, (Below.refl _ _).alloc (Nat.le_refl _) _⟩
  have HB1 := Lib.hid hf.1
  have HB3 := Lib.hid hf.2
  clear hf hw3
  rw [hg1]
  clear hg1
  go_wp2_with fail
  with_reducible refine (HW1.out _).mono ?_
  rintro e wx ⟨rfl, rfl⟩
  go_wp2_with fail
  with_reducible refine (HW2.out _).mono ?_
  rintro e wx ⟨rfl, rfl⟩
  clear HW1 HW2
  go_upto_region 4 with (first
    | (with_reducible refine wpList_load_blk rfl 34 (.tmp 3) rfl g1 rfl 34 C _ HB1.out Tryd.underlying34 rfl (by rw [HCS.out]; kernel_rfl) ?_)
    | (with_reducible refine wpList_store_blk rfl 34 (.tmp 7) (.tmp 15) rfl w3.heap.size C rfl rfl 34 _ (Blk.new _ _ _) (by rw [HCS.out]; kernel_rfl) (by rw [HCS.out]; kernel_rfl) HCO.out ?_))
  generalize hw4 : World.setRow _ _ _ = w4
  have hal : Below w3.heap.size w3 w4 := by
    rw [← hw4]
    exact below_row ((Below.refl _ _).alloc (Nat.le_refl _) _) (by simp) (Nat.le_refl _) _
  have HB7 := Lib.hid (show Blk w4 w3.heap.size (u8A (alongH 0 h)) 34 by
    rw [← hw4, show alongH 0 h = h from rfl, HEC.out]
    exact (Blk.new _ _ _).row _)
  obtain ⟨g7, hg7⟩ : ∃ g, w3.heap.size = g := ⟨_, rfl⟩
  have HG := Lib.hid (show g1 < g7 ∧ w.heap.size ≤ g7 by have := HB1.out.lt; have := HB3.out.size; omega)
  replace HB1 := Lib.hid (HB1.out.below hal HB1.out.lt)
  replace HB3 := Lib.hid (HB3.out.trans (hal.mono HB3.out.size))
  rw [hg7] at HB7 ⊢
  clear hal hw4 hg7
  go_wp2_with fail
  go_loopw [8] (fun t wq => ∃ i : Nat, i ≤ p ∧ t = .int .i64 (i : Int) ∧ Hid (Blk wq g7 (u8A (alongH i h)) 34) ∧ Hid (Below g7 w4 wq)) (fun t _ => p - (intOf t).toNat)
  case atStart => exact ⟨0, Nat.zero_le _, rfl, HB7, Lib.hid (Below.refl _ _)⟩
  case round =>
    clear HB7
    obtain ⟨i, hi, rfl, HB7, HBQ⟩ := hrel
    have hlen := alongH_len hh i
    have hbz := HB3.out.trans (HBQ.out.mono HG.out.2)
    by_cases hlt : i < p
    · have hii : (i : Int) < (p : Int) := by omega
      have HSN := Lib.hid (show alongH (i + 1) h = stepH (alongH i h) from wots.along_succ stepH i h)
      have HRX := Lib.hid (range_of_blk HB7.out)
      generalize alongH i h = cur at *
      obtain ⟨D, hD⟩ : ∃ x, u8A cur = x := ⟨_, rfl⟩
      obtain ⟨Z, hZ⟩ : ∃ x, u8A (stepH cur) = x := ⟨_, rfl⟩
      have HD := Lib.hid hD
      have HZ := Lib.hid hZ
      have HZS := Lib.hid (show Z.size = 32 by rw [← hZ, u8A_size]; exact stepH_len _)
      have HZO := Lib.hid (show Z.all (·.oneCell') = true by rw [← hZ]; exact u8A_one _)
      have HUS := Lib.hid (show (u8A cur).size = 32 by rw [u8A_size]; exact hlen)
      have HST := Lib.hid (show Calls Tryd.prog 21 #[.agg D] wr fun e w' => e = .returned (.agg Z) ∧ Below wr.heap.size wr w' by
        rw [← hD, ← hZ]
        exact pstep_any cur wr hlen (tab_on HTAB.out hbz hbz.size))
      clear hD hZ hbz
      go_wp2_with (with_reducible refine wpList_load_hash rfl (.tmp 7) rfl g7 0 rfl cur hlen HRX.out D HD.out ?_)
      with_reducible refine (HST.out).mono ?_
      rintro e w5 ⟨rfl, hb5⟩
      have hb7 := HB7.out.below hb5 HB7.out.lt
      have HB75 := Lib.hid hb7
      have HN1 := Lib.hid (show Blk (w5.setRow g7 Z) g7 (u8A (alongH (i + 1) h)) 34 by
        rw [HSN.out, HZ.out]
        exact hb7.row Z)
      have hbq : Below g7 w4 w5 := HBQ.out.trans (hb5.mono (by have := HB7.out.lt; omega))
      have HN3 := Lib.hid (below_row hbq (by have := HB75.out.lt; omega) (Nat.le_refl g7) Z)
      clear hb5 hb7 hbq HST HRX HB7 HBQ
      go_wp2_with (with_reducible refine wpList_store_blk rfl 34 (.tmp 7) (.tmp 22) rfl g7 Z rfl rfl 34 (u8A cur) HB75.out (by rw [HZS.out]; kernel_rfl) (by rw [HZS.out]; exact HUS.out) HZO.out ?_)
      go_roundw
      case rel => exact ⟨i + 1, hlt, by go_num, HN1, HN3⟩
      case measure => simp [intOf]; omega
    · obtain rfl : i = p := by omega
      have HBZ := Lib.hid hbz
      clear hi hlt
      obtain ⟨Y, hY⟩ : ∃ X, u8A (alongH i h) = X := ⟨_, rfl⟩
      have HEY := Lib.hid hY
      obtain ⟨V, hV⟩ : ∃ X, u8A (alongH s h) = X := ⟨_, rfl⟩
      have HEV := Lib.hid hV
      obtain ⟨Q, hQ⟩ : ∃ X, u8A (alongH 15 h) = X := ⟨_, rfl⟩
      have HEQ := Lib.hid hQ
      rw [hY] at HB7
      have HYS := Lib.hid (show Y.size = 32 by rw [← hY, u8A_size]; exact hlen)
      have HBY := Lib.hid (fun W (hW : Below wr.heap.size wr W) => HB7.out.below hW HB7.out.lt)
      have hbc := HB1.out.below HBQ.out HG.out.1
      have HBC := Lib.hid (fun W (hW : Below wr.heap.size wr W) => hbc.below hW hbc.lt)
      have HQY := Lib.hid (fun W => (show (Op.equalIn 10000 34 (.agg Y) (.agg Y)).run Tryd.prog W = .ok true W by rw [← hY, run_hash_eq W _ _ (hlen) (hlen), decide_eq_true rfl]))
      have HQV := Lib.hid (fun W => (show (Op.equalIn 10000 34 (.agg V) (.agg V)).run Tryd.prog W = .ok true W by rw [← hV, run_hash_eq W _ _ (alongH_len hh _) (alongH_len hh _), decide_eq_true rfl]))
      have HQC := Lib.hid (fun W => (show (Op.equalIn 10000 34 (.agg C) (.agg C)).run Tryd.prog W = .ok true W by rw [← hC, run_hash_eq W _ _ (hh) (hh), decide_eq_true rfl]))
      have HQQ := Lib.hid (fun W => (show (Op.equalIn 10000 34 (.agg Q) (.agg Q)).run Tryd.prog W = .ok true W by rw [← hQ, run_hash_eq W _ _ (alongH_len hh _) (alongH_len hh _), decide_eq_true rfl]))
      have HA1 := Lib.hid (fun W (hW : Below wr.heap.size wr W) => (show Calls Tryd.prog 15 #[.agg C, .int .i64 (i : Int)] W fun e w' => e = .returned (.agg Y) ∧ Below W.heap.size W w' from by
        rw [← hC, ← hY]
        have hb2 := HBZ.out.trans (hW.mono HBZ.out.size)
        exact by have := palong_any h (i : Int) W hh (tab_on HTAB.out hb2 hb2.size); rwa [clampS_nat (show i ≤ 15 by omega)] at this))
      have HA2 := Lib.hid (fun W (hW : Below wr.heap.size wr W) => (show Calls Tryd.prog 15 #[.agg Y, .int .i64 (q : Int)] W fun e w' => e = .returned (.agg V) ∧ Below W.heap.size W w' from by
        rw [← hY, ← hV, ← hs, ← show alongH q (alongH i h) = alongH (i + q) h from wots.along_add stepH i q h]
        have hb2 := HBZ.out.trans (hW.mono HBZ.out.size)
        exact by have := palong_any (alongH i h) (q : Int) W hlen (tab_on HTAB.out hb2 hb2.size); rwa [clampS_nat (show q ≤ 15 by omega)] at this))
      have HA3 := Lib.hid (fun W (hW : Below wr.heap.size wr W) => (show Calls Tryd.prog 15 #[.agg C, .int .i64 (s : Int)] W fun e w' => e = .returned (.agg V) ∧ Below W.heap.size W w' from by
        rw [← hC, ← hV]
        have hb2 := HBZ.out.trans (hW.mono HBZ.out.size)
        exact by have := palong_any h (s : Int) W hh (tab_on HTAB.out hb2 hb2.size); rwa [clampS_nat (show s ≤ 15 by omega)] at this))
      have HA4 := Lib.hid (fun W (hW : Below wr.heap.size wr W) => (show Calls Tryd.prog 15 #[.agg C, .int .i64 (-1)] W fun e w' => e = .returned (.agg C) ∧ Below W.heap.size W w' from by
        rw [← hC]
        have hb2 := HBZ.out.trans (hW.mono HBZ.out.size)
        exact by have := palong_any h (-1) W hh (tab_on HTAB.out hb2 hb2.size); rwa [show wots.clampS (-1) = 0 from rfl, show alongH 0 h = h from rfl] at this))
      have HA5 := Lib.hid (fun W (hW : Below wr.heap.size wr W) => (show Calls Tryd.prog 15 #[.agg C, .int .i64 16] W fun e w' => e = .returned (.agg Q) ∧ Below W.heap.size W w' from by
        rw [← hC, ← hQ]
        have hb2 := HBZ.out.trans (hW.mono HBZ.out.size)
        exact by have := palong_any h 16 W hh (tab_on HTAB.out hb2 hb2.size); rwa [show wots.clampS 16 = 15 from rfl] at this))
      have HA6 := Lib.hid (fun W (hW : Below wr.heap.size wr W) => (show Calls Tryd.prog 15 #[.agg C, .int .i64 15] W fun e w' => e = .returned (.agg Q) ∧ Below W.heap.size W w' from by
        rw [← hC, ← hQ]
        have hb2 := HBZ.out.trans (hW.mono HBZ.out.size)
        exact by have := palong_any h 15 W hh (tab_on HTAB.out hb2 hb2.size); rwa [show wots.clampS 15 = 15 from rfl] at this))
      have HWK := Lib.hid (fun W (hW : Below wr.heap.size wr W) => wakes8_any W (tab_on HTAB.out (HBZ.out.trans (hW.mono HBZ.out.size)) (HBZ.out.trans (hW.mono HBZ.out.size)).size))
      have hni : ¬ (i : Int) < (i : Int) := by omega
      clear hC hY hV hQ hbz hbc hlen HB7 HBQ hs
      go_wp2_with fail
      refine wp_region_loose 32 1 (fun i => false) (promises [.is (.agg C), .is (.int .i64 (i : Int)), .is (.agg Y), .is (.agg Y), .is (.bool true), .is (.bool true), .is (.agg Y), .is (.int .i64 (q : Int)), .is (.agg V), .is (.agg C), .is (.int .i64 (i : Int)), .is (.int .i64 (q : Int)), .is (.int .i64 (s : Int)), .is (.agg V), .is (.bool true), .is (.bool true), .is (.bool true), .is (.agg C), .is (.agg C), .is (.agg C), .is (.bool true), .is (.bool true), .is (.bool true), .is (.agg C), .is (.agg Q), .is (.agg C), .is (.agg Q), .is (.bool true), .is (.bool true), .is (.bool true), .is (.bool true), .is (.bool true)]) (by kernel_rfl) rfl (by kernel_rfl) (fun i v w w' h hb => Spec.keep h hb) ⟨?_, ?_, ?_, ?_, ?_, ?_, ?_, ?_, ?_, ?_, ?_, ?_, ?_, ?_, ?_, ?_, ?_, ?_, ?_, ?_, ?_, ?_, ?_, ?_, ?_, ?_, ?_, ?_, ?_, ?_, ?_, ?_, trivial⟩ ?_
      · refine StepOKl.of ?_
        intro ac w hb hu hk
        refine ⟨wanted_none rfl, ?_⟩
        have e3 : ac.eval (.tmp 3) = .pointer (some ⟨g1, 0, none⟩) := hu.is (t := 3) (by kernel_rfl)
        exact wp_load_row 34 (.tmp 3) rfl g1 e3 34 C (0, 0) _ (HBC.out w hb) Tryd.underlying34 rfl (by rw [HCS.out]; kernel_rfl) ⟨_, rfl, rfl, Below.refl _ _⟩
      · refine StepOKl.of ?_
        intro ac w hb hu hk
        refine ⟨wanted_none rfl, ?_⟩
        have e1 : ac.eval (.tmp 1) = .int .i64 (i : Int) := hu.is (t := 1) (by kernel_rfl)
        exact step_value (BigFrame.run_move (.tmp 1) rfl w) (Below.refl _ _) e1
      · refine StepOKl.of ?_
        intro ac w hb hu hk
        refine ⟨wanted_none rfl, ?_⟩
        have e23 : ac.eval (.tmp 23) = (.agg C) := (hk ⟨0, .data⟩ (by simp) rfl).is rfl rfl
        have e24 : ac.eval (.tmp 24) = (.int .i64 (i : Int)) := (hk ⟨1, .data⟩ (by simp) rfl).is rfl rfl
        have ef : ac.eval (.func 15) = .func (.func 15) #[] #[] := rfl
        refine step_enter (f := 15) (args := #[.agg C, .int .i64 (i : Int)]) ?_ ?_
        · generalize ac.eval = ρ at e23 e24 ef ⊢
          go_simp
        · exact (HA1.out w hb).mono fun e w' ⟨he, hq⟩ => ⟨_, he, rfl, hq⟩
      · refine StepOKl.of ?_
        intro ac w hb hu hk
        refine ⟨wanted_none rfl, ?_⟩
        have e7 : ac.eval (.tmp 7) = .pointer (some ⟨g7, 0, none⟩) := hu.is (t := 7) (by kernel_rfl)
        exact wp_load_row 34 (.tmp 7) rfl g7 e7 34 Y (0, 0) _ (HBY.out w hb) Tryd.underlying34 rfl (by rw [HYS.out]; kernel_rfl) ⟨_, rfl, rfl, Below.refl _ _⟩
      · refine StepOKl.of ?_
        intro ac w hb hu hk
        refine ⟨wanted_none rfl, ?_⟩
        have e25 : ac.eval (.tmp 25) = (.agg Y) := (hk ⟨2, .data⟩ (by simp) rfl).is rfl rfl
        have e26 : ac.eval (.tmp 26) = (.agg Y) := (hk ⟨3, .data⟩ (by simp) rfl).is rfl rfl
        refine step_value (w' := w) (v := .bool true) ?_ (Below.refl _ _) rfl
        have hq := HQY.out w
        generalize ac.eval = ρ at e25 e26 ⊢
        go_simp
      · refine StepOKl.of ?_
        intro ac w hb hu hk
        refine ⟨wanted_none rfl, ?_⟩
        have e27 : ac.eval (.tmp 27) = (.bool true) := (hk ⟨4, .data⟩ (by simp) rfl).is rfl rfl
        exact step_value (BigFrame.run_move (.tmp 27) rfl w) (Below.refl _ _) e27
      · refine StepOKl.of ?_
        intro ac w hb hu hk
        refine ⟨wanted_some rfl (hk ⟨5, .guard⟩ (by simp) rfl) rfl rfl (fun _ h => h), ?_⟩
        have e7 : ac.eval (.tmp 7) = .pointer (some ⟨g7, 0, none⟩) := hu.is (t := 7) (by kernel_rfl)
        exact wp_load_row 34 (.tmp 7) rfl g7 e7 34 Y (0, 0) _ (HBY.out w hb) Tryd.underlying34 rfl (by rw [HYS.out]; kernel_rfl) ⟨_, rfl, rfl, Below.refl _ _⟩
      · refine StepOKl.of ?_
        intro ac w hb hu hk
        refine ⟨wanted_some rfl (hk ⟨5, .guard⟩ (by simp) rfl) rfl rfl (fun _ h => h), ?_⟩
        have e2 : ac.eval (.tmp 2) = .int .i64 (q : Int) := hu.is (t := 2) (by kernel_rfl)
        exact step_value (BigFrame.run_move (.tmp 2) rfl w) (Below.refl _ _) e2
      · refine StepOKl.of ?_
        intro ac w hb hu hk
        refine ⟨wanted_some rfl (hk ⟨5, .chain⟩ (by simp) rfl) rfl rfl (fun _ h => h), ?_⟩
        have e29 : ac.eval (.tmp 29) = (.agg Y) := (hk ⟨6, .data⟩ (by simp) rfl).is rfl rfl
        have e30 : ac.eval (.tmp 30) = (.int .i64 (q : Int)) := (hk ⟨7, .data⟩ (by simp) rfl).is rfl rfl
        have ef : ac.eval (.func 15) = .func (.func 15) #[] #[] := rfl
        refine step_enter (f := 15) (args := #[.agg Y, .int .i64 (q : Int)]) ?_ ?_
        · generalize ac.eval = ρ at e29 e30 ef ⊢
          go_simp
        · exact (HA2.out w hb).mono fun e w' ⟨he, hq⟩ => ⟨_, he, rfl, hq⟩
      · refine StepOKl.of ?_
        intro ac w hb hu hk
        refine ⟨wanted_some rfl (hk ⟨5, .guard⟩ (by simp) rfl) rfl rfl (fun _ h => h), ?_⟩
        have e3 : ac.eval (.tmp 3) = .pointer (some ⟨g1, 0, none⟩) := hu.is (t := 3) (by kernel_rfl)
        exact wp_load_row 34 (.tmp 3) rfl g1 e3 34 C (0, 0) _ (HBC.out w hb) Tryd.underlying34 rfl (by rw [HCS.out]; kernel_rfl) ⟨_, rfl, rfl, Below.refl _ _⟩
      · refine StepOKl.of ?_
        intro ac w hb hu hk
        refine ⟨wanted_some rfl (hk ⟨5, .guard⟩ (by simp) rfl) rfl rfl (fun _ h => h), ?_⟩
        have e1 : ac.eval (.tmp 1) = .int .i64 (i : Int) := hu.is (t := 1) (by kernel_rfl)
        exact step_value (BigFrame.run_move (.tmp 1) rfl w) (Below.refl _ _) e1
      · refine StepOKl.of ?_
        intro ac w hb hu hk
        refine ⟨wanted_some rfl (hk ⟨5, .guard⟩ (by simp) rfl) rfl rfl (fun _ h => h), ?_⟩
        have e2 : ac.eval (.tmp 2) = .int .i64 (q : Int) := hu.is (t := 2) (by kernel_rfl)
        exact step_value (BigFrame.run_move (.tmp 2) rfl w) (Below.refl _ _) e2
      · refine StepOKl.of ?_
        intro ac w hb hu hk
        refine ⟨wanted_some rfl (hk ⟨5, .guard⟩ (by simp) rfl) rfl rfl (fun _ h => h), ?_⟩
        have e33 : ac.eval (.tmp 33) = (.int .i64 (i : Int)) := (hk ⟨10, .data⟩ (by simp) rfl).is rfl rfl
        have e34 : ac.eval (.tmp 34) = (.int .i64 (q : Int)) := (hk ⟨11, .data⟩ (by simp) rfl).is rfl rfl
        have hsw := HSW.out
        refine step_value (w' := w) (v := .int .i64 (s : Int)) ?_ (Below.refl _ _) rfl
        generalize ac.eval = ρ at e33 e34 ⊢
        go_simp
      · refine StepOKl.of ?_
        intro ac w hb hu hk
        refine ⟨wanted_some rfl (hk ⟨5, .guard⟩ (by simp) rfl) rfl rfl (fun _ h => h), ?_⟩
        have e32 : ac.eval (.tmp 32) = (.agg C) := (hk ⟨9, .data⟩ (by simp) rfl).is rfl rfl
        have e35 : ac.eval (.tmp 35) = (.int .i64 (s : Int)) := (hk ⟨12, .data⟩ (by simp) rfl).is rfl rfl
        have ef : ac.eval (.func 15) = .func (.func 15) #[] #[] := rfl
        refine step_enter (f := 15) (args := #[.agg C, .int .i64 (s : Int)]) ?_ ?_
        · generalize ac.eval = ρ at e32 e35 ef ⊢
          go_simp
        · exact (HA3.out w hb).mono fun e w' ⟨he, hq⟩ => ⟨_, he, rfl, hq⟩
      · refine StepOKl.of ?_
        intro ac w hb hu hk
        refine ⟨wanted_some rfl (hk ⟨5, .guard⟩ (by simp) rfl) rfl rfl (fun _ h => h), ?_⟩
        have e31 : ac.eval (.tmp 31) = (.agg V) := (hk ⟨8, .data⟩ (by simp) rfl).is rfl rfl
        have e36 : ac.eval (.tmp 36) = (.agg V) := (hk ⟨13, .data⟩ (by simp) rfl).is rfl rfl
        refine step_value (w' := w) (v := .bool true) ?_ (Below.refl _ _) rfl
        have hq := HQV.out w
        generalize ac.eval = ρ at e31 e36 ⊢
        go_simp
      · refine StepOKl.of ?_
        intro ac w hb hu hk
        refine ⟨wanted_none rfl, ?_⟩
        have e28 : ac.eval (.tmp 28) = (.bool true) := (hk ⟨5, .data⟩ (by simp) rfl).is rfl rfl
        have e37 : ac.eval (.tmp 37) = (.bool true) := (hk ⟨14, .data⟩ (by simp) rfl).is rfl rfl
        exact step_value (run_pick_true e28 rfl w) (Below.refl _ _) e37
      · refine StepOKl.of ?_
        intro ac w hb hu hk
        refine ⟨wanted_none rfl, ?_⟩
        have e38 : ac.eval (.tmp 38) = (.bool true) := (hk ⟨15, .data⟩ (by simp) rfl).is rfl rfl
        exact step_value (BigFrame.run_move (.tmp 38) rfl w) (Below.refl _ _) e38
      · refine StepOKl.of ?_
        intro ac w hb hu hk
        refine ⟨wanted_some rfl (hk ⟨16, .guard⟩ (by simp) rfl) rfl rfl (fun _ h => h), ?_⟩
        have e3 : ac.eval (.tmp 3) = .pointer (some ⟨g1, 0, none⟩) := hu.is (t := 3) (by kernel_rfl)
        exact wp_load_row 34 (.tmp 3) rfl g1 e3 34 C (0, 0) _ (HBC.out w hb) Tryd.underlying34 rfl (by rw [HCS.out]; kernel_rfl) ⟨_, rfl, rfl, Below.refl _ _⟩
      · refine StepOKl.of ?_
        intro ac w hb hu hk
        refine ⟨wanted_some rfl (hk ⟨16, .chain⟩ (by simp) rfl) rfl rfl (fun _ h => h), ?_⟩
        have e40 : ac.eval (.tmp 40) = (.agg C) := (hk ⟨17, .data⟩ (by simp) rfl).is rfl rfl
        have ec : ac.eval (.const (.int .i64 (-1))) = .int .i64 (-1) := rfl
        have ef : ac.eval (.func 15) = .func (.func 15) #[] #[] := rfl
        refine step_enter (f := 15) (args := #[.agg C, .int .i64 (-1)]) ?_ ?_
        · generalize ac.eval = ρ at e40 ec ef ⊢
          go_simp
        · exact (HA4.out w hb).mono fun e w' ⟨he, hq⟩ => ⟨_, he, rfl, hq⟩
      · refine StepOKl.of ?_
        intro ac w hb hu hk
        refine ⟨wanted_some rfl (hk ⟨16, .guard⟩ (by simp) rfl) rfl rfl (fun _ h => h), ?_⟩
        have e3 : ac.eval (.tmp 3) = .pointer (some ⟨g1, 0, none⟩) := hu.is (t := 3) (by kernel_rfl)
        exact wp_load_row 34 (.tmp 3) rfl g1 e3 34 C (0, 0) _ (HBC.out w hb) Tryd.underlying34 rfl (by rw [HCS.out]; kernel_rfl) ⟨_, rfl, rfl, Below.refl _ _⟩
      · refine StepOKl.of ?_
        intro ac w hb hu hk
        refine ⟨wanted_some rfl (hk ⟨16, .guard⟩ (by simp) rfl) rfl rfl (fun _ h => h), ?_⟩
        have e41 : ac.eval (.tmp 41) = (.agg C) := (hk ⟨18, .data⟩ (by simp) rfl).is rfl rfl
        have e42 : ac.eval (.tmp 42) = (.agg C) := (hk ⟨19, .data⟩ (by simp) rfl).is rfl rfl
        refine step_value (w' := w) (v := .bool true) ?_ (Below.refl _ _) rfl
        have hq := HQC.out w
        generalize ac.eval = ρ at e41 e42 ⊢
        go_simp
      · refine StepOKl.of ?_
        intro ac w hb hu hk
        refine ⟨wanted_none rfl, ?_⟩
        have e39 : ac.eval (.tmp 39) = (.bool true) := (hk ⟨16, .data⟩ (by simp) rfl).is rfl rfl
        have e43 : ac.eval (.tmp 43) = (.bool true) := (hk ⟨20, .data⟩ (by simp) rfl).is rfl rfl
        exact step_value (run_pick_true e39 rfl w) (Below.refl _ _) e43
      · refine StepOKl.of ?_
        intro ac w hb hu hk
        refine ⟨wanted_none rfl, ?_⟩
        have e44 : ac.eval (.tmp 44) = (.bool true) := (hk ⟨21, .data⟩ (by simp) rfl).is rfl rfl
        exact step_value (BigFrame.run_move (.tmp 44) rfl w) (Below.refl _ _) e44
      · refine StepOKl.of ?_
        intro ac w hb hu hk
        refine ⟨wanted_some rfl (hk ⟨22, .guard⟩ (by simp) rfl) rfl rfl (fun _ h => h), ?_⟩
        have e3 : ac.eval (.tmp 3) = .pointer (some ⟨g1, 0, none⟩) := hu.is (t := 3) (by kernel_rfl)
        exact wp_load_row 34 (.tmp 3) rfl g1 e3 34 C (0, 0) _ (HBC.out w hb) Tryd.underlying34 rfl (by rw [HCS.out]; kernel_rfl) ⟨_, rfl, rfl, Below.refl _ _⟩
      · refine StepOKl.of ?_
        intro ac w hb hu hk
        refine ⟨wanted_some rfl (hk ⟨22, .chain⟩ (by simp) rfl) rfl rfl (fun _ h => h), ?_⟩
        have e46 : ac.eval (.tmp 46) = (.agg C) := (hk ⟨23, .data⟩ (by simp) rfl).is rfl rfl
        have ec : ac.eval (.const (.int .i64 16)) = .int .i64 16 := rfl
        have ef : ac.eval (.func 15) = .func (.func 15) #[] #[] := rfl
        refine step_enter (f := 15) (args := #[.agg C, .int .i64 16]) ?_ ?_
        · generalize ac.eval = ρ at e46 ec ef ⊢
          go_simp
        · exact (HA5.out w hb).mono fun e w' ⟨he, hq⟩ => ⟨_, he, rfl, hq⟩
      · refine StepOKl.of ?_
        intro ac w hb hu hk
        refine ⟨wanted_some rfl (hk ⟨22, .guard⟩ (by simp) rfl) rfl rfl (fun _ h => h), ?_⟩
        have e3 : ac.eval (.tmp 3) = .pointer (some ⟨g1, 0, none⟩) := hu.is (t := 3) (by kernel_rfl)
        exact wp_load_row 34 (.tmp 3) rfl g1 e3 34 C (0, 0) _ (HBC.out w hb) Tryd.underlying34 rfl (by rw [HCS.out]; kernel_rfl) ⟨_, rfl, rfl, Below.refl _ _⟩
      · refine StepOKl.of ?_
        intro ac w hb hu hk
        refine ⟨wanted_some rfl (hk ⟨22, .guard⟩ (by simp) rfl) rfl rfl (fun _ h => h), ?_⟩
        have e48 : ac.eval (.tmp 48) = (.agg C) := (hk ⟨25, .data⟩ (by simp) rfl).is rfl rfl
        have ec : ac.eval (.const (.int .i64 15)) = .int .i64 15 := rfl
        have ef : ac.eval (.func 15) = .func (.func 15) #[] #[] := rfl
        refine step_enter (f := 15) (args := #[.agg C, .int .i64 15]) ?_ ?_
        · generalize ac.eval = ρ at e48 ec ef ⊢
          go_simp
        · exact (HA6.out w hb).mono fun e w' ⟨he, hq⟩ => ⟨_, he, rfl, hq⟩
      · refine StepOKl.of ?_
        intro ac w hb hu hk
        refine ⟨wanted_some rfl (hk ⟨22, .guard⟩ (by simp) rfl) rfl rfl (fun _ h => h), ?_⟩
        have e47 : ac.eval (.tmp 47) = (.agg Q) := (hk ⟨24, .data⟩ (by simp) rfl).is rfl rfl
        have e49 : ac.eval (.tmp 49) = (.agg Q) := (hk ⟨26, .data⟩ (by simp) rfl).is rfl rfl
        refine step_value (w' := w) (v := .bool true) ?_ (Below.refl _ _) rfl
        have hq := HQQ.out w
        generalize ac.eval = ρ at e47 e49 ⊢
        go_simp
      · refine StepOKl.of ?_
        intro ac w hb hu hk
        refine ⟨wanted_none rfl, ?_⟩
        have e45 : ac.eval (.tmp 45) = (.bool true) := (hk ⟨22, .data⟩ (by simp) rfl).is rfl rfl
        have e50 : ac.eval (.tmp 50) = (.bool true) := (hk ⟨27, .data⟩ (by simp) rfl).is rfl rfl
        exact step_value (run_pick_true e45 rfl w) (Below.refl _ _) e50
      · refine StepOKl.of ?_
        intro ac w hb hu hk
        refine ⟨wanted_none rfl, ?_⟩
        have e51 : ac.eval (.tmp 51) = (.bool true) := (hk ⟨28, .data⟩ (by simp) rfl).is rfl rfl
        exact step_value (BigFrame.run_move (.tmp 51) rfl w) (Below.refl _ _) e51
      · refine StepOKl.of ?_
        intro ac w hb hu hk
        refine ⟨wanted_some rfl (hk ⟨29, .chain⟩ (by simp) rfl) rfl rfl (fun _ h => h), ?_⟩
        have ef : ac.eval (.func 17) = .func (.func 17) #[] #[] := rfl
        refine step_enter (f := 17) (args := #[]) ?_ ?_
        · generalize ac.eval = ρ at  ef ⊢
          go_simp
        · exact (HWK.out w hb).mono fun e w' ⟨he, hq⟩ => ⟨_, he, rfl, hq⟩
      · refine StepOKl.of ?_
        intro ac w hb hu hk
        refine ⟨wanted_none rfl, ?_⟩
        have e52 : ac.eval (.tmp 52) = (.bool true) := (hk ⟨29, .data⟩ (by simp) rfl).is rfl rfl
        have e53 : ac.eval (.tmp 53) = (.bool true) := (hk ⟨30, .data⟩ (by simp) rfl).is rfl rfl
        exact step_value (run_pick_true e52 rfl w) (Below.refl _ _) e53
      · intro ac w' hb hu hk hap
        obtain ⟨_, h23, rfl⟩ := (hk 0 (by decide)).put rfl rfl
        obtain ⟨_, h24, rfl⟩ := (hk 1 (by decide)).put rfl rfl
        obtain ⟨_, h25, rfl⟩ := (hk 2 (by decide)).put rfl rfl
        obtain ⟨_, h26, rfl⟩ := (hk 3 (by decide)).put rfl rfl
        obtain ⟨_, h27, rfl⟩ := (hk 4 (by decide)).put rfl rfl
        obtain ⟨_, h28, rfl⟩ := (hk 5 (by decide)).put rfl rfl
        obtain ⟨_, h29, rfl⟩ := (hk 6 (by decide)).put rfl rfl
        obtain ⟨_, h30, rfl⟩ := (hk 7 (by decide)).put rfl rfl
        obtain ⟨_, h31, rfl⟩ := (hk 8 (by decide)).put rfl rfl
        obtain ⟨_, h32, rfl⟩ := (hk 9 (by decide)).put rfl rfl
        obtain ⟨_, h33, rfl⟩ := (hk 10 (by decide)).put rfl rfl
        obtain ⟨_, h34, rfl⟩ := (hk 11 (by decide)).put rfl rfl
        obtain ⟨_, h35, rfl⟩ := (hk 12 (by decide)).put rfl rfl
        obtain ⟨_, h36, rfl⟩ := (hk 13 (by decide)).put rfl rfl
        obtain ⟨_, h37, rfl⟩ := (hk 14 (by decide)).put rfl rfl
        obtain ⟨_, h38, rfl⟩ := (hk 15 (by decide)).put rfl rfl
        obtain ⟨_, h39, rfl⟩ := (hk 16 (by decide)).put rfl rfl
        obtain ⟨_, h40, rfl⟩ := (hk 17 (by decide)).put rfl rfl
        obtain ⟨_, h41, rfl⟩ := (hk 18 (by decide)).put rfl rfl
        obtain ⟨_, h42, rfl⟩ := (hk 19 (by decide)).put rfl rfl
        obtain ⟨_, h43, rfl⟩ := (hk 20 (by decide)).put rfl rfl
        obtain ⟨_, h44, rfl⟩ := (hk 21 (by decide)).put rfl rfl
        obtain ⟨_, h45, rfl⟩ := (hk 22 (by decide)).put rfl rfl
        obtain ⟨_, h46, rfl⟩ := (hk 23 (by decide)).put rfl rfl
        obtain ⟨_, h47, rfl⟩ := (hk 24 (by decide)).put rfl rfl
        obtain ⟨_, h48, rfl⟩ := (hk 25 (by decide)).put rfl rfl
        obtain ⟨_, h49, rfl⟩ := (hk 26 (by decide)).put rfl rfl
        obtain ⟨_, h50, rfl⟩ := (hk 27 (by decide)).put rfl rfl
        obtain ⟨_, h51, rfl⟩ := (hk 28 (by decide)).put rfl rfl
        obtain ⟨_, h52, rfl⟩ := (hk 29 (by decide)).put rfl rfl
        obtain ⟨_, h53, rfl⟩ := (hk 30 (by decide)).put rfl rfl
        obtain ⟨_, h54, rfl⟩ := (hk 31 (by decide)).put rfl rfl
        clear hap
        have hF : AllPuts ac.tmps ((23, _) :: (24, _) :: (25, _) :: (26, _) :: (27, _) :: (28, _) :: (29, _) :: (30, _) :: (31, _) :: (32, _) :: (33, _) :: (34, _) :: (35, _) :: (36, _) :: (37, _) :: (38, _) :: (39, _) :: (40, _) :: (41, _) :: (42, _) :: (43, _) :: (44, _) :: (45, _) :: (46, _) :: (47, _) :: (48, _) :: (49, _) :: (50, _) :: (51, _) :: (52, _) :: (53, _) :: (54, _) :: []) := ⟨h23, h24, h25, h26, h27, h28, h29, h30, h31, h32, h33, h34, h35, h36, h37, h38, h39, h40, h41, h42, h43, h44, h45, h46, h47, h48, h49, h50, h51, h52, h53, h54, trivial⟩
        obtain rfl := frame_puts hu (by kernel_rfl) hF
        simp only [puts, Act.put, List.setIfInBounds_toArray, List.set_cons_zero, List.set_cons_succ, List.drop_succ_cons, List.drop_zero]
        clear hk hu hF h23 h24 h25 h26 h27 h28 h29 h30 h31 h32 h33 h34 h35 h36 h37 h38 h39 h40 h41 h42 h43 h44 h45 h46 h47 h48 h49 h50 h51 h52 h53 h54
        have HBE := Lib.hid (HBZ.out.trans (hb.mono HBZ.out.size))
        clear hb
        go_wp2_with fail
        go_ret
        exact ⟨rfl, HBE.out⟩

set_option maxRecDepth 100000 in
theorem contract (H : Type) (enc : TypeId × Value → H) (W : World) (base : Nat) (args : Array Value) (ds gs : List (DataW H)) (before : List MemPlace)
    (hval : ∀ (j : Nat) t v, Tryd.f9.params[j]? = some t → args[j]? = some v → Value.okWide Tryd.prog W .any base t v)
    (hW : DataW.Whole enc Tryd.prog Tryd.f9.params.toList Rows.wotsAlongSpec.vars false W args.toList ds gs before) (hL : laidMetH Tryd.prog Rows.wotsAlongRow.laid W) :
    Calls Tryd.prog 9 args W fun e W' => ∃ v, e = .returned v ∧ Rows.wotsAlongSpec.post enc Tryd.prog Tryd.f9 false true false false W args v W' := by
  have hW' := hW
  obtain ⟨p, q, hA0, hV, rfl, hfz, hnd⟩ := hW
  have hA : DataW.TrodAll enc Tryd.prog W 0 (fun _ => true) true Tryd.f9.params.toList args.toList ds p := hA0
  rw [Tryd.params9] at hA hval
  obtain ⟨v0, v1, v2, d0, d1, d2, p0, p1, p2, rfl, rfl, rfl, h0, h1, h2⟩ := trodAll_three hA
  obtain ⟨rfl, rfl⟩ := trodVars_none hV
  obtain ⟨k0, rfl, hk0⟩ := open_array Tryd.underlying34 (by kernel_rfl) (hval 0 34 v0 rfl rfl) h0
  obtain ⟨n1, rfl, rfl, rfl, wf1⟩ := open_int Tryd.underlying3 (hval 1 3 v1 rfl rfl) h1
  have b1 := bounds_i64 wf1
  obtain ⟨n2, rfl, rfl, rfl, wf2⟩ := open_int Tryd.underlying3 (hval 2 3 v2 rfl rfl) h2
  have b2 := bounds_i64 wf2
  clear hA0
  refine (walk k0 n1 n2 W hk0 b1.1 b1.2 b2.1 b2.2 (pow10 hL)).mono fun e W' ⟨he, hb⟩ => ?_
  exact ⟨_, he, law_post hW' rfl (by kernel_rfl) rfl (by kernel_rfl) hb⟩

theorem laid_met (os : Os) : laidMet Tryd.prog Rows.wotsAlongRow.laid ((laidWorld os).forCall (fun _ _ => 0) ⟨#[], #[.agg #[.int .u8 0, .int .u8 0, .int .u8 0, .int .u8 0, .int .u8 0, .int .u8 0, .int .u8 0, .int .u8 0, .int .u8 0, .int .u8 0, .int .u8 0, .int .u8 0, .int .u8 0, .int .u8 0, .int .u8 0, .int .u8 0, .int .u8 0, .int .u8 0, .int .u8 0, .int .u8 0, .int .u8 0, .int .u8 0, .int .u8 0, .int .u8 0, .int .u8 0, .int .u8 0, .int .u8 0, .int .u8 0, .int .u8 0, .int .u8 0, .int .u8 0, .int .u8 0], .int .i64 0, .int .i64 0], []⟩).memory :=
  laidMet_of_run' 8 (by kernel_rfl) (by kernel_rfl)
theorem reads (os : Os) {H : Type} (enc : TypeId × Value → H) : ∃ places, DataW.whole enc Tryd.prog ((laidWorld os).forCall (fun _ _ => 0) ⟨#[], #[.agg #[.int .u8 0, .int .u8 0, .int .u8 0, .int .u8 0, .int .u8 0, .int .u8 0, .int .u8 0, .int .u8 0, .int .u8 0, .int .u8 0, .int .u8 0, .int .u8 0, .int .u8 0, .int .u8 0, .int .u8 0, .int .u8 0, .int .u8 0, .int .u8 0, .int .u8 0, .int .u8 0, .int .u8 0, .int .u8 0, .int .u8 0, .int .u8 0, .int .u8 0, .int .u8 0, .int .u8 0, .int .u8 0, .int .u8 0, .int .u8 0, .int .u8 0, .int .u8 0], .int .i64 0, .int .i64 0], []⟩).memory Tryd.f9.params.toList Rows.wotsAlongSpec.vars false #[Value.agg #[.int .u8 0, .int .u8 0, .int .u8 0, .int .u8 0, .int .u8 0, .int .u8 0, .int .u8 0, .int .u8 0, .int .u8 0, .int .u8 0, .int .u8 0, .int .u8 0, .int .u8 0, .int .u8 0, .int .u8 0, .int .u8 0, .int .u8 0, .int .u8 0, .int .u8 0, .int .u8 0, .int .u8 0, .int .u8 0, .int .u8 0, .int .u8 0, .int .u8 0, .int .u8 0, .int .u8 0, .int .u8 0, .int .u8 0, .int .u8 0, .int .u8 0, .int .u8 0], Value.int .i64 0, Value.int .i64 0].toList 8 = some ([.agg [.lit (.int .u8 0), .lit (.int .u8 0), .lit (.int .u8 0), .lit (.int .u8 0), .lit (.int .u8 0), .lit (.int .u8 0), .lit (.int .u8 0), .lit (.int .u8 0), .lit (.int .u8 0), .lit (.int .u8 0), .lit (.int .u8 0), .lit (.int .u8 0), .lit (.int .u8 0), .lit (.int .u8 0), .lit (.int .u8 0), .lit (.int .u8 0), .lit (.int .u8 0), .lit (.int .u8 0), .lit (.int .u8 0), .lit (.int .u8 0), .lit (.int .u8 0), .lit (.int .u8 0), .lit (.int .u8 0), .lit (.int .u8 0), .lit (.int .u8 0), .lit (.int .u8 0), .lit (.int .u8 0), .lit (.int .u8 0), .lit (.int .u8 0), .lit (.int .u8 0), .lit (.int .u8 0), .lit (.int .u8 0)], .lit (.int .i64 0), .lit (.int .i64 0)], [], places) :=
  ⟨[], by kernel_rfl⟩

set_option maxRecDepth 100000 in
theorem lifted (os : Os) (started : os.Started) (H : Type) (enc : TypeId × Value → H) (F : Stop.Interp) :
    ReturnsInHanded {} Tryd.checked os 9 .any ((OpenSpec.ofChange Rows.wotsAlongSpec).preRow enc Tryd.prog Tryd.f9 Rows.wotsAlongRow.domain false Rows.wotsAlongRow.laid) (((OpenSpec.ofChange Rows.wotsAlongSpec).at F).post enc Tryd.prog Tryd.f9 false true false false) := by
  obtain ⟨places, hx⟩ := reads os enc
  refine returnsInHanded_of_row (C := Tryd.checked) (s := OpenSpec.ofChange Rows.wotsAlongSpec) own started (by kernel_rfl) Tryd.func9
    (witness_row_at (enc := enc) (C := Tryd.checked) false (laidWorld os) #[.agg #[.int .u8 0, .int .u8 0, .int .u8 0, .int .u8 0, .int .u8 0, .int .u8 0, .int .u8 0, .int .u8 0, .int .u8 0, .int .u8 0, .int .u8 0, .int .u8 0, .int .u8 0, .int .u8 0, .int .u8 0, .int .u8 0, .int .u8 0, .int .u8 0, .int .u8 0, .int .u8 0, .int .u8 0, .int .u8 0, .int .u8 0, .int .u8 0, .int .u8 0, .int .u8 0, .int .u8 0, .int .u8 0, .int .u8 0, .int .u8 0, .int .u8 0, .int .u8 0], .int .i64 0, .int .i64 0] rfl (by kernel_rfl) (by kernel_rfl) (by kernel_rfl)
      (OpenSpec.preRow_of_cond 8 hx (by kernel_rfl) (fun k hk => by cases hk) (by kernel_rfl) (laid_met os))) ?_
  intro W base args ds gs before hval hW _ _ _ hL _ _
  exact contract H enc W base args ds gs before hval hW hL

theorem said : Rows.WotsAlongSaid :=
  OpenClaim.holds_of_cond 9 Tryd.f9 rfl rfl rfl rfl rfl rfl rfl ⟨rfl, rfl, rfl, rfl, rfl⟩ rfl rfl rfl rfl rfl (by kernel_rfl) Tryd.func9 (by kernel_rfl)
    (of_decide_eq_true (by kernel_rfl)) (by unfold Func.isWrapper; first | (rw [if_pos (by decide +kernel)]; kernel_rfl) | (rw [if_neg (by decide +kernel)]; exact ⟨rfl, rfl⟩))
    (fun os started H enc _ F => by rw [OpenClaim.pre_eq_preRow]; exact lifted os started H enc F)

theorem plain (f : FuncId) (fn : Func) (hf : Tryd.pinned.checked.prog.funcNamed "aumbry/aumbrylaw08.WotsAlong" = some f) (hfn : Tryd.pinned.checked.prog.funcs[f]? = some fn) :
    false = Tryd.pinned.checked.prog.looks [] ∧ ∀ (j : Nat) t, fn.params[j]? = some t → Tryd.pinned.checked.prog.wantsStandIn t = false := by
  obtain rfl : f = 9 := Option.some.inj ((show Tryd.prog.funcNamed "aumbry/aumbrylaw08.WotsAlong" = some 9 by kernel_rfl).symm.trans hf) |>.symm
  obtain rfl : fn = Tryd.f9 := (Option.some.inj (Tryd.func9.symm.trans hfn)).symm
  refine ⟨by kernel_rfl, fun j t ht => ?_⟩
  exact wants_none (by kernel_rfl) (Array.mem_of_getElem? ht)

/-- The card: the statement holds, its listed tables tied to the program's text. -/
theorem card : Rows.WotsAlongCardSaid :=
  Claim7.holds_tied_plain_at .later [] _ _ _ _ said (fun _ h => by cases h) (by kernel_rfl) (fun _ h => by cases h) wotsAlong_row_tie rfl ⟨rfl, rfl⟩ (by kernel_rfl) rfl plain (by kernel_rfl)
end Go.Proofs.YtciflbkgfmbfdaaDoor.wotsAlong
