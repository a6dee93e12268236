/- WotsSteps: chains: where they start, one step, many. For all seeds, leaves, chains, numbers and hashes. -/
import Derived.Test.YtciflbkgfmbfdaaDoorLaw
import Derived.Test.YtciflbkgfmbfdaaDoorSix
import Derived.Test.YtciflbkgfmbfdaaDoorWakes8
import Derived.Test.YtciflbkgfmbfdaaDoorWotsC
import Derived.Test.YtciflbkgfmbfdaaDoorHashD
namespace Go.Proofs.YtciflbkgfmbfdaaDoor.wotsSteps
open Go.ChangeShapes Go.WideShapes Go.ChangeAt Go.RowKit

set_option maxRecDepth 100000 in
set_option maxHeartbeats 16000000 in
theorem walk (sd : List UInt8) (leaf chain n : Int) (h : List UInt8) (w : World) (hs : sd.length = 16) (_hl0 : -9223372036854775808 ≤ leaf) (hl1 : leaf ≤ 9223372036854775807) (_hc0 : -9223372036854775808 ≤ chain) (hc1 : chain ≤ 9223372036854775807) (_hn0 : -9223372036854775808 ≤ n) (_hn1 : n ≤ 9223372036854775807) (hh : h.length = 32) (htab : Pow10 w.heap.size w) :
    Calls Tryd.prog 5 #[.agg (u8A sd), .int .i64 leaf, .int .i64 chain, .int .i64 n, .agg (u8A h)] w fun e w' => e = .returned (.bool true) ∧ Below w.heap.size w w' := by
  obtain ⟨X, hX⟩ : ∃ X, u8A sd = X := ⟨_, rfl⟩
  have HEX := Lib.hid hX
  obtain ⟨C, hC⟩ : ∃ X, u8A h = X := ⟨_, rfl⟩
  have HEC := Lib.hid hC
  obtain ⟨S, hS⟩ : ∃ X, u8A (startH sd leaf chain) = X := ⟨_, rfl⟩
  have HES := Lib.hid hS
  obtain ⟨T, hT⟩ : ∃ X, u8A (stepH h) = X := ⟨_, rfl⟩
  have HET := Lib.hid hT
  obtain ⟨Y, hY⟩ : ∃ X, u8A (alongH (wots.clampS n) h) = X := ⟨_, rfl⟩
  have HEY := Lib.hid hY
  have HXS := Lib.hid (show X.size = 16 by rw [← hX, u8A_size]; exact hs)
  have HCS := Lib.hid (show C.size = 32 by rw [← hC, u8A_size]; exact hh)
  have HQS := Lib.hid (fun W => (show (Op.equalIn 10000 34 (.agg S) (.agg S)).run Tryd.prog W = .ok true W by rw [← hS, run_hash_eq W _ _ (startH_len _ _ _) (startH_len _ _ _), decide_eq_true rfl]))
  have HQT := Lib.hid (fun W => (show (Op.equalIn 10000 34 (.agg T) (.agg T)).run Tryd.prog W = .ok true W by rw [← hT, run_hash_eq W _ _ (stepH_len _) (stepH_len _), decide_eq_true rfl]))
  have HQA := Lib.hid (fun W => (show (Op.equalIn 10000 34 (.agg Y) (.agg Y)).run Tryd.prog W = .ok true W by rw [← hY, run_hash_eq W _ _ (alongH_len hh _) (alongH_len hh _), decide_eq_true rfl]))
  have HTAB := Lib.hid htab
  rw [hX, hC]
  go_enter Tryd.func5, Tryd.ntmps5
  go_upto_region 1 with fail
  generalize hw3 : World.alloc _ _ = w3
  obtain ⟨g1, hg1⟩ : ∃ g, w.heap.size = g := ⟨_, rfl⟩
  obtain ⟨g2, hg2⟩ : ∃ g, w.heap.size + 1 = g := ⟨_, rfl⟩
  have hf : Blk w3 g1 X 23 ∧ Blk w3 g2 C 34 ∧ Below w.heap.size w w3 := by
    have hw : w3 = (w.alloc (.cells X 23)).alloc (.cells C 34) := hw3.symm
    have e1 : (w.alloc (.cells X 23)).heap.size = w.heap.size + 1 := by simp
    rw [hw, ← hg1, ← hg2]
    refine ⟨(Blk.new w _ _).alloc _, ?_, ((Below.refl _ _).alloc (Nat.le_refl _) _).alloc (by simp) _⟩
    rw [← e1]; exact Blk.new _ _ _
  have HBX := Lib.hid (fun W (hW : Below w3.heap.size w3 W) => hf.1.below hW hf.1.lt)
  have HBC := Lib.hid (fun W (hW : Below w3.heap.size w3 W) => hf.2.1.below hW hf.2.1.lt)
  have HB3 := Lib.hid hf.2.2
  clear hf hw3
  rw [hg2, hg1]
  clear hg1 hg2
  have HS1 := Lib.hid (fun W (hW : Below w3.heap.size w3 W) => (show Calls Tryd.prog 16 #[.agg X, .int .i64 leaf, .int .i64 chain] W fun e w' => e = .returned (.agg S) ∧ Below W.heap.size W w' from by
    rw [← hX, ← hS]
    have hb2 := HB3.out.trans (hW.mono HB3.out.size)
    exact pstart_any sd leaf chain W hs hl1 hc1 (tab_on HTAB.out hb2 hb2.size)))
  have HS2 := Lib.hid (fun W (hW : Below w3.heap.size w3 W) => (show Calls Tryd.prog 20 #[.agg X, .int .i64 leaf, .int .i64 chain] W fun e w' => e = .returned (.agg S) ∧ Below W.heap.size W w' from by
    rw [← hX, ← hS]
    have hb2 := HB3.out.trans (hW.mono HB3.out.size)
    exact rstart_any sd leaf chain W hs hl1 hc1))
  have HT1 := Lib.hid (fun W (hW : Below w3.heap.size w3 W) => (show Calls Tryd.prog 21 #[.agg C] W fun e w' => e = .returned (.agg T) ∧ Below W.heap.size W w' from by
    rw [← hC, ← hT]
    have hb2 := HB3.out.trans (hW.mono HB3.out.size)
    exact pstep_any h W hh (tab_on HTAB.out hb2 hb2.size)))
  have HT2 := Lib.hid (fun W (hW : Below w3.heap.size w3 W) => (show Calls Tryd.prog 22 #[.agg C] W fun e w' => e = .returned (.agg T) ∧ Below W.heap.size W w' from by
    rw [← hC, ← hT]
    have hb2 := HB3.out.trans (hW.mono HB3.out.size)
    exact rstep_any h W hh))
  have HA1 := Lib.hid (fun W (hW : Below w3.heap.size w3 W) => (show Calls Tryd.prog 15 #[.agg C, .int .i64 n] W fun e w' => e = .returned (.agg Y) ∧ Below W.heap.size W w' from by
    rw [← hC, ← hY]
    have hb2 := HB3.out.trans (hW.mono HB3.out.size)
    exact palong_any h n W hh (tab_on HTAB.out hb2 hb2.size)))
  have HA2 := Lib.hid (fun W (hW : Below w3.heap.size w3 W) => (show Calls Tryd.prog 23 #[.agg C, .int .i64 n] W fun e w' => e = .returned (.agg Y) ∧ Below W.heap.size W w' from by
    rw [← hC, ← hY]
    have hb2 := HB3.out.trans (hW.mono HB3.out.size)
    exact ralong_any h n W hh))
  have HWK := Lib.hid (fun W (hW : Below w3.heap.size w3 W) => wakes8_any W (tab_on HTAB.out (HB3.out.trans (hW.mono HB3.out.size)) (HB3.out.trans (hW.mono HB3.out.size)).size))
  clear hX hC hS hT hY htab
  refine wp_region_loose 28 1 (fun i => false) (promises [.is (.agg X), .is (.int .i64 leaf), .is (.int .i64 chain), .is (.agg S), .is (.agg X), .is (.int .i64 leaf), .is (.int .i64 chain), .is (.agg S), .is (.bool true), .is (.bool true), .is (.agg C), .is (.agg T), .is (.agg C), .is (.agg T), .is (.bool true), .is (.bool true), .is (.bool true), .is (.agg C), .is (.int .i64 n), .is (.agg Y), .is (.agg C), .is (.int .i64 n), .is (.agg Y), .is (.bool true), .is (.bool true), .is (.bool true), .is (.bool true), .is (.bool true)]) (by kernel_rfl) rfl (by kernel_rfl) (fun i v w w' h hb => Spec.keep h hb) ⟨?_, ?_, ?_, ?_, ?_, ?_, ?_, ?_, ?_, ?_, ?_, ?_, ?_, ?_, ?_, ?_, ?_, ?_, ?_, ?_, ?_, ?_, ?_, ?_, ?_, ?_, ?_, ?_, trivial⟩ ?_
  · refine StepOKl.of ?_
    intro ac w hb hu hk
    refine ⟨wanted_none rfl, ?_⟩
    have e5 : ac.eval (.tmp 5) = .pointer (some ⟨g1, 0, none⟩) := hu.is (t := 5) (by kernel_rfl)
    exact wp_load_row 23 (.tmp 5) rfl g1 e5 23 X (0, 0) _ (HBX.out w hb) Tryd.underlying23 rfl (by rw [HXS.out]; kernel_rfl) ⟨_, rfl, rfl, Below.refl _ _⟩
  · refine StepOKl.of ?_
    intro ac w hb hu hk
    refine ⟨wanted_none rfl, ?_⟩
    have e1 : ac.eval (.tmp 1) = .int .i64 leaf := hu.is (t := 1) (by kernel_rfl)
    exact step_value (BigFrame.run_move (.tmp 1) rfl w) (Below.refl _ _) e1
  · refine StepOKl.of ?_
    intro ac w hb hu hk
    refine ⟨wanted_none rfl, ?_⟩
    have e2 : ac.eval (.tmp 2) = .int .i64 chain := hu.is (t := 2) (by kernel_rfl)
    exact step_value (BigFrame.run_move (.tmp 2) rfl w) (Below.refl _ _) e2
  · refine StepOKl.of ?_
    intro ac w hb hu hk
    refine ⟨wanted_none rfl, ?_⟩
    have e11 : ac.eval (.tmp 11) = (.agg X) := (hk ⟨0, .data⟩ (by simp) rfl).is rfl rfl
    have e12 : ac.eval (.tmp 12) = (.int .i64 leaf) := (hk ⟨1, .data⟩ (by simp) rfl).is rfl rfl
    have e13 : ac.eval (.tmp 13) = (.int .i64 chain) := (hk ⟨2, .data⟩ (by simp) rfl).is rfl rfl
    have ef : ac.eval (.func 16) = .func (.func 16) #[] #[] := rfl
    refine step_enter (f := 16) (args := #[.agg X, .int .i64 leaf, .int .i64 chain]) ?_ ?_
    · generalize ac.eval = ρ at e11 e12 e13 ef ⊢
      go_simp
    · exact (HS1.out w hb).mono fun e w' ⟨he, hq⟩ => ⟨_, he, rfl, hq⟩
  · refine StepOKl.of ?_
    intro ac w hb hu hk
    refine ⟨wanted_none rfl, ?_⟩
    have e5 : ac.eval (.tmp 5) = .pointer (some ⟨g1, 0, none⟩) := hu.is (t := 5) (by kernel_rfl)
    exact wp_load_row 23 (.tmp 5) rfl g1 e5 23 X (0, 0) _ (HBX.out w hb) Tryd.underlying23 rfl (by rw [HXS.out]; kernel_rfl) ⟨_, rfl, rfl, Below.refl _ _⟩
  · refine StepOKl.of ?_
    intro ac w hb hu hk
    refine ⟨wanted_none rfl, ?_⟩
    have e1 : ac.eval (.tmp 1) = .int .i64 leaf := hu.is (t := 1) (by kernel_rfl)
    exact step_value (BigFrame.run_move (.tmp 1) rfl w) (Below.refl _ _) e1
  · refine StepOKl.of ?_
    intro ac w hb hu hk
    refine ⟨wanted_none rfl, ?_⟩
    have e2 : ac.eval (.tmp 2) = .int .i64 chain := hu.is (t := 2) (by kernel_rfl)
    exact step_value (BigFrame.run_move (.tmp 2) rfl w) (Below.refl _ _) e2
  · refine StepOKl.of ?_
    intro ac w hb hu hk
    refine ⟨wanted_none rfl, ?_⟩
    have e15 : ac.eval (.tmp 15) = (.agg X) := (hk ⟨4, .data⟩ (by simp) rfl).is rfl rfl
    have e16 : ac.eval (.tmp 16) = (.int .i64 leaf) := (hk ⟨5, .data⟩ (by simp) rfl).is rfl rfl
    have e17 : ac.eval (.tmp 17) = (.int .i64 chain) := (hk ⟨6, .data⟩ (by simp) rfl).is rfl rfl
    have ef : ac.eval (.func 20) = .func (.func 20) #[] #[] := rfl
    refine step_enter (f := 20) (args := #[.agg X, .int .i64 leaf, .int .i64 chain]) ?_ ?_
    · generalize ac.eval = ρ at e15 e16 e17 ef ⊢
      go_simp
    · exact (HS2.out w hb).mono fun e w' ⟨he, hq⟩ => ⟨_, he, rfl, hq⟩
  · refine StepOKl.of ?_
    intro ac w hb hu hk
    refine ⟨wanted_none rfl, ?_⟩
    have e14 : ac.eval (.tmp 14) = (.agg S) := (hk ⟨3, .data⟩ (by simp) rfl).is rfl rfl
    have e18 : ac.eval (.tmp 18) = (.agg S) := (hk ⟨7, .data⟩ (by simp) rfl).is rfl rfl
    refine step_value (w' := w) (v := .bool true) ?_ (Below.refl _ _) rfl
    have hq := HQS.out w
    generalize ac.eval = ρ at e14 e18 ⊢
    go_simp
  · refine StepOKl.of ?_
    intro ac w hb hu hk
    refine ⟨wanted_none rfl, ?_⟩
    have e19 : ac.eval (.tmp 19) = (.bool true) := (hk ⟨8, .data⟩ (by simp) rfl).is rfl rfl
    exact step_value (BigFrame.run_move (.tmp 19) rfl w) (Below.refl _ _) e19
  · refine StepOKl.of ?_
    intro ac w hb hu hk
    refine ⟨wanted_some rfl (hk ⟨9, .guard⟩ (by simp) rfl) rfl rfl (fun _ h => h), ?_⟩
    have e9 : ac.eval (.tmp 9) = .pointer (some ⟨g2, 0, none⟩) := hu.is (t := 9) (by kernel_rfl)
    exact wp_load_row 34 (.tmp 9) rfl g2 e9 34 C (0, 0) _ (HBC.out w hb) Tryd.underlying34 rfl (by rw [HCS.out]; kernel_rfl) ⟨_, rfl, rfl, Below.refl _ _⟩
  · refine StepOKl.of ?_
    intro ac w hb hu hk
    refine ⟨wanted_some rfl (hk ⟨9, .chain⟩ (by simp) rfl) rfl rfl (fun _ h => h), ?_⟩
    have e21 : ac.eval (.tmp 21) = (.agg C) := (hk ⟨10, .data⟩ (by simp) rfl).is rfl rfl
    have ef : ac.eval (.func 21) = .func (.func 21) #[] #[] := rfl
    refine step_enter (f := 21) (args := #[.agg C]) ?_ ?_
    · generalize ac.eval = ρ at e21 ef ⊢
      go_simp
    · exact (HT1.out w hb).mono fun e w' ⟨he, hq⟩ => ⟨_, he, rfl, hq⟩
  · refine StepOKl.of ?_
    intro ac w hb hu hk
    refine ⟨wanted_some rfl (hk ⟨9, .guard⟩ (by simp) rfl) rfl rfl (fun _ h => h), ?_⟩
    have e9 : ac.eval (.tmp 9) = .pointer (some ⟨g2, 0, none⟩) := hu.is (t := 9) (by kernel_rfl)
    exact wp_load_row 34 (.tmp 9) rfl g2 e9 34 C (0, 0) _ (HBC.out w hb) Tryd.underlying34 rfl (by rw [HCS.out]; kernel_rfl) ⟨_, rfl, rfl, Below.refl _ _⟩
  · refine StepOKl.of ?_
    intro ac w hb hu hk
    refine ⟨wanted_some rfl (hk ⟨9, .guard⟩ (by simp) rfl) rfl rfl (fun _ h => h), ?_⟩
    have e23 : ac.eval (.tmp 23) = (.agg C) := (hk ⟨12, .data⟩ (by simp) rfl).is rfl rfl
    have ef : ac.eval (.func 22) = .func (.func 22) #[] #[] := rfl
    refine step_enter (f := 22) (args := #[.agg C]) ?_ ?_
    · generalize ac.eval = ρ at e23 ef ⊢
      go_simp
    · exact (HT2.out w hb).mono fun e w' ⟨he, hq⟩ => ⟨_, he, rfl, hq⟩
  · refine StepOKl.of ?_
    intro ac w hb hu hk
    refine ⟨wanted_some rfl (hk ⟨9, .guard⟩ (by simp) rfl) rfl rfl (fun _ h => h), ?_⟩
    have e22 : ac.eval (.tmp 22) = (.agg T) := (hk ⟨11, .data⟩ (by simp) rfl).is rfl rfl
    have e24 : ac.eval (.tmp 24) = (.agg T) := (hk ⟨13, .data⟩ (by simp) rfl).is rfl rfl
    refine step_value (w' := w) (v := .bool true) ?_ (Below.refl _ _) rfl
    have hq := HQT.out w
    generalize ac.eval = ρ at e22 e24 ⊢
    go_simp
  · refine StepOKl.of ?_
    intro ac w hb hu hk
    refine ⟨wanted_none rfl, ?_⟩
    have e20 : ac.eval (.tmp 20) = (.bool true) := (hk ⟨9, .data⟩ (by simp) rfl).is rfl rfl
    have e25 : ac.eval (.tmp 25) = (.bool true) := (hk ⟨14, .data⟩ (by simp) rfl).is rfl rfl
    exact step_value (run_pick_true e20 rfl w) (Below.refl _ _) e25
  · refine StepOKl.of ?_
    intro ac w hb hu hk
    refine ⟨wanted_none rfl, ?_⟩
    have e26 : ac.eval (.tmp 26) = (.bool true) := (hk ⟨15, .data⟩ (by simp) rfl).is rfl rfl
    exact step_value (BigFrame.run_move (.tmp 26) rfl w) (Below.refl _ _) e26
  · refine StepOKl.of ?_
    intro ac w hb hu hk
    refine ⟨wanted_some rfl (hk ⟨16, .guard⟩ (by simp) rfl) rfl rfl (fun _ h => h), ?_⟩
    have e9 : ac.eval (.tmp 9) = .pointer (some ⟨g2, 0, none⟩) := hu.is (t := 9) (by kernel_rfl)
    exact wp_load_row 34 (.tmp 9) rfl g2 e9 34 C (0, 0) _ (HBC.out w hb) Tryd.underlying34 rfl (by rw [HCS.out]; kernel_rfl) ⟨_, rfl, rfl, Below.refl _ _⟩
  · refine StepOKl.of ?_
    intro ac w hb hu hk
    refine ⟨wanted_some rfl (hk ⟨16, .guard⟩ (by simp) rfl) rfl rfl (fun _ h => h), ?_⟩
    have e3 : ac.eval (.tmp 3) = .int .i64 n := hu.is (t := 3) (by kernel_rfl)
    exact step_value (BigFrame.run_move (.tmp 3) rfl w) (Below.refl _ _) e3
  · refine StepOKl.of ?_
    intro ac w hb hu hk
    refine ⟨wanted_some rfl (hk ⟨16, .chain⟩ (by simp) rfl) rfl rfl (fun _ h => h), ?_⟩
    have e28 : ac.eval (.tmp 28) = (.agg C) := (hk ⟨17, .data⟩ (by simp) rfl).is rfl rfl
    have e29 : ac.eval (.tmp 29) = (.int .i64 n) := (hk ⟨18, .data⟩ (by simp) rfl).is rfl rfl
    have ef : ac.eval (.func 15) = .func (.func 15) #[] #[] := rfl
    refine step_enter (f := 15) (args := #[.agg C, .int .i64 n]) ?_ ?_
    · generalize ac.eval = ρ at e28 e29 ef ⊢
      go_simp
    · exact (HA1.out w hb).mono fun e w' ⟨he, hq⟩ => ⟨_, he, rfl, hq⟩
  · refine StepOKl.of ?_
    intro ac w hb hu hk
    refine ⟨wanted_some rfl (hk ⟨16, .guard⟩ (by simp) rfl) rfl rfl (fun _ h => h), ?_⟩
    have e9 : ac.eval (.tmp 9) = .pointer (some ⟨g2, 0, none⟩) := hu.is (t := 9) (by kernel_rfl)
    exact wp_load_row 34 (.tmp 9) rfl g2 e9 34 C (0, 0) _ (HBC.out w hb) Tryd.underlying34 rfl (by rw [HCS.out]; kernel_rfl) ⟨_, rfl, rfl, Below.refl _ _⟩
  · refine StepOKl.of ?_
    intro ac w hb hu hk
    refine ⟨wanted_some rfl (hk ⟨16, .guard⟩ (by simp) rfl) rfl rfl (fun _ h => h), ?_⟩
    have e3 : ac.eval (.tmp 3) = .int .i64 n := hu.is (t := 3) (by kernel_rfl)
    exact step_value (BigFrame.run_move (.tmp 3) rfl w) (Below.refl _ _) e3
  · refine StepOKl.of ?_
    intro ac w hb hu hk
    refine ⟨wanted_some rfl (hk ⟨16, .guard⟩ (by simp) rfl) rfl rfl (fun _ h => h), ?_⟩
    have e31 : ac.eval (.tmp 31) = (.agg C) := (hk ⟨20, .data⟩ (by simp) rfl).is rfl rfl
    have e32 : ac.eval (.tmp 32) = (.int .i64 n) := (hk ⟨21, .data⟩ (by simp) rfl).is rfl rfl
    have ef : ac.eval (.func 23) = .func (.func 23) #[] #[] := rfl
    refine step_enter (f := 23) (args := #[.agg C, .int .i64 n]) ?_ ?_
    · generalize ac.eval = ρ at e31 e32 ef ⊢
      go_simp
    · exact (HA2.out w hb).mono fun e w' ⟨he, hq⟩ => ⟨_, he, rfl, hq⟩
  · refine StepOKl.of ?_
    intro ac w hb hu hk
    refine ⟨wanted_some rfl (hk ⟨16, .guard⟩ (by simp) rfl) rfl rfl (fun _ h => h), ?_⟩
    have e30 : ac.eval (.tmp 30) = (.agg Y) := (hk ⟨19, .data⟩ (by simp) rfl).is rfl rfl
    have e33 : ac.eval (.tmp 33) = (.agg Y) := (hk ⟨22, .data⟩ (by simp) rfl).is rfl rfl
    refine step_value (w' := w) (v := .bool true) ?_ (Below.refl _ _) rfl
    have hq := HQA.out w
    generalize ac.eval = ρ at e30 e33 ⊢
    go_simp
  · refine StepOKl.of ?_
    intro ac w hb hu hk
    refine ⟨wanted_none rfl, ?_⟩
    have e27 : ac.eval (.tmp 27) = (.bool true) := (hk ⟨16, .data⟩ (by simp) rfl).is rfl rfl
    have e34 : ac.eval (.tmp 34) = (.bool true) := (hk ⟨23, .data⟩ (by simp) rfl).is rfl rfl
    exact step_value (run_pick_true e27 rfl w) (Below.refl _ _) e34
  · refine StepOKl.of ?_
    intro ac w hb hu hk
    refine ⟨wanted_none rfl, ?_⟩
    have e35 : ac.eval (.tmp 35) = (.bool true) := (hk ⟨24, .data⟩ (by simp) rfl).is rfl rfl
    exact step_value (BigFrame.run_move (.tmp 35) rfl w) (Below.refl _ _) e35
  · refine StepOKl.of ?_
    intro ac w hb hu hk
    refine ⟨wanted_some rfl (hk ⟨25, .chain⟩ (by simp) rfl) rfl rfl (fun _ h => h), ?_⟩
    have ef : ac.eval (.func 17) = .func (.func 17) #[] #[] := rfl
    refine step_enter (f := 17) (args := #[]) ?_ ?_
    · generalize ac.eval = ρ at  ef ⊢
      go_simp
    · exact (HWK.out w hb).mono fun e w' ⟨he, hq⟩ => ⟨_, he, rfl, hq⟩
  · refine StepOKl.of ?_
    intro ac w hb hu hk
    refine ⟨wanted_none rfl, ?_⟩
    have e36 : ac.eval (.tmp 36) = (.bool true) := (hk ⟨25, .data⟩ (by simp) rfl).is rfl rfl
    have e37 : ac.eval (.tmp 37) = (.bool true) := (hk ⟨26, .data⟩ (by simp) rfl).is rfl rfl
    exact step_value (run_pick_true e36 rfl w) (Below.refl _ _) e37
  · intro ac w' hb hu hk hap
    obtain ⟨_, h11, rfl⟩ := (hk 0 (by decide)).put rfl rfl
    obtain ⟨_, h12, rfl⟩ := (hk 1 (by decide)).put rfl rfl
    obtain ⟨_, h13, rfl⟩ := (hk 2 (by decide)).put rfl rfl
    obtain ⟨_, h14, rfl⟩ := (hk 3 (by decide)).put rfl rfl
    obtain ⟨_, h15, rfl⟩ := (hk 4 (by decide)).put rfl rfl
    obtain ⟨_, h16, rfl⟩ := (hk 5 (by decide)).put rfl rfl
    obtain ⟨_, h17, rfl⟩ := (hk 6 (by decide)).put rfl rfl
    obtain ⟨_, h18, rfl⟩ := (hk 7 (by decide)).put rfl rfl
    obtain ⟨_, h19, rfl⟩ := (hk 8 (by decide)).put rfl rfl
    obtain ⟨_, h20, rfl⟩ := (hk 9 (by decide)).put rfl rfl
    obtain ⟨_, h21, rfl⟩ := (hk 10 (by decide)).put rfl rfl
    obtain ⟨_, h22, rfl⟩ := (hk 11 (by decide)).put rfl rfl
    obtain ⟨_, h23, rfl⟩ := (hk 12 (by decide)).put rfl rfl
    obtain ⟨_, h24, rfl⟩ := (hk 13 (by decide)).put rfl rfl
    obtain ⟨_, h25, rfl⟩ := (hk 14 (by decide)).put rfl rfl
    obtain ⟨_, h26, rfl⟩ := (hk 15 (by decide)).put rfl rfl
    obtain ⟨_, h27, rfl⟩ := (hk 16 (by decide)).put rfl rfl
    obtain ⟨_, h28, rfl⟩ := (hk 17 (by decide)).put rfl rfl
    obtain ⟨_, h29, rfl⟩ := (hk 18 (by decide)).put rfl rfl
    obtain ⟨_, h30, rfl⟩ := (hk 19 (by decide)).put rfl rfl
    obtain ⟨_, h31, rfl⟩ := (hk 20 (by decide)).put rfl rfl
    obtain ⟨_, h32, rfl⟩ := (hk 21 (by decide)).put rfl rfl
    obtain ⟨_, h33, rfl⟩ := (hk 22 (by decide)).put rfl rfl
    obtain ⟨_, h34, rfl⟩ := (hk 23 (by decide)).put rfl rfl
    obtain ⟨_, h35, rfl⟩ := (hk 24 (by decide)).put rfl rfl
    obtain ⟨_, h36, rfl⟩ := (hk 25 (by decide)).put rfl rfl
    obtain ⟨_, h37, rfl⟩ := (hk 26 (by decide)).put rfl rfl
    obtain ⟨_, h38, rfl⟩ := (hk 27 (by decide)).put rfl rfl
    clear hap
    have hF : AllPuts ac.tmps ((11, _) :: (12, _) :: (13, _) :: (14, _) :: (15, _) :: (16, _) :: (17, _) :: (18, _) :: (19, _) :: (20, _) :: (21, _) :: (22, _) :: (23, _) :: (24, _) :: (25, _) :: (26, _) :: (27, _) :: (28, _) :: (29, _) :: (30, _) :: (31, _) :: (32, _) :: (33, _) :: (34, _) :: (35, _) :: (36, _) :: (37, _) :: (38, _) :: []) := ⟨h11, h12, h13, h14, h15, h16, h17, h18, h19, h20, h21, h22, h23, h24, h25, h26, h27, h28, h29, h30, h31, h32, h33, h34, h35, h36, h37, h38, trivial⟩
    obtain rfl := frame_puts hu (by kernel_rfl) hF
    simp only [puts, Act.put, List.setIfInBounds_toArray, List.set_cons_zero, List.set_cons_succ, List.drop_succ_cons, List.drop_zero]
    clear hk hu hF h11 h12 h13 h14 h15 h16 h17 h18 h19 h20 h21 h22 h23 h24 h25 h26 h27 h28 h29 h30 h31 h32 h33 h34 h35 h36 h37 h38
    have HBE := Lib.hid (HB3.out.trans (hb.mono HB3.out.size))
    clear hb
    go_wp2_with fail
    go_ret
    exact ⟨rfl, HBE.out⟩

set_option maxRecDepth 100000 in
theorem contract (H : Type) (enc : TypeId × Value → H) (W : World) (base : Nat) (args : Array Value) (ds gs : List (DataW H)) (before : List MemPlace)
    (hval : ∀ (j : Nat) t v, Tryd.f5.params[j]? = some t → args[j]? = some v → Value.okWide Tryd.prog W .any base t v)
    (hW : DataW.Whole enc Tryd.prog Tryd.f5.params.toList Rows.wotsStepsSpec.vars false W args.toList ds gs before) (hL : laidMetH Tryd.prog Rows.wotsStepsRow.laid W) :
    Calls Tryd.prog 5 args W fun e W' => ∃ v, e = .returned v ∧ Rows.wotsStepsSpec.post enc Tryd.prog Tryd.f5 false true false false W args v W' := by
  have hW' := hW
  obtain ⟨p, q, hA0, hV, rfl, hfz, hnd⟩ := hW
  have hA : DataW.TrodAll enc Tryd.prog W 0 (fun _ => true) true Tryd.f5.params.toList args.toList ds p := hA0
  rw [Tryd.params5] at hA hval
  obtain ⟨v0, v1, v2, v3, v4, d0, d1, d2, d3, d4, p0, p1, p2, p3, p4, rfl, rfl, rfl, h0, h1, h2, h3, h4⟩ := trodAll_five hA
  obtain ⟨rfl, rfl⟩ := trodVars_none hV
  obtain ⟨k0, rfl, hk0⟩ := open_array Tryd.underlying23 (by kernel_rfl) (hval 0 23 v0 rfl rfl) h0
  obtain ⟨n1, rfl, rfl, rfl, wf1⟩ := open_int Tryd.underlying3 (hval 1 3 v1 rfl rfl) h1
  have b1 := bounds_i64 wf1
  obtain ⟨n2, rfl, rfl, rfl, wf2⟩ := open_int Tryd.underlying3 (hval 2 3 v2 rfl rfl) h2
  have b2 := bounds_i64 wf2
  obtain ⟨n3, rfl, rfl, rfl, wf3⟩ := open_int Tryd.underlying3 (hval 3 3 v3 rfl rfl) h3
  have b3 := bounds_i64 wf3
  obtain ⟨k4, rfl, hk4⟩ := open_array Tryd.underlying34 (by kernel_rfl) (hval 4 34 v4 rfl rfl) h4
  clear hA0
  refine (walk k0 n1 n2 n3 k4 W hk0 b1.1 b1.2 b2.1 b2.2 b3.1 b3.2 hk4 (pow10 hL)).mono fun e W' ⟨he, hb⟩ => ?_
  exact ⟨_, he, law_post hW' rfl (by kernel_rfl) rfl (by kernel_rfl) hb⟩

theorem laid_met (os : Os) : laidMet Tryd.prog Rows.wotsStepsRow.laid ((laidWorld os).forCall (fun _ _ => 0) ⟨#[], #[.agg #[.int .u8 0, .int .u8 0, .int .u8 0, .int .u8 0, .int .u8 0, .int .u8 0, .int .u8 0, .int .u8 0, .int .u8 0, .int .u8 0, .int .u8 0, .int .u8 0, .int .u8 0, .int .u8 0, .int .u8 0, .int .u8 0], .int .i64 0, .int .i64 0, .int .i64 0, .agg #[.int .u8 0, .int .u8 0, .int .u8 0, .int .u8 0, .int .u8 0, .int .u8 0, .int .u8 0, .int .u8 0, .int .u8 0, .int .u8 0, .int .u8 0, .int .u8 0, .int .u8 0, .int .u8 0, .int .u8 0, .int .u8 0, .int .u8 0, .int .u8 0, .int .u8 0, .int .u8 0, .int .u8 0, .int .u8 0, .int .u8 0, .int .u8 0, .int .u8 0, .int .u8 0, .int .u8 0, .int .u8 0, .int .u8 0, .int .u8 0, .int .u8 0, .int .u8 0]], []⟩).memory :=
  laidMet_of_run' 8 (by kernel_rfl) (by kernel_rfl)
theorem reads (os : Os) {H : Type} (enc : TypeId × Value → H) : ∃ places, DataW.whole enc Tryd.prog ((laidWorld os).forCall (fun _ _ => 0) ⟨#[], #[.agg #[.int .u8 0, .int .u8 0, .int .u8 0, .int .u8 0, .int .u8 0, .int .u8 0, .int .u8 0, .int .u8 0, .int .u8 0, .int .u8 0, .int .u8 0, .int .u8 0, .int .u8 0, .int .u8 0, .int .u8 0, .int .u8 0], .int .i64 0, .int .i64 0, .int .i64 0, .agg #[.int .u8 0, .int .u8 0, .int .u8 0, .int .u8 0, .int .u8 0, .int .u8 0, .int .u8 0, .int .u8 0, .int .u8 0, .int .u8 0, .int .u8 0, .int .u8 0, .int .u8 0, .int .u8 0, .int .u8 0, .int .u8 0, .int .u8 0, .int .u8 0, .int .u8 0, .int .u8 0, .int .u8 0, .int .u8 0, .int .u8 0, .int .u8 0, .int .u8 0, .int .u8 0, .int .u8 0, .int .u8 0, .int .u8 0, .int .u8 0, .int .u8 0, .int .u8 0]], []⟩).memory Tryd.f5.params.toList Rows.wotsStepsSpec.vars false #[Value.agg #[.int .u8 0, .int .u8 0, .int .u8 0, .int .u8 0, .int .u8 0, .int .u8 0, .int .u8 0, .int .u8 0, .int .u8 0, .int .u8 0, .int .u8 0, .int .u8 0, .int .u8 0, .int .u8 0, .int .u8 0, .int .u8 0], Value.int .i64 0, Value.int .i64 0, Value.int .i64 0, Value.agg #[.int .u8 0, .int .u8 0, .int .u8 0, .int .u8 0, .int .u8 0, .int .u8 0, .int .u8 0, .int .u8 0, .int .u8 0, .int .u8 0, .int .u8 0, .int .u8 0, .int .u8 0, .int .u8 0, .int .u8 0, .int .u8 0, .int .u8 0, .int .u8 0, .int .u8 0, .int .u8 0, .int .u8 0, .int .u8 0, .int .u8 0, .int .u8 0, .int .u8 0, .int .u8 0, .int .u8 0, .int .u8 0, .int .u8 0, .int .u8 0, .int .u8 0, .int .u8 0]].toList 8 = some ([.agg [.lit (.int .u8 0), .lit (.int .u8 0), .lit (.int .u8 0), .lit (.int .u8 0), .lit (.int .u8 0), .lit (.int .u8 0), .lit (.int .u8 0), .lit (.int .u8 0), .lit (.int .u8 0), .lit (.int .u8 0), .lit (.int .u8 0), .lit (.int .u8 0), .lit (.int .u8 0), .lit (.int .u8 0), .lit (.int .u8 0), .lit (.int .u8 0)], .lit (.int .i64 0), .lit (.int .i64 0), .lit (.int .i64 0), .agg [.lit (.int .u8 0), .lit (.int .u8 0), .lit (.int .u8 0), .lit (.int .u8 0), .lit (.int .u8 0), .lit (.int .u8 0), .lit (.int .u8 0), .lit (.int .u8 0), .lit (.int .u8 0), .lit (.int .u8 0), .lit (.int .u8 0), .lit (.int .u8 0), .lit (.int .u8 0), .lit (.int .u8 0), .lit (.int .u8 0), .lit (.int .u8 0), .lit (.int .u8 0), .lit (.int .u8 0), .lit (.int .u8 0), .lit (.int .u8 0), .lit (.int .u8 0), .lit (.int .u8 0), .lit (.int .u8 0), .lit (.int .u8 0), .lit (.int .u8 0), .lit (.int .u8 0), .lit (.int .u8 0), .lit (.int .u8 0), .lit (.int .u8 0), .lit (.int .u8 0), .lit (.int .u8 0), .lit (.int .u8 0)]], [], places) :=
  ⟨[], by kernel_rfl⟩

set_option maxRecDepth 100000 in
theorem lifted (os : Os) (started : os.Started) (H : Type) (enc : TypeId × Value → H) (F : Stop.Interp) :
    ReturnsInHanded {} Tryd.checked os 5 .any ((OpenSpec.ofChange Rows.wotsStepsSpec).preRow enc Tryd.prog Tryd.f5 Rows.wotsStepsRow.domain false Rows.wotsStepsRow.laid) (((OpenSpec.ofChange Rows.wotsStepsSpec).at F).post enc Tryd.prog Tryd.f5 false true false false) := by
  obtain ⟨places, hx⟩ := reads os enc
  refine returnsInHanded_of_row (C := Tryd.checked) (s := OpenSpec.ofChange Rows.wotsStepsSpec) own started (by kernel_rfl) Tryd.func5
    (witness_row_at (enc := enc) (C := Tryd.checked) false (laidWorld os) #[.agg #[.int .u8 0, .int .u8 0, .int .u8 0, .int .u8 0, .int .u8 0, .int .u8 0, .int .u8 0, .int .u8 0, .int .u8 0, .int .u8 0, .int .u8 0, .int .u8 0, .int .u8 0, .int .u8 0, .int .u8 0, .int .u8 0], .int .i64 0, .int .i64 0, .int .i64 0, .agg #[.int .u8 0, .int .u8 0, .int .u8 0, .int .u8 0, .int .u8 0, .int .u8 0, .int .u8 0, .int .u8 0, .int .u8 0, .int .u8 0, .int .u8 0, .int .u8 0, .int .u8 0, .int .u8 0, .int .u8 0, .int .u8 0, .int .u8 0, .int .u8 0, .int .u8 0, .int .u8 0, .int .u8 0, .int .u8 0, .int .u8 0, .int .u8 0, .int .u8 0, .int .u8 0, .int .u8 0, .int .u8 0, .int .u8 0, .int .u8 0, .int .u8 0, .int .u8 0]] rfl (by kernel_rfl) (by kernel_rfl) (by kernel_rfl)
      (OpenSpec.preRow_of_cond 8 hx (by kernel_rfl) (fun k hk => by cases hk) (by kernel_rfl) (laid_met os))) ?_
  intro W base args ds gs before hval hW _ _ _ hL _ _
  exact contract H enc W base args ds gs before hval hW hL

theorem said : Rows.WotsStepsSaid :=
  OpenClaim.holds_of_cond 5 Tryd.f5 rfl rfl rfl rfl rfl rfl rfl ⟨rfl, rfl, rfl, rfl, rfl⟩ rfl rfl rfl rfl rfl (by kernel_rfl) Tryd.func5 (by kernel_rfl)
    (of_decide_eq_true (by kernel_rfl)) (by unfold Func.isWrapper; first | (rw [if_pos (by decide +kernel)]; kernel_rfl) | (rw [if_neg (by decide +kernel)]; exact ⟨rfl, rfl⟩))
    (fun os started H enc _ F => by rw [OpenClaim.pre_eq_preRow]; exact lifted os started H enc F)

theorem plain (f : FuncId) (fn : Func) (hf : Tryd.pinned.checked.prog.funcNamed "aumbry/aumbrylaw08.WotsSteps" = some f) (hfn : Tryd.pinned.checked.prog.funcs[f]? = some fn) :
    false = Tryd.pinned.checked.prog.looks [] ∧ ∀ (j : Nat) t, fn.params[j]? = some t → Tryd.pinned.checked.prog.wantsStandIn t = false := by
  obtain rfl : f = 5 := Option.some.inj ((show Tryd.prog.funcNamed "aumbry/aumbrylaw08.WotsSteps" = some 5 by kernel_rfl).symm.trans hf) |>.symm
  obtain rfl : fn = Tryd.f5 := (Option.some.inj (Tryd.func5.symm.trans hfn)).symm
  refine ⟨by kernel_rfl, fun j t ht => ?_⟩
  exact wants_none (by kernel_rfl) (Array.mem_of_getElem? ht)

/-- The card: the statement holds, its listed tables tied to the program's text. -/
theorem card : Rows.WotsStepsCardSaid :=
  Claim7.holds_tied_plain_at .later [] _ _ _ _ said (fun _ h => by cases h) (by kernel_rfl) (fun _ h => by cases h) wotsSteps_row_tie rfl ⟨rfl, rfl⟩ (by kernel_rfl) rfl plain (by kernel_rfl)
end Go.Proofs.YtciflbkgfmbfdaaDoor.wotsSteps
