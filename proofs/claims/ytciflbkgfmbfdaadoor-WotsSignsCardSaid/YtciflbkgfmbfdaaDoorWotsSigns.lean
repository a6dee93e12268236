/- WotsSigns: a leaf's public hash, its signature of any message. For all seeds, leaves and messages. -/
import Derived.Test.YtciflbkgfmbfdaaDoorLaw
import Derived.Test.YtciflbkgfmbfdaaDoorKeep
import Derived.Test.YtciflbkgfmbfdaaDoorWakes8
import Derived.Test.YtciflbkgfmbfdaaDoorWotsD
import Derived.Test.YtciflbkgfmbfdaaDoorRTSame
import Derived.Test.YtciflbkgfmbfdaaDoorHashD
namespace Go.Proofs.YtciflbkgfmbfdaaDoor.wotsSigns
open Go.ChangeShapes Go.WideShapes Go.ChangeAt Go.RowKit

set_option maxRecDepth 100000 in
set_option maxHeartbeats 16000000 in
theorem walk (sd : List UInt8) (leaf : Int) (A : Option Addr) (n c : Nat) (m : List UInt8) (w : World) (hs : sd.length = 16) (_hl0 : -9223372036854775808 ≤ leaf) (hl1 : leaf ≤ 9223372036854775807) (hn0 : m.length = n) (hc0 : n ≤ c) (hcm : c ≤ maxLen) (hr0 : Rd w w.heap.size A m) (htab : Pow10 w.heap.size w) :
    Calls Tryd.prog 6 #[.agg (u8A sd), .int .i64 leaf, .slice A n c] w fun e w' => e = .returned (.bool true) ∧ Below w.heap.size w w' := by
  obtain ⟨M0, hM0⟩ : ∃ M, min n 60 = M := ⟨_, rfl⟩
  have HCB0 := Lib.hid (fun W => (show Calls Tryd.prog 11 #[.slice A n c, .int .i64 60] W fun e W' => e = .returned (.slice A M0 c) ∧ W = W' from by
    rw [← hM0]
    exact cut_any A n c 60 W hc0))
  have hMk0 : M0 ≤ 60 := by omega
  have hMc0 : M0 ≤ c := by omega
  obtain ⟨bl0, hbl0⟩ : ∃ x, m.take 60 = x := ⟨_, rfl⟩
  have hbn0 : bl0.length = M0 := by rw [← hbl0, List.length_take, hn0]; omega
  have hbr0 : Rd w w.heap.size A bl0 := by rw [← hbl0]; exact hr0.take 60
  obtain ⟨X, hX⟩ : ∃ X, u8A sd = X := ⟨_, rfl⟩
  have HEX := Lib.hid hX
  obtain ⟨P, hP⟩ : ∃ X, u8A (pubH (endsL sd leaf 67)) = X := ⟨_, rfl⟩
  have HEP := Lib.hid hP
  obtain ⟨E, hE⟩ : ∃ E, atL (signF sd leaf (digH (msgH bl0))) 67 = E := ⟨_, rfl⟩
  have HEL := Lib.hid (show E.length = 67 by rw [← hE]; exact atL_len _ _)
  have HXS := Lib.hid (show X.size = 16 by rw [← hX, u8A_size]; exact hs)
  have HQP := Lib.hid (fun W => (show (Op.equalIn 10000 34 (.agg P) (.agg P)).run Tryd.prog W = .ok true W by rw [← hP, run_hash_eq W _ _ (pubH_len _) (pubH_len _), decide_eq_true rfl]))
  have HTAB := Lib.hid htab
  rw [hX]
  go_enter Tryd.func6, Tryd.ntmps6
  go_upto_region 1 with fail
  generalize hw3 : World.alloc _ _ = w3
  obtain ⟨g1, hg1⟩ : ∃ g, w.heap.size = g := ⟨_, rfl⟩
  have hf : Blk w3 g1 X 23 ∧ Below w.heap.size w w3 := by
    rw [← hw3, ← hg1]
    exact ⟨Blk.new w _ _, (Below.refl _ _).alloc (Nat.le_refl _) _⟩
  have HB1 := Lib.hid hf.1
  have HB3 := Lib.hid hf.2
  clear hf hw3
  rw [hg1]
  clear hg1
  have HBX := Lib.hid (fun W (hW : Below w3.heap.size w3 W) => HB1.out.below hW HB1.out.lt)
  have HP1 := Lib.hid (fun W (hW : Below w3.heap.size w3 W) => (show Calls Tryd.prog 24 #[.agg X, .int .i64 leaf] W fun e w' => e = .returned (.agg P) ∧ Below W.heap.size W w' from by
    rw [← hX, ← hP]
    have hb2 := HB3.out.trans (hW.mono HB3.out.size)
    exact ppublic_any sd leaf W hs hl1 (tab_on HTAB.out hb2 hb2.size)))
  have HP2 := Lib.hid (fun W (hW : Below w3.heap.size w3 W) => (show Calls Tryd.prog 25 #[.agg X, .int .i64 leaf] W fun e w' => e = .returned (.agg P) ∧ Below W.heap.size W w' from by
    rw [← hX, ← hP]
    have hb2 := HB3.out.trans (hW.mono HB3.out.size)
    exact rpublic_any sd leaf W hs hl1))
  have HS1 := Lib.hid (fun W (hW : Below w3.heap.size w3 W) => (show Calls Tryd.prog 12 #[.agg X, .int .i64 leaf, .slice A M0 c] W fun e w' => ∃ X x, e = .returned (.slice X 67 x) ∧ 67 ≤ x ∧ HV w' (.slice X 67 x) E ∧ Below W.heap.size W w' from by
    have hb2 := HB3.out.trans (hW.mono HB3.out.size)
    rw [← hX, ← hE]
    refine (psign_any sd leaf A M0 c bl0 W hs hl1 hbn0 (by omega) hMc0 hcm (hbr0.on hb2) (tab_on HTAB.out hb2 hb2.size)).mono ?_
    rintro e w' ⟨v, rfl, ho, hb⟩
    obtain ⟨X, x, rfl, hx, _⟩ := ho.form (atL_len _ _)
    exact ⟨X, x, rfl, hx, ho.hv, hb⟩))
  have HS2 := Lib.hid (fun W (hW : Below w3.heap.size w3 W) => (show Calls Tryd.prog 27 #[.agg X, .int .i64 leaf, .slice A M0 c] W fun e w' => ∃ X x, e = .returned (.slice X 67 x) ∧ 67 ≤ x ∧ HV w' (.slice X 67 x) E ∧ Below W.heap.size W w' from by
    have hb2 := HB3.out.trans (hW.mono HB3.out.size)
    rw [← hX, ← hE]
    refine (rsign_any sd leaf A M0 c bl0 W hs hl1 hbn0 (by omega) hMc0 hcm (hbr0.on hb2)).mono ?_
    rintro e w' ⟨v, rfl, ho, hb⟩
    obtain ⟨X, x, rfl, hx, _⟩ := ho.form (atL_len _ _)
    exact ⟨X, x, rfl, hx, ho.hv, hb⟩))
  have HSM := Lib.hid (fun a b W (ha : HV W a E) (hb : HV W b E) => (show Calls Tryd.prog 26 #[a, b] W fun e w' => e = .returned (.bool true) ∧ Below W.heap.size W w' from by
    have := ksame7_any ha hb (by rw [HEL.out]; omega)
    rwa [decide_eq_true rfl] at this))
  have HWK := Lib.hid (fun W (hW : Below w3.heap.size w3 W) => wakes8_any W (tab_on HTAB.out (HB3.out.trans (hW.mono HB3.out.size)) (HB3.out.trans (hW.mono HB3.out.size)).size))
  clear hX hP hE hM0 hbl0 hbn0 hbr0 hn0 hr0 htab
  go_wp2_with fail
  with_reducible refine (HCB0.out _).mono ?_
  rintro e wx ⟨rfl, rfl⟩
  clear HCB0
  go_wp2_with fail
  refine wp_region_loose 21 1 (fun i => false) (promises [.is (.agg X), .is (.int .i64 leaf), .is (.agg P), .is (.agg X), .is (.int .i64 leaf), .is (.agg P), .is (.bool true), .is (.bool true), .is (.agg X), .is (.int .i64 leaf), .is (.slice A M0 c), .hv 67 E, .is (.agg X), .is (.int .i64 leaf), .is (.slice A M0 c), .hv 67 E, .is (.bool true), .is (.bool true), .is (.bool true), .is (.bool true), .is (.bool true)]) (by kernel_rfl) rfl (by kernel_rfl) (fun i v w w' h hb => Spec.keep h hb) ⟨?_, ?_, ?_, ?_, ?_, ?_, ?_, ?_, ?_, ?_, ?_, ?_, ?_, ?_, ?_, ?_, ?_, ?_, ?_, ?_, ?_, trivial⟩ ?_
  · refine StepOKl.of ?_
    intro ac w hb hu hk
    refine ⟨wanted_none rfl, ?_⟩
    have e3 : ac.eval (.tmp 3) = .pointer (some ⟨g1, 0, none⟩) := hu.is (t := 3) (by kernel_rfl)
    exact wp_load_row 23 (.tmp 3) rfl g1 e3 23 X (0, 0) _ (HBX.out w hb) Tryd.underlying23 rfl (by rw [HXS.out]; kernel_rfl) ⟨_, rfl, rfl, Below.refl _ _⟩
  · refine StepOKl.of ?_
    intro ac w hb hu hk
    refine ⟨wanted_none rfl, ?_⟩
    have e1 : ac.eval (.tmp 1) = .int .i64 leaf := hu.is (t := 1) (by kernel_rfl)
    exact step_value (BigFrame.run_move (.tmp 1) rfl w) (Below.refl _ _) e1
  · refine StepOKl.of ?_
    intro ac w hb hu hk
    refine ⟨wanted_none rfl, ?_⟩
    have e9 : ac.eval (.tmp 9) = (.agg X) := (hk ⟨0, .data⟩ (by simp) rfl).is rfl rfl
    have e10 : ac.eval (.tmp 10) = (.int .i64 leaf) := (hk ⟨1, .data⟩ (by simp) rfl).is rfl rfl
    have ef : ac.eval (.func 24) = .func (.func 24) #[] #[] := rfl
    refine step_enter (f := 24) (args := #[.agg X, .int .i64 leaf]) ?_ ?_
    · generalize ac.eval = ρ at e9 e10 ef ⊢
      go_simp
    · exact (HP1.out w hb).mono fun e w' ⟨he, hq⟩ => ⟨_, he, rfl, hq⟩
  · refine StepOKl.of ?_
    intro ac w hb hu hk
    refine ⟨wanted_none rfl, ?_⟩
    have e3 : ac.eval (.tmp 3) = .pointer (some ⟨g1, 0, none⟩) := hu.is (t := 3) (by kernel_rfl)
    exact wp_load_row 23 (.tmp 3) rfl g1 e3 23 X (0, 0) _ (HBX.out w hb) Tryd.underlying23 rfl (by rw [HXS.out]; kernel_rfl) ⟨_, rfl, rfl, Below.refl _ _⟩
  · refine StepOKl.of ?_
    intro ac w hb hu hk
    refine ⟨wanted_none rfl, ?_⟩
    have e1 : ac.eval (.tmp 1) = .int .i64 leaf := hu.is (t := 1) (by kernel_rfl)
    exact step_value (BigFrame.run_move (.tmp 1) rfl w) (Below.refl _ _) e1
  · refine StepOKl.of ?_
    intro ac w hb hu hk
    refine ⟨wanted_none rfl, ?_⟩
    have e12 : ac.eval (.tmp 12) = (.agg X) := (hk ⟨3, .data⟩ (by simp) rfl).is rfl rfl
    have e13 : ac.eval (.tmp 13) = (.int .i64 leaf) := (hk ⟨4, .data⟩ (by simp) rfl).is rfl rfl
    have ef : ac.eval (.func 25) = .func (.func 25) #[] #[] := rfl
    refine step_enter (f := 25) (args := #[.agg X, .int .i64 leaf]) ?_ ?_
    · generalize ac.eval = ρ at e12 e13 ef ⊢
      go_simp
    · exact (HP2.out w hb).mono fun e w' ⟨he, hq⟩ => ⟨_, he, rfl, hq⟩
  · refine StepOKl.of ?_
    intro ac w hb hu hk
    refine ⟨wanted_none rfl, ?_⟩
    have e11 : ac.eval (.tmp 11) = (.agg P) := (hk ⟨2, .data⟩ (by simp) rfl).is rfl rfl
    have e14 : ac.eval (.tmp 14) = (.agg P) := (hk ⟨5, .data⟩ (by simp) rfl).is rfl rfl
    refine step_value (w' := w) (v := .bool true) ?_ (Below.refl _ _) rfl
    have hq := HQP.out w
    generalize ac.eval = ρ at e11 e14 ⊢
    go_simp
  · refine StepOKl.of ?_
    intro ac w hb hu hk
    refine ⟨wanted_none rfl, ?_⟩
    have e15 : ac.eval (.tmp 15) = (.bool true) := (hk ⟨6, .data⟩ (by simp) rfl).is rfl rfl
    exact step_value (BigFrame.run_move (.tmp 15) rfl w) (Below.refl _ _) e15
  · refine StepOKl.of ?_
    intro ac w hb hu hk
    refine ⟨wanted_some rfl (hk ⟨7, .guard⟩ (by simp) rfl) rfl rfl (fun _ h => h), ?_⟩
    have e3 : ac.eval (.tmp 3) = .pointer (some ⟨g1, 0, none⟩) := hu.is (t := 3) (by kernel_rfl)
    exact wp_load_row 23 (.tmp 3) rfl g1 e3 23 X (0, 0) _ (HBX.out w hb) Tryd.underlying23 rfl (by rw [HXS.out]; kernel_rfl) ⟨_, rfl, rfl, Below.refl _ _⟩
  · refine StepOKl.of ?_
    intro ac w hb hu hk
    refine ⟨wanted_some rfl (hk ⟨7, .guard⟩ (by simp) rfl) rfl rfl (fun _ h => h), ?_⟩
    have e1 : ac.eval (.tmp 1) = .int .i64 leaf := hu.is (t := 1) (by kernel_rfl)
    exact step_value (BigFrame.run_move (.tmp 1) rfl w) (Below.refl _ _) e1
  · refine StepOKl.of ?_
    intro ac w hb hu hk
    refine ⟨wanted_some rfl (hk ⟨7, .guard⟩ (by simp) rfl) rfl rfl (fun _ h => h), ?_⟩
    have e2 : ac.eval (.tmp 2) = .slice A M0 c := hu.is (t := 2) (by kernel_rfl)
    exact step_value (BigFrame.run_move (.tmp 2) rfl w) (Below.refl _ _) e2
  · refine StepOKl.of ?_
    intro ac w hb hu hk
    refine ⟨wanted_some rfl (hk ⟨7, .chain⟩ (by simp) rfl) rfl rfl (fun _ h => h), ?_⟩
    have e17 : ac.eval (.tmp 17) = (.agg X) := (hk ⟨8, .data⟩ (by simp) rfl).is rfl rfl
    have e18 : ac.eval (.tmp 18) = (.int .i64 leaf) := (hk ⟨9, .data⟩ (by simp) rfl).is rfl rfl
    have e19 : ac.eval (.tmp 19) = (.slice A M0 c) := (hk ⟨10, .data⟩ (by simp) rfl).is rfl rfl
    have ef : ac.eval (.func 12) = .func (.func 12) #[] #[] := rfl
    refine step_enter (f := 12) (args := #[.agg X, .int .i64 leaf, .slice A M0 c]) ?_ ?_
    · generalize ac.eval = ρ at e17 e18 e19 ef ⊢
      go_simp
    · exact (HS1.out w hb).mono fun e w' ⟨X, x, he, hx, hv, hq⟩ => ⟨_, he, ⟨X, x, rfl, hx, hv⟩, hq⟩
  · refine StepOKl.of ?_
    intro ac w hb hu hk
    refine ⟨wanted_some rfl (hk ⟨7, .guard⟩ (by simp) rfl) rfl rfl (fun _ h => h), ?_⟩
    have e3 : ac.eval (.tmp 3) = .pointer (some ⟨g1, 0, none⟩) := hu.is (t := 3) (by kernel_rfl)
    exact wp_load_row 23 (.tmp 3) rfl g1 e3 23 X (0, 0) _ (HBX.out w hb) Tryd.underlying23 rfl (by rw [HXS.out]; kernel_rfl) ⟨_, rfl, rfl, Below.refl _ _⟩
  · refine StepOKl.of ?_
    intro ac w hb hu hk
    refine ⟨wanted_some rfl (hk ⟨7, .guard⟩ (by simp) rfl) rfl rfl (fun _ h => h), ?_⟩
    have e1 : ac.eval (.tmp 1) = .int .i64 leaf := hu.is (t := 1) (by kernel_rfl)
    exact step_value (BigFrame.run_move (.tmp 1) rfl w) (Below.refl _ _) e1
  · refine StepOKl.of ?_
    intro ac w hb hu hk
    refine ⟨wanted_some rfl (hk ⟨7, .guard⟩ (by simp) rfl) rfl rfl (fun _ h => h), ?_⟩
    have e2 : ac.eval (.tmp 2) = .slice A M0 c := hu.is (t := 2) (by kernel_rfl)
    exact step_value (BigFrame.run_move (.tmp 2) rfl w) (Below.refl _ _) e2
  · refine StepOKl.of ?_
    intro ac w hb hu hk
    refine ⟨wanted_some rfl (hk ⟨7, .guard⟩ (by simp) rfl) rfl rfl (fun _ h => h), ?_⟩
    have e21 : ac.eval (.tmp 21) = (.agg X) := (hk ⟨12, .data⟩ (by simp) rfl).is rfl rfl
    have e22 : ac.eval (.tmp 22) = (.int .i64 leaf) := (hk ⟨13, .data⟩ (by simp) rfl).is rfl rfl
    have e23 : ac.eval (.tmp 23) = (.slice A M0 c) := (hk ⟨14, .data⟩ (by simp) rfl).is rfl rfl
    have ef : ac.eval (.func 27) = .func (.func 27) #[] #[] := rfl
    refine step_enter (f := 27) (args := #[.agg X, .int .i64 leaf, .slice A M0 c]) ?_ ?_
    · generalize ac.eval = ρ at e21 e22 e23 ef ⊢
      go_simp
    · exact (HS2.out w hb).mono fun e w' ⟨X, x, he, hx, hv, hq⟩ => ⟨_, he, ⟨X, x, rfl, hx, hv⟩, hq⟩
  · refine StepOKl.of ?_
    intro ac w hb hu hk
    refine ⟨wanted_some rfl (hk ⟨7, .guard⟩ (by simp) rfl) rfl rfl (fun _ h => h), ?_⟩
    have e20 : ∃ X c, ac.eval (.tmp 20) = .slice X 67 c ∧ 67 ≤ c ∧ HV w (.slice X 67 c) E := (hk ⟨11, .data⟩ (by simp) rfl).is rfl rfl
    have e24 : ∃ X c, ac.eval (.tmp 24) = .slice X 67 c ∧ 67 ≤ c ∧ HV w (.slice X 67 c) E := (hk ⟨15, .data⟩ (by simp) rfl).is rfl rfl
    obtain ⟨X1, x1, eX, hx1, hX1⟩ := e20
    obtain ⟨X2, x2, eY, hx2, hX2⟩ := e24
    have ef : ac.eval (.func 26) = .func (.func 26) #[] #[] := rfl
    refine step_enter (f := 26) (args := #[.slice X1 67 x1, .slice X2 67 x2]) ?_ ?_
    · generalize ac.eval = ρ at eX eY ef ⊢
      go_simp
    · exact (HSM.out _ _ w hX1 hX2).mono fun e w' ⟨he, hq⟩ => ⟨_, he, rfl, hq⟩
  · refine StepOKl.of ?_
    intro ac w hb hu hk
    refine ⟨wanted_none rfl, ?_⟩
    have e16 : ac.eval (.tmp 16) = (.bool true) := (hk ⟨7, .data⟩ (by simp) rfl).is rfl rfl
    have e25 : ac.eval (.tmp 25) = (.bool true) := (hk ⟨16, .data⟩ (by simp) rfl).is rfl rfl
    exact step_value (run_pick_true e16 rfl w) (Below.refl _ _) e25
  · refine StepOKl.of ?_
    intro ac w hb hu hk
    refine ⟨wanted_none rfl, ?_⟩
    have e26 : ac.eval (.tmp 26) = (.bool true) := (hk ⟨17, .data⟩ (by simp) rfl).is rfl rfl
    exact step_value (BigFrame.run_move (.tmp 26) rfl w) (Below.refl _ _) e26
  · refine StepOKl.of ?_
    intro ac w hb hu hk
    refine ⟨wanted_some rfl (hk ⟨18, .chain⟩ (by simp) rfl) rfl rfl (fun _ h => h), ?_⟩
    have ef : ac.eval (.func 17) = .func (.func 17) #[] #[] := rfl
    refine step_enter (f := 17) (args := #[]) ?_ ?_
    · generalize ac.eval = ρ at  ef ⊢
      go_simp
    · exact (HWK.out w hb).mono fun e w' ⟨he, hq⟩ => ⟨_, he, rfl, hq⟩
  · refine StepOKl.of ?_
    intro ac w hb hu hk
    refine ⟨wanted_none rfl, ?_⟩
    have e27 : ac.eval (.tmp 27) = (.bool true) := (hk ⟨18, .data⟩ (by simp) rfl).is rfl rfl
    have e28 : ac.eval (.tmp 28) = (.bool true) := (hk ⟨19, .data⟩ (by simp) rfl).is rfl rfl
    exact step_value (run_pick_true e27 rfl w) (Below.refl _ _) e28
  · intro ac w' hb hu hk hap
    obtain ⟨_, h9, rfl⟩ := (hk 0 (by decide)).put rfl rfl
    obtain ⟨_, h10, rfl⟩ := (hk 1 (by decide)).put rfl rfl
    obtain ⟨_, h11, rfl⟩ := (hk 2 (by decide)).put rfl rfl
    obtain ⟨_, h12, rfl⟩ := (hk 3 (by decide)).put rfl rfl
    obtain ⟨_, h13, rfl⟩ := (hk 4 (by decide)).put rfl rfl
    obtain ⟨_, h14, rfl⟩ := (hk 5 (by decide)).put rfl rfl
    obtain ⟨_, h15, rfl⟩ := (hk 6 (by decide)).put rfl rfl
    obtain ⟨_, h16, rfl⟩ := (hk 7 (by decide)).put rfl rfl
    obtain ⟨_, h17, rfl⟩ := (hk 8 (by decide)).put rfl rfl
    obtain ⟨_, h18, rfl⟩ := (hk 9 (by decide)).put rfl rfl
    obtain ⟨_, h19, rfl⟩ := (hk 10 (by decide)).put rfl rfl
    obtain ⟨_, h20, ⟨X20, xc20, rfl, hxc20, hX20⟩⟩ := (hk 11 (by decide)).put rfl rfl
    obtain ⟨_, h21, rfl⟩ := (hk 12 (by decide)).put rfl rfl
    obtain ⟨_, h22, rfl⟩ := (hk 13 (by decide)).put rfl rfl
    obtain ⟨_, h23, rfl⟩ := (hk 14 (by decide)).put rfl rfl
    obtain ⟨_, h24, ⟨X24, xc24, rfl, hxc24, hX24⟩⟩ := (hk 15 (by decide)).put rfl rfl
    obtain ⟨_, h25, rfl⟩ := (hk 16 (by decide)).put rfl rfl
    obtain ⟨_, h26, rfl⟩ := (hk 17 (by decide)).put rfl rfl
    obtain ⟨_, h27, rfl⟩ := (hk 18 (by decide)).put rfl rfl
    obtain ⟨_, h28, rfl⟩ := (hk 19 (by decide)).put rfl rfl
    obtain ⟨_, h29, rfl⟩ := (hk 20 (by decide)).put rfl rfl
    clear hap
    have hF : AllPuts ac.tmps ((9, _) :: (10, _) :: (11, _) :: (12, _) :: (13, _) :: (14, _) :: (15, _) :: (16, _) :: (17, _) :: (18, _) :: (19, _) :: (20, _) :: (21, _) :: (22, _) :: (23, _) :: (24, _) :: (25, _) :: (26, _) :: (27, _) :: (28, _) :: (29, _) :: []) := ⟨h9, h10, h11, h12, h13, h14, h15, h16, h17, h18, h19, h20, h21, h22, h23, h24, h25, h26, h27, h28, h29, trivial⟩
    obtain rfl := frame_puts hu (by kernel_rfl) hF
    simp only [puts, Act.put, List.setIfInBounds_toArray, List.set_cons_zero, List.set_cons_succ, List.drop_succ_cons, List.drop_zero]
    clear hk hu hF h9 h10 h11 h12 h13 h14 h15 h16 h17 h18 h19 h20 h21 h22 h23 h24 h25 h26 h27 h28 h29
    have HBE := Lib.hid (HB3.out.trans (hb.mono HB3.out.size))
    clear hb
    go_wp2_with fail
    go_ret
    exact ⟨rfl, HBE.out⟩

set_option maxRecDepth 100000 in
theorem contract (H : Type) (enc : TypeId × Value → H) (W : World) (base : Nat) (args : Array Value) (ds gs : List (DataW H)) (before : List MemPlace)
    (hval : ∀ (j : Nat) t v, Tryd.f6.params[j]? = some t → args[j]? = some v → Value.okWide Tryd.prog W .any base t v)
    (hW : DataW.Whole enc Tryd.prog Tryd.f6.params.toList Rows.wotsSignsSpec.vars false W args.toList ds gs before) (hL : laidMetH Tryd.prog Rows.wotsSignsRow.laid W) :
    Calls Tryd.prog 6 args W fun e W' => ∃ v, e = .returned v ∧ Rows.wotsSignsSpec.post enc Tryd.prog Tryd.f6 false true false false W args v W' := by
  have hW' := hW
  obtain ⟨p, q, hA0, hV, rfl, hfz, hnd⟩ := hW
  have hA : DataW.TrodAll enc Tryd.prog W 0 (fun _ => true) true Tryd.f6.params.toList args.toList ds p := hA0
  rw [Tryd.params6] at hA hval
  obtain ⟨v0, v1, v2, d0, d1, d2, p0, p1, p2, rfl, rfl, rfl, h0, h1, h2⟩ := trodAll_three hA
  obtain ⟨rfl, rfl⟩ := trodVars_none hV
  obtain ⟨k0, rfl, hk0⟩ := open_array Tryd.underlying23 (by kernel_rfl) (hval 0 23 v0 rfl rfl) h0
  obtain ⟨n1, rfl, rfl, rfl, wf1⟩ := open_int Tryd.underlying3 (hval 1 3 v1 rfl rfl) h1
  have b1 := bounds_i64 wf1
  obtain ⟨A2, m2, c2, l2, rfl, hl2, hc2, hm2, hr2⟩ := open_bytes (hval 2 24 v2 rfl rfl) h2
  clear hA0
  refine (walk k0 n1 A2 m2 c2 l2 W hk0 b1.1 b1.2 hl2 hc2 hm2 hr2 (pow10 hL)).mono fun e W' ⟨he, hb⟩ => ?_
  exact ⟨_, he, law_post hW' rfl (by kernel_rfl) rfl (by kernel_rfl) hb⟩

theorem laid_met (os : Os) : laidMet Tryd.prog Rows.wotsSignsRow.laid ((laidWorld os).forCall (fun _ _ => 0) ⟨#[], #[.agg #[.int .u8 0, .int .u8 0, .int .u8 0, .int .u8 0, .int .u8 0, .int .u8 0, .int .u8 0, .int .u8 0, .int .u8 0, .int .u8 0, .int .u8 0, .int .u8 0, .int .u8 0, .int .u8 0, .int .u8 0, .int .u8 0], .int .i64 0, .slice none 0 0], []⟩).memory :=
  laidMet_of_run' 8 (by kernel_rfl) (by kernel_rfl)
theorem reads (os : Os) {H : Type} (enc : TypeId × Value → H) : ∃ places, DataW.whole enc Tryd.prog ((laidWorld os).forCall (fun _ _ => 0) ⟨#[], #[.agg #[.int .u8 0, .int .u8 0, .int .u8 0, .int .u8 0, .int .u8 0, .int .u8 0, .int .u8 0, .int .u8 0, .int .u8 0, .int .u8 0, .int .u8 0, .int .u8 0, .int .u8 0, .int .u8 0, .int .u8 0, .int .u8 0], .int .i64 0, .slice none 0 0], []⟩).memory Tryd.f6.params.toList Rows.wotsSignsSpec.vars false #[Value.agg #[.int .u8 0, .int .u8 0, .int .u8 0, .int .u8 0, .int .u8 0, .int .u8 0, .int .u8 0, .int .u8 0, .int .u8 0, .int .u8 0, .int .u8 0, .int .u8 0, .int .u8 0, .int .u8 0, .int .u8 0, .int .u8 0], Value.int .i64 0, Value.slice none 0 0].toList 8 = some ([.agg [.lit (.int .u8 0), .lit (.int .u8 0), .lit (.int .u8 0), .lit (.int .u8 0), .lit (.int .u8 0), .lit (.int .u8 0), .lit (.int .u8 0), .lit (.int .u8 0), .lit (.int .u8 0), .lit (.int .u8 0), .lit (.int .u8 0), .lit (.int .u8 0), .lit (.int .u8 0), .lit (.int .u8 0), .lit (.int .u8 0), .lit (.int .u8 0)], .lit (.int .i64 0), .nil], [], places) :=
  ⟨[], by kernel_rfl⟩

set_option maxRecDepth 100000 in
theorem lifted (os : Os) (started : os.Started) (H : Type) (enc : TypeId × Value → H) (F : Stop.Interp) :
    ReturnsInHanded {} Tryd.checked os 6 .any ((OpenSpec.ofChange Rows.wotsSignsSpec).preRow enc Tryd.prog Tryd.f6 Rows.wotsSignsRow.domain false Rows.wotsSignsRow.laid) (((OpenSpec.ofChange Rows.wotsSignsSpec).at F).post enc Tryd.prog Tryd.f6 false true false false) := by
  obtain ⟨places, hx⟩ := reads os enc
  refine returnsInHanded_of_row (C := Tryd.checked) (s := OpenSpec.ofChange Rows.wotsSignsSpec) own started (by kernel_rfl) Tryd.func6
    (witness_row_at (enc := enc) (C := Tryd.checked) false (laidWorld os) #[.agg #[.int .u8 0, .int .u8 0, .int .u8 0, .int .u8 0, .int .u8 0, .int .u8 0, .int .u8 0, .int .u8 0, .int .u8 0, .int .u8 0, .int .u8 0, .int .u8 0, .int .u8 0, .int .u8 0, .int .u8 0, .int .u8 0], .int .i64 0, .slice none 0 0] rfl (by kernel_rfl) (by kernel_rfl) (by kernel_rfl)
      (OpenSpec.preRow_of_cond 8 hx (by kernel_rfl) (fun k hk => by cases hk) (by kernel_rfl) (laid_met os))) ?_
  intro W base args ds gs before hval hW _ _ _ hL _ _
  exact contract H enc W base args ds gs before hval hW hL

theorem said : Rows.WotsSignsSaid :=
  OpenClaim.holds_of_cond 6 Tryd.f6 rfl rfl rfl rfl rfl rfl rfl ⟨rfl, rfl, rfl, rfl, rfl⟩ rfl rfl rfl rfl rfl (by kernel_rfl) Tryd.func6 (by kernel_rfl)
    (of_decide_eq_true (by kernel_rfl)) (by unfold Func.isWrapper; first | (rw [if_pos (by decide +kernel)]; kernel_rfl) | (rw [if_neg (by decide +kernel)]; exact ⟨rfl, rfl⟩))
    (fun os started H enc _ F => by rw [OpenClaim.pre_eq_preRow]; exact lifted os started H enc F)

theorem plain (f : FuncId) (fn : Func) (hf : Tryd.pinned.checked.prog.funcNamed "aumbry/aumbrylaw08.WotsSigns" = some f) (hfn : Tryd.pinned.checked.prog.funcs[f]? = some fn) :
    false = Tryd.pinned.checked.prog.looks [] ∧ ∀ (j : Nat) t, fn.params[j]? = some t → Tryd.pinned.checked.prog.wantsStandIn t = false := by
  obtain rfl : f = 6 := Option.some.inj ((show Tryd.prog.funcNamed "aumbry/aumbrylaw08.WotsSigns" = some 6 by kernel_rfl).symm.trans hf) |>.symm
  obtain rfl : fn = Tryd.f6 := (Option.some.inj (Tryd.func6.symm.trans hfn)).symm
  refine ⟨by kernel_rfl, fun j t ht => ?_⟩
  exact wants_none (by kernel_rfl) (Array.mem_of_getElem? ht)

/-- The card: the statement holds, its listed tables tied to the program's text. -/
theorem card : Rows.WotsSignsCardSaid :=
  Claim7.holds_tied_plain_at .later [] _ _ _ _ said (fun _ h => by cases h) (by kernel_rfl) (fun _ h => by cases h) wotsSigns_row_tie rfl ⟨rfl, rfl⟩ (by kernel_rfl) rfl plain (by kernel_rfl)
end Go.Proofs.YtciflbkgfmbfdaaDoor.wotsSigns
