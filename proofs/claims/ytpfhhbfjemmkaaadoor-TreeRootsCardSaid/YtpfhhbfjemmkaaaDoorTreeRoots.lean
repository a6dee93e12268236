/- TreeRoots: leaves, nodes, pads, roots. For all bytes, leaves and numbers. -/
import Derived.Test.YtpfhhbfjemmkaaaDoorLaw7
import Derived.Test.YtpfhhbfjemmkaaaDoorPTAll
import Derived.Test.YtpfhhbfjemmkaaaDoorTree7
namespace Go.Proofs.YtpfhhbfjemmkaaaDoor.treeRoots
open Go.ChangeShapes Go.WideShapes Go.ChangeAt Go.RowKit

set_option maxRecDepth 100000 in
set_option maxHeartbeats 16000000 in
theorem walk (A : Option Addr) (m c : Nat) (b : List UInt8) (B : Option Addr) (m2 c2 : Nat) (l : List (List UInt8)) (n : Int) (w : World) (hb : b.length = m) (hc : m ≤ c) (hcm : c ≤ maxLen) (hrb : Rd w w.heap.size A b) (hl : l.length = m2) (hc2 : m2 ≤ c2) (hz : ∀ r ∈ l, r.length = 32) (hr : RdH w w.heap.size B l) (hn0 : -9223372036854775808 ≤ n) (hn1 : n ≤ 9223372036854775807) (htab : Pow10 w.heap.size w) :
    Calls Tryd.prog 5 #[.slice A m c, .slice B m2 c2, .int .i64 n] w fun e w' => e = .returned (.bool true) ∧ Below w.heap.size w w' := by
  obtain ⟨z, ks, hcut, hkz, hz20, hzc, hkl, hkr⟩ := cut7 B m2 c2 20 20 rfl l w hl hc2 hz hr
  have HCUT := Lib.hid hcut
  have HT := Lib.hid htab
  have HKZ := Lib.hid hkz
  have HKL := Lib.hid hkl
  have HKR := Lib.hid hkr
  obtain ⟨M, hM⟩ : ∃ M, min m 80 = M := ⟨_, rfl⟩
  have HCB := Lib.hid (fun W => (show Calls Tryd.prog 23 #[.slice A m c, .int .i64 80] W fun e W' => e = .returned (.slice A M c) ∧ W = W' from by
    rw [← hM]
    exact cut_any A m c 80 W hc))
  have hM80 : M ≤ 80 := by omega
  have hMc : M ≤ c := by omega
  obtain ⟨bl, hbl⟩ : ∃ x, b.take 80 = x := ⟨_, rfl⟩
  have HBN := Lib.hid (show bl.length = M by rw [← hbl, List.length_take, hb]; omega)
  have HBR := Lib.hid (show Rd w w.heap.size A bl by rw [← hbl]; exact hrb.take 80)
  obtain ⟨X, hX⟩ : ∃ X, u8A (leafH bl) = X := ⟨_, rfl⟩
  have HEX := Lib.hid hX
  obtain ⟨V, hV⟩ : ∃ X, u8A (rootV ks) = X := ⟨_, rfl⟩
  have HEV := Lib.hid hV
  have HLF1 := Lib.hid (fun W (h : Below w.heap.size w W) => (show Calls Tryd.prog 13 #[.slice A M c] W fun e w' => e = .returned (.agg X) ∧ Below W.heap.size W w' from by
    rw [← hX]
    exact pleaf_any A M c bl W HBN.out (by omega) hMc hcm ((HBR.out.below h (Nat.le_refl _)).more h.size) (tab_in HT.out h)))
  have HLF2 := Lib.hid (fun W (h : Below w.heap.size w W) => (show Calls Tryd.prog 24 #[.slice A M c] W fun e w' => e = .returned (.agg X) ∧ Below W.heap.size W w' from by
    rw [← hX]
    exact rleaf7_any A M c bl W HBN.out (by omega) hMc hcm ((HBR.out.below h (Nat.le_refl _)).more h.size)))
  have HRT1 := Lib.hid (fun W (h : Below w.heap.size w W) => (show Calls Tryd.prog 14 #[.slice B z c2] W fun e w' => e = .returned (.agg V) ∧ Below W.heap.size W w' from by
    rw [← hV]
    exact proot_any B z c2 ks W HKZ.out (by omega) HKL.out (HKR.out.on h) (tab_in HT.out h)))
  have HRT2 := Lib.hid (fun W (h : Below w.heap.size w W) => (show Calls Tryd.prog 25 #[.slice B z c2] W fun e w' => e = .returned (.agg V) ∧ Below W.heap.size W w' from by
    have h := rroot7_any B z c2 ks W HKZ.out (by omega) HKL.out (HKR.out.on h)
    rw [← hV]
    unfold rootV
    rw [HKZ.out]
    exact h))
  have heq := fun W => (show (Op.equalIn 10000 25 (.agg X) (.agg X)).run Tryd.prog W = .ok true W by rw [← hX, run_hash_eq W _ _ (leafH_len _) (leafH_len _), decide_eq_true rfl])
  have heq2 := fun W => (show (Op.equalIn 10000 25 (.agg V) (.agg V)).run Tryd.prog W = .ok true W by rw [← hV, run_hash_eq W _ _ (rootV_len hkl) (rootV_len hkl), decide_eq_true rfl])
  have HBW := Lib.hid (Below.refl w.heap.size w)
  clear hX hV hbl hM hcut hkz hkl hkr hb hc hcm hrb hl hc2 hz hr htab hMc
  go_enter Tryd.func5, Tryd.ntmps5
  go_wp2_with fail
  with_reducible refine (HCB.out _).mono ?_
  rintro e wx ⟨rfl, rfl⟩
  go_wp2_with fail
  with_reducible refine (HCUT.out _).mono ?_
  rintro e wx ⟨rfl, rfl⟩
  clear HCUT HCB
  go_wp2_with fail
  with_reducible refine (HLF1.out w HBW.out).mono ?_
  rintro e w1 ⟨rfl, hb⟩
  replace HBW := Lib.hid (HBW.out.trans (hb.mono HBW.out.size))
  clear hb
  go_wp2_with fail
  with_reducible refine (HLF2.out w1 HBW.out).mono ?_
  rintro e w2 ⟨rfl, hb⟩
  replace HBW := Lib.hid (HBW.out.trans (hb.mono HBW.out.size))
  clear hb
  go_wp2_with fail
  with_reducible refine (HRT1.out w2 HBW.out).mono ?_
  rintro e w3 ⟨rfl, hb⟩
  replace HBW := Lib.hid (HBW.out.trans (hb.mono HBW.out.size))
  clear hb
  go_wp2_with fail
  with_reducible refine (HRT2.out w3 HBW.out).mono ?_
  rintro e w4 ⟨rfl, hb⟩
  replace HBW := Lib.hid (HBW.out.trans (hb.mono HBW.out.size))
  clear hb
  clear HLF1 HLF2 HRT1 HRT2
  by_cases hz1 : 1 < z
  · have hzi : (1 : Int) < (z : Int) := by omega
    have hz0 : (0 : Int) < (z : Int) := by omega
    have hz00 : ¬ z = 0 := by omega
    have hv := (HKR.out.on HBW.out).hv HKZ.out hzc HKL.out
    obtain ⟨gb, off, rfl, hgb, hx0, hl0⟩ := hv.at_ (i := 0) (by omega)
    obtain ⟨_, _, e1, _, hx1, hl1⟩ := hv.at_ (i := 1) hz1
    injection e1 with e1
    injection e1 with e1 e2
    subst e1 e2
    obtain ⟨y0, hy0⟩ : ∃ x, ks.getD 0 [] = x := ⟨_, rfl⟩
    obtain ⟨y1, hy1⟩ : ∃ x, ks.getD 1 [] = x := ⟨_, rfl⟩
    rw [hy0] at hx0 hl0
    rw [hy1] at hx1 hl1
    rw [Nat.zero_mul, Nat.add_zero] at hx0
    rw [Nat.one_mul] at hx1
    have HLY0 := Lib.hid hl0
    have HLY1 := Lib.hid hl1
    have HRG := Lib.hid (fun W (h : Below w4.heap.size w4 W) => (⟨rangeAt_keep hx0 fun j => h.cell (p := ⟨gb, _, none⟩) hgb, rangeAt_keep hx1 fun j => h.cell (p := ⟨gb, _, none⟩) hgb⟩ : W.rangeAt gb off (Lib.byteCells y0) ∧ W.rangeAt gb (off + 32) (Lib.byteCells y1)))
    obtain ⟨Y0, hY0⟩ : ∃ X, u8A y0 = X := ⟨_, rfl⟩
    have HEY0 := Lib.hid hY0
    obtain ⟨Y1, hY1⟩ : ∃ X, u8A y1 = X := ⟨_, rfl⟩
    have HEY1 := Lib.hid hY1
    obtain ⟨N, hN⟩ : ∃ X, u8A (nodeH y0 y1) = X := ⟨_, rfl⟩
    have HEN := Lib.hid hN
    have HN1 := Lib.hid (fun W (h : Below w4.heap.size w4 W) => (show Calls Tryd.prog 26 #[.agg Y0, .agg Y1] W fun e w' => e = .returned (.agg N) ∧ Below W.heap.size W w' from by
      rw [← hY0, ← hY1, ← hN]
      exact pnode_any y0 y1 W HLY0.out HLY1.out (tab_in HT.out (HBW.out.trans (h.mono HBW.out.size)))))
    have HN2 := Lib.hid (fun W (h : Below w4.heap.size w4 W) => (show Calls Tryd.prog 27 #[.agg Y0, .agg Y1] W fun e w' => e = .returned (.agg N) ∧ Below W.heap.size W w' from by
      rw [← hY0, ← hY1, ← hN]
      exact rnode_any y0 y1 W HLY0.out HLY1.out))
    have HNN := Lib.hid (fun W => (show (Op.equalIn 10000 25 (.agg N) (.agg N)).run Tryd.prog W = .ok true W by rw [← hN, run_hash_eq W _ _ (nodeH_len _ _) (nodeH_len _ _), decide_eq_true rfl]))
    clear hY0 hY1 hN hx0 hx1 hl0 hl1 hy0 hy1 hv hgb
    go_wp2_with fail
    refine wp_region_loose 20 0 (fun i => false) (promises [.is (.slice (some ⟨gb, off, none⟩) z c2), .is (.int .i64 (z : Int)), .is (.bool true), .is (.bool true), .is (.slice (some ⟨gb, off, none⟩) z c2), .is (.pointer (some ⟨gb, off, none⟩)), .is (.agg Y0), .is (.slice (some ⟨gb, off, none⟩) z c2), .is (.pointer (some ⟨gb, off + 32, none⟩)), .is (.agg Y1), .is (.agg N), .is (.slice (some ⟨gb, off, none⟩) z c2), .is (.pointer (some ⟨gb, off, none⟩)), .is (.agg Y0), .is (.slice (some ⟨gb, off, none⟩) z c2), .is (.pointer (some ⟨gb, off + 32, none⟩)), .is (.agg Y1), .is (.agg N), .is (.bool false), .is (.bool false)]) (by kernel_rfl) rfl (by kernel_rfl) (fun i v w w' h hb => Spec.keep h hb) ⟨?_, ?_, ?_, ?_, ?_, ?_, ?_, ?_, ?_, ?_, ?_, ?_, ?_, ?_, ?_, ?_, ?_, ?_, ?_, ?_, trivial⟩ ?_
    · refine StepOKl.of ?_
      intro ac w hb hu hk
      refine ⟨wanted_none rfl, ?_⟩
      have e1 : ac.eval (.tmp 1) = .slice (some ⟨gb, off, none⟩) z c2 := hu.is (t := 1) (by kernel_rfl)
      exact step_value (BigFrame.run_move (.tmp 1) rfl w) (Below.refl _ _) e1
    · refine StepOKl.of ?_
      intro ac w hb hu hk
      refine ⟨wanted_none rfl, ?_⟩
      have e23 : ac.eval (.tmp 23) = (.slice (some ⟨gb, off, none⟩) z c2) := (hk ⟨0, .data⟩ (by simp) rfl).is rfl rfl
      refine step_value (w' := w) (v := (.int .i64 (z : Int))) ?_ (Below.refl _ _) rfl
      generalize ac.eval = ρ at e23 ⊢
      go_simp
    · refine StepOKl.of ?_
      intro ac w hb hu hk
      refine ⟨wanted_none rfl, ?_⟩
      have e24 : ac.eval (.tmp 24) = (.int .i64 (z : Int)) := (hk ⟨1, .data⟩ (by simp) rfl).is rfl rfl
      refine step_value (w' := w) (v := (.bool true)) ?_ (Below.refl _ _) rfl
      have ec0 : ac.eval (.const (Value.int IntKind.i64 1)) = Value.int IntKind.i64 1 := rfl
      generalize ac.eval = ρ at e24 ec0 ⊢
      go_simp
    · refine StepOKl.of ?_
      intro ac w hb hu hk
      refine ⟨wanted_none rfl, ?_⟩
      have e25 : ac.eval (.tmp 25) = (.bool true) := (hk ⟨2, .data⟩ (by simp) rfl).is rfl rfl
      exact step_value (BigFrame.run_move (.tmp 25) rfl w) (Below.refl _ _) e25
    · refine StepOKl.of ?_
      intro ac w hb hu hk
      refine ⟨wanted_some rfl (hk ⟨3, .guard⟩ (by simp) rfl) rfl rfl (fun _ h => h), ?_⟩
      have e1 : ac.eval (.tmp 1) = .slice (some ⟨gb, off, none⟩) z c2 := hu.is (t := 1) (by kernel_rfl)
      exact step_value (BigFrame.run_move (.tmp 1) rfl w) (Below.refl _ _) e1
    · refine StepOKl.of ?_
      intro ac w hb hu hk
      refine ⟨wanted_some rfl (hk ⟨3, .guard⟩ (by simp) rfl) rfl rfl (fun _ h => h), ?_⟩
      have e27 : ac.eval (.tmp 27) = (.slice (some ⟨gb, off, none⟩) z c2) := (hk ⟨4, .data⟩ (by simp) rfl).is rfl rfl
      refine step_value (w' := w) (v := (.pointer (some ⟨gb, off, none⟩))) ?_ (Below.refl _ _) rfl
      have ec0 : ac.eval (.const (Value.int IntKind.i64 0)) = Value.int IntKind.i64 0 := rfl
      generalize ac.eval = ρ at e27 ec0 ⊢
      go_simp
    · refine StepOKl.of ?_
      intro ac w hb hu hk
      refine ⟨wanted_some rfl (hk ⟨3, .guard⟩ (by simp) rfl) rfl rfl (fun _ h => h), ?_⟩
      have e28 : ac.eval (.tmp 28) = (.pointer (some ⟨gb, off, none⟩)) := (hk ⟨5, .data⟩ (by simp) rfl).is rfl rfl
      refine step_value (w' := w) (v := .agg Y0) (run_load_hash (.tmp 28) rfl gb (off) e28 y0 HLY0.out ((HRG.out w hb).1) HEY0.out) (Below.refl _ _) rfl
    · refine StepOKl.of ?_
      intro ac w hb hu hk
      refine ⟨wanted_some rfl (hk ⟨3, .guard⟩ (by simp) rfl) rfl rfl (fun _ h => h), ?_⟩
      have e1 : ac.eval (.tmp 1) = .slice (some ⟨gb, off, none⟩) z c2 := hu.is (t := 1) (by kernel_rfl)
      exact step_value (BigFrame.run_move (.tmp 1) rfl w) (Below.refl _ _) e1
    · refine StepOKl.of ?_
      intro ac w hb hu hk
      refine ⟨wanted_some rfl (hk ⟨3, .guard⟩ (by simp) rfl) rfl rfl (fun _ h => h), ?_⟩
      have e30 : ac.eval (.tmp 30) = (.slice (some ⟨gb, off, none⟩) z c2) := (hk ⟨7, .data⟩ (by simp) rfl).is rfl rfl
      refine step_value (w' := w) (v := (.pointer (some ⟨gb, off + 32, none⟩))) ?_ (Below.refl _ _) rfl
      have ec0 : ac.eval (.const (Value.int IntKind.i64 1)) = Value.int IntKind.i64 1 := rfl
      generalize ac.eval = ρ at e30 ec0 ⊢
      go_simp
    · refine StepOKl.of ?_
      intro ac w hb hu hk
      refine ⟨wanted_some rfl (hk ⟨3, .guard⟩ (by simp) rfl) rfl rfl (fun _ h => h), ?_⟩
      have e31 : ac.eval (.tmp 31) = (.pointer (some ⟨gb, off + 32, none⟩)) := (hk ⟨8, .data⟩ (by simp) rfl).is rfl rfl
      refine step_value (w' := w) (v := .agg Y1) (run_load_hash (.tmp 31) rfl gb (off + 32) e31 y1 HLY1.out ((HRG.out w hb).2) HEY1.out) (Below.refl _ _) rfl
    · refine StepOKl.of ?_
      intro ac w hb hu hk
      refine ⟨wanted_some rfl (hk ⟨3, .chain⟩ (by simp) rfl) rfl rfl (fun _ h => h), ?_⟩
      have e29 : ac.eval (.tmp 29) = (.agg Y0) := (hk ⟨6, .data⟩ (by simp) rfl).is rfl rfl
      have e32 : ac.eval (.tmp 32) = (.agg Y1) := (hk ⟨9, .data⟩ (by simp) rfl).is rfl rfl
      have ef : ac.eval (.func 26) = .func (.func 26) #[] #[] := rfl
      refine step_enter (f := 26) (args := #[.agg Y0, .agg Y1]) ?_ ?_
      · generalize ac.eval = ρ at e29 e32 ef ⊢
        go_simp
      · exact (HN1.out w hb).mono fun e w' ⟨he, hq⟩ => ⟨_, he, rfl, hq⟩
    · refine StepOKl.of ?_
      intro ac w hb hu hk
      refine ⟨wanted_some rfl (hk ⟨3, .guard⟩ (by simp) rfl) rfl rfl (fun _ h => h), ?_⟩
      have e1 : ac.eval (.tmp 1) = .slice (some ⟨gb, off, none⟩) z c2 := hu.is (t := 1) (by kernel_rfl)
      exact step_value (BigFrame.run_move (.tmp 1) rfl w) (Below.refl _ _) e1
    · refine StepOKl.of ?_
      intro ac w hb hu hk
      refine ⟨wanted_some rfl (hk ⟨3, .guard⟩ (by simp) rfl) rfl rfl (fun _ h => h), ?_⟩
      have e34 : ac.eval (.tmp 34) = (.slice (some ⟨gb, off, none⟩) z c2) := (hk ⟨11, .data⟩ (by simp) rfl).is rfl rfl
      refine step_value (w' := w) (v := (.pointer (some ⟨gb, off, none⟩))) ?_ (Below.refl _ _) rfl
      have ec0 : ac.eval (.const (Value.int IntKind.i64 0)) = Value.int IntKind.i64 0 := rfl
      generalize ac.eval = ρ at e34 ec0 ⊢
      go_simp
    · refine StepOKl.of ?_
      intro ac w hb hu hk
      refine ⟨wanted_some rfl (hk ⟨3, .guard⟩ (by simp) rfl) rfl rfl (fun _ h => h), ?_⟩
      have e35 : ac.eval (.tmp 35) = (.pointer (some ⟨gb, off, none⟩)) := (hk ⟨12, .data⟩ (by simp) rfl).is rfl rfl
      refine step_value (w' := w) (v := .agg Y0) (run_load_hash (.tmp 35) rfl gb (off) e35 y0 HLY0.out ((HRG.out w hb).1) HEY0.out) (Below.refl _ _) rfl
    · refine StepOKl.of ?_
      intro ac w hb hu hk
      refine ⟨wanted_some rfl (hk ⟨3, .guard⟩ (by simp) rfl) rfl rfl (fun _ h => h), ?_⟩
      have e1 : ac.eval (.tmp 1) = .slice (some ⟨gb, off, none⟩) z c2 := hu.is (t := 1) (by kernel_rfl)
      exact step_value (BigFrame.run_move (.tmp 1) rfl w) (Below.refl _ _) e1
    · refine StepOKl.of ?_
      intro ac w hb hu hk
      refine ⟨wanted_some rfl (hk ⟨3, .guard⟩ (by simp) rfl) rfl rfl (fun _ h => h), ?_⟩
      have e37 : ac.eval (.tmp 37) = (.slice (some ⟨gb, off, none⟩) z c2) := (hk ⟨14, .data⟩ (by simp) rfl).is rfl rfl
      refine step_value (w' := w) (v := (.pointer (some ⟨gb, off + 32, none⟩))) ?_ (Below.refl _ _) rfl
      have ec0 : ac.eval (.const (Value.int IntKind.i64 1)) = Value.int IntKind.i64 1 := rfl
      generalize ac.eval = ρ at e37 ec0 ⊢
      go_simp
    · refine StepOKl.of ?_
      intro ac w hb hu hk
      refine ⟨wanted_some rfl (hk ⟨3, .guard⟩ (by simp) rfl) rfl rfl (fun _ h => h), ?_⟩
      have e38 : ac.eval (.tmp 38) = (.pointer (some ⟨gb, off + 32, none⟩)) := (hk ⟨15, .data⟩ (by simp) rfl).is rfl rfl
      refine step_value (w' := w) (v := .agg Y1) (run_load_hash (.tmp 38) rfl gb (off + 32) e38 y1 HLY1.out ((HRG.out w hb).2) HEY1.out) (Below.refl _ _) rfl
    · refine StepOKl.of ?_
      intro ac w hb hu hk
      refine ⟨wanted_some rfl (hk ⟨3, .guard⟩ (by simp) rfl) rfl rfl (fun _ h => h), ?_⟩
      have e36 : ac.eval (.tmp 36) = (.agg Y0) := (hk ⟨13, .data⟩ (by simp) rfl).is rfl rfl
      have e39 : ac.eval (.tmp 39) = (.agg Y1) := (hk ⟨16, .data⟩ (by simp) rfl).is rfl rfl
      have ef : ac.eval (.func 27) = .func (.func 27) #[] #[] := rfl
      refine step_enter (f := 27) (args := #[.agg Y0, .agg Y1]) ?_ ?_
      · generalize ac.eval = ρ at e36 e39 ef ⊢
        go_simp
      · exact (HN2.out w hb).mono fun e w' ⟨he, hq⟩ => ⟨_, he, rfl, hq⟩
    · refine StepOKl.of ?_
      intro ac w hb hu hk
      refine ⟨wanted_some rfl (hk ⟨3, .guard⟩ (by simp) rfl) rfl rfl (fun _ h => h), ?_⟩
      have e33 : ac.eval (.tmp 33) = (.agg N) := (hk ⟨10, .data⟩ (by simp) rfl).is rfl rfl
      have e40 : ac.eval (.tmp 40) = (.agg N) := (hk ⟨17, .data⟩ (by simp) rfl).is rfl rfl
      refine step_value (w' := w) (v := .bool false) ?_ (Below.refl _ _) rfl
      have hq := HNN.out w
      generalize ac.eval = ρ at e33 e40 ⊢
      go_simp
    · refine StepOKl.of ?_
      intro ac w hb hu hk
      refine ⟨wanted_none rfl, ?_⟩
      have e26 : ac.eval (.tmp 26) = (.bool true) := (hk ⟨3, .data⟩ (by simp) rfl).is rfl rfl
      have e41 : ac.eval (.tmp 41) = (.bool false) := (hk ⟨18, .data⟩ (by simp) rfl).is rfl rfl
      exact step_value (run_pick_true e26 rfl w) (Below.refl _ _) e41
    · intro ac w' hb hu hk hap
      obtain ⟨_, h23, rfl⟩ := (hk 0 (by decide)).put rfl rfl
      obtain ⟨_, h24, rfl⟩ := (hk 1 (by decide)).put rfl rfl
      obtain ⟨_, h25, rfl⟩ := (hk 2 (by decide)).put rfl rfl
      obtain ⟨_, h26, rfl⟩ := (hk 3 (by decide)).put rfl rfl
      obtain ⟨_, h27, rfl⟩ := (hk 4 (by decide)).put rfl rfl
      obtain ⟨_, h28, rfl⟩ := (hk 5 (by decide)).put rfl rfl
      obtain ⟨_, h29, rfl⟩ := (hk 6 (by decide)).put rfl rfl
      obtain ⟨_, h30, rfl⟩ := (hk 7 (by decide)).put rfl rfl
      obtain ⟨_, h31, rfl⟩ := (hk 8 (by decide)).put rfl rfl
      obtain ⟨_, h32, rfl⟩ := (hk 9 (by decide)).put rfl rfl
      obtain ⟨_, h33, rfl⟩ := (hk 10 (by decide)).put rfl rfl
      obtain ⟨_, h34, rfl⟩ := (hk 11 (by decide)).put rfl rfl
      obtain ⟨_, h35, rfl⟩ := (hk 12 (by decide)).put rfl rfl
      obtain ⟨_, h36, rfl⟩ := (hk 13 (by decide)).put rfl rfl
      obtain ⟨_, h37, rfl⟩ := (hk 14 (by decide)).put rfl rfl
      obtain ⟨_, h38, rfl⟩ := (hk 15 (by decide)).put rfl rfl
      obtain ⟨_, h39, rfl⟩ := (hk 16 (by decide)).put rfl rfl
      obtain ⟨_, h40, rfl⟩ := (hk 17 (by decide)).put rfl rfl
      obtain ⟨_, h41, rfl⟩ := (hk 18 (by decide)).put rfl rfl
      obtain ⟨_, h42, rfl⟩ := (hk 19 (by decide)).put rfl rfl
      clear hap
      have hF : AllPuts ac.tmps ((23, _) :: (24, _) :: (25, _) :: (26, _) :: (27, _) :: (28, _) :: (29, _) :: (30, _) :: (31, _) :: (32, _) :: (33, _) :: (34, _) :: (35, _) :: (36, _) :: (37, _) :: (38, _) :: (39, _) :: (40, _) :: (41, _) :: (42, _) :: []) := ⟨h23, h24, h25, h26, h27, h28, h29, h30, h31, h32, h33, h34, h35, h36, h37, h38, h39, h40, h41, h42, trivial⟩
      obtain rfl := frame_puts hu (by kernel_rfl) hF
      simp only [puts, Act.put, List.setIfInBounds_toArray, List.set_cons_zero, List.set_cons_succ, List.drop_succ_cons, List.drop_nil]
      clear hk hu hF h23 h24 h25 h26 h27 h28 h29 h30 h31 h32 h33 h34 h35 h36 h37 h38 h39 h40 h41 h42
      have hbw := HBW.out.trans (hb.mono HBW.out.size)
      replace HBW := Lib.hid hbw
      clear hb hbw HRG HN1 HN2
      by_cases hn40 : n < 1099511627776
      · have HP1 := Lib.hid (fun W => ppad_any n W hn0 (by omega))
        have HP2 := Lib.hid (fun W => rpad7_any n W (by omega))
        generalize tree.pad n.toNat = pd at *
        go_wp2_with fail
        with_reducible refine (HP1.out _).mono ?_
        rintro e wx ⟨rfl, rfl⟩
        go_wp2_with fail
        with_reducible refine (HP2.out _).mono ?_
        rintro e wx ⟨rfl, rfl⟩
        go_wp2_with fail
        with_reducible refine (wakes7_any w' (tab_in HT.out HBW.out)).mono ?_
        rintro e wz ⟨rfl, hb⟩
        replace HBW := Lib.hid (HBW.out.trans (hb.mono HBW.out.size))
        clear hb
        go_wp2_with fail
        go_ret
        exact ⟨by kernel_rfl, HBW.out⟩
      · go_wp2_with fail
        with_reducible refine (wakes7_any w' (tab_in HT.out HBW.out)).mono ?_
        rintro e wz ⟨rfl, hb⟩
        replace HBW := Lib.hid (HBW.out.trans (hb.mono HBW.out.size))
        clear hb
        go_wp2_with fail
        go_ret
        exact ⟨by kernel_rfl, HBW.out⟩
  · have hzi : ¬ (1 : Int) < (z : Int) := by omega
    have hd : decide ((1 : Int) < (z : Int)) = false := decide_eq_false hzi
    go_wp2_with fail
    go_quiet (fail)
    replace HBW := Lib.hid (below_drewN HBW.out nq)
    have hwq : ∃ y : World, y = w4.drewN nq := ⟨_, rfl⟩
    obtain ⟨wq, hwq⟩ := hwq
    rw [← hwq] at HBW ⊢
    clear hwq
    by_cases hn40 : n < 1099511627776
    · have HP1 := Lib.hid (fun W => ppad_any n W hn0 (by omega))
      have HP2 := Lib.hid (fun W => rpad7_any n W (by omega))
      generalize tree.pad n.toNat = pd at *
      go_wp2_with fail
      with_reducible refine (HP1.out _).mono ?_
      rintro e wx ⟨rfl, rfl⟩
      go_wp2_with fail
      with_reducible refine (HP2.out _).mono ?_
      rintro e wx ⟨rfl, rfl⟩
      go_wp2_with fail
      with_reducible refine (wakes7_any wq (tab_in HT.out HBW.out)).mono ?_
      rintro e wz ⟨rfl, hb⟩
      replace HBW := Lib.hid (HBW.out.trans (hb.mono HBW.out.size))
      clear hb
      go_wp2_with fail
      go_ret
      exact ⟨by kernel_rfl, HBW.out⟩
    · go_wp2_with fail
      with_reducible refine (wakes7_any wq (tab_in HT.out HBW.out)).mono ?_
      rintro e wz ⟨rfl, hb⟩
      replace HBW := Lib.hid (HBW.out.trans (hb.mono HBW.out.size))
      clear hb
      go_wp2_with fail
      go_ret
      exact ⟨by kernel_rfl, HBW.out⟩

set_option maxRecDepth 100000 in
theorem contract (H : Type) (enc : TypeId × Value → H) (W : World) (base : Nat) (args : Array Value) (ds gs : List (DataW H)) (before : List MemPlace)
    (hval : ∀ (j : Nat) t v, Tryd.f5.params[j]? = some t → args[j]? = some v → Value.okWide Tryd.prog W .any base t v)
    (hW : DataW.Whole enc Tryd.prog Tryd.f5.params.toList Rows.treeRootsSpec.vars false W args.toList ds gs before) (hL : laidMetH Tryd.prog Rows.treeRootsRow.laid W) :
    Calls Tryd.prog 5 args W fun e W' => ∃ v, e = .returned v ∧ Rows.treeRootsSpec.post enc Tryd.prog Tryd.f5 false true false false W args v W' := by
  have hW' := hW
  obtain ⟨p, q, hA0, hV, rfl, hfz, hnd⟩ := hW
  have hA : DataW.TrodAll enc Tryd.prog W 0 (fun _ => true) true Tryd.f5.params.toList args.toList ds p := hA0
  rw [Tryd.params5] at hA hval
  obtain ⟨v0, v1, v2, d0, d1, d2, p0, p1, p2, rfl, rfl, rfl, h0, h1, h2⟩ := trodAll_three hA
  obtain ⟨rfl, rfl⟩ := trodVars_none hV
  obtain ⟨A0, m0, c0, l0, rfl, hl0, hc0, hm0, hr0⟩ := open_bytes (hval 0 27 v0 rfl rfl) h0
  obtain ⟨A1, m1, c1, l1, rfl, hl1, hc1, hm1, hz1, hr1⟩ := open_hashes (hval 1 23 v1 rfl rfl) h1
  obtain ⟨n2, rfl, rfl, rfl, wf2⟩ := open_int Tryd.underlying3 (hval 2 3 v2 rfl rfl) h2
  have b2 := bounds_i64 wf2
  clear hA0
  refine (walk A0 m0 c0 l0 A1 m1 c1 l1 n2 W hl0 hc0 hm0 hr0 hl1 hc1 hz1 hr1 b2.1 b2.2 (pow10 hL)).mono fun e W' ⟨he, hb⟩ => ?_
  exact ⟨_, he, law_post hW' rfl (by kernel_rfl) rfl (by kernel_rfl) hb⟩

theorem laid_met (os : Os) : laidMet Tryd.prog Rows.treeRootsRow.laid ((laidWorld os).forCall (fun _ _ => 0) ⟨#[], #[.slice none 0 0, .slice none 0 0, .int .i64 0], []⟩).memory :=
  laidMet_of_run' 8 (by kernel_rfl) (by kernel_rfl)
theorem reads (os : Os) {H : Type} (enc : TypeId × Value → H) : ∃ places, DataW.whole enc Tryd.prog ((laidWorld os).forCall (fun _ _ => 0) ⟨#[], #[.slice none 0 0, .slice none 0 0, .int .i64 0], []⟩).memory Tryd.f5.params.toList Rows.treeRootsSpec.vars false #[Value.slice none 0 0, Value.slice none 0 0, Value.int .i64 0].toList 8 = some ([.nil, .nil, .lit (.int .i64 0)], [], places) :=
  ⟨[], by kernel_rfl⟩

set_option maxRecDepth 100000 in
theorem lifted (os : Os) (started : os.Started) (H : Type) (enc : TypeId × Value → H) (F : Stop.Interp) :
    ReturnsInHanded {} Tryd.checked os 5 .any ((OpenSpec.ofChange Rows.treeRootsSpec).preRow enc Tryd.prog Tryd.f5 Rows.treeRootsRow.domain false Rows.treeRootsRow.laid) (((OpenSpec.ofChange Rows.treeRootsSpec).at F).post enc Tryd.prog Tryd.f5 false true false false) := by
  obtain ⟨places, hx⟩ := reads os enc
  refine returnsInHanded_of_row (C := Tryd.checked) (s := OpenSpec.ofChange Rows.treeRootsSpec) own started (by kernel_rfl) Tryd.func5
    (witness_row_at (enc := enc) (C := Tryd.checked) false (laidWorld os) #[.slice none 0 0, .slice none 0 0, .int .i64 0] rfl (by kernel_rfl) (by kernel_rfl) (by kernel_rfl)
      (OpenSpec.preRow_of_cond 8 hx (by kernel_rfl) (fun k hk => by cases hk) (by kernel_rfl) (laid_met os))) ?_
  intro W base args ds gs before hval hW _ _ _ hL _ _
  exact contract H enc W base args ds gs before hval hW hL

theorem said : Rows.TreeRootsSaid :=
  OpenClaim.holds_of_cond 5 Tryd.f5 rfl rfl rfl rfl rfl rfl rfl ⟨rfl, rfl, rfl, rfl, rfl⟩ rfl rfl rfl rfl rfl (by kernel_rfl) Tryd.func5 (by kernel_rfl)
    (of_decide_eq_true (by kernel_rfl)) (by unfold Func.isWrapper; first | (rw [if_pos (by decide +kernel)]; kernel_rfl) | (rw [if_neg (by decide +kernel)]; exact ⟨rfl, rfl⟩))
    (fun os started H enc _ F => by rw [OpenClaim.pre_eq_preRow]; exact lifted os started H enc F)

theorem plain (f : FuncId) (fn : Func) (hf : Tryd.pinned.checked.prog.funcNamed "aumbry/aumbrylaw07.TreeRoots" = some f) (hfn : Tryd.pinned.checked.prog.funcs[f]? = some fn) :
    false = Tryd.pinned.checked.prog.looks [] ∧ ∀ (j : Nat) t, fn.params[j]? = some t → Tryd.pinned.checked.prog.wantsStandIn t = false := by
  obtain rfl : f = 5 := Option.some.inj ((show Tryd.prog.funcNamed "aumbry/aumbrylaw07.TreeRoots" = some 5 by kernel_rfl).symm.trans hf) |>.symm
  obtain rfl : fn = Tryd.f5 := (Option.some.inj (Tryd.func5.symm.trans hfn)).symm
  refine ⟨by kernel_rfl, fun j t ht => ?_⟩
  exact wants_none (by kernel_rfl) (Array.mem_of_getElem? ht)

/-- The card: the statement holds, its listed tables tied to the program's text. -/
theorem card : Rows.TreeRootsCardSaid :=
  Claim7.holds_tied_plain_at .later [] _ _ _ _ said (fun _ h => by cases h) (by kernel_rfl) (fun _ h => by cases h) treeRoots_row_tie rfl ⟨rfl, rfl⟩ (by kernel_rfl) rfl plain (by kernel_rfl)
end Go.Proofs.YtpfhhbfjemmkaaaDoor.treeRoots
