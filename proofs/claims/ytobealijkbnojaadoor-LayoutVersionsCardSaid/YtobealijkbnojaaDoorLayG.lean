/- The document's versions out of bytes. -/
import Derived.Test.YtobealijkbnojaaDoorLayH
import Derived.Test.YtobealijkbnojaaDoorRTakeNets
import Derived.Test.YtobealijkbnojaaDoorFreeL
namespace Go.Proofs.YtobealijkbnojaaDoor
open Go.RowKit
set_option maxRecDepth 100000

set_option maxHeartbeats 16000000 in
theorem runpackV_any {w : World} {A : Option Addr} {n c : Nat} {l : List UInt8} (hl : l.length = n) (hnc : n ≤ c) (hcm : c ≤ maxLen) (h1 : n ≤ 1000) (ha : Rd w w.heap.size A l) :
    Calls Tryd.prog 29 #[.slice A n c] w fun e w' => e = .returned (.tuple #[.agg (f14A ((unV l).getD (zero14 16))), .bool (unV l).isSome]) ∧ Below w.heap.size w w' := by
  obtain ⟨ZU, hZU⟩ : ∃ x, f14A (zero14 16) = x := ⟨_, rfl⟩
  have HZE := Lib.hid hZU
  have HZS := Lib.hid (show ZU.size = 52 by rw [← hZU]; exact f14A_size (zero14_wf 16))
  have HZO := Lib.hid (show ZU.all (·.oneCell') = true by rw [← hZU]; exact f14A_one _)
  have HZV := Lib.hid (fun W => (zero_V W).trans (by rw [hZU]))
  have HT0 := Lib.hid (fun (W : World) (hW : Below w.heap.size w W) => rtakeNets_any A n c 6 l W hl hnc hcm (by omega) (by omega) (ha.on hW))
  rcases takes_six l with hT | ⟨r0, r1, r2, r3, r4, r5, hT, hN⟩
  · have HNU := Lib.hid (show unV l = none by unfold unV un14; rw [hT])
    have HT1 := Lib.hid (fun (W : World) (hW : Below w.heap.size w W) => (show Calls Tryd.prog 51 #[.slice A n c, .int .i64 6] W fun e w' => ∃ A1 c1, e = .returned (.tuple #[.slice A1 0 c1, .bool false]) ∧ Below W.heap.size W w' from by
      have h := HT0.out W hW
      rw [hT] at h
      exact h.mono fun e w' ⟨A1, c1, he, _, _, hb⟩ => ⟨A1, c1, he, hb⟩))
    clear hT HT0 hZU ha
    go_enter Tryd.func29, Tryd.ntmps29
    go_upto_region 1 with fail
    generalize hw1 : World.alloc _ _ = w3
    obtain ⟨g2, hg2⟩ : ∃ g, w.heap.size = g := ⟨_, rfl⟩
    have hf : (∃ rs, Blk w3 g2 rs 57 ∧ rs.size = 52) ∧ Below w.heap.size w w3 := by
      obtain ⟨Y2, hw, hY2⟩ : ∃ Y2, w3 = (w.alloc (.cells Y2 57)) ∧ Y2.size = 52 := ⟨_, hw1.symm, rfl⟩
      rw [hw, ← hg2]
      exact ⟨⟨Y2, by exact Blk.new _ _ _, hY2⟩, ((Below.refl _ _).alloc (Nat.le_refl _) _)⟩
    obtain ⟨rs2, hrs2, hrz2⟩ := hf.1
    have HB2 := Lib.hid hrs2
    have HRZ2 := Lib.hid hrz2
    have HBW := Lib.hid hf.2
    have HG2 := Lib.hid (show w.heap.size ≤ g2 by omega)
    clear hf hw1 hrs2 hrz2
    rw [hg2]
    clear hg2
    go_upto_if 56 with ((with_reducible refine (HT1.out _ HBW.out).mono ?_); rintro e w4 ⟨A1, c1, rfl, hb4⟩)
    replace HB2 := Lib.hid (HB2.out.below hb4 HB2.out.lt)
    have HBT := Lib.hid (HBW.out.trans (hb4.mono HBW.out.size))
    clear hb4 HT1 HBW
    go_wp2_with (first
      | (refine wpList_build_14 ?_ 57 #[] rfl [] (by simp) ZU _ built_V0 HZE.out ?_; · rfl)
      | (with_reducible refine wpList_store_blkTo rfl 57 (.tmp 2) (.tmp 57) rfl rfl g2 ZU rfl rfl 57 rs2 HB2.out (by rw [HZS.out]; kernel_rfl) (by rw [HZS.out, HRZ2.out]) HZO.out ?_))
    have hs := below_row HBT.out HBT.out.size HG2.out ZU
    refine bodyPost_ret (v := .tuple #[.agg ZU, .bool false]) ?_ ?_ ?_
    · refine (results_cell_tmp14 (p := 2) (q := 3) (ty := 57) (by kernel_rfl) _ _ g2 57 _ (0, 0) _ _ ?_ ?_ (HB2.out.row ZU) Tryd.underlying57 rfl (by rw [HZS.out]; kernel_rfl))
      · rfl
      · rfl
    · rfl
    refine ⟨?_, hs⟩
    rw [HNU.out, ← HZE.out]
    rfl
  · obtain ⟨R, hR⟩ : ∃ x, of14 16 r0 r1 r2 r3 r4 r5 = x := ⟨_, rfl⟩
    have hsel : unV l = if fit14 wsV 16 r0 r1 r2 r3 r4 r5 ∧ okV R then some R else none := by
      unfold unV un14
      rw [hT]
      simp only
      rw [hR]
    obtain ⟨v0, hv0⟩ : ∃ x, (get14 r0 : Int) = x := ⟨_, rfl⟩
    obtain ⟨v1, hv1⟩ : ∃ x, (get14 r1 : Int) = x := ⟨_, rfl⟩
    obtain ⟨v2, hv2⟩ : ∃ x, (get14 r2 : Int) = x := ⟨_, rfl⟩
    obtain ⟨v3, hv3⟩ : ∃ x, (get14 r3 : Int) = x := ⟨_, rfl⟩
    have HRV := Lib.hid (show R.a = v0 ∧ R.b = v1 ∧ R.c = v2 ∧ R.d = v3 by rw [← hR, ← hv0, ← hv1, ← hv2, ← hv3]; exact ⟨rfl, rfl, rfl, rfl⟩)
    have HR := Lib.hid (show (⟨v0, v1, v2, v3, pad14 16 r4, pad14 32 r5⟩ : F14) = R by rw [← hR, ← hv0, ← hv1, ← hv2, ← hv3]; rfl)
    have hokl : okV R ↔ 1 ≤ v0 ∧ v0 ≤ 1048576 ∧ 1 ≤ v1 ∧ v1 ≤ v2 ∧ v2 ≤ 16 ∧ v3 ≤ 1024 := by
      unfold okV
      rw [HRV.out.1, HRV.out.2.1, HRV.out.2.2.1, HRV.out.2.2.2]
    have HYES := Lib.hid (fun (h1 : r0.length = 4 ∧ r1.length = 1 ∧ r2.length = 1 ∧ r3.length = 4 ∧ r4.length = 16 ∧ r5.length = 32) (h2 : 1 ≤ v0 ∧ v0 ≤ 1048576 ∧ 1 ≤ v1 ∧ v1 ≤ v2 ∧ v2 ≤ 16 ∧ v3 ≤ 1024) => (show unV l = some R by rw [hsel, if_pos ⟨h1, hokl.2 h2⟩]))
    have HNO := Lib.hid (fun (h : ¬ ((r0.length = 4 ∧ r1.length = 1 ∧ r2.length = 1 ∧ r3.length = 4 ∧ r4.length = 16 ∧ r5.length = 32) ∧ (1 ≤ v0 ∧ v0 ≤ 1048576 ∧ 1 ≤ v1 ∧ v1 ≤ v2 ∧ v2 ≤ 16 ∧ v3 ≤ 1024))) => (show unV l = none by rw [hsel, if_neg (fun h3 => h ⟨h3.1, hokl.1 h3.2⟩)]))
    have HT1 := Lib.hid (fun (W : World) (hW : Below w.heap.size w W) => (show Calls Tryd.prog 51 #[.slice A n c, .int .i64 6] W fun e w' => ∃ A1 c1, e = .returned (.tuple #[.slice A1 6 c1, .bool true]) ∧ 6 ≤ c1 ∧ RdR w' w'.heap.size A1 [r0, r1, r2, r3, r4, r5] ∧ Below W.heap.size W w' from by
      have h := HT0.out W hW
      rw [hT] at h
      exact h))
    obtain ⟨RX, hRX⟩ : ∃ x, f14A R = x := ⟨_, rfl⟩
    have HSR := Lib.hid (show RX.size = 52 ∧ RX.all (·.oneCell') = true by rw [← hRX, ← hR]; exact ⟨f14A_size (p := 16) ⟨pad14_len _ _, pad14_len _ _⟩, f14A_one _⟩)
    have HRX := Lib.hid hRX
    have HV0 := Lib.hid hv0
    have HV1 := Lib.hid hv1
    have HV2 := Lib.hid hv2
    have HV3 := Lib.hid hv3
    clear hT HT0 hZU ha hN hR hsel hokl hv0 hv1 hv2 hv3 hRX hl hnc hcm
    go_enter Tryd.func29, Tryd.ntmps29
    go_upto_region 1 with fail
    generalize hw1 : World.alloc _ _ = w3
    obtain ⟨g2, hg2⟩ : ∃ g, w.heap.size = g := ⟨_, rfl⟩
    have hf : (∃ rs, Blk w3 g2 rs 57 ∧ rs.size = 52) ∧ Below w.heap.size w w3 := by
      obtain ⟨Y2, hw, hY2⟩ : ∃ Y2, w3 = (w.alloc (.cells Y2 57)) ∧ Y2.size = 52 := ⟨_, hw1.symm, rfl⟩
      rw [hw, ← hg2]
      exact ⟨⟨Y2, by exact Blk.new _ _ _, hY2⟩, ((Below.refl _ _).alloc (Nat.le_refl _) _)⟩
    obtain ⟨rs2, hrs2, hrz2⟩ := hf.1
    have HB2 := Lib.hid hrs2
    have HRZ2 := Lib.hid hrz2
    have HBW := Lib.hid hf.2
    have HG2 := Lib.hid (show w.heap.size ≤ g2 by omega)
    clear hf hw1 hrs2 hrz2
    rw [hg2]
    clear hg2
    go_upto_region 2 with ((with_reducible refine (HT1.out _ HBW.out).mono ?_); rintro e w4 ⟨A1, c1, rfl, hc1, hr1, hb4⟩)
    obtain ⟨g, o, A0, A1, A2, A3, A4, A5, k0, k1, k2, k3, k4, k5, rfl, hg, ⟨x0, x1, x2, x3, x4, x5⟩, y0, y1, y2, y3, y4, y5⟩ := six_of hr1
    replace HB2 := Lib.hid (HB2.out.below hb4 HB2.out.lt)
    have HB4W := Lib.hid (HBW.out.trans (hb4.mono HBW.out.size))
    clear hb4 HBW HT1 hr1
    by_cases e0 : r0.length = 4
    · rw [e0] at x0 y0
      by_cases e1 : r1.length = 1
      · rw [e1] at x1 y1
        by_cases e2 : r2.length = 1
        · rw [e2] at x2 y2
          by_cases e3 : r3.length = 4
          · rw [e3] at x3 y3
            by_cases e4 : r4.length = 16
            · rw [e4] at x4 y4
              by_cases e5 : r5.length = 32
              · rw [e5] at x5 y5
                have HYES := Lib.hid (fun h => HYES.out ⟨e0, e1, e2, e3, e4, e5⟩ h)
                have HNO := Lib.hid (fun (h : ¬ (1 ≤ v0 ∧ v0 ≤ 1048576 ∧ 1 ≤ v1 ∧ v1 ≤ v2 ∧ v2 ≤ 16 ∧ v3 ≤ 1024)) => HNO.out (fun h2 => h h2.2))
                have E0 := Lib.hid e0
                have E1 := Lib.hid e1
                have E2 := Lib.hid e2
                have E3 := Lib.hid e3
                have E4 := Lib.hid e4
                have E5 := Lib.hid e5
                have hR2 := HR.out
                rw [pad14_self e4, pad14_self e5] at hR2
                replace HR := Lib.hid hR2
                clear hR2 e0 e1 e2 e3 e4 e5
                go_upto_region 4 with fail
                have e0 := E0.out
                have e1 := E1.out
                have e2 := E2.out
                have e3 := E3.out
                have e4 := E4.out
                have e5 := E5.out
                obtain ⟨b1, q1, rfl, hb1, hd1, hlt1⟩ := byte_row y1
                have hv1 := HV1.out
                rw [hv1] at hd1
                have j1 : 0 ≤ v1 ∧ v1 < 256 := by omega
                have HD1 := Lib.hid (fun (W : World) (h : Below w4.heap.size w4 W) => (h.cell (p := ⟨b1, q1, none⟩) hb1).trans hd1)
                obtain ⟨b2, q2, rfl, hb2, hd2, hlt2⟩ := byte_row y2
                have hv2 := HV2.out
                rw [hv2] at hd2
                have j2 : 0 ≤ v2 ∧ v2 < 256 := by omega
                have HD2 := Lib.hid (fun (W : World) (h : Below w4.heap.size w4 W) => (h.cell (p := ⟨b2, q2, none⟩) hb2).trans hd2)
                have HC0 := Lib.hid (fun (W : World) (h : Below w4.heap.size w4 W) => (h.cell (p := ⟨g, o, none⟩) hg).trans x0)
                have HC1 := Lib.hid (fun (W : World) (h : Below w4.heap.size w4 W) => (h.cell (p := ⟨g, o + 1, none⟩) hg).trans x1)
                have HC2 := Lib.hid (fun (W : World) (h : Below w4.heap.size w4 W) => (h.cell (p := ⟨g, o + 2, none⟩) hg).trans x2)
                have HC3 := Lib.hid (fun (W : World) (h : Below w4.heap.size w4 W) => (h.cell (p := ⟨g, o + 3, none⟩) hg).trans x3)
                have HC4 := Lib.hid (fun (W : World) (h : Below w4.heap.size w4 W) => (h.cell (p := ⟨g, o + 4, none⟩) hg).trans x4)
                have HC5 := Lib.hid (fun (W : World) (h : Below w4.heap.size w4 W) => (h.cell (p := ⟨g, o + 5, none⟩) hg).trans x5)
                obtain ⟨H5, hh5⟩ : ∃ x, u8A r5 = x := ⟨_, rfl⟩
                have HH5 := Lib.hid (fun (W : World) (h : Below w4.heap.size w4 W) => (show Calls Tryd.prog 52 #[.slice A5 32 k5] W fun e w' => e = .returned (.agg H5) ∧ Below W.heap.size W w' from by
                  have h2 := rhash14_any A5 k5 r5 W e5 (y5.on h).rd
                  rw [hh5] at h2
                  exact h2))
                have HGE0 := Lib.hid (fun (W : World) (h : Below w4.heap.size w4 W) => (show Calls Tryd.prog 53 #[.slice A0 4 k0] W fun e w' => e = .returned (.tuple #[.int .i64 v0, .bool true]) ∧ W = w' from by
                  have h2 := rget14 A0 k0 W.heap.size r0 W e0 (y0.on h).rd
                  rw [HV0.out] at h2
                  exact h2))
                have HGE3 := Lib.hid (fun (W : World) (h : Below w4.heap.size w4 W) => (show Calls Tryd.prog 53 #[.slice A3 4 k3] W fun e w' => e = .returned (.tuple #[.int .i64 v3, .bool true]) ∧ W = w' from by
                  have h2 := rget14 A3 k3 W.heap.size r3 W e3 (y3.on h).rd
                  rw [HV3.out] at h2
                  exact h2))
                have HRD4 := Lib.hid (fun (W : World) (h : Below w4.heap.size w4 W) => (y4.on h).rd)
                obtain ⟨B4, hB4⟩ : ∃ x, f14A ⟨0, v1, v2, 0, List.replicate 16 0, r5⟩ = x := ⟨_, rfl⟩
                have HSB := Lib.hid (show B4.size = 52 ∧ B4.all (·.oneCell') = true by rw [← hB4]; exact ⟨f14A_size (p := 16) ⟨List.length_replicate, e5⟩, f14A_one _⟩)
                have HB4 := Lib.hid hB4
                have HBU := Lib.hid (show Tryd.prog.built 57 [(1, .int .i64 v1), (2, .int .i64 v2), (5, .agg H5)] = some B4 by rw [← hB4, ← hh5]; exact built_Vd v1 v2 r5 e5)
                clear hB4 hh5 x0 y0 x1 hb1 hd1 hlt1 hv1 y1 x2 hb2 hd2 hlt2 hv2 y2 x3 y3 x4 y4 x5 y5 HV0 HV1 HV2 HV3 e0 e1 e2 e3 e4 e5
                refine wp_region_loose 18 1 (fun i => Nat.beq i 17) (promises [.is (.slice (some ⟨g, o, none⟩) 6 c1), .is (.pointer (some ⟨g, o + 1, none⟩)), .is (.slice (some ⟨b1, q1, none⟩) 1 k1), .is (.pointer (some ⟨b1, q1, none⟩)), .is (.int .u8 v1), .is (.int .i64 v1), .is (.slice (some ⟨g, o, none⟩) 6 c1), .is (.pointer (some ⟨g, o + 2, none⟩)), .is (.slice (some ⟨b2, q2, none⟩) 1 k2), .is (.pointer (some ⟨b2, q2, none⟩)), .is (.int .u8 v2), .is (.int .i64 v2), .is (.slice (some ⟨g, o, none⟩) 6 c1), .is (.pointer (some ⟨g, o + 5, none⟩)), .is (.slice A5 32 k5), .is (.agg H5), .is (.agg B4), .blk w4.heap.size ZU 57]) (by kernel_rfl) rfl (by kernel_rfl) (fun i v w w' h hb => Spec.keep h hb) ⟨?_, ?_, ?_, ?_, ?_, ?_, ?_, ?_, ?_, ?_, ?_, ?_, ?_, ?_, ?_, ?_, ?_, ?_, trivial⟩ ?_
                · refine StepOKl.of ?_
                  intro ac w hb hu hk
                  refine ⟨wanted_none rfl, ?_⟩
                  have e4 : ac.eval (.tmp 4) = .slice (some ⟨g, o, none⟩) 6 c1 := hu.is (t := 4) (by kernel_rfl)
                  exact step_value (BigFrame.run_move (.tmp 4) rfl w) (Below.refl _ _) e4
                · refine StepOKl.of ?_
                  intro ac w hb hu hk
                  refine ⟨wanted_none rfl, ?_⟩
                  have e58 : ac.eval (.tmp 58) = (.slice (some ⟨g, o, none⟩) 6 c1) := (hk ⟨0, .data⟩ (by simp) rfl).is rfl rfl
                  refine step_value (w' := w) (v := (.pointer (some ⟨g, o + 1, none⟩))) ?_ (Below.refl _ _) rfl
                  have ec0 : ac.eval (.const (Value.int IntKind.i64 1)) = Value.int IntKind.i64 1 := rfl
                  generalize ac.eval = ρ at e58 ec0 ⊢
                  go_simp
                · refine StepOKl.of ?_
                  intro ac w hb hu hk
                  refine ⟨wanted_none rfl, ?_⟩
                  have e59 : ac.eval (.tmp 59) = (.pointer (some ⟨g, o + 1, none⟩)) := (hk ⟨1, .data⟩ (by simp) rfl).is rfl rfl
                  have hc := HC1.out w hb
                  refine step_value (w' := w) (v := .slice (some ⟨b1, q1, none⟩) 1 k1) ?_ (Below.refl _ _) rfl
                  generalize ac.eval = ρ at e59 ⊢
                  go_simp
                · refine StepOKl.of ?_
                  intro ac w hb hu hk
                  refine ⟨wanted_none rfl, ?_⟩
                  have e60 : ac.eval (.tmp 60) = (.slice (some ⟨b1, q1, none⟩) 1 k1) := (hk ⟨2, .data⟩ (by simp) rfl).is rfl rfl
                  refine step_value (w' := w) (v := (.pointer (some ⟨b1, q1, none⟩))) ?_ (Below.refl _ _) rfl
                  have ec0 : ac.eval (.const (Value.int IntKind.i64 0)) = Value.int IntKind.i64 0 := rfl
                  generalize ac.eval = ρ at e60 ec0 ⊢
                  go_simp
                · refine StepOKl.of ?_
                  intro ac w hb hu hk
                  refine ⟨wanted_none rfl, ?_⟩
                  have e61 : ac.eval (.tmp 61) = (.pointer (some ⟨b1, q1, none⟩)) := (hk ⟨3, .data⟩ (by simp) rfl).is rfl rfl
                  have hc := HD1.out w hb
                  refine step_value (w' := w) (v := .int .u8 v1) ?_ (Below.refl _ _) rfl
                  generalize ac.eval = ρ at e61 ⊢
                  go_simp
                · refine StepOKl.of ?_
                  intro ac w hb hu hk
                  refine ⟨wanted_none rfl, ?_⟩
                  have e62 : ac.eval (.tmp 62) = (.int .u8 v1) := (hk ⟨4, .data⟩ (by simp) rfl).is rfl rfl
                  refine step_value (w' := w) (v := .int .i64 v1) ?_ (Below.refl _ _) rfl
                  generalize ac.eval = ρ at e62 ⊢
                  go_simp
                  exact IntWalk.i64_in _ (by omega)
                · refine StepOKl.of ?_
                  intro ac w hb hu hk
                  refine ⟨wanted_none rfl, ?_⟩
                  have e4 : ac.eval (.tmp 4) = .slice (some ⟨g, o, none⟩) 6 c1 := hu.is (t := 4) (by kernel_rfl)
                  exact step_value (BigFrame.run_move (.tmp 4) rfl w) (Below.refl _ _) e4
                · refine StepOKl.of ?_
                  intro ac w hb hu hk
                  refine ⟨wanted_none rfl, ?_⟩
                  have e64 : ac.eval (.tmp 64) = (.slice (some ⟨g, o, none⟩) 6 c1) := (hk ⟨6, .data⟩ (by simp) rfl).is rfl rfl
                  refine step_value (w' := w) (v := (.pointer (some ⟨g, o + 2, none⟩))) ?_ (Below.refl _ _) rfl
                  have ec0 : ac.eval (.const (Value.int IntKind.i64 2)) = Value.int IntKind.i64 2 := rfl
                  generalize ac.eval = ρ at e64 ec0 ⊢
                  go_simp
                · refine StepOKl.of ?_
                  intro ac w hb hu hk
                  refine ⟨wanted_none rfl, ?_⟩
                  have e65 : ac.eval (.tmp 65) = (.pointer (some ⟨g, o + 2, none⟩)) := (hk ⟨7, .data⟩ (by simp) rfl).is rfl rfl
                  have hc := HC2.out w hb
                  refine step_value (w' := w) (v := .slice (some ⟨b2, q2, none⟩) 1 k2) ?_ (Below.refl _ _) rfl
                  generalize ac.eval = ρ at e65 ⊢
                  go_simp
                · refine StepOKl.of ?_
                  intro ac w hb hu hk
                  refine ⟨wanted_none rfl, ?_⟩
                  have e66 : ac.eval (.tmp 66) = (.slice (some ⟨b2, q2, none⟩) 1 k2) := (hk ⟨8, .data⟩ (by simp) rfl).is rfl rfl
                  refine step_value (w' := w) (v := (.pointer (some ⟨b2, q2, none⟩))) ?_ (Below.refl _ _) rfl
                  have ec0 : ac.eval (.const (Value.int IntKind.i64 0)) = Value.int IntKind.i64 0 := rfl
                  generalize ac.eval = ρ at e66 ec0 ⊢
                  go_simp
                · refine StepOKl.of ?_
                  intro ac w hb hu hk
                  refine ⟨wanted_none rfl, ?_⟩
                  have e67 : ac.eval (.tmp 67) = (.pointer (some ⟨b2, q2, none⟩)) := (hk ⟨9, .data⟩ (by simp) rfl).is rfl rfl
                  have hc := HD2.out w hb
                  refine step_value (w' := w) (v := .int .u8 v2) ?_ (Below.refl _ _) rfl
                  generalize ac.eval = ρ at e67 ⊢
                  go_simp
                · refine StepOKl.of ?_
                  intro ac w hb hu hk
                  refine ⟨wanted_none rfl, ?_⟩
                  have e68 : ac.eval (.tmp 68) = (.int .u8 v2) := (hk ⟨10, .data⟩ (by simp) rfl).is rfl rfl
                  refine step_value (w' := w) (v := .int .i64 v2) ?_ (Below.refl _ _) rfl
                  generalize ac.eval = ρ at e68 ⊢
                  go_simp
                  exact IntWalk.i64_in _ (by omega)
                · refine StepOKl.of ?_
                  intro ac w hb hu hk
                  refine ⟨wanted_none rfl, ?_⟩
                  have e4 : ac.eval (.tmp 4) = .slice (some ⟨g, o, none⟩) 6 c1 := hu.is (t := 4) (by kernel_rfl)
                  exact step_value (BigFrame.run_move (.tmp 4) rfl w) (Below.refl _ _) e4
                · refine StepOKl.of ?_
                  intro ac w hb hu hk
                  refine ⟨wanted_none rfl, ?_⟩
                  have e70 : ac.eval (.tmp 70) = (.slice (some ⟨g, o, none⟩) 6 c1) := (hk ⟨12, .data⟩ (by simp) rfl).is rfl rfl
                  refine step_value (w' := w) (v := (.pointer (some ⟨g, o + 5, none⟩))) ?_ (Below.refl _ _) rfl
                  have ec0 : ac.eval (.const (Value.int IntKind.i64 5)) = Value.int IntKind.i64 5 := rfl
                  generalize ac.eval = ρ at e70 ec0 ⊢
                  go_simp
                · refine StepOKl.of ?_
                  intro ac w hb hu hk
                  refine ⟨wanted_none rfl, ?_⟩
                  have e71 : ac.eval (.tmp 71) = (.pointer (some ⟨g, o + 5, none⟩)) := (hk ⟨13, .data⟩ (by simp) rfl).is rfl rfl
                  have hc := HC5.out w hb
                  refine step_value (w' := w) (v := .slice A5 32 k5) ?_ (Below.refl _ _) rfl
                  generalize ac.eval = ρ at e71 ⊢
                  go_simp
                · refine StepOKl.of ?_
                  intro ac w hb hu hk
                  refine ⟨wanted_none rfl, ?_⟩
                  have e72 : ac.eval (.tmp 72) = (.slice A5 32 k5) := (hk ⟨14, .data⟩ (by simp) rfl).is rfl rfl
                  have ef : ac.eval (.func 52) = .func (.func 52) #[] #[] := rfl
                  refine step_enter (f := 52) (args := #[.slice A5 32 k5]) ?_ ?_
                  · generalize ac.eval = ρ at e72 ef ⊢
                    go_simp
                  · exact (HH5.out w hb).mono fun e w' ⟨he, hq⟩ => ⟨_, he, rfl, hq⟩
                · refine StepOKl.of ?_
                  intro ac w hb hu hk
                  refine ⟨wanted_none rfl, ?_⟩
                  have e63 : ac.eval (.tmp 63) = (.int .i64 v1) := (hk ⟨5, .data⟩ (by simp) rfl).is rfl rfl
                  have e69 : ac.eval (.tmp 69) = (.int .i64 v2) := (hk ⟨11, .data⟩ (by simp) rfl).is rfl rfl
                  have e73 : ac.eval (.tmp 73) = (.agg H5) := (hk ⟨15, .data⟩ (by simp) rfl).is rfl rfl
                  refine step_value (w' := w) (v := .agg B4) ?_ (Below.refl _ _) rfl
                  exact run_build_14 57 _ rfl [(1, .int .i64 v1), (2, .int .i64 v2), (5, .agg H5)] (by simp [e63, e69, e73]) _ B4 HBU.out rfl
                · intro ac w hb hu hk
                  refine ⟨wanted_none rfl, ?_⟩
                  exact step_alloc_new rfl (HZV.out w) ⟨w.heap.size, rfl, hb.size, Blk.new w ZU _⟩
                · intro ac w' hb hu hk hap
                  obtain ⟨_, h6, ⟨g6, rfl, hg6, hG6⟩⟩ := (hk 17 (by decide)).put rfl rfl
                  obtain ⟨_, h58, rfl⟩ := (hk 0 (by decide)).put rfl rfl
                  obtain ⟨_, h59, rfl⟩ := (hk 1 (by decide)).put rfl rfl
                  obtain ⟨_, h60, rfl⟩ := (hk 2 (by decide)).put rfl rfl
                  obtain ⟨_, h61, rfl⟩ := (hk 3 (by decide)).put rfl rfl
                  obtain ⟨_, h62, rfl⟩ := (hk 4 (by decide)).put rfl rfl
                  obtain ⟨_, h63, rfl⟩ := (hk 5 (by decide)).put rfl rfl
                  obtain ⟨_, h64, rfl⟩ := (hk 6 (by decide)).put rfl rfl
                  obtain ⟨_, h65, rfl⟩ := (hk 7 (by decide)).put rfl rfl
                  obtain ⟨_, h66, rfl⟩ := (hk 8 (by decide)).put rfl rfl
                  obtain ⟨_, h67, rfl⟩ := (hk 9 (by decide)).put rfl rfl
                  obtain ⟨_, h68, rfl⟩ := (hk 10 (by decide)).put rfl rfl
                  obtain ⟨_, h69, rfl⟩ := (hk 11 (by decide)).put rfl rfl
                  obtain ⟨_, h70, rfl⟩ := (hk 12 (by decide)).put rfl rfl
                  obtain ⟨_, h71, rfl⟩ := (hk 13 (by decide)).put rfl rfl
                  obtain ⟨_, h72, rfl⟩ := (hk 14 (by decide)).put rfl rfl
                  obtain ⟨_, h73, rfl⟩ := (hk 15 (by decide)).put rfl rfl
                  obtain ⟨_, h74, rfl⟩ := (hk 16 (by decide)).put rfl rfl
                  clear hap
                  have hF : AllPuts ac.tmps ((6, _) :: (58, _) :: (59, _) :: (60, _) :: (61, _) :: (62, _) :: (63, _) :: (64, _) :: (65, _) :: (66, _) :: (67, _) :: (68, _) :: (69, _) :: (70, _) :: (71, _) :: (72, _) :: (73, _) :: (74, _) :: []) := ⟨h6, h58, h59, h60, h61, h62, h63, h64, h65, h66, h67, h68, h69, h70, h71, h72, h73, h74, trivial⟩
                  obtain rfl := frame_puts hu (by kernel_rfl) hF
                  simp only [puts, Act.put, List.setIfInBounds_toArray, List.set_cons_zero, List.set_cons_succ, List.drop_succ_cons, List.drop_zero]
                  clear hk hu hF h6 h58 h59 h60 h61 h62 h63 h64 h65 h66 h67 h68 h69 h70 h71 h72 h73 h74
                  have hG6 : Blk w' g6 ZU 57 := hG6
                  have hs5 := hb.size
                  go_upto_region 5 with (with_reducible refine wpList_store_blkTo rfl 57 (.tmp 6) (.tmp 74) rfl rfl g6 B4 rfl rfl 57 ZU hG6 (by rw [HSB.out.1]; kernel_rfl) (by rw [HSB.out.1, HZS.out]) HSB.out.2 ?_)
                  generalize hwn : World.setRow _ _ _ = w8
                  have hal : Below w4.heap.size w4 w8 := by
                    rw [← hwn]
                    exact below_row hb hs5 hg6 _
                  have HF := Lib.hid (show FAt 57 16 w8 g6 ⟨0, v1, v2, 0, List.replicate 16 0, r5⟩ by
                    rw [← hwn]
                    refine ⟨?_, ⟨List.length_replicate, E5.out⟩⟩
                    rw [HB4.out]
                    exact hG6.row _)
                  have HG6 := Lib.hid (show w4.heap.size ≤ g6 from hg6)
                  have HAL := Lib.hid hal
                  have q0 := HC0.out _ hal
                  clear hal hwn hb hg6 hG6 hs5 HD1 HC1 HD2 HC2 HH5 HC5
                  obtain ⟨f0, f1, f2, f3⟩ := HF.out.cells
                  have z0 := HF.out.frozen 0
                  clear HBU
                  go_upto_region 6 with ((with_reducible refine (HGE0.out _ HAL.out).mono ?_); rintro e wx ⟨rfl, rfl⟩)
                  have hF2 := HF.out.setA v0
                  have hA2 := HAL.out.setCell (p := ⟨g6, 0, none⟩) HG6.out (.int .i64 v0)
                  generalize w8.setCell ⟨g6, 0, none⟩ (.int .i64 v0) = w9 at *
                  replace HF := Lib.hid hF2
                  replace HAL := Lib.hid hA2
                  clear hF2 hA2 f0 f1 f2 f3 z0
                  have q3 := HC3.out _ HAL.out
                  clear q0
                  obtain ⟨f0, f1, f2, f3⟩ := HF.out.cells
                  have z3 := HF.out.frozen 3
                  go_upto_region 7 with ((with_reducible refine (HGE3.out _ HAL.out).mono ?_); rintro e wx ⟨rfl, rfl⟩)
                  have hF2 := HF.out.setD v3
                  have hA2 := HAL.out.setCell (p := ⟨g6, 3, none⟩) HG6.out (.int .i64 v3)
                  generalize w9.setCell ⟨g6, 3, none⟩ (.int .i64 v3) = w11 at *
                  replace HF := Lib.hid hF2
                  replace HAL := Lib.hid hA2
                  clear hF2 hA2 f0 f1 f2 f3 z3
                  clear q3
                  have q4 := HC4.out _ HAL.out
                  go_upto_region 8 with fail
                  clear q4
                  have HX0 := Lib.hid (show FAt 57 16 w11 g6 ⟨v0, v1, v2, v3, padB 16 (r4.take 0), r5⟩ from HF.out)
                  have HL0 := Lib.hid (show Below w4.heap.size w4 w11 from HAL.out)
                  clear HF HAL
                  go_loopw [91] (fun t wq => ∃ j : Nat, j ≤ 16 ∧ t = .int .i64 (j : Int) ∧ Hid (FAt 57 16 wq g6 ⟨v0, v1, v2, v3, padB 16 (r4.take j), r5⟩) ∧ Hid (Below w4.heap.size w4 wq)) (fun t _ => 16 - (intOf t).toNat)
                  case atStart => exact ⟨0, Nat.zero_le _, rfl, HX0, HL0⟩
                  case round =>
                    clear HX0 HL0
                    obtain ⟨j, hj, rfl, HF, HAL⟩ := hrel
                    by_cases hlt : j < 16
                    · have hji : (j : Int) < 16 := by omega
                      have q4 := HC4.out _ HAL.out
                      have hjl : j < r4.length := by rw [E4.out]; exact hlt
                      obtain ⟨b, off, rfl, hbs, hcell⟩ := (HRD4.out _ HAL.out).at_ j hjl
                      have hst := take16 E4.out hlt
                      have hg : r4.getD j 0 = r4[j] := by simp [List.getD_eq_getElem?_getD, hjl]
                      rw [hg] at hst
                      have HST := Lib.hid hst
                      generalize r4[j] = y at *
                      have hf1 := HF.out.frozen (4 + j)
                      obtain ⟨o1, ho1⟩ : ∃ old, wr.cell? ⟨g6, 4 + j, none⟩ = some old := HF.out.there hlt
                      clear hg hst hjl
                      go_wp2_with fail
                      go_roundw
                      case rel =>
                        refine ⟨j + 1, hlt, by go_num, Lib.hid ?_, Lib.hid (HAL.out.setCell (by exact HG6.out) _)⟩
                        rw [HST.out]
                        exact HF.out.byteX (by rw [List.length_take, E4.out]; omega) hlt
                      case measure => simp [intOf]; omega
                    · obtain rfl : j = 16 := by omega
                      have hx := HF.out
                      rw [show padB 16 (r4.take 16) = r4 by rw [List.take_of_length_le (by rw [E4.out]; exact Nat.le_refl _)]; exact padB_full E4.out] at hx
                      replace HF := Lib.hid hx
                      obtain ⟨w10, hw10⟩ : ∃ x, wr = x := ⟨_, rfl⟩
                      rw [hw10] at HF HAL ⊢
                      clear hx hw10
                      go_upto_region 12 with fail
                      have HF10 := Lib.hid (show FAt 57 16 w10 g6 R from HR.out ▸ HF.out)
                      replace HB2 := Lib.hid (HB2.out.below (HAL.out.mono (Nat.le_refl _)) HB2.out.lt)
                      have HBT := Lib.hid (HB4W.out.trans (HAL.out.mono HB4W.out.size))
                      clear HB4W HAL HF
                      obtain ⟨f0, f1, f2, f3⟩ := HF10.out.cells
                      rw [HRV.out.1] at f0
                      rw [HRV.out.2.1] at f1
                      rw [HRV.out.2.2.1] at f2
                      rw [HRV.out.2.2.2] at f3
                      by_cases hok : 1 ≤ v0 ∧ v0 ≤ 1048576 ∧ 1 ≤ v1 ∧ v1 ≤ v2 ∧ v2 ≤ 16 ∧ v3 ≤ 1024
                      · have HYS := Lib.hid (HYES.out hok)
                        obtain ⟨j0, j1, j2, j3, j4, j5⟩ := hok
                        clear HYES HNO
                        go_wp2_with (first
                          | (refine wpList_load_when14 ?_ 57 (.tmp 6) rfl g6 rfl 57 RX _ (by rw [← HRX.out]; exact HF10.out.blk) Tryd.underlying57 rfl (by rw [HSR.out.1]; kernel_rfl) ?_; · rfl)
                          | (with_reducible refine wpList_store_blkTo rfl 57 (.tmp 2) (.tmp 135) rfl rfl g2 RX rfl rfl 57 rs2 HB2.out (by rw [HSR.out.1]; kernel_rfl) (by rw [HSR.out.1, HRZ2.out]) HSR.out.2 ?_))
                        have hs := below_row HBT.out HBT.out.size HG2.out RX
                        refine bodyPost_ret (v := .tuple #[.agg RX, .bool true]) ?_ ?_ ?_
                        · refine (results_cell_tmp14 (p := 2) (q := 3) (ty := 57) (by kernel_rfl) _ _ g2 57 _ (0, 0) _ _ ?_ ?_ (HB2.out.row RX) Tryd.underlying57 rfl (by rw [HSR.out.1]; kernel_rfl))
                          · rfl
                          · rfl
                        · rfl
                        refine ⟨?_, hs⟩
                        rw [HYS.out, ← HRX.out]
                        rfl
                      · have HNU := Lib.hid (HNO.out hok)
                        clear HYES HNO
                        by_cases z0 : 1 ≤ v0
                        · skip
                          by_cases z1 : v0 ≤ 1048576
                          · skip
                            by_cases z2 : 1 ≤ v1
                            · skip
                              by_cases z3 : v1 ≤ v2
                              · skip
                                by_cases z4 : v2 ≤ 16
                                · skip
                                  by_cases z5 : v3 ≤ 1024
                                  · skip
                                    exact absurd ⟨z0, z1, z2, z3, z4, z5⟩ hok
                                  · clear hok
                                    have z9 : decide (v3 > 1024) = true := by simp; omega
                                    go_upto_if 133 with fail
                                    clear z9
                                    clear f0 f1 f2 f3 z0 z1 z2 z3 z4 z5
                                    go_wp2_with (first
                                      | (refine wpList_build_14 ?_ 57 #[] rfl [] (by simp) ZU _ built_V0 HZE.out ?_; · rfl)
                                      | (with_reducible refine wpList_store_blkTo rfl 57 (.tmp 2) (.tmp 134) rfl rfl g2 ZU rfl rfl 57 rs2 HB2.out (by rw [HZS.out]; kernel_rfl) (by rw [HZS.out, HRZ2.out]) HZO.out ?_))
                                    have hs := below_row HBT.out HBT.out.size HG2.out ZU
                                    refine bodyPost_ret (v := .tuple #[.agg ZU, .bool false]) ?_ ?_ ?_
                                    · refine (results_cell_tmp14 (p := 2) (q := 3) (ty := 57) (by kernel_rfl) _ _ g2 57 _ (0, 0) _ _ ?_ ?_ (HB2.out.row ZU) Tryd.underlying57 rfl (by rw [HZS.out]; kernel_rfl))
                                      · rfl
                                      · rfl
                                    · rfl
                                    refine ⟨?_, hs⟩
                                    rw [HNU.out, ← HZE.out]
                                    rfl
                                · clear hok
                                  go_upto_if 133 with fail
                                  clear f0 f1 f2 f3 z0 z1 z2 z3 z4
                                  go_wp2_with (first
                                    | (refine wpList_build_14 ?_ 57 #[] rfl [] (by simp) ZU _ built_V0 HZE.out ?_; · rfl)
                                    | (with_reducible refine wpList_store_blkTo rfl 57 (.tmp 2) (.tmp 134) rfl rfl g2 ZU rfl rfl 57 rs2 HB2.out (by rw [HZS.out]; kernel_rfl) (by rw [HZS.out, HRZ2.out]) HZO.out ?_))
                                  have hs := below_row HBT.out HBT.out.size HG2.out ZU
                                  refine bodyPost_ret (v := .tuple #[.agg ZU, .bool false]) ?_ ?_ ?_
                                  · refine (results_cell_tmp14 (p := 2) (q := 3) (ty := 57) (by kernel_rfl) _ _ g2 57 _ (0, 0) _ _ ?_ ?_ (HB2.out.row ZU) Tryd.underlying57 rfl (by rw [HZS.out]; kernel_rfl))
                                    · rfl
                                    · rfl
                                  · rfl
                                  refine ⟨?_, hs⟩
                                  rw [HNU.out, ← HZE.out]
                                  rfl
                              · clear hok
                                go_upto_if 133 with fail
                                clear f0 f1 f2 f3 z0 z1 z2 z3
                                go_wp2_with (first
                                  | (refine wpList_build_14 ?_ 57 #[] rfl [] (by simp) ZU _ built_V0 HZE.out ?_; · rfl)
                                  | (with_reducible refine wpList_store_blkTo rfl 57 (.tmp 2) (.tmp 134) rfl rfl g2 ZU rfl rfl 57 rs2 HB2.out (by rw [HZS.out]; kernel_rfl) (by rw [HZS.out, HRZ2.out]) HZO.out ?_))
                                have hs := below_row HBT.out HBT.out.size HG2.out ZU
                                refine bodyPost_ret (v := .tuple #[.agg ZU, .bool false]) ?_ ?_ ?_
                                · refine (results_cell_tmp14 (p := 2) (q := 3) (ty := 57) (by kernel_rfl) _ _ g2 57 _ (0, 0) _ _ ?_ ?_ (HB2.out.row ZU) Tryd.underlying57 rfl (by rw [HZS.out]; kernel_rfl))
                                  · rfl
                                  · rfl
                                · rfl
                                refine ⟨?_, hs⟩
                                rw [HNU.out, ← HZE.out]
                                rfl
                            · clear hok
                              go_upto_if 133 with fail
                              clear f0 f1 f2 f3 z0 z1 z2
                              go_wp2_with (first
                                | (refine wpList_build_14 ?_ 57 #[] rfl [] (by simp) ZU _ built_V0 HZE.out ?_; · rfl)
                                | (with_reducible refine wpList_store_blkTo rfl 57 (.tmp 2) (.tmp 134) rfl rfl g2 ZU rfl rfl 57 rs2 HB2.out (by rw [HZS.out]; kernel_rfl) (by rw [HZS.out, HRZ2.out]) HZO.out ?_))
                              have hs := below_row HBT.out HBT.out.size HG2.out ZU
                              refine bodyPost_ret (v := .tuple #[.agg ZU, .bool false]) ?_ ?_ ?_
                              · refine (results_cell_tmp14 (p := 2) (q := 3) (ty := 57) (by kernel_rfl) _ _ g2 57 _ (0, 0) _ _ ?_ ?_ (HB2.out.row ZU) Tryd.underlying57 rfl (by rw [HZS.out]; kernel_rfl))
                                · rfl
                                · rfl
                              · rfl
                              refine ⟨?_, hs⟩
                              rw [HNU.out, ← HZE.out]
                              rfl
                          · clear hok
                            go_upto_if 133 with fail
                            clear f0 f1 f2 f3 z0 z1
                            go_wp2_with (first
                              | (refine wpList_build_14 ?_ 57 #[] rfl [] (by simp) ZU _ built_V0 HZE.out ?_; · rfl)
                              | (with_reducible refine wpList_store_blkTo rfl 57 (.tmp 2) (.tmp 134) rfl rfl g2 ZU rfl rfl 57 rs2 HB2.out (by rw [HZS.out]; kernel_rfl) (by rw [HZS.out, HRZ2.out]) HZO.out ?_))
                            have hs := below_row HBT.out HBT.out.size HG2.out ZU
                            refine bodyPost_ret (v := .tuple #[.agg ZU, .bool false]) ?_ ?_ ?_
                            · refine (results_cell_tmp14 (p := 2) (q := 3) (ty := 57) (by kernel_rfl) _ _ g2 57 _ (0, 0) _ _ ?_ ?_ (HB2.out.row ZU) Tryd.underlying57 rfl (by rw [HZS.out]; kernel_rfl))
                              · rfl
                              · rfl
                            · rfl
                            refine ⟨?_, hs⟩
                            rw [HNU.out, ← HZE.out]
                            rfl
                        · clear hok
                          go_upto_if 133 with fail
                          clear f0 f1 f2 f3 z0
                          go_wp2_with (first
                            | (refine wpList_build_14 ?_ 57 #[] rfl [] (by simp) ZU _ built_V0 HZE.out ?_; · rfl)
                            | (with_reducible refine wpList_store_blkTo rfl 57 (.tmp 2) (.tmp 134) rfl rfl g2 ZU rfl rfl 57 rs2 HB2.out (by rw [HZS.out]; kernel_rfl) (by rw [HZS.out, HRZ2.out]) HZO.out ?_))
                          have hs := below_row HBT.out HBT.out.size HG2.out ZU
                          refine bodyPost_ret (v := .tuple #[.agg ZU, .bool false]) ?_ ?_ ?_
                          · refine (results_cell_tmp14 (p := 2) (q := 3) (ty := 57) (by kernel_rfl) _ _ g2 57 _ (0, 0) _ _ ?_ ?_ (HB2.out.row ZU) Tryd.underlying57 rfl (by rw [HZS.out]; kernel_rfl))
                            · rfl
                            · rfl
                          · rfl
                          refine ⟨?_, hs⟩
                          rw [HNU.out, ← HZE.out]
                          rfl
                
              · have HNU := Lib.hid (HNO.out fun h => e5 h.1.2.2.2.2.2)
                have HBT := HB4W
                obtain ⟨m, hm⟩ : ∃ x, r5.length = x := ⟨_, rfl⟩
                rw [hm] at x5 e5
                have e9 : ((m : Int) != 32) = true := by simp; omega
                clear hm HYES HNO HR HRV HV0 HV1 HV2 HV3 e0 e1 e2 e3 e4 e5 y0 y1 y2 y3 y4 y5
                go_upto_if 56 with fail
                clear e9 x0 x1 x2 x3 x4 x5
                go_wp2_with (first
                  | (refine wpList_build_14 ?_ 57 #[] rfl [] (by simp) ZU _ built_V0 HZE.out ?_; · rfl)
                  | (with_reducible refine wpList_store_blkTo rfl 57 (.tmp 2) (.tmp 57) rfl rfl g2 ZU rfl rfl 57 rs2 HB2.out (by rw [HZS.out]; kernel_rfl) (by rw [HZS.out, HRZ2.out]) HZO.out ?_))
                have hs := below_row HBT.out HBT.out.size HG2.out ZU
                refine bodyPost_ret (v := .tuple #[.agg ZU, .bool false]) ?_ ?_ ?_
                · refine (results_cell_tmp14 (p := 2) (q := 3) (ty := 57) (by kernel_rfl) _ _ g2 57 _ (0, 0) _ _ ?_ ?_ (HB2.out.row ZU) Tryd.underlying57 rfl (by rw [HZS.out]; kernel_rfl))
                  · rfl
                  · rfl
                · rfl
                refine ⟨?_, hs⟩
                rw [HNU.out, ← HZE.out]
                rfl
            · have HNU := Lib.hid (HNO.out fun h => e4 h.1.2.2.2.2.1)
              have HBT := HB4W
              obtain ⟨m, hm⟩ : ∃ x, r4.length = x := ⟨_, rfl⟩
              rw [hm] at x4 e4
              have e9 : ((m : Int) != 16) = true := by simp; omega
              clear hm HYES HNO HR HRV HV0 HV1 HV2 HV3 e0 e1 e2 e3 e4 x5 y0 y1 y2 y3 y4 y5
              go_upto_if 56 with fail
              clear e9 x0 x1 x2 x3 x4
              go_wp2_with (first
                | (refine wpList_build_14 ?_ 57 #[] rfl [] (by simp) ZU _ built_V0 HZE.out ?_; · rfl)
                | (with_reducible refine wpList_store_blkTo rfl 57 (.tmp 2) (.tmp 57) rfl rfl g2 ZU rfl rfl 57 rs2 HB2.out (by rw [HZS.out]; kernel_rfl) (by rw [HZS.out, HRZ2.out]) HZO.out ?_))
              have hs := below_row HBT.out HBT.out.size HG2.out ZU
              refine bodyPost_ret (v := .tuple #[.agg ZU, .bool false]) ?_ ?_ ?_
              · refine (results_cell_tmp14 (p := 2) (q := 3) (ty := 57) (by kernel_rfl) _ _ g2 57 _ (0, 0) _ _ ?_ ?_ (HB2.out.row ZU) Tryd.underlying57 rfl (by rw [HZS.out]; kernel_rfl))
                · rfl
                · rfl
              · rfl
              refine ⟨?_, hs⟩
              rw [HNU.out, ← HZE.out]
              rfl
          · have HNU := Lib.hid (HNO.out fun h => e3 h.1.2.2.2.1)
            have HBT := HB4W
            obtain ⟨m, hm⟩ : ∃ x, r3.length = x := ⟨_, rfl⟩
            rw [hm] at x3 e3
            have e9 : ((m : Int) != 4) = true := by simp; omega
            clear hm HYES HNO HR HRV HV0 HV1 HV2 HV3 e0 e1 e2 e3 x4 x5 y0 y1 y2 y3 y4 y5
            go_upto_if 56 with fail
            clear e9 x0 x1 x2 x3
            go_wp2_with (first
              | (refine wpList_build_14 ?_ 57 #[] rfl [] (by simp) ZU _ built_V0 HZE.out ?_; · rfl)
              | (with_reducible refine wpList_store_blkTo rfl 57 (.tmp 2) (.tmp 57) rfl rfl g2 ZU rfl rfl 57 rs2 HB2.out (by rw [HZS.out]; kernel_rfl) (by rw [HZS.out, HRZ2.out]) HZO.out ?_))
            have hs := below_row HBT.out HBT.out.size HG2.out ZU
            refine bodyPost_ret (v := .tuple #[.agg ZU, .bool false]) ?_ ?_ ?_
            · refine (results_cell_tmp14 (p := 2) (q := 3) (ty := 57) (by kernel_rfl) _ _ g2 57 _ (0, 0) _ _ ?_ ?_ (HB2.out.row ZU) Tryd.underlying57 rfl (by rw [HZS.out]; kernel_rfl))
              · rfl
              · rfl
            · rfl
            refine ⟨?_, hs⟩
            rw [HNU.out, ← HZE.out]
            rfl
        · have HNU := Lib.hid (HNO.out fun h => e2 h.1.2.2.1)
          have HBT := HB4W
          obtain ⟨m, hm⟩ : ∃ x, r2.length = x := ⟨_, rfl⟩
          rw [hm] at x2 e2
          have e9 : ((m : Int) != 1) = true := by simp; omega
          clear hm HYES HNO HR HRV HV0 HV1 HV2 HV3 e0 e1 e2 x3 x4 x5 y0 y1 y2 y3 y4 y5
          go_upto_if 56 with fail
          clear e9 x0 x1 x2
          go_wp2_with (first
            | (refine wpList_build_14 ?_ 57 #[] rfl [] (by simp) ZU _ built_V0 HZE.out ?_; · rfl)
            | (with_reducible refine wpList_store_blkTo rfl 57 (.tmp 2) (.tmp 57) rfl rfl g2 ZU rfl rfl 57 rs2 HB2.out (by rw [HZS.out]; kernel_rfl) (by rw [HZS.out, HRZ2.out]) HZO.out ?_))
          have hs := below_row HBT.out HBT.out.size HG2.out ZU
          refine bodyPost_ret (v := .tuple #[.agg ZU, .bool false]) ?_ ?_ ?_
          · refine (results_cell_tmp14 (p := 2) (q := 3) (ty := 57) (by kernel_rfl) _ _ g2 57 _ (0, 0) _ _ ?_ ?_ (HB2.out.row ZU) Tryd.underlying57 rfl (by rw [HZS.out]; kernel_rfl))
            · rfl
            · rfl
          · rfl
          refine ⟨?_, hs⟩
          rw [HNU.out, ← HZE.out]
          rfl
      · have HNU := Lib.hid (HNO.out fun h => e1 h.1.2.1)
        have HBT := HB4W
        obtain ⟨m, hm⟩ : ∃ x, r1.length = x := ⟨_, rfl⟩
        rw [hm] at x1 e1
        have e9 : ((m : Int) != 1) = true := by simp; omega
        clear hm HYES HNO HR HRV HV0 HV1 HV2 HV3 e0 e1 x2 x3 x4 x5 y0 y1 y2 y3 y4 y5
        go_upto_if 56 with fail
        clear e9 x0 x1
        go_wp2_with (first
          | (refine wpList_build_14 ?_ 57 #[] rfl [] (by simp) ZU _ built_V0 HZE.out ?_; · rfl)
          | (with_reducible refine wpList_store_blkTo rfl 57 (.tmp 2) (.tmp 57) rfl rfl g2 ZU rfl rfl 57 rs2 HB2.out (by rw [HZS.out]; kernel_rfl) (by rw [HZS.out, HRZ2.out]) HZO.out ?_))
        have hs := below_row HBT.out HBT.out.size HG2.out ZU
        refine bodyPost_ret (v := .tuple #[.agg ZU, .bool false]) ?_ ?_ ?_
        · refine (results_cell_tmp14 (p := 2) (q := 3) (ty := 57) (by kernel_rfl) _ _ g2 57 _ (0, 0) _ _ ?_ ?_ (HB2.out.row ZU) Tryd.underlying57 rfl (by rw [HZS.out]; kernel_rfl))
          · rfl
          · rfl
        · rfl
        refine ⟨?_, hs⟩
        rw [HNU.out, ← HZE.out]
        rfl
    · have HNU := Lib.hid (HNO.out fun h => e0 h.1.1)
      have HBT := HB4W
      obtain ⟨m, hm⟩ : ∃ x, r0.length = x := ⟨_, rfl⟩
      rw [hm] at x0 e0
      have e9 : ((m : Int) != 4) = true := by simp; omega
      clear hm HYES HNO HR HRV HV0 HV1 HV2 HV3 e0 x1 x2 x3 x4 x5 y0 y1 y2 y3 y4 y5
      go_upto_if 56 with fail
      clear e9 x0
      go_wp2_with (first
        | (refine wpList_build_14 ?_ 57 #[] rfl [] (by simp) ZU _ built_V0 HZE.out ?_; · rfl)
        | (with_reducible refine wpList_store_blkTo rfl 57 (.tmp 2) (.tmp 57) rfl rfl g2 ZU rfl rfl 57 rs2 HB2.out (by rw [HZS.out]; kernel_rfl) (by rw [HZS.out, HRZ2.out]) HZO.out ?_))
      have hs := below_row HBT.out HBT.out.size HG2.out ZU
      refine bodyPost_ret (v := .tuple #[.agg ZU, .bool false]) ?_ ?_ ?_
      · refine (results_cell_tmp14 (p := 2) (q := 3) (ty := 57) (by kernel_rfl) _ _ g2 57 _ (0, 0) _ _ ?_ ?_ (HB2.out.row ZU) Tryd.underlying57 rfl (by rw [HZS.out]; kernel_rfl))
        · rfl
        · rfl
      · rfl
      refine ⟨?_, hs⟩
      rw [HNU.out, ← HZE.out]
      rfl

end Go.Proofs.YtobealijkbnojaaDoor
