/- The document's layouts out of bytes. -/
import Derived.Test.YtobealijkbnojaaDoorLayH
import Derived.Test.YtobealijkbnojaaDoorRTakeNets
import Derived.Test.YtobealijkbnojaaDoorFreeL
namespace Go.Proofs.YtobealijkbnojaaDoor
open Go.RowKit
set_option maxRecDepth 100000

set_option maxHeartbeats 16000000 in
theorem runpackU_any {w : World} {A : Option Addr} {n c : Nat} {l : List UInt8} (hl : l.length = n) (hnc : n ≤ c) (hcm : c ≤ maxLen) (h1 : n ≤ 1000) (ha : Rd w w.heap.size A l) :
    Calls Tryd.prog 18 #[.slice A n c] w fun e w' => e = .returned (.tuple #[.agg (f14A ((unU l).getD (zero14 32))), .bool (unU l).isSome]) ∧ Below w.heap.size w w' := by
  obtain ⟨ZU, hZU⟩ : ∃ x, f14A (zero14 32) = x := ⟨_, rfl⟩
  have HZE := Lib.hid hZU
  have HZS := Lib.hid (show ZU.size = 68 by rw [← hZU]; exact f14A_size (zero14_wf 32))
  have HZO := Lib.hid (show ZU.all (·.oneCell') = true by rw [← hZU]; exact f14A_one _)
  have HZV := Lib.hid (fun W => (zero_U W).trans (by rw [hZU]))
  have HT0 := Lib.hid (fun (W : World) (hW : Below w.heap.size w W) => rtakeNets_any A n c 6 l W hl hnc hcm (by omega) (by omega) (ha.on hW))
  rcases takes_six l with hT | ⟨r0, r1, r2, r3, r4, r5, hT, hN⟩
  · have HNU := Lib.hid (show unU l = none by unfold unU un14; rw [hT])
    have HT1 := Lib.hid (fun (W : World) (hW : Below w.heap.size w W) => (show Calls Tryd.prog 51 #[.slice A n c, .int .i64 6] W fun e w' => ∃ A1 c1, e = .returned (.tuple #[.slice A1 0 c1, .bool false]) ∧ Below W.heap.size W w' from by
      have h := HT0.out W hW
      rw [hT] at h
      exact h.mono fun e w' ⟨A1, c1, he, _, _, hb⟩ => ⟨A1, c1, he, hb⟩))
    clear hT HT0 hZU ha
    go_enter Tryd.func18, Tryd.ntmps18
    go_upto_region 1 with fail
    generalize hw1 : World.alloc _ _ = w3
    obtain ⟨g2, hg2⟩ : ∃ g, w.heap.size = g := ⟨_, rfl⟩
    have hf : (∃ rs, Blk w3 g2 rs 40 ∧ rs.size = 68) ∧ Below w.heap.size w w3 := by
      obtain ⟨Y2, hw, hY2⟩ : ∃ Y2, w3 = (w.alloc (.cells Y2 40)) ∧ Y2.size = 68 := ⟨_, hw1.symm, rfl⟩
      rw [hw, ← hg2]
      exact ⟨⟨Y2, by exact Blk.new _ _ _, hY2⟩, ((Below.refl _ _).alloc (Nat.le_refl _) _)⟩
    obtain ⟨rs2, hrs2, hrz2⟩ := hf.1
    have HB2 := Lib.hid hrs2
    have HRZ2 := Lib.hid hrz2
    have HBW := Lib.hid hf.2
    have HG2 := Lib.hid (show w.heap.size ≤ g2 by omega)
    clear hf hw1 hrs2 hrz2
    rw [hg2]
    clear hg2
    go_upto_if 55 with ((with_reducible refine (HT1.out _ HBW.out).mono ?_); rintro e w4 ⟨A1, c1, rfl, hb4⟩)
    replace HB2 := Lib.hid (HB2.out.below hb4 HB2.out.lt)
    have HBT := Lib.hid (HBW.out.trans (hb4.mono HBW.out.size))
    clear hb4 HT1 HBW
    go_wp2_with (first
      | (refine wpList_build_14 ?_ 40 #[] rfl [] (by simp) ZU _ built_U0 HZE.out ?_; · rfl)
      | (with_reducible refine wpList_store_blkTo rfl 40 (.tmp 2) (.tmp 56) rfl rfl g2 ZU rfl rfl 40 rs2 HB2.out (by rw [HZS.out]; kernel_rfl) (by rw [HZS.out, HRZ2.out]) HZO.out ?_))
    have hs := below_row HBT.out HBT.out.size HG2.out ZU
    refine bodyPost_ret (v := .tuple #[.agg ZU, .bool false]) ?_ ?_ ?_
    · refine (results_cell_tmp14 (p := 2) (q := 3) (ty := 40) (by kernel_rfl) _ _ g2 40 _ (0, 0) _ _ ?_ ?_ (HB2.out.row ZU) Tryd.underlying40 rfl (by rw [HZS.out]; kernel_rfl))
      · rfl
      · rfl
    · rfl
    refine ⟨?_, hs⟩
    rw [HNU.out, ← HZE.out]
    rfl
  · obtain ⟨R, hR⟩ : ∃ x, of14 32 r0 r1 r2 r3 r4 r5 = x := ⟨_, rfl⟩
    have hsel : unU l = if fit14 wsU 32 r0 r1 r2 r3 r4 r5 ∧ okU R then some R else none := by
      unfold unU un14
      rw [hT]
      simp only
      rw [hR]
    obtain ⟨v0, hv0⟩ : ∃ x, (get14 r0 : Int) = x := ⟨_, rfl⟩
    obtain ⟨v1, hv1⟩ : ∃ x, (get14 r1 : Int) = x := ⟨_, rfl⟩
    obtain ⟨v2, hv2⟩ : ∃ x, (get14 r2 : Int) = x := ⟨_, rfl⟩
    obtain ⟨v3, hv3⟩ : ∃ x, (get14 r3 : Int) = x := ⟨_, rfl⟩
    have HRV := Lib.hid (show R.a = v0 ∧ R.b = v1 ∧ R.c = v2 ∧ R.d = v3 by rw [← hR, ← hv0, ← hv1, ← hv2, ← hv3]; exact ⟨rfl, rfl, rfl, rfl⟩)
    have HR := Lib.hid (show (⟨v0, v1, v2, v3, pad14 32 r4, pad14 32 r5⟩ : F14) = R by rw [← hR, ← hv0, ← hv1, ← hv2, ← hv3]; rfl)
    have hokl : okU R ↔ 1 ≤ v0 ∧ v0 ≤ v1 ∧ v1 ≤ 16 ∧ 1 ≤ v2 ∧ v2 ≤ 1024 ∧ v3 = 64 := by
      unfold okU
      rw [HRV.out.1, HRV.out.2.1, HRV.out.2.2.1, HRV.out.2.2.2]
    have HYES := Lib.hid (fun (h1 : r0.length = 1 ∧ r1.length = 1 ∧ r2.length = 4 ∧ r3.length = 4 ∧ r4.length = 32 ∧ r5.length = 32) (h2 : 1 ≤ v0 ∧ v0 ≤ v1 ∧ v1 ≤ 16 ∧ 1 ≤ v2 ∧ v2 ≤ 1024 ∧ v3 = 64) => (show unU l = some R by rw [hsel, if_pos ⟨h1, hokl.2 h2⟩]))
    have HNO := Lib.hid (fun (h : ¬ ((r0.length = 1 ∧ r1.length = 1 ∧ r2.length = 4 ∧ r3.length = 4 ∧ r4.length = 32 ∧ r5.length = 32) ∧ (1 ≤ v0 ∧ v0 ≤ v1 ∧ v1 ≤ 16 ∧ 1 ≤ v2 ∧ v2 ≤ 1024 ∧ v3 = 64))) => (show unU l = none by rw [hsel, if_neg (fun h3 => h ⟨h3.1, hokl.1 h3.2⟩)]))
    have HT1 := Lib.hid (fun (W : World) (hW : Below w.heap.size w W) => (show Calls Tryd.prog 51 #[.slice A n c, .int .i64 6] W fun e w' => ∃ A1 c1, e = .returned (.tuple #[.slice A1 6 c1, .bool true]) ∧ 6 ≤ c1 ∧ RdR w' w'.heap.size A1 [r0, r1, r2, r3, r4, r5] ∧ Below W.heap.size W w' from by
      have h := HT0.out W hW
      rw [hT] at h
      exact h))
    obtain ⟨RX, hRX⟩ : ∃ x, f14A R = x := ⟨_, rfl⟩
    have HSR := Lib.hid (show RX.size = 68 ∧ RX.all (·.oneCell') = true by rw [← hRX, ← hR]; exact ⟨f14A_size (p := 32) ⟨pad14_len _ _, pad14_len _ _⟩, f14A_one _⟩)
    have HRX := Lib.hid hRX
    have HV0 := Lib.hid hv0
    have HV1 := Lib.hid hv1
    have HV2 := Lib.hid hv2
    have HV3 := Lib.hid hv3
    clear hT HT0 hZU ha hN hR hsel hokl hv0 hv1 hv2 hv3 hRX hl hnc hcm
    go_enter Tryd.func18, Tryd.ntmps18
    go_upto_region 1 with fail
    generalize hw1 : World.alloc _ _ = w3
    obtain ⟨g2, hg2⟩ : ∃ g, w.heap.size = g := ⟨_, rfl⟩
    have hf : (∃ rs, Blk w3 g2 rs 40 ∧ rs.size = 68) ∧ Below w.heap.size w w3 := by
      obtain ⟨Y2, hw, hY2⟩ : ∃ Y2, w3 = (w.alloc (.cells Y2 40)) ∧ Y2.size = 68 := ⟨_, hw1.symm, rfl⟩
      rw [hw, ← hg2]
      exact ⟨⟨Y2, by exact Blk.new _ _ _, hY2⟩, ((Below.refl _ _).alloc (Nat.le_refl _) _)⟩
    obtain ⟨rs2, hrs2, hrz2⟩ := hf.1
    have HB2 := Lib.hid hrs2
    have HRZ2 := Lib.hid hrz2
    have HBW := Lib.hid hf.2
    have HG2 := Lib.hid (show w.heap.size ≤ g2 by omega)
    clear hf hw1 hrs2 hrz2
    rw [hg2]
    clear hg2
    go_upto_region 2 with ((with_reducible refine (HT1.out _ HBW.out).mono ?_); rintro e w4 ⟨A1, c1, rfl, hc1, hr1, hb4⟩)
    obtain ⟨g, o, A0, A1, A2, A3, A4, A5, k0, k1, k2, k3, k4, k5, rfl, hg, ⟨x0, x1, x2, x3, x4, x5⟩, y0, y1, y2, y3, y4, y5⟩ := six_of hr1
    replace HB2 := Lib.hid (HB2.out.below hb4 HB2.out.lt)
    have HB4W := Lib.hid (HBW.out.trans (hb4.mono HBW.out.size))
    clear hb4 HBW HT1 hr1
    by_cases e0 : r0.length = 1
    · rw [e0] at x0 y0
      by_cases e1 : r1.length = 1
      · rw [e1] at x1 y1
        by_cases e2 : r2.length = 4
        · rw [e2] at x2 y2
          by_cases e3 : r3.length = 4
          · rw [e3] at x3 y3
            by_cases e4 : r4.length = 32
            · rw [e4] at x4 y4
              by_cases e5 : r5.length = 32
              · rw [e5] at x5 y5
                have HYES := Lib.hid (fun h => HYES.out ⟨e0, e1, e2, e3, e4, e5⟩ h)
                have HNO := Lib.hid (fun (h : ¬ (1 ≤ v0 ∧ v0 ≤ v1 ∧ v1 ≤ 16 ∧ 1 ≤ v2 ∧ v2 ≤ 1024 ∧ v3 = 64)) => HNO.out (fun h2 => h h2.2))
                have E0 := Lib.hid e0
                have E1 := Lib.hid e1
                have E2 := Lib.hid e2
                have E3 := Lib.hid e3
                have E4 := Lib.hid e4
                have E5 := Lib.hid e5
                have hR2 := HR.out
                rw [pad14_self e4, pad14_self e5] at hR2
                replace HR := Lib.hid hR2
                clear hR2 e0 e1 e2 e3 e4 e5
                go_upto_region 4 with fail
                have e0 := E0.out
                have e1 := E1.out
                have e2 := E2.out
                have e3 := E3.out
                have e4 := E4.out
                have e5 := E5.out
                obtain ⟨b0, q0, rfl, hb0, hd0, hlt0⟩ := byte_row y0
                have hv0 := HV0.out
                rw [hv0] at hd0
                have j0 : 0 ≤ v0 ∧ v0 < 256 := by omega
                have HD0 := Lib.hid (fun (W : World) (h : Below w4.heap.size w4 W) => (h.cell (p := ⟨b0, q0, none⟩) hb0).trans hd0)
                obtain ⟨b1, q1, rfl, hb1, hd1, hlt1⟩ := byte_row y1
                have hv1 := HV1.out
                rw [hv1] at hd1
                have j1 : 0 ≤ v1 ∧ v1 < 256 := by omega
                have HD1 := Lib.hid (fun (W : World) (h : Below w4.heap.size w4 W) => (h.cell (p := ⟨b1, q1, none⟩) hb1).trans hd1)
                have HC0 := Lib.hid (fun (W : World) (h : Below w4.heap.size w4 W) => (h.cell (p := ⟨g, o, none⟩) hg).trans x0)
                have HC1 := Lib.hid (fun (W : World) (h : Below w4.heap.size w4 W) => (h.cell (p := ⟨g, o + 1, none⟩) hg).trans x1)
                have HC2 := Lib.hid (fun (W : World) (h : Below w4.heap.size w4 W) => (h.cell (p := ⟨g, o + 2, none⟩) hg).trans x2)
                have HC3 := Lib.hid (fun (W : World) (h : Below w4.heap.size w4 W) => (h.cell (p := ⟨g, o + 3, none⟩) hg).trans x3)
                have HC4 := Lib.hid (fun (W : World) (h : Below w4.heap.size w4 W) => (h.cell (p := ⟨g, o + 4, none⟩) hg).trans x4)
                have HC5 := Lib.hid (fun (W : World) (h : Below w4.heap.size w4 W) => (h.cell (p := ⟨g, o + 5, none⟩) hg).trans x5)
                obtain ⟨H4, hh4⟩ : ∃ x, u8A r4 = x := ⟨_, rfl⟩
                have HH4 := Lib.hid (fun (W : World) (h : Below w4.heap.size w4 W) => (show Calls Tryd.prog 52 #[.slice A4 32 k4] W fun e w' => e = .returned (.agg H4) ∧ Below W.heap.size W w' from by
                  have h2 := rhash14_any A4 k4 r4 W e4 (y4.on h).rd
                  rw [hh4] at h2
                  exact h2))
                obtain ⟨H5, hh5⟩ : ∃ x, u8A r5 = x := ⟨_, rfl⟩
                have HH5 := Lib.hid (fun (W : World) (h : Below w4.heap.size w4 W) => (show Calls Tryd.prog 52 #[.slice A5 32 k5] W fun e w' => e = .returned (.agg H5) ∧ Below W.heap.size W w' from by
                  have h2 := rhash14_any A5 k5 r5 W e5 (y5.on h).rd
                  rw [hh5] at h2
                  exact h2))
                have HGE2 := Lib.hid (fun (W : World) (h : Below w4.heap.size w4 W) => (show Calls Tryd.prog 53 #[.slice A2 4 k2] W fun e w' => e = .returned (.tuple #[.int .i64 v2, .bool true]) ∧ W = w' from by
                  have h2 := rget14 A2 k2 W.heap.size r2 W e2 (y2.on h).rd
                  rw [HV2.out] at h2
                  exact h2))
                have HGE3 := Lib.hid (fun (W : World) (h : Below w4.heap.size w4 W) => (show Calls Tryd.prog 53 #[.slice A3 4 k3] W fun e w' => e = .returned (.tuple #[.int .i64 v3, .bool true]) ∧ W = w' from by
                  have h2 := rget14 A3 k3 W.heap.size r3 W e3 (y3.on h).rd
                  rw [HV3.out] at h2
                  exact h2))
                obtain ⟨B4, hB4⟩ : ∃ x, f14A ⟨v0, v1, 0, 0, r4, r5⟩ = x := ⟨_, rfl⟩
                have HSB := Lib.hid (show B4.size = 68 ∧ B4.all (·.oneCell') = true by rw [← hB4]; exact ⟨f14A_size (p := 32) ⟨e4, e5⟩, f14A_one _⟩)
                have HB4 := Lib.hid hB4
                have HBU := Lib.hid (show Tryd.prog.built 40 [(0, .int .i64 v0), (1, .int .i64 v1), (4, .agg H4), (5, .agg H5)] = some B4 by rw [← hB4, ← hh4, ← hh5]; exact built_Ud v0 v1 r4 r5 e4 e5)
                clear hB4 hh4 hh5 x0 hb0 hd0 hlt0 hv0 y0 x1 hb1 hd1 hlt1 hv1 y1 x2 y2 x3 y3 x4 y4 x5 y5 HV0 HV1 HV2 HV3 e0 e1 e2 e3 e4 e5
                refine wp_region_loose 22 1 (fun i => Nat.beq i 21) (promises [.is (.slice (some ⟨g, o, none⟩) 6 c1), .is (.pointer (some ⟨g, o, none⟩)), .is (.slice (some ⟨b0, q0, none⟩) 1 k0), .is (.pointer (some ⟨b0, q0, none⟩)), .is (.int .u8 v0), .is (.int .i64 v0), .is (.slice (some ⟨g, o, none⟩) 6 c1), .is (.pointer (some ⟨g, o + 1, none⟩)), .is (.slice (some ⟨b1, q1, none⟩) 1 k1), .is (.pointer (some ⟨b1, q1, none⟩)), .is (.int .u8 v1), .is (.int .i64 v1), .is (.slice (some ⟨g, o, none⟩) 6 c1), .is (.pointer (some ⟨g, o + 4, none⟩)), .is (.slice A4 32 k4), .is (.agg H4), .is (.slice (some ⟨g, o, none⟩) 6 c1), .is (.pointer (some ⟨g, o + 5, none⟩)), .is (.slice A5 32 k5), .is (.agg H5), .is (.agg B4), .blk w4.heap.size ZU 40]) (by kernel_rfl) rfl (by kernel_rfl) (fun i v w w' h hb => Spec.keep h hb) ⟨?_, ?_, ?_, ?_, ?_, ?_, ?_, ?_, ?_, ?_, ?_, ?_, ?_, ?_, ?_, ?_, ?_, ?_, ?_, ?_, ?_, ?_, trivial⟩ ?_
                · refine StepOKl.of ?_
                  intro ac w hb hu hk
                  refine ⟨wanted_none rfl, ?_⟩
                  have e4 : ac.eval (.tmp 4) = .slice (some ⟨g, o, none⟩) 6 c1 := hu.is (t := 4) (by kernel_rfl)
                  exact step_value (BigFrame.run_move (.tmp 4) rfl w) (Below.refl _ _) e4
                · refine StepOKl.of ?_
                  intro ac w hb hu hk
                  refine ⟨wanted_none rfl, ?_⟩
                  have e57 : ac.eval (.tmp 57) = (.slice (some ⟨g, o, none⟩) 6 c1) := (hk ⟨0, .data⟩ (by simp) rfl).is rfl rfl
                  refine step_value (w' := w) (v := (.pointer (some ⟨g, o, none⟩))) ?_ (Below.refl _ _) rfl
                  have ec0 : ac.eval (.const (Value.int IntKind.i64 0)) = Value.int IntKind.i64 0 := rfl
                  generalize ac.eval = ρ at e57 ec0 ⊢
                  go_simp
                · refine StepOKl.of ?_
                  intro ac w hb hu hk
                  refine ⟨wanted_none rfl, ?_⟩
                  have e58 : ac.eval (.tmp 58) = (.pointer (some ⟨g, o, none⟩)) := (hk ⟨1, .data⟩ (by simp) rfl).is rfl rfl
                  have hc := HC0.out w hb
                  refine step_value (w' := w) (v := .slice (some ⟨b0, q0, none⟩) 1 k0) ?_ (Below.refl _ _) rfl
                  generalize ac.eval = ρ at e58 ⊢
                  go_simp
                · refine StepOKl.of ?_
                  intro ac w hb hu hk
                  refine ⟨wanted_none rfl, ?_⟩
                  have e59 : ac.eval (.tmp 59) = (.slice (some ⟨b0, q0, none⟩) 1 k0) := (hk ⟨2, .data⟩ (by simp) rfl).is rfl rfl
                  refine step_value (w' := w) (v := (.pointer (some ⟨b0, q0, none⟩))) ?_ (Below.refl _ _) rfl
                  have ec0 : ac.eval (.const (Value.int IntKind.i64 0)) = Value.int IntKind.i64 0 := rfl
                  generalize ac.eval = ρ at e59 ec0 ⊢
                  go_simp
                · refine StepOKl.of ?_
                  intro ac w hb hu hk
                  refine ⟨wanted_none rfl, ?_⟩
                  have e60 : ac.eval (.tmp 60) = (.pointer (some ⟨b0, q0, none⟩)) := (hk ⟨3, .data⟩ (by simp) rfl).is rfl rfl
                  have hc := HD0.out w hb
                  refine step_value (w' := w) (v := .int .u8 v0) ?_ (Below.refl _ _) rfl
                  generalize ac.eval = ρ at e60 ⊢
                  go_simp
                · refine StepOKl.of ?_
                  intro ac w hb hu hk
                  refine ⟨wanted_none rfl, ?_⟩
                  have e61 : ac.eval (.tmp 61) = (.int .u8 v0) := (hk ⟨4, .data⟩ (by simp) rfl).is rfl rfl
                  refine step_value (w' := w) (v := .int .i64 v0) ?_ (Below.refl _ _) rfl
                  generalize ac.eval = ρ at e61 ⊢
                  go_simp
                  exact IntWalk.i64_in _ (by omega)
                · refine StepOKl.of ?_
                  intro ac w hb hu hk
                  refine ⟨wanted_none rfl, ?_⟩
                  have e4 : ac.eval (.tmp 4) = .slice (some ⟨g, o, none⟩) 6 c1 := hu.is (t := 4) (by kernel_rfl)
                  exact step_value (BigFrame.run_move (.tmp 4) rfl w) (Below.refl _ _) e4
                · refine StepOKl.of ?_
                  intro ac w hb hu hk
                  refine ⟨wanted_none rfl, ?_⟩
                  have e63 : ac.eval (.tmp 63) = (.slice (some ⟨g, o, none⟩) 6 c1) := (hk ⟨6, .data⟩ (by simp) rfl).is rfl rfl
                  refine step_value (w' := w) (v := (.pointer (some ⟨g, o + 1, none⟩))) ?_ (Below.refl _ _) rfl
                  have ec0 : ac.eval (.const (Value.int IntKind.i64 1)) = Value.int IntKind.i64 1 := rfl
                  generalize ac.eval = ρ at e63 ec0 ⊢
                  go_simp
                · refine StepOKl.of ?_
                  intro ac w hb hu hk
                  refine ⟨wanted_none rfl, ?_⟩
                  have e64 : ac.eval (.tmp 64) = (.pointer (some ⟨g, o + 1, none⟩)) := (hk ⟨7, .data⟩ (by simp) rfl).is rfl rfl
                  have hc := HC1.out w hb
                  refine step_value (w' := w) (v := .slice (some ⟨b1, q1, none⟩) 1 k1) ?_ (Below.refl _ _) rfl
                  generalize ac.eval = ρ at e64 ⊢
                  go_simp
                · refine StepOKl.of ?_
                  intro ac w hb hu hk
                  refine ⟨wanted_none rfl, ?_⟩
                  have e65 : ac.eval (.tmp 65) = (.slice (some ⟨b1, q1, none⟩) 1 k1) := (hk ⟨8, .data⟩ (by simp) rfl).is rfl rfl
                  refine step_value (w' := w) (v := (.pointer (some ⟨b1, q1, none⟩))) ?_ (Below.refl _ _) rfl
                  have ec0 : ac.eval (.const (Value.int IntKind.i64 0)) = Value.int IntKind.i64 0 := rfl
                  generalize ac.eval = ρ at e65 ec0 ⊢
                  go_simp
                · refine StepOKl.of ?_
                  intro ac w hb hu hk
                  refine ⟨wanted_none rfl, ?_⟩
                  have e66 : ac.eval (.tmp 66) = (.pointer (some ⟨b1, q1, none⟩)) := (hk ⟨9, .data⟩ (by simp) rfl).is rfl rfl
                  have hc := HD1.out w hb
                  refine step_value (w' := w) (v := .int .u8 v1) ?_ (Below.refl _ _) rfl
                  generalize ac.eval = ρ at e66 ⊢
                  go_simp
                · refine StepOKl.of ?_
                  intro ac w hb hu hk
                  refine ⟨wanted_none rfl, ?_⟩
                  have e67 : ac.eval (.tmp 67) = (.int .u8 v1) := (hk ⟨10, .data⟩ (by simp) rfl).is rfl rfl
                  refine step_value (w' := w) (v := .int .i64 v1) ?_ (Below.refl _ _) rfl
                  generalize ac.eval = ρ at e67 ⊢
                  go_simp
                  exact IntWalk.i64_in _ (by omega)
                · refine StepOKl.of ?_
                  intro ac w hb hu hk
                  refine ⟨wanted_none rfl, ?_⟩
                  have e4 : ac.eval (.tmp 4) = .slice (some ⟨g, o, none⟩) 6 c1 := hu.is (t := 4) (by kernel_rfl)
                  exact step_value (BigFrame.run_move (.tmp 4) rfl w) (Below.refl _ _) e4
                · refine StepOKl.of ?_
                  intro ac w hb hu hk
                  refine ⟨wanted_none rfl, ?_⟩
                  have e69 : ac.eval (.tmp 69) = (.slice (some ⟨g, o, none⟩) 6 c1) := (hk ⟨12, .data⟩ (by simp) rfl).is rfl rfl
                  refine step_value (w' := w) (v := (.pointer (some ⟨g, o + 4, none⟩))) ?_ (Below.refl _ _) rfl
                  have ec0 : ac.eval (.const (Value.int IntKind.i64 4)) = Value.int IntKind.i64 4 := rfl
                  generalize ac.eval = ρ at e69 ec0 ⊢
                  go_simp
                · refine StepOKl.of ?_
                  intro ac w hb hu hk
                  refine ⟨wanted_none rfl, ?_⟩
                  have e70 : ac.eval (.tmp 70) = (.pointer (some ⟨g, o + 4, none⟩)) := (hk ⟨13, .data⟩ (by simp) rfl).is rfl rfl
                  have hc := HC4.out w hb
                  refine step_value (w' := w) (v := .slice A4 32 k4) ?_ (Below.refl _ _) rfl
                  generalize ac.eval = ρ at e70 ⊢
                  go_simp
                · refine StepOKl.of ?_
                  intro ac w hb hu hk
                  refine ⟨wanted_none rfl, ?_⟩
                  have e71 : ac.eval (.tmp 71) = (.slice A4 32 k4) := (hk ⟨14, .data⟩ (by simp) rfl).is rfl rfl
                  have ef : ac.eval (.func 52) = .func (.func 52) #[] #[] := rfl
                  refine step_enter (f := 52) (args := #[.slice A4 32 k4]) ?_ ?_
                  · generalize ac.eval = ρ at e71 ef ⊢
                    go_simp
                  · exact (HH4.out w hb).mono fun e w' ⟨he, hq⟩ => ⟨_, he, rfl, hq⟩
                · refine StepOKl.of ?_
                  intro ac w hb hu hk
                  refine ⟨wanted_none rfl, ?_⟩
                  have e4 : ac.eval (.tmp 4) = .slice (some ⟨g, o, none⟩) 6 c1 := hu.is (t := 4) (by kernel_rfl)
                  exact step_value (BigFrame.run_move (.tmp 4) rfl w) (Below.refl _ _) e4
                · refine StepOKl.of ?_
                  intro ac w hb hu hk
                  refine ⟨wanted_none rfl, ?_⟩
                  have e73 : ac.eval (.tmp 73) = (.slice (some ⟨g, o, none⟩) 6 c1) := (hk ⟨16, .data⟩ (by simp) rfl).is rfl rfl
                  refine step_value (w' := w) (v := (.pointer (some ⟨g, o + 5, none⟩))) ?_ (Below.refl _ _) rfl
                  have ec0 : ac.eval (.const (Value.int IntKind.i64 5)) = Value.int IntKind.i64 5 := rfl
                  generalize ac.eval = ρ at e73 ec0 ⊢
                  go_simp
                · refine StepOKl.of ?_
                  intro ac w hb hu hk
                  refine ⟨wanted_none rfl, ?_⟩
                  have e74 : ac.eval (.tmp 74) = (.pointer (some ⟨g, o + 5, none⟩)) := (hk ⟨17, .data⟩ (by simp) rfl).is rfl rfl
                  have hc := HC5.out w hb
                  refine step_value (w' := w) (v := .slice A5 32 k5) ?_ (Below.refl _ _) rfl
                  generalize ac.eval = ρ at e74 ⊢
                  go_simp
                · refine StepOKl.of ?_
                  intro ac w hb hu hk
                  refine ⟨wanted_none rfl, ?_⟩
                  have e75 : ac.eval (.tmp 75) = (.slice A5 32 k5) := (hk ⟨18, .data⟩ (by simp) rfl).is rfl rfl
                  have ef : ac.eval (.func 52) = .func (.func 52) #[] #[] := rfl
                  refine step_enter (f := 52) (args := #[.slice A5 32 k5]) ?_ ?_
                  · generalize ac.eval = ρ at e75 ef ⊢
                    go_simp
                  · exact (HH5.out w hb).mono fun e w' ⟨he, hq⟩ => ⟨_, he, rfl, hq⟩
                · refine StepOKl.of ?_
                  intro ac w hb hu hk
                  refine ⟨wanted_none rfl, ?_⟩
                  have e62 : ac.eval (.tmp 62) = (.int .i64 v0) := (hk ⟨5, .data⟩ (by simp) rfl).is rfl rfl
                  have e68 : ac.eval (.tmp 68) = (.int .i64 v1) := (hk ⟨11, .data⟩ (by simp) rfl).is rfl rfl
                  have e72 : ac.eval (.tmp 72) = (.agg H4) := (hk ⟨15, .data⟩ (by simp) rfl).is rfl rfl
                  have e76 : ac.eval (.tmp 76) = (.agg H5) := (hk ⟨19, .data⟩ (by simp) rfl).is rfl rfl
                  refine step_value (w' := w) (v := .agg B4) ?_ (Below.refl _ _) rfl
                  exact run_build_14 40 _ rfl [(0, .int .i64 v0), (1, .int .i64 v1), (4, .agg H4), (5, .agg H5)] (by simp [e62, e68, e72, e76]) _ B4 HBU.out rfl
                · intro ac w hb hu hk
                  refine ⟨wanted_none rfl, ?_⟩
                  exact step_alloc_new rfl (HZV.out w) ⟨w.heap.size, rfl, hb.size, Blk.new w ZU _⟩
                · intro ac w' hb hu hk hap
                  obtain ⟨_, h6, ⟨g6, rfl, hg6, hG6⟩⟩ := (hk 21 (by decide)).put rfl rfl
                  obtain ⟨_, h57, rfl⟩ := (hk 0 (by decide)).put rfl rfl
                  obtain ⟨_, h58, rfl⟩ := (hk 1 (by decide)).put rfl rfl
                  obtain ⟨_, h59, rfl⟩ := (hk 2 (by decide)).put rfl rfl
                  obtain ⟨_, h60, rfl⟩ := (hk 3 (by decide)).put rfl rfl
                  obtain ⟨_, h61, rfl⟩ := (hk 4 (by decide)).put rfl rfl
                  obtain ⟨_, h62, rfl⟩ := (hk 5 (by decide)).put rfl rfl
                  obtain ⟨_, h63, rfl⟩ := (hk 6 (by decide)).put rfl rfl
                  obtain ⟨_, h64, rfl⟩ := (hk 7 (by decide)).put rfl rfl
                  obtain ⟨_, h65, rfl⟩ := (hk 8 (by decide)).put rfl rfl
                  obtain ⟨_, h66, rfl⟩ := (hk 9 (by decide)).put rfl rfl
                  obtain ⟨_, h67, rfl⟩ := (hk 10 (by decide)).put rfl rfl
                  obtain ⟨_, h68, rfl⟩ := (hk 11 (by decide)).put rfl rfl
                  obtain ⟨_, h69, rfl⟩ := (hk 12 (by decide)).put rfl rfl
                  obtain ⟨_, h70, rfl⟩ := (hk 13 (by decide)).put rfl rfl
                  obtain ⟨_, h71, rfl⟩ := (hk 14 (by decide)).put rfl rfl
                  obtain ⟨_, h72, rfl⟩ := (hk 15 (by decide)).put rfl rfl
                  obtain ⟨_, h73, rfl⟩ := (hk 16 (by decide)).put rfl rfl
                  obtain ⟨_, h74, rfl⟩ := (hk 17 (by decide)).put rfl rfl
                  obtain ⟨_, h75, rfl⟩ := (hk 18 (by decide)).put rfl rfl
                  obtain ⟨_, h76, rfl⟩ := (hk 19 (by decide)).put rfl rfl
                  obtain ⟨_, h77, rfl⟩ := (hk 20 (by decide)).put rfl rfl
                  clear hap
                  have hF : AllPuts ac.tmps ((6, _) :: (57, _) :: (58, _) :: (59, _) :: (60, _) :: (61, _) :: (62, _) :: (63, _) :: (64, _) :: (65, _) :: (66, _) :: (67, _) :: (68, _) :: (69, _) :: (70, _) :: (71, _) :: (72, _) :: (73, _) :: (74, _) :: (75, _) :: (76, _) :: (77, _) :: []) := ⟨h6, h57, h58, h59, h60, h61, h62, h63, h64, h65, h66, h67, h68, h69, h70, h71, h72, h73, h74, h75, h76, h77, trivial⟩
                  obtain rfl := frame_puts hu (by kernel_rfl) hF
                  simp only [puts, Act.put, List.setIfInBounds_toArray, List.set_cons_zero, List.set_cons_succ, List.drop_succ_cons, List.drop_zero]
                  clear hk hu hF h6 h57 h58 h59 h60 h61 h62 h63 h64 h65 h66 h67 h68 h69 h70 h71 h72 h73 h74 h75 h76 h77
                  have hG6 : Blk w' g6 ZU 40 := hG6
                  have hs5 := hb.size
                  go_upto_region 5 with (with_reducible refine wpList_store_blkTo rfl 40 (.tmp 6) (.tmp 77) rfl rfl g6 B4 rfl rfl 40 ZU hG6 (by rw [HSB.out.1]; kernel_rfl) (by rw [HSB.out.1, HZS.out]) HSB.out.2 ?_)
                  generalize hwn : World.setRow _ _ _ = w8
                  have hal : Below w4.heap.size w4 w8 := by
                    rw [← hwn]
                    exact below_row hb hs5 hg6 _
                  have HF := Lib.hid (show FAt 40 32 w8 g6 ⟨v0, v1, 0, 0, r4, r5⟩ by
                    rw [← hwn]
                    refine ⟨?_, ⟨E4.out, E5.out⟩⟩
                    rw [HB4.out]
                    exact hG6.row _)
                  have HG6 := Lib.hid (show w4.heap.size ≤ g6 from hg6)
                  have HAL := Lib.hid hal
                  have q2 := HC2.out _ hal
                  clear hal hwn hb hg6 hG6 hs5 HD0 HC0 HD1 HC1 HH4 HC4 HH5 HC5
                  obtain ⟨f0, f1, f2, f3⟩ := HF.out.cells
                  have z2 := HF.out.frozen 2
                  clear HBU
                  go_upto_region 6 with ((with_reducible refine (HGE2.out _ HAL.out).mono ?_); rintro e wx ⟨rfl, rfl⟩)
                  have hF2 := HF.out.setC v2
                  have hA2 := HAL.out.setCell (p := ⟨g6, 2, none⟩) HG6.out (.int .i64 v2)
                  generalize w8.setCell ⟨g6, 2, none⟩ (.int .i64 v2) = w9 at *
                  replace HF := Lib.hid hF2
                  replace HAL := Lib.hid hA2
                  clear hF2 hA2 f0 f1 f2 f3 z2
                  have q3 := HC3.out _ HAL.out
                  clear q2
                  obtain ⟨f0, f1, f2, f3⟩ := HF.out.cells
                  have z3 := HF.out.frozen 3
                  go_upto_region 7 with ((with_reducible refine (HGE3.out _ HAL.out).mono ?_); rintro e wx ⟨rfl, rfl⟩)
                  have hF2 := HF.out.setD v3
                  have hA2 := HAL.out.setCell (p := ⟨g6, 3, none⟩) HG6.out (.int .i64 v3)
                  generalize w9.setCell ⟨g6, 3, none⟩ (.int .i64 v3) = w10 at *
                  replace HF := Lib.hid hF2
                  replace HAL := Lib.hid hA2
                  clear hF2 hA2 f0 f1 f2 f3 z3
                  clear q3
                  have HF10 := Lib.hid (show FAt 40 32 w10 g6 R from HR.out ▸ HF.out)
                  replace HB2 := Lib.hid (HB2.out.below (HAL.out.mono (Nat.le_refl _)) HB2.out.lt)
                  have HBT := Lib.hid (HB4W.out.trans (HAL.out.mono HB4W.out.size))
                  clear HB4W HAL HF
                  obtain ⟨f0, f1, f2, f3⟩ := HF10.out.cells
                  rw [HRV.out.1] at f0
                  rw [HRV.out.2.1] at f1
                  rw [HRV.out.2.2.1] at f2
                  rw [HRV.out.2.2.2] at f3
                  by_cases hok : 1 ≤ v0 ∧ v0 ≤ v1 ∧ v1 ≤ 16 ∧ 1 ≤ v2 ∧ v2 ≤ 1024 ∧ v3 = 64
                  · have HYS := Lib.hid (HYES.out hok)
                    obtain ⟨j0, j1, j2, j3, j4, j5⟩ := hok
                    clear HYES HNO
                    go_wp2_with (first
                      | (refine wpList_load_when14 ?_ 40 (.tmp 6) rfl g6 rfl 40 RX _ (by rw [← HRX.out]; exact HF10.out.blk) Tryd.underlying40 rfl (by rw [HSR.out.1]; kernel_rfl) ?_; · rfl)
                      | (with_reducible refine wpList_store_blkTo rfl 40 (.tmp 2) (.tmp 125) rfl rfl g2 RX rfl rfl 40 rs2 HB2.out (by rw [HSR.out.1]; kernel_rfl) (by rw [HSR.out.1, HRZ2.out]) HSR.out.2 ?_))
                    have hs := below_row HBT.out HBT.out.size HG2.out RX
                    refine bodyPost_ret (v := .tuple #[.agg RX, .bool true]) ?_ ?_ ?_
                    · refine (results_cell_tmp14 (p := 2) (q := 3) (ty := 40) (by kernel_rfl) _ _ g2 40 _ (0, 0) _ _ ?_ ?_ (HB2.out.row RX) Tryd.underlying40 rfl (by rw [HSR.out.1]; kernel_rfl))
                      · rfl
                      · rfl
                    · rfl
                    refine ⟨?_, hs⟩
                    rw [HYS.out, ← HRX.out]
                    rfl
                  · have HNU := Lib.hid (HNO.out hok)
                    clear HYES HNO
                    by_cases z0 : 1 ≤ v0
                    · skip
                      by_cases z1 : v0 ≤ v1
                      · skip
                        by_cases z2 : v1 ≤ 16
                        · skip
                          by_cases z3 : 1 ≤ v2
                          · skip
                            by_cases z4 : v2 ≤ 1024
                            · skip
                              by_cases z5 : v3 = 64
                              · skip
                                exact absurd ⟨z0, z1, z2, z3, z4, z5⟩ hok
                              · clear hok
                                have z9 : (v3 != 64) = true := by simp; omega
                                go_upto_if 123 with fail
                                clear z9
                                clear f0 f1 f2 f3 z0 z1 z2 z3 z4 z5
                                go_wp2_with (first
                                  | (refine wpList_build_14 ?_ 40 #[] rfl [] (by simp) ZU _ built_U0 HZE.out ?_; · rfl)
                                  | (with_reducible refine wpList_store_blkTo rfl 40 (.tmp 2) (.tmp 124) rfl rfl g2 ZU rfl rfl 40 rs2 HB2.out (by rw [HZS.out]; kernel_rfl) (by rw [HZS.out, HRZ2.out]) HZO.out ?_))
                                have hs := below_row HBT.out HBT.out.size HG2.out ZU
                                refine bodyPost_ret (v := .tuple #[.agg ZU, .bool false]) ?_ ?_ ?_
                                · refine (results_cell_tmp14 (p := 2) (q := 3) (ty := 40) (by kernel_rfl) _ _ g2 40 _ (0, 0) _ _ ?_ ?_ (HB2.out.row ZU) Tryd.underlying40 rfl (by rw [HZS.out]; kernel_rfl))
                                  · rfl
                                  · rfl
                                · rfl
                                refine ⟨?_, hs⟩
                                rw [HNU.out, ← HZE.out]
                                rfl
                            · clear hok
                              go_upto_if 123 with fail
                              clear f0 f1 f2 f3 z0 z1 z2 z3 z4
                              go_wp2_with (first
                                | (refine wpList_build_14 ?_ 40 #[] rfl [] (by simp) ZU _ built_U0 HZE.out ?_; · rfl)
                                | (with_reducible refine wpList_store_blkTo rfl 40 (.tmp 2) (.tmp 124) rfl rfl g2 ZU rfl rfl 40 rs2 HB2.out (by rw [HZS.out]; kernel_rfl) (by rw [HZS.out, HRZ2.out]) HZO.out ?_))
                              have hs := below_row HBT.out HBT.out.size HG2.out ZU
                              refine bodyPost_ret (v := .tuple #[.agg ZU, .bool false]) ?_ ?_ ?_
                              · refine (results_cell_tmp14 (p := 2) (q := 3) (ty := 40) (by kernel_rfl) _ _ g2 40 _ (0, 0) _ _ ?_ ?_ (HB2.out.row ZU) Tryd.underlying40 rfl (by rw [HZS.out]; kernel_rfl))
                                · rfl
                                · rfl
                              · rfl
                              refine ⟨?_, hs⟩
                              rw [HNU.out, ← HZE.out]
                              rfl
                          · clear hok
                            go_upto_if 123 with fail
                            clear f0 f1 f2 f3 z0 z1 z2 z3
                            go_wp2_with (first
                              | (refine wpList_build_14 ?_ 40 #[] rfl [] (by simp) ZU _ built_U0 HZE.out ?_; · rfl)
                              | (with_reducible refine wpList_store_blkTo rfl 40 (.tmp 2) (.tmp 124) rfl rfl g2 ZU rfl rfl 40 rs2 HB2.out (by rw [HZS.out]; kernel_rfl) (by rw [HZS.out, HRZ2.out]) HZO.out ?_))
                            have hs := below_row HBT.out HBT.out.size HG2.out ZU
                            refine bodyPost_ret (v := .tuple #[.agg ZU, .bool false]) ?_ ?_ ?_
                            · refine (results_cell_tmp14 (p := 2) (q := 3) (ty := 40) (by kernel_rfl) _ _ g2 40 _ (0, 0) _ _ ?_ ?_ (HB2.out.row ZU) Tryd.underlying40 rfl (by rw [HZS.out]; kernel_rfl))
                              · rfl
                              · rfl
                            · rfl
                            refine ⟨?_, hs⟩
                            rw [HNU.out, ← HZE.out]
                            rfl
                        · clear hok
                          go_upto_if 123 with fail
                          clear f0 f1 f2 f3 z0 z1 z2
                          go_wp2_with (first
                            | (refine wpList_build_14 ?_ 40 #[] rfl [] (by simp) ZU _ built_U0 HZE.out ?_; · rfl)
                            | (with_reducible refine wpList_store_blkTo rfl 40 (.tmp 2) (.tmp 124) rfl rfl g2 ZU rfl rfl 40 rs2 HB2.out (by rw [HZS.out]; kernel_rfl) (by rw [HZS.out, HRZ2.out]) HZO.out ?_))
                          have hs := below_row HBT.out HBT.out.size HG2.out ZU
                          refine bodyPost_ret (v := .tuple #[.agg ZU, .bool false]) ?_ ?_ ?_
                          · refine (results_cell_tmp14 (p := 2) (q := 3) (ty := 40) (by kernel_rfl) _ _ g2 40 _ (0, 0) _ _ ?_ ?_ (HB2.out.row ZU) Tryd.underlying40 rfl (by rw [HZS.out]; kernel_rfl))
                            · rfl
                            · rfl
                          · rfl
                          refine ⟨?_, hs⟩
                          rw [HNU.out, ← HZE.out]
                          rfl
                      · clear hok
                        go_upto_if 123 with fail
                        clear f0 f1 f2 f3 z0 z1
                        go_wp2_with (first
                          | (refine wpList_build_14 ?_ 40 #[] rfl [] (by simp) ZU _ built_U0 HZE.out ?_; · rfl)
                          | (with_reducible refine wpList_store_blkTo rfl 40 (.tmp 2) (.tmp 124) rfl rfl g2 ZU rfl rfl 40 rs2 HB2.out (by rw [HZS.out]; kernel_rfl) (by rw [HZS.out, HRZ2.out]) HZO.out ?_))
                        have hs := below_row HBT.out HBT.out.size HG2.out ZU
                        refine bodyPost_ret (v := .tuple #[.agg ZU, .bool false]) ?_ ?_ ?_
                        · refine (results_cell_tmp14 (p := 2) (q := 3) (ty := 40) (by kernel_rfl) _ _ g2 40 _ (0, 0) _ _ ?_ ?_ (HB2.out.row ZU) Tryd.underlying40 rfl (by rw [HZS.out]; kernel_rfl))
                          · rfl
                          · rfl
                        · rfl
                        refine ⟨?_, hs⟩
                        rw [HNU.out, ← HZE.out]
                        rfl
                    · clear hok
                      go_upto_if 123 with fail
                      clear f0 f1 f2 f3 z0
                      go_wp2_with (first
                        | (refine wpList_build_14 ?_ 40 #[] rfl [] (by simp) ZU _ built_U0 HZE.out ?_; · rfl)
                        | (with_reducible refine wpList_store_blkTo rfl 40 (.tmp 2) (.tmp 124) rfl rfl g2 ZU rfl rfl 40 rs2 HB2.out (by rw [HZS.out]; kernel_rfl) (by rw [HZS.out, HRZ2.out]) HZO.out ?_))
                      have hs := below_row HBT.out HBT.out.size HG2.out ZU
                      refine bodyPost_ret (v := .tuple #[.agg ZU, .bool false]) ?_ ?_ ?_
                      · refine (results_cell_tmp14 (p := 2) (q := 3) (ty := 40) (by kernel_rfl) _ _ g2 40 _ (0, 0) _ _ ?_ ?_ (HB2.out.row ZU) Tryd.underlying40 rfl (by rw [HZS.out]; kernel_rfl))
                        · rfl
                        · rfl
                      · rfl
                      refine ⟨?_, hs⟩
                      rw [HNU.out, ← HZE.out]
                      rfl
                
              · have HNU := Lib.hid (HNO.out fun h => e5 h.1.2.2.2.2.2)
                have HBT := HB4W
                obtain ⟨m, hm⟩ : ∃ x, r5.length = x := ⟨_, rfl⟩
                rw [hm] at x5 e5
                have e9 : ((m : Int) != 32) = true := by simp; omega
                clear hm HYES HNO HR HRV HV0 HV1 HV2 HV3 e0 e1 e2 e3 e4 e5 y0 y1 y2 y3 y4 y5
                go_upto_if 55 with fail
                clear e9 x0 x1 x2 x3 x4 x5
                go_wp2_with (first
                  | (refine wpList_build_14 ?_ 40 #[] rfl [] (by simp) ZU _ built_U0 HZE.out ?_; · rfl)
                  | (with_reducible refine wpList_store_blkTo rfl 40 (.tmp 2) (.tmp 56) rfl rfl g2 ZU rfl rfl 40 rs2 HB2.out (by rw [HZS.out]; kernel_rfl) (by rw [HZS.out, HRZ2.out]) HZO.out ?_))
                have hs := below_row HBT.out HBT.out.size HG2.out ZU
                refine bodyPost_ret (v := .tuple #[.agg ZU, .bool false]) ?_ ?_ ?_
                · refine (results_cell_tmp14 (p := 2) (q := 3) (ty := 40) (by kernel_rfl) _ _ g2 40 _ (0, 0) _ _ ?_ ?_ (HB2.out.row ZU) Tryd.underlying40 rfl (by rw [HZS.out]; kernel_rfl))
                  · rfl
                  · rfl
                · rfl
                refine ⟨?_, hs⟩
                rw [HNU.out, ← HZE.out]
                rfl
            · have HNU := Lib.hid (HNO.out fun h => e4 h.1.2.2.2.2.1)
              have HBT := HB4W
              obtain ⟨m, hm⟩ : ∃ x, r4.length = x := ⟨_, rfl⟩
              rw [hm] at x4 e4
              have e9 : ((m : Int) != 32) = true := by simp; omega
              clear hm HYES HNO HR HRV HV0 HV1 HV2 HV3 e0 e1 e2 e3 e4 x5 y0 y1 y2 y3 y4 y5
              go_upto_if 55 with fail
              clear e9 x0 x1 x2 x3 x4
              go_wp2_with (first
                | (refine wpList_build_14 ?_ 40 #[] rfl [] (by simp) ZU _ built_U0 HZE.out ?_; · rfl)
                | (with_reducible refine wpList_store_blkTo rfl 40 (.tmp 2) (.tmp 56) rfl rfl g2 ZU rfl rfl 40 rs2 HB2.out (by rw [HZS.out]; kernel_rfl) (by rw [HZS.out, HRZ2.out]) HZO.out ?_))
              have hs := below_row HBT.out HBT.out.size HG2.out ZU
              refine bodyPost_ret (v := .tuple #[.agg ZU, .bool false]) ?_ ?_ ?_
              · refine (results_cell_tmp14 (p := 2) (q := 3) (ty := 40) (by kernel_rfl) _ _ g2 40 _ (0, 0) _ _ ?_ ?_ (HB2.out.row ZU) Tryd.underlying40 rfl (by rw [HZS.out]; kernel_rfl))
                · rfl
                · rfl
              · rfl
              refine ⟨?_, hs⟩
              rw [HNU.out, ← HZE.out]
              rfl
          · have HNU := Lib.hid (HNO.out fun h => e3 h.1.2.2.2.1)
            have HBT := HB4W
            obtain ⟨m, hm⟩ : ∃ x, r3.length = x := ⟨_, rfl⟩
            rw [hm] at x3 e3
            have e9 : ((m : Int) != 4) = true := by simp; omega
            clear hm HYES HNO HR HRV HV0 HV1 HV2 HV3 e0 e1 e2 e3 x4 x5 y0 y1 y2 y3 y4 y5
            go_upto_if 55 with fail
            clear e9 x0 x1 x2 x3
            go_wp2_with (first
              | (refine wpList_build_14 ?_ 40 #[] rfl [] (by simp) ZU _ built_U0 HZE.out ?_; · rfl)
              | (with_reducible refine wpList_store_blkTo rfl 40 (.tmp 2) (.tmp 56) rfl rfl g2 ZU rfl rfl 40 rs2 HB2.out (by rw [HZS.out]; kernel_rfl) (by rw [HZS.out, HRZ2.out]) HZO.out ?_))
            have hs := below_row HBT.out HBT.out.size HG2.out ZU
            refine bodyPost_ret (v := .tuple #[.agg ZU, .bool false]) ?_ ?_ ?_
            · refine (results_cell_tmp14 (p := 2) (q := 3) (ty := 40) (by kernel_rfl) _ _ g2 40 _ (0, 0) _ _ ?_ ?_ (HB2.out.row ZU) Tryd.underlying40 rfl (by rw [HZS.out]; kernel_rfl))
              · rfl
              · rfl
            · rfl
            refine ⟨?_, hs⟩
            rw [HNU.out, ← HZE.out]
            rfl
        · have HNU := Lib.hid (HNO.out fun h => e2 h.1.2.2.1)
          have HBT := HB4W
          obtain ⟨m, hm⟩ : ∃ x, r2.length = x := ⟨_, rfl⟩
          rw [hm] at x2 e2
          have e9 : ((m : Int) != 4) = true := by simp; omega
          clear hm HYES HNO HR HRV HV0 HV1 HV2 HV3 e0 e1 e2 x3 x4 x5 y0 y1 y2 y3 y4 y5
          go_upto_if 55 with fail
          clear e9 x0 x1 x2
          go_wp2_with (first
            | (refine wpList_build_14 ?_ 40 #[] rfl [] (by simp) ZU _ built_U0 HZE.out ?_; · rfl)
            | (with_reducible refine wpList_store_blkTo rfl 40 (.tmp 2) (.tmp 56) rfl rfl g2 ZU rfl rfl 40 rs2 HB2.out (by rw [HZS.out]; kernel_rfl) (by rw [HZS.out, HRZ2.out]) HZO.out ?_))
          have hs := below_row HBT.out HBT.out.size HG2.out ZU
          refine bodyPost_ret (v := .tuple #[.agg ZU, .bool false]) ?_ ?_ ?_
          · refine (results_cell_tmp14 (p := 2) (q := 3) (ty := 40) (by kernel_rfl) _ _ g2 40 _ (0, 0) _ _ ?_ ?_ (HB2.out.row ZU) Tryd.underlying40 rfl (by rw [HZS.out]; kernel_rfl))
            · rfl
            · rfl
          · rfl
          refine ⟨?_, hs⟩
          rw [HNU.out, ← HZE.out]
          rfl
      · have HNU := Lib.hid (HNO.out fun h => e1 h.1.2.1)
        have HBT := HB4W
        obtain ⟨m, hm⟩ : ∃ x, r1.length = x := ⟨_, rfl⟩
        rw [hm] at x1 e1
        have e9 : ((m : Int) != 1) = true := by simp; omega
        clear hm HYES HNO HR HRV HV0 HV1 HV2 HV3 e0 e1 x2 x3 x4 x5 y0 y1 y2 y3 y4 y5
        go_upto_if 55 with fail
        clear e9 x0 x1
        go_wp2_with (first
          | (refine wpList_build_14 ?_ 40 #[] rfl [] (by simp) ZU _ built_U0 HZE.out ?_; · rfl)
          | (with_reducible refine wpList_store_blkTo rfl 40 (.tmp 2) (.tmp 56) rfl rfl g2 ZU rfl rfl 40 rs2 HB2.out (by rw [HZS.out]; kernel_rfl) (by rw [HZS.out, HRZ2.out]) HZO.out ?_))
        have hs := below_row HBT.out HBT.out.size HG2.out ZU
        refine bodyPost_ret (v := .tuple #[.agg ZU, .bool false]) ?_ ?_ ?_
        · refine (results_cell_tmp14 (p := 2) (q := 3) (ty := 40) (by kernel_rfl) _ _ g2 40 _ (0, 0) _ _ ?_ ?_ (HB2.out.row ZU) Tryd.underlying40 rfl (by rw [HZS.out]; kernel_rfl))
          · rfl
          · rfl
        · rfl
        refine ⟨?_, hs⟩
        rw [HNU.out, ← HZE.out]
        rfl
    · have HNU := Lib.hid (HNO.out fun h => e0 h.1.1)
      have HBT := HB4W
      obtain ⟨m, hm⟩ : ∃ x, r0.length = x := ⟨_, rfl⟩
      rw [hm] at x0 e0
      have e9 : ((m : Int) != 1) = true := by simp; omega
      clear hm HYES HNO HR HRV HV0 HV1 HV2 HV3 e0 x1 x2 x3 x4 x5 y0 y1 y2 y3 y4 y5
      go_upto_if 55 with fail
      clear e9 x0
      go_wp2_with (first
        | (refine wpList_build_14 ?_ 40 #[] rfl [] (by simp) ZU _ built_U0 HZE.out ?_; · rfl)
        | (with_reducible refine wpList_store_blkTo rfl 40 (.tmp 2) (.tmp 56) rfl rfl g2 ZU rfl rfl 40 rs2 HB2.out (by rw [HZS.out]; kernel_rfl) (by rw [HZS.out, HRZ2.out]) HZO.out ?_))
      have hs := below_row HBT.out HBT.out.size HG2.out ZU
      refine bodyPost_ret (v := .tuple #[.agg ZU, .bool false]) ?_ ?_ ?_
      · refine (results_cell_tmp14 (p := 2) (q := 3) (ty := 40) (by kernel_rfl) _ _ g2 40 _ (0, 0) _ _ ?_ ?_ (HB2.out.row ZU) Tryd.underlying40 rfl (by rw [HZS.out]; kernel_rfl))
        · rfl
        · rfl
      · rfl
      refine ⟨?_, hs⟩
      rw [HNU.out, ← HZE.out]
      rfl

end Go.Proofs.YtobealijkbnojaaDoor
