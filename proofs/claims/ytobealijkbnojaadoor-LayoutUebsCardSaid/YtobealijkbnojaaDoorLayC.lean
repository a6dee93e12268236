/- The program's layouts out of bytes. -/
import Derived.Test.YtobealijkbnojaaDoorLayB
import Derived.Test.YtobealijkbnojaaDoorLayP
import Derived.Test.YtobealijkbnojaaDoorFreeL
namespace Go.Proofs.YtobealijkbnojaaDoor
open Go.RowKit
set_option maxRecDepth 100000

set_option maxHeartbeats 16000000 in
theorem punpackU_any {w : World} {A : Option Addr} {n c : Nat} {l : List UInt8} (hl : l.length = n) (hnc : n ≤ c) (h1 : n ≤ 1000) (ha : Rd w w.heap.size A l) (htab : Pow10 w.heap.size w) :
    Calls Tryd.prog 12 #[.slice A n c] w fun e w' => e = .returned (.tuple #[.agg (f14A ((unU l).getD (zero14 32))), .bool (unU l).isSome]) ∧ Below w.heap.size w w' := by
  obtain ⟨ZU, hZU⟩ : ∃ x, f14A (zero14 32) = x := ⟨_, rfl⟩
  have HZE := Lib.hid hZU
  have HZS := Lib.hid (show ZU.size = 68 by rw [← hZU]; exact f14A_size (zero14_wf 32))
  have HZO := Lib.hid (show ZU.all (·.oneCell') = true by rw [← hZU]; exact f14A_one _)
  have HZV := Lib.hid (fun W => (zero_U W).trans (by rw [hZU]))
  have HT0 := Lib.hid (fun (W : World) (hW : Below w.heap.size w W) => takeNets_any A n c 6 l W hl hnc (by omega) (by omega) (ha.on hW))
  rcases takes_six l with hT | ⟨r0, r1, r2, r3, r4, r5, hT, hN⟩
  · have hu : unU l = none := by unfold unU un14; rw [hT]
    have HT1 := Lib.hid (fun (W : World) (hW : Below w.heap.size w W) => (show Calls Tryd.prog 42 #[.slice A n c, .int .i64 6] W fun e w' => ∃ A1 c1, e = .returned (.tuple #[.slice A1 0 c1, .bool false]) ∧ Below W.heap.size W w' from by
      have h := HT0.out W hW
      rw [hT] at h
      exact h.mono fun e w' ⟨A1, c1, he, _, _, hb⟩ => ⟨A1, c1, he, hb⟩))
    rw [hu]
    change Calls Tryd.prog 12 #[.slice A n c] w fun e w' => e = .returned (.tuple #[.agg (f14A (zero14 32)), .bool false]) ∧ Below w.heap.size w w'
    rw [hZU]
    clear hu hT HT0 hZU ha htab
    go_enter Tryd.func12, Tryd.ntmps12
    go_upto_region 1 with fail
    generalize hw1 : World.alloc _ _ = w3
    obtain ⟨g2, hg2⟩ : ∃ g, w.heap.size = g := ⟨_, rfl⟩
    have hf : (∃ rs, Blk w3 g2 rs 40 ∧ rs.size = 68) ∧ Below w.heap.size w w3 := by
      obtain ⟨Y2, hw, hY2⟩ : ∃ Y2, w3 = (w.alloc (.cells Y2 40)) ∧ Y2.size = 68 := ⟨_, hw1.symm, rfl⟩
      rw [hw, ← hg2]
      exact ⟨⟨Y2, by exact Blk.new _ _ _, hY2⟩, ((Below.refl _ _).alloc (Nat.le_refl _) _)⟩
    obtain ⟨rs2, hrs2, hrz2⟩ := hf.1
    have HB2 := Lib.hid hrs2
    have HRZ2 := Lib.hid hrz2
    have HBW := Lib.hid hf.2
    have HG2 := Lib.hid (show w.heap.size ≤ g2 by omega)
    clear hf hw1 hrs2 hrz2
    rw [hg2]
    clear hg2
    go_wp2_with (first
      | ((with_reducible refine (HT1.out _ HBW.out).mono ?_); rintro e w4 ⟨A1, c1, rfl, hb4⟩; have HB4 := Lib.hid (HB2.out.below hb4 HB2.out.lt); have HB4W := Lib.hid (HBW.out.trans (hb4.mono HBW.out.size)); clear hb4)
      | (refine wpList_build_14 ?_ 40 #[] rfl [] (by simp) ZU _ built_U0 HZE.out ?_; · rfl)
      | (with_reducible refine wpList_store_blkTo rfl 40 (.tmp 2) (.tmp 15) rfl rfl g2 ZU rfl rfl 40 rs2 HB4.out (by rw [HZS.out]; kernel_rfl) (by rw [HZS.out, HRZ2.out]) HZO.out ?_))
    have hs := below_row HB4W.out HB4W.out.size HG2.out ZU
    refine bodyPost_ret (v := .tuple #[.agg ZU, .bool false]) ?_ ?_ ?_
    · refine (results_cell_tmp14 (p := 2) (q := 3) (ty := 40) (by kernel_rfl) _ _ g2 40 _ (0, 0) _ _ ?_ ?_ (HB4.out.row ZU) Tryd.underlying40 rfl (by rw [HZS.out]; kernel_rfl))
      · rfl
      · rfl
    · rfl
    refine ⟨?_, hs⟩
    rfl
  · have hrl : ∀ r ∈ [r0, r1, r2, r3, r4, r5], r.length ≤ 1000 := fun r hr => by
      have := nets_le _ r hr
      rw [hN, hl] at this
      omega
    obtain ⟨R, hR⟩ : ∃ x, of14 32 r0 r1 r2 r3 r4 r5 = x := ⟨_, rfl⟩
    have hsel : unU l = if fit14 wsU 32 r0 r1 r2 r3 r4 r5 ∧ okU R then some R else none := by
      unfold unU un14
      rw [hT]
      simp only
      rw [hR]
    have hpk : packU R = l ↔ fit14 wsU 32 r0 r1 r2 r3 r4 r5 := by
      rw [← hN, ← hR]
      exact fit14_iff (by decide) (by omega) hrl
    have hyes : packU R = l → okU R → unU l = some R := fun h1 h2 => by rw [hsel, if_pos ⟨hpk.1 h1, h2⟩]
    have hno : ¬ (packU R = l ∧ okU R) → unU l = none := fun h => by rw [hsel, if_neg (fun h3 => h ⟨hpk.2 h3.1, h3.2⟩)]
    have HT1 := Lib.hid (fun (W : World) (hW : Below w.heap.size w W) => (show Calls Tryd.prog 42 #[.slice A n c, .int .i64 6] W fun e w' => ∃ A1 c1, e = .returned (.tuple #[.slice A1 6 c1, .bool true]) ∧ 6 ≤ c1 ∧ RdR w' w'.heap.size A1 [r0, r1, r2, r3, r4, r5] ∧ Below W.heap.size W w' from by
      have h := HT0.out W hW
      rw [hT] at h
      exact h))
    have hrw : R.wf 32 := by rw [← hR]; exact ⟨pad14_len _ _, pad14_len _ _⟩
    have hrb : R.bd := by
      rw [← hR]
      have h0 := get14_lt r0
      have h1 := get14_lt r1
      have h2 := get14_lt r2
      have h3 := get14_lt r3
      unfold F14.bd of14
      dsimp only
      omega
    obtain ⟨v0, hv0⟩ : ∃ x, (get14 r0 : Int) = x := ⟨_, rfl⟩
    obtain ⟨v1, hv1⟩ : ∃ x, (get14 r1 : Int) = x := ⟨_, rfl⟩
    obtain ⟨v2, hv2⟩ : ∃ x, (get14 r2 : Int) = x := ⟨_, rfl⟩
    obtain ⟨v3, hv3⟩ : ∃ x, (get14 r3 : Int) = x := ⟨_, rfl⟩
    have HRV := Lib.hid (show R.a = v0 ∧ R.b = v1 ∧ R.c = v2 ∧ R.d = v3 by rw [← hR, ← hv0, ← hv1, ← hv2, ← hv3]; exact ⟨rfl, rfl, rfl, rfl⟩)
    have HR := Lib.hid (show (⟨v0, v1, v2, v3, pad14 32 r4, pad14 32 r5⟩ : F14) = R by rw [← hR, ← hv0, ← hv1, ← hv2, ← hv3]; rfl)
    obtain ⟨RX, hRX⟩ : ∃ x, f14A R = x := ⟨_, rfl⟩
    have HSR := Lib.hid (show RX.size = 68 ∧ RX.all (·.oneCell') = true by rw [← hRX]; exact ⟨f14A_size hrw, f14A_one _⟩)
    obtain ⟨PL, hPL⟩ : ∃ x, packU R = x := ⟨_, rfl⟩
    rw [hPL] at hyes hno
    have hokl : okU R ↔ (1 ≤ v0 ∧ v0 ≤ v1 ∧ v1 ≤ 16) ∧ 1 ≤ v2 ∧ v2 ≤ 1024 ∧ v3 = 64 := by
      unfold okU
      rw [HRV.out.1, HRV.out.2.1, HRV.out.2.2.1, HRV.out.2.2.2]
      omega
    rw [hokl] at hyes hno
    obtain ⟨B4, hB4⟩ : ∃ x, f14A ⟨v0, v1, v2, v3, List.replicate 32 0, List.replicate 32 0⟩ = x := ⟨_, rfl⟩
    have HSB := Lib.hid (show B4.size = 68 ∧ B4.all (·.oneCell') = true by rw [← hB4]; exact ⟨f14A_size (p := 32) ⟨List.length_replicate, List.length_replicate⟩, f14A_one _⟩)
    have HB4 := Lib.hid hB4
    have HRX := Lib.hid hRX
    have HPL := Lib.hid hPL
    have HRW := Lib.hid hrw
    have HRB := Lib.hid hrb
    have HRL := Lib.hid hrl
    have HYES := Lib.hid hyes
    have HNO := Lib.hid hno
    have HL := Lib.hid hl
    have HA := Lib.hid (fun (W : World) (hW : Below w.heap.size w W) => ha.on hW)
    have HTAB := Lib.hid (fun (W : World) (hW : Below w.heap.size w W) => tab_on htab hW hW.size)
    have HV0 := Lib.hid hv0
    have HV1 := Lib.hid hv1
    have HV2 := Lib.hid hv2
    have HV3 := Lib.hid hv3
    have HIC := Lib.hid (fun W => piscode_any v0 v1 W)
    clear hT HT0 hZU ha htab hN hrl hR hsel hpk hyes hno hokl hrw hrb hv0 hv1 hv2 hv3 hRX hPL hB4 hl
    go_enter Tryd.func12, Tryd.ntmps12
    go_upto_region 1 with fail
    generalize hw1 : World.alloc _ _ = w3
    obtain ⟨g2, hg2⟩ : ∃ g, w.heap.size = g := ⟨_, rfl⟩
    have hf : (∃ rs, Blk w3 g2 rs 40 ∧ rs.size = 68) ∧ Below w.heap.size w w3 := by
      obtain ⟨Y2, hw, hY2⟩ : ∃ Y2, w3 = (w.alloc (.cells Y2 40)) ∧ Y2.size = 68 := ⟨_, hw1.symm, rfl⟩
      rw [hw, ← hg2]
      exact ⟨⟨Y2, by exact Blk.new _ _ _, hY2⟩, ((Below.refl _ _).alloc (Nat.le_refl _) _)⟩
    obtain ⟨rs2, hrs2, hrz2⟩ := hf.1
    have HB2 := Lib.hid hrs2
    have HRZ2 := Lib.hid hrz2
    have HBW := Lib.hid hf.2
    have HG2 := Lib.hid (show w.heap.size ≤ g2 by omega)
    clear hf hw1 hrs2 hrz2
    rw [hg2]
    clear hg2
    go_upto_region 4 with ((with_reducible refine (HT1.out _ HBW.out).mono ?_); rintro e w4 ⟨A1, c1, rfl, hc1, hr1, hb4⟩)
    obtain ⟨g, o, A0, A1, A2, A3, A4, A5, k0, k1, k2, k3, k4, k5, rfl, hg, ⟨x0, x1, x2, x3, x4, x5⟩, y0, y1, y2, y3, y4, y5⟩ := six_of hr1
    replace HB2 := Lib.hid (HB2.out.below hb4 HB2.out.lt)
    have HB4W := Lib.hid (HBW.out.trans (hb4.mono HBW.out.size))
    clear hb4 HBW HT1 hr1
    obtain ⟨m0, hm0⟩ : ∃ x, r0.length = x := ⟨_, rfl⟩
    obtain ⟨m1, hm1⟩ : ∃ x, r1.length = x := ⟨_, rfl⟩
    obtain ⟨m2, hm2⟩ : ∃ x, r2.length = x := ⟨_, rfl⟩
    obtain ⟨m3, hm3⟩ : ∃ x, r3.length = x := ⟨_, rfl⟩
    obtain ⟨m4, hm4⟩ : ∃ x, r4.length = x := ⟨_, rfl⟩
    obtain ⟨m5, hm5⟩ : ∃ x, r5.length = x := ⟨_, rfl⟩
    rw [hm0] at x0 y0
    rw [hm1] at x1 y1
    rw [hm2] at x2 y2
    rw [hm3] at x3 y3
    rw [hm4] at x4 y4
    rw [hm5] at x5 y5
    have HY := Lib.hid (show True ∧ r4.length = m4 ∧ r5.length = m5 from ⟨trivial, hm4, hm5⟩)
    have HC0 := Lib.hid (fun (W : World) (h : Below w4.heap.size w4 W) => (h.cell (p := ⟨g, o, none⟩) hg).trans x0)
    have HC1 := Lib.hid (fun (W : World) (h : Below w4.heap.size w4 W) => (h.cell (p := ⟨g, o + 1, none⟩) hg).trans x1)
    have HC2 := Lib.hid (fun (W : World) (h : Below w4.heap.size w4 W) => (h.cell (p := ⟨g, o + 2, none⟩) hg).trans x2)
    have HC3 := Lib.hid (fun (W : World) (h : Below w4.heap.size w4 W) => (h.cell (p := ⟨g, o + 3, none⟩) hg).trans x3)
    have HC4 := Lib.hid (fun (W : World) (h : Below w4.heap.size w4 W) => (h.cell (p := ⟨g, o + 4, none⟩) hg).trans x4)
    have HC5 := Lib.hid (fun (W : World) (h : Below w4.heap.size w4 W) => (h.cell (p := ⟨g, o + 5, none⟩) hg).trans x5)
    have HN0 := Lib.hid (fun (W : World) (h : Below w4.heap.size w4 W) => (show Calls Tryd.prog 43 #[.slice A0 m0 k0] W fun e w' => e = .returned (.int .i64 v0) ∧ Below W.heap.size W w' from by
      have h2 := pnumber_any A0 m0 k0 W.heap.size r0 W y0.len (Nat.le_trans y0.room y0.max) (y0.on h).rd
      rw [HV0.out] at h2
      exact h2.mono fun e w' ⟨he, hq⟩ => ⟨he, hq ▸ Below.refl _ _⟩))
    have HN1 := Lib.hid (fun (W : World) (h : Below w4.heap.size w4 W) => (show Calls Tryd.prog 43 #[.slice A1 m1 k1] W fun e w' => e = .returned (.int .i64 v1) ∧ Below W.heap.size W w' from by
      have h2 := pnumber_any A1 m1 k1 W.heap.size r1 W y1.len (Nat.le_trans y1.room y1.max) (y1.on h).rd
      rw [HV1.out] at h2
      exact h2.mono fun e w' ⟨he, hq⟩ => ⟨he, hq ▸ Below.refl _ _⟩))
    have HN2 := Lib.hid (fun (W : World) (h : Below w4.heap.size w4 W) => (show Calls Tryd.prog 43 #[.slice A2 m2 k2] W fun e w' => e = .returned (.int .i64 v2) ∧ Below W.heap.size W w' from by
      have h2 := pnumber_any A2 m2 k2 W.heap.size r2 W y2.len (Nat.le_trans y2.room y2.max) (y2.on h).rd
      rw [HV2.out] at h2
      exact h2.mono fun e w' ⟨he, hq⟩ => ⟨he, hq ▸ Below.refl _ _⟩))
    have HN3 := Lib.hid (fun (W : World) (h : Below w4.heap.size w4 W) => (show Calls Tryd.prog 43 #[.slice A3 m3 k3] W fun e w' => e = .returned (.int .i64 v3) ∧ Below W.heap.size W w' from by
      have h2 := pnumber_any A3 m3 k3 W.heap.size r3 W y3.len (Nat.le_trans y3.room y3.max) (y3.on h).rd
      rw [HV3.out] at h2
      exact h2.mono fun e w' ⟨he, hq⟩ => ⟨he, hq ▸ Below.refl _ _⟩))
    have HRD4 := Lib.hid (fun (W : World) (h : Below w4.heap.size w4 W) => (y4.on h).rd)
    have HRD5 := Lib.hid (fun (W : World) (h : Below w4.heap.size w4 W) => (y5.on h).rd)
    clear x0 x1 x2 x3 x4 x5 y0 y1 y2 y3 y4 y5 hm0 hm1 hm2 hm3 hm4 hm5 HV0 HV1 HV2 HV3
    refine wp_region_loose 18 1 (fun i => Nat.beq i 17) (promises [.is (.slice (some ⟨g, o, none⟩) 6 c1), .is (.pointer (some ⟨g, o, none⟩)), .is (.slice A0 m0 k0), .is (.int .i64 v0), .is (.slice (some ⟨g, o, none⟩) 6 c1), .is (.pointer (some ⟨g, o + 1, none⟩)), .is (.slice A1 m1 k1), .is (.int .i64 v1), .is (.slice (some ⟨g, o, none⟩) 6 c1), .is (.pointer (some ⟨g, o + 2, none⟩)), .is (.slice A2 m2 k2), .is (.int .i64 v2), .is (.slice (some ⟨g, o, none⟩) 6 c1), .is (.pointer (some ⟨g, o + 3, none⟩)), .is (.slice A3 m3 k3), .is (.int .i64 v3), .is (.agg B4), .blk w4.heap.size ZU 40]) (by kernel_rfl) rfl (by kernel_rfl) (fun i v w w' h hb => Spec.keep h hb) ⟨?_, ?_, ?_, ?_, ?_, ?_, ?_, ?_, ?_, ?_, ?_, ?_, ?_, ?_, ?_, ?_, ?_, ?_, trivial⟩ ?_
    · refine StepOKl.of ?_
      intro ac w hb hu hk
      refine ⟨wanted_none rfl, ?_⟩
      have e4 : ac.eval (.tmp 4) = .slice (some ⟨g, o, none⟩) 6 c1 := hu.is (t := 4) (by kernel_rfl)
      exact step_value (BigFrame.run_move (.tmp 4) rfl w) (Below.refl _ _) e4
    · refine StepOKl.of ?_
      intro ac w hb hu hk
      refine ⟨wanted_none rfl, ?_⟩
      have e16 : ac.eval (.tmp 16) = (.slice (some ⟨g, o, none⟩) 6 c1) := (hk ⟨0, .data⟩ (by simp) rfl).is rfl rfl
      refine step_value (w' := w) (v := (.pointer (some ⟨g, o, none⟩))) ?_ (Below.refl _ _) rfl
      have ec0 : ac.eval (.const (Value.int IntKind.i64 0)) = Value.int IntKind.i64 0 := rfl
      generalize ac.eval = ρ at e16 ec0 ⊢
      go_simp
    · refine StepOKl.of ?_
      intro ac w hb hu hk
      refine ⟨wanted_none rfl, ?_⟩
      have e17 : ac.eval (.tmp 17) = (.pointer (some ⟨g, o, none⟩)) := (hk ⟨1, .data⟩ (by simp) rfl).is rfl rfl
      have hc := HC0.out w hb
      refine step_value (w' := w) (v := .slice A0 m0 k0) ?_ (Below.refl _ _) rfl
      generalize ac.eval = ρ at e17 ⊢
      go_simp
    · refine StepOKl.of ?_
      intro ac w hb hu hk
      refine ⟨wanted_none rfl, ?_⟩
      have e18 : ac.eval (.tmp 18) = (.slice A0 m0 k0) := (hk ⟨2, .data⟩ (by simp) rfl).is rfl rfl
      have ef : ac.eval (.func 43) = .func (.func 43) #[] #[] := rfl
      refine step_enter (f := 43) (args := #[.slice A0 m0 k0]) ?_ ?_
      · generalize ac.eval = ρ at e18 ef ⊢
        go_simp
      · exact (HN0.out w hb).mono fun e w' ⟨he, hq⟩ => ⟨_, he, rfl, hq⟩
    · refine StepOKl.of ?_
      intro ac w hb hu hk
      refine ⟨wanted_none rfl, ?_⟩
      have e4 : ac.eval (.tmp 4) = .slice (some ⟨g, o, none⟩) 6 c1 := hu.is (t := 4) (by kernel_rfl)
      exact step_value (BigFrame.run_move (.tmp 4) rfl w) (Below.refl _ _) e4
    · refine StepOKl.of ?_
      intro ac w hb hu hk
      refine ⟨wanted_none rfl, ?_⟩
      have e20 : ac.eval (.tmp 20) = (.slice (some ⟨g, o, none⟩) 6 c1) := (hk ⟨4, .data⟩ (by simp) rfl).is rfl rfl
      refine step_value (w' := w) (v := (.pointer (some ⟨g, o + 1, none⟩))) ?_ (Below.refl _ _) rfl
      have ec0 : ac.eval (.const (Value.int IntKind.i64 1)) = Value.int IntKind.i64 1 := rfl
      generalize ac.eval = ρ at e20 ec0 ⊢
      go_simp
    · refine StepOKl.of ?_
      intro ac w hb hu hk
      refine ⟨wanted_none rfl, ?_⟩
      have e21 : ac.eval (.tmp 21) = (.pointer (some ⟨g, o + 1, none⟩)) := (hk ⟨5, .data⟩ (by simp) rfl).is rfl rfl
      have hc := HC1.out w hb
      refine step_value (w' := w) (v := .slice A1 m1 k1) ?_ (Below.refl _ _) rfl
      generalize ac.eval = ρ at e21 ⊢
      go_simp
    · refine StepOKl.of ?_
      intro ac w hb hu hk
      refine ⟨wanted_none rfl, ?_⟩
      have e22 : ac.eval (.tmp 22) = (.slice A1 m1 k1) := (hk ⟨6, .data⟩ (by simp) rfl).is rfl rfl
      have ef : ac.eval (.func 43) = .func (.func 43) #[] #[] := rfl
      refine step_enter (f := 43) (args := #[.slice A1 m1 k1]) ?_ ?_
      · generalize ac.eval = ρ at e22 ef ⊢
        go_simp
      · exact (HN1.out w hb).mono fun e w' ⟨he, hq⟩ => ⟨_, he, rfl, hq⟩
    · refine StepOKl.of ?_
      intro ac w hb hu hk
      refine ⟨wanted_none rfl, ?_⟩
      have e4 : ac.eval (.tmp 4) = .slice (some ⟨g, o, none⟩) 6 c1 := hu.is (t := 4) (by kernel_rfl)
      exact step_value (BigFrame.run_move (.tmp 4) rfl w) (Below.refl _ _) e4
    · refine StepOKl.of ?_
      intro ac w hb hu hk
      refine ⟨wanted_none rfl, ?_⟩
      have e24 : ac.eval (.tmp 24) = (.slice (some ⟨g, o, none⟩) 6 c1) := (hk ⟨8, .data⟩ (by simp) rfl).is rfl rfl
      refine step_value (w' := w) (v := (.pointer (some ⟨g, o + 2, none⟩))) ?_ (Below.refl _ _) rfl
      have ec0 : ac.eval (.const (Value.int IntKind.i64 2)) = Value.int IntKind.i64 2 := rfl
      generalize ac.eval = ρ at e24 ec0 ⊢
      go_simp
    · refine StepOKl.of ?_
      intro ac w hb hu hk
      refine ⟨wanted_none rfl, ?_⟩
      have e25 : ac.eval (.tmp 25) = (.pointer (some ⟨g, o + 2, none⟩)) := (hk ⟨9, .data⟩ (by simp) rfl).is rfl rfl
      have hc := HC2.out w hb
      refine step_value (w' := w) (v := .slice A2 m2 k2) ?_ (Below.refl _ _) rfl
      generalize ac.eval = ρ at e25 ⊢
      go_simp
    · refine StepOKl.of ?_
      intro ac w hb hu hk
      refine ⟨wanted_none rfl, ?_⟩
      have e26 : ac.eval (.tmp 26) = (.slice A2 m2 k2) := (hk ⟨10, .data⟩ (by simp) rfl).is rfl rfl
      have ef : ac.eval (.func 43) = .func (.func 43) #[] #[] := rfl
      refine step_enter (f := 43) (args := #[.slice A2 m2 k2]) ?_ ?_
      · generalize ac.eval = ρ at e26 ef ⊢
        go_simp
      · exact (HN2.out w hb).mono fun e w' ⟨he, hq⟩ => ⟨_, he, rfl, hq⟩
    · refine StepOKl.of ?_
      intro ac w hb hu hk
      refine ⟨wanted_none rfl, ?_⟩
      have e4 : ac.eval (.tmp 4) = .slice (some ⟨g, o, none⟩) 6 c1 := hu.is (t := 4) (by kernel_rfl)
      exact step_value (BigFrame.run_move (.tmp 4) rfl w) (Below.refl _ _) e4
    · refine StepOKl.of ?_
      intro ac w hb hu hk
      refine ⟨wanted_none rfl, ?_⟩
      have e28 : ac.eval (.tmp 28) = (.slice (some ⟨g, o, none⟩) 6 c1) := (hk ⟨12, .data⟩ (by simp) rfl).is rfl rfl
      refine step_value (w' := w) (v := (.pointer (some ⟨g, o + 3, none⟩))) ?_ (Below.refl _ _) rfl
      have ec0 : ac.eval (.const (Value.int IntKind.i64 3)) = Value.int IntKind.i64 3 := rfl
      generalize ac.eval = ρ at e28 ec0 ⊢
      go_simp
    · refine StepOKl.of ?_
      intro ac w hb hu hk
      refine ⟨wanted_none rfl, ?_⟩
      have e29 : ac.eval (.tmp 29) = (.pointer (some ⟨g, o + 3, none⟩)) := (hk ⟨13, .data⟩ (by simp) rfl).is rfl rfl
      have hc := HC3.out w hb
      refine step_value (w' := w) (v := .slice A3 m3 k3) ?_ (Below.refl _ _) rfl
      generalize ac.eval = ρ at e29 ⊢
      go_simp
    · refine StepOKl.of ?_
      intro ac w hb hu hk
      refine ⟨wanted_none rfl, ?_⟩
      have e30 : ac.eval (.tmp 30) = (.slice A3 m3 k3) := (hk ⟨14, .data⟩ (by simp) rfl).is rfl rfl
      have ef : ac.eval (.func 43) = .func (.func 43) #[] #[] := rfl
      refine step_enter (f := 43) (args := #[.slice A3 m3 k3]) ?_ ?_
      · generalize ac.eval = ρ at e30 ef ⊢
        go_simp
      · exact (HN3.out w hb).mono fun e w' ⟨he, hq⟩ => ⟨_, he, rfl, hq⟩
    · refine StepOKl.of ?_
      intro ac w hb hu hk
      refine ⟨wanted_none rfl, ?_⟩
      have e19 : ac.eval (.tmp 19) = (.int .i64 v0) := (hk ⟨3, .data⟩ (by simp) rfl).is rfl rfl
      have e23 : ac.eval (.tmp 23) = (.int .i64 v1) := (hk ⟨7, .data⟩ (by simp) rfl).is rfl rfl
      have e27 : ac.eval (.tmp 27) = (.int .i64 v2) := (hk ⟨11, .data⟩ (by simp) rfl).is rfl rfl
      have e31 : ac.eval (.tmp 31) = (.int .i64 v3) := (hk ⟨15, .data⟩ (by simp) rfl).is rfl rfl
      refine step_value (w' := w) (v := .agg B4) ?_ (Below.refl _ _) rfl
      exact run_build_14 40 _ rfl [(0, .int .i64 v0), (1, .int .i64 v1), (2, .int .i64 v2), (3, .int .i64 v3)] (by simp [e19, e23, e27, e31]) _ B4 (built_U4 v0 v1 v2 v3) HB4.out
    · intro ac w hb hu hk
      refine ⟨wanted_none rfl, ?_⟩
      exact step_alloc_new rfl (HZV.out w) ⟨w.heap.size, rfl, hb.size, Blk.new w ZU _⟩
    · intro ac w' hb hu hk hap
      obtain ⟨_, h6, ⟨g6, rfl, hg6, hG6⟩⟩ := (hk 17 (by decide)).put rfl rfl
      obtain ⟨_, h16, rfl⟩ := (hk 0 (by decide)).put rfl rfl
      obtain ⟨_, h17, rfl⟩ := (hk 1 (by decide)).put rfl rfl
      obtain ⟨_, h18, rfl⟩ := (hk 2 (by decide)).put rfl rfl
      obtain ⟨_, h19, rfl⟩ := (hk 3 (by decide)).put rfl rfl
      obtain ⟨_, h20, rfl⟩ := (hk 4 (by decide)).put rfl rfl
      obtain ⟨_, h21, rfl⟩ := (hk 5 (by decide)).put rfl rfl
      obtain ⟨_, h22, rfl⟩ := (hk 6 (by decide)).put rfl rfl
      obtain ⟨_, h23, rfl⟩ := (hk 7 (by decide)).put rfl rfl
      obtain ⟨_, h24, rfl⟩ := (hk 8 (by decide)).put rfl rfl
      obtain ⟨_, h25, rfl⟩ := (hk 9 (by decide)).put rfl rfl
      obtain ⟨_, h26, rfl⟩ := (hk 10 (by decide)).put rfl rfl
      obtain ⟨_, h27, rfl⟩ := (hk 11 (by decide)).put rfl rfl
      obtain ⟨_, h28, rfl⟩ := (hk 12 (by decide)).put rfl rfl
      obtain ⟨_, h29, rfl⟩ := (hk 13 (by decide)).put rfl rfl
      obtain ⟨_, h30, rfl⟩ := (hk 14 (by decide)).put rfl rfl
      obtain ⟨_, h31, rfl⟩ := (hk 15 (by decide)).put rfl rfl
      obtain ⟨_, h32, rfl⟩ := (hk 16 (by decide)).put rfl rfl
      clear hap
      have hF : AllPuts ac.tmps ((6, _) :: (16, _) :: (17, _) :: (18, _) :: (19, _) :: (20, _) :: (21, _) :: (22, _) :: (23, _) :: (24, _) :: (25, _) :: (26, _) :: (27, _) :: (28, _) :: (29, _) :: (30, _) :: (31, _) :: (32, _) :: []) := ⟨h6, h16, h17, h18, h19, h20, h21, h22, h23, h24, h25, h26, h27, h28, h29, h30, h31, h32, trivial⟩
      obtain rfl := frame_puts hu (by kernel_rfl) hF
      simp only [puts, Act.put, List.setIfInBounds_toArray, List.set_cons_zero, List.set_cons_succ, List.drop_succ_cons, List.drop_zero]
      clear hk hu hF h6 h16 h17 h18 h19 h20 h21 h22 h23 h24 h25 h26 h27 h28 h29 h30 h31 h32
      have hG6 : Blk w' g6 ZU 40 := hG6
      have hs5 := hb.size
      go_upto_region 5 with (with_reducible refine wpList_store_blkTo rfl 40 (.tmp 6) (.tmp 32) rfl rfl g6 B4 rfl rfl 40 ZU hG6 (by rw [HSB.out.1]; kernel_rfl) (by rw [HSB.out.1, HZS.out]) HSB.out.2 ?_)
      generalize hwn : World.setRow _ _ _ = w8
      have hal : Below w4.heap.size w4 w8 := by
        rw [← hwn]
        exact below_row hb hs5 hg6 _
      have HF8 := Lib.hid (show FAt 40 32 w8 g6 ⟨v0, v1, v2, v3, List.replicate 32 0, List.replicate 32 0⟩ by
        rw [← hwn]
        refine ⟨?_, ⟨List.length_replicate, List.length_replicate⟩⟩
        rw [HB4.out]
        exact hG6.row _)
      have HG6 := Lib.hid (show w4.heap.size ≤ g6 from hg6)
      have HAL := Lib.hid hal
      clear hal hwn hb hg6 hG6 hs5 HN0 HN1 HN2 HN3 HC0 HC1 HC2 HC3
      have q4 := HC4.out _ HAL.out.drew
      go_still_tail 5, (by kernel_rfl)
      change wpList _ _ _ _ _ w8.drew
      refine wpList_copy_x14 rfl (.tmp 34) (.tmp 37) rfl 40 32 g6 _ (HF8.out.below (Below.refl _ _).drew) rfl _ A4 m4 k4 r4 rfl rfl HY.out.2.1 (HRD4.out _ HAL.out.drew) w4.heap.size w4 HAL.out.drew HG6.out ?_
      intro w9 hF9 hb9
      have HF9 := Lib.hid hF9
      have HB9 := Lib.hid hb9
      clear hF9 hb9 q4 HF8 HAL HC4
      go_upto_region 6 with fail
      have q5 := HC5.out _ HB9.out.drew
      go_still_tail 5, (by kernel_rfl)
      change wpList _ _ _ _ _ w9.drew
      refine wpList_copy_y14 rfl (.tmp 40) (.tmp 43) rfl 40 32 g6 _ (HF9.out.below (Below.refl _ _).drew) rfl _ A5 m5 k5 r5 rfl rfl HY.out.2.2 (HRD5.out _ HB9.out.drew) w4.heap.size w4 HB9.out.drew HG6.out ?_
      intro w10 hF10 hb10
      have HF := Lib.hid (show FAt 40 32 w10 g6 R from by
        have h := HR.out
        rw [← h]
        exact hF10)
      have HB10 := Lib.hid hb10
      replace HB2 := Lib.hid (HB2.out.below (hb10.mono (Nat.le_refl _)) HB2.out.lt)
      clear hF10 hb10 q5 HF9 HB9 HC5
      go_upto_region 7 with fail
      have HBT := Lib.hid (HB4W.out.trans (HB10.out.mono HB4W.out.size))
      clear HB4W HB10 HRD4 HRD5
      have HTW := Lib.hid (fun W (h : Below w10.heap.size w10 W) => HTAB.out W (HBT.out.trans (h.mono HBT.out.size)))
      have HPK := Lib.hid (fun W (h : Below w10.heap.size w10 W) => (show Calls Tryd.prog 16 #[.agg RX] W fun e w' => ∃ A c, e = .returned (.slice A PL.length c) ∧ PL.length ≤ c ∧ Rd w' w'.heap.size A PL ∧ Below W.heap.size W w' from by
        have h2 := ppackU_any (w := W) HRW.out HRB.out (HTW.out W h)
        rw [HRX.out, HPL.out] at h2
        exact h2.mono fun _ _ ⟨A, c, h3, h4, _, h5, h6⟩ => ⟨A, c, h3, h4, h5, h6⟩))
      have HEQ := Lib.hid (fun W (h : Below w10.heap.size w10 W) (A' : Option Addr) (c' : Nat) (hr : Rd W W.heap.size A' PL) => equal14_any A' A PL.length n c' c W.heap.size W.heap.size PL l W rfl HL.out hr (HA.out W (HBT.out.trans (h.mono HBT.out.size))))
      clear HTW HTAB HA
      obtain ⟨f0, f1, f2, f3⟩ := HF.out.cells
      rw [HRV.out.1] at f0
      rw [HRV.out.2.1] at f1
      rw [HRV.out.2.2.1] at f2
      rw [HRV.out.2.2.2] at f3
      by_cases hok : (1 ≤ v0 ∧ v0 ≤ v1 ∧ v1 ≤ 16) ∧ 1 ≤ v2 ∧ v2 ≤ 1024 ∧ v3 = 64
      · have HOKX := Lib.hid hok
        obtain ⟨hic, j2, j3, j4⟩ := hok
        have hic2 := decide_eq_true hic
        rw [hic2] at HIC
        go_upto_region 8 with (refine (HIC.out _).mono ?_; rintro e w11 ⟨rfl, rfl⟩)
        clear HIC f0 f1 f2 f3
        by_cases hq : PL = l
        · have e : (PL == l) = true := by rw [hq]; simp
          rw [e] at HEQ
          clear e
          subst hq
          go_upto_region 10 with (first
            | (refine wpList_load_when14 ?_ 40 (.tmp 6) rfl g6 rfl 40 RX _ (by rw [← HRX.out]; exact HF.out.blk) Tryd.underlying40 rfl (by rw [HSR.out.1]; kernel_rfl) ?_; · rfl)
            | ((with_reducible refine (HPK.out _ (Below.refl _ _)).mono ?_); rintro e w12 ⟨A12, c12, rfl, hc12, hr12, hb12⟩)
            | ((with_reducible refine (HEQ.out _ hb12 _ _ hr12).mono ?_); rintro e w13 ⟨rfl, rfl⟩))
          replace HB2 := Lib.hid (HB2.out.below hb12 HB2.out.lt)
          replace HBT := Lib.hid (HBT.out.trans (hb12.mono HBT.out.size))
          replace HF := Lib.hid (HF.out.below hb12)
          clear hb12 hr12 hc12 HPK HEQ
          go_wp2_with (first
            | (refine wpList_load_when14 ?_ 40 (.tmp 6) rfl g6 rfl 40 RX _ (by rw [← HRX.out]; exact HF.out.blk) Tryd.underlying40 rfl (by rw [HSR.out.1]; kernel_rfl) ?_; · rfl)
            | (with_reducible refine wpList_store_blkTo rfl 40 (.tmp 2) (.tmp 75) rfl rfl g2 RX rfl rfl 40 rs2 HB2.out (by rw [HSR.out.1]; kernel_rfl) (by rw [HSR.out.1, HRZ2.out]) HSR.out.2 ?_))
          have hs := below_row HBT.out HBT.out.size HG2.out RX
          refine bodyPost_ret (v := .tuple #[.agg RX, .bool true]) ?_ ?_ ?_
          · refine (results_cell_tmp14 (p := 2) (q := 3) (ty := 40) (by kernel_rfl) _ _ g2 40 _ (0, 0) _ _ ?_ ?_ (HB2.out.row RX) Tryd.underlying40 rfl (by rw [HSR.out.1]; kernel_rfl))
            · rfl
            · rfl
          · rfl
          refine ⟨?_, hs⟩
          rw [HYES.out (by first | rfl | trivial) HOKX.out, ← HRX.out]
          rfl
        · have e : (PL == l) = false := by simp [hq]
          rw [e] at HEQ
          have HNU := Lib.hid (HNO.out fun h => hq h.1)
          clear e
          go_upto_region 9 with (first
            | (refine wpList_load_when14 ?_ 40 (.tmp 6) rfl g6 rfl 40 RX _ (by rw [← HRX.out]; exact HF.out.blk) Tryd.underlying40 rfl (by rw [HSR.out.1]; kernel_rfl) ?_; · rfl)
            | ((with_reducible refine (HPK.out _ (Below.refl _ _)).mono ?_); rintro e w12 ⟨A12, c12, rfl, hc12, hr12, hb12⟩)
            | ((with_reducible refine (HEQ.out _ hb12 _ _ hr12).mono ?_); rintro e w13 ⟨rfl, rfl⟩))
          replace HB2 := Lib.hid (HB2.out.below hb12 HB2.out.lt)
          replace HBT := Lib.hid (HBT.out.trans (hb12.mono HBT.out.size))
          clear hb12 hr12 hc12 HPK HEQ HF
          go_wp2_with (first
            | (refine wpList_build_14 ?_ 40 #[] rfl [] (by simp) ZU _ built_U0 HZE.out ?_; · rfl)
            | (with_reducible refine wpList_store_blkTo rfl 40 (.tmp 2) (.tmp 74) rfl rfl g2 ZU rfl rfl 40 rs2 HB2.out (by rw [HZS.out]; kernel_rfl) (by rw [HZS.out, HRZ2.out]) HZO.out ?_))
          have hs := below_row HBT.out HBT.out.size HG2.out ZU
          refine bodyPost_ret (v := .tuple #[.agg ZU, .bool false]) ?_ ?_ ?_
          · refine (results_cell_tmp14 (p := 2) (q := 3) (ty := 40) (by kernel_rfl) _ _ g2 40 _ (0, 0) _ _ ?_ ?_ (HB2.out.row ZU) Tryd.underlying40 rfl (by rw [HZS.out]; kernel_rfl))
            · rfl
            · rfl
          · rfl
          refine ⟨?_, hs⟩
          rw [HNU.out, ← HZE.out]
          rfl
      · have HNU := Lib.hid (HNO.out fun h => hok h.2)
        clear HPK HEQ
        by_cases z0 : 1 ≤ v0 ∧ v0 ≤ v1 ∧ v1 ≤ 16
        · have hic2 := decide_eq_true z0
          have HIC0 := Lib.hid (fun W => (show Calls Tryd.prog 44 #[.int .i64 v0, .int .i64 v1] W fun e w' => e = .returned (.bool true) ∧ W = w' from hic2 ▸ HIC.out W))
          by_cases z1 : 1 ≤ v2
          · skip
            by_cases z2 : v2 ≤ 1024
            · skip
              by_cases z3 : v3 = 64
              · skip
                exact absurd ⟨z0, z1, z2, z3⟩ hok
              · clear hok
                go_upto_region 8 with (refine (HIC0.out _).mono ?_; rintro e w11 ⟨rfl, rfl⟩)
                first | rw [show decide (v3 = 64) = false from by simp; omega] | rw [show (v3 == 64) = false from by simp; omega] | skip
                clear HIC f0 f1 f2 f3 HYES HNO HRV HR z0 z1 z2 z3 hic2 HIC0
                go_wp2_with (first
                  | (refine wpList_build_14 ?_ 40 #[] rfl [] (by simp) ZU _ built_U0 HZE.out ?_; · rfl)
                  | (with_reducible refine wpList_store_blkTo rfl 40 (.tmp 2) (.tmp 74) rfl rfl g2 ZU rfl rfl 40 rs2 HB2.out (by rw [HZS.out]; kernel_rfl) (by rw [HZS.out, HRZ2.out]) HZO.out ?_))
                have hs := below_row HBT.out HBT.out.size HG2.out ZU
                refine bodyPost_ret (v := .tuple #[.agg ZU, .bool false]) ?_ ?_ ?_
                · refine (results_cell_tmp14 (p := 2) (q := 3) (ty := 40) (by kernel_rfl) _ _ g2 40 _ (0, 0) _ _ ?_ ?_ (HB2.out.row ZU) Tryd.underlying40 rfl (by rw [HZS.out]; kernel_rfl))
                  · rfl
                  · rfl
                · rfl
                refine ⟨?_, hs⟩
                rw [HNU.out, ← HZE.out]
                rfl
            · clear hok
              go_upto_region 8 with (refine (HIC0.out _).mono ?_; rintro e w11 ⟨rfl, rfl⟩)
              clear HIC f0 f1 f2 f3 HYES HNO HRV HR z0 z1 z2 hic2 HIC0
              go_wp2_with (first
                | (refine wpList_build_14 ?_ 40 #[] rfl [] (by simp) ZU _ built_U0 HZE.out ?_; · rfl)
                | (with_reducible refine wpList_store_blkTo rfl 40 (.tmp 2) (.tmp 74) rfl rfl g2 ZU rfl rfl 40 rs2 HB2.out (by rw [HZS.out]; kernel_rfl) (by rw [HZS.out, HRZ2.out]) HZO.out ?_))
              have hs := below_row HBT.out HBT.out.size HG2.out ZU
              refine bodyPost_ret (v := .tuple #[.agg ZU, .bool false]) ?_ ?_ ?_
              · refine (results_cell_tmp14 (p := 2) (q := 3) (ty := 40) (by kernel_rfl) _ _ g2 40 _ (0, 0) _ _ ?_ ?_ (HB2.out.row ZU) Tryd.underlying40 rfl (by rw [HZS.out]; kernel_rfl))
                · rfl
                · rfl
              · rfl
              refine ⟨?_, hs⟩
              rw [HNU.out, ← HZE.out]
              rfl
          · clear hok
            go_upto_region 8 with (refine (HIC0.out _).mono ?_; rintro e w11 ⟨rfl, rfl⟩)
            clear HIC f0 f1 f2 f3 HYES HNO HRV HR z0 z1 hic2 HIC0
            go_wp2_with (first
              | (refine wpList_build_14 ?_ 40 #[] rfl [] (by simp) ZU _ built_U0 HZE.out ?_; · rfl)
              | (with_reducible refine wpList_store_blkTo rfl 40 (.tmp 2) (.tmp 74) rfl rfl g2 ZU rfl rfl 40 rs2 HB2.out (by rw [HZS.out]; kernel_rfl) (by rw [HZS.out, HRZ2.out]) HZO.out ?_))
            have hs := below_row HBT.out HBT.out.size HG2.out ZU
            refine bodyPost_ret (v := .tuple #[.agg ZU, .bool false]) ?_ ?_ ?_
            · refine (results_cell_tmp14 (p := 2) (q := 3) (ty := 40) (by kernel_rfl) _ _ g2 40 _ (0, 0) _ _ ?_ ?_ (HB2.out.row ZU) Tryd.underlying40 rfl (by rw [HZS.out]; kernel_rfl))
              · rfl
              · rfl
            · rfl
            refine ⟨?_, hs⟩
            rw [HNU.out, ← HZE.out]
            rfl
        · have hic2 := decide_eq_false z0
          rw [hic2] at HIC
          go_upto_region 8 with (refine (HIC.out _).mono ?_; rintro e w11 ⟨rfl, rfl⟩)
          clear HIC f0 f1 f2 f3 HYES HNO HRV HR z0 hic2
          go_wp2_with (first
            | (refine wpList_build_14 ?_ 40 #[] rfl [] (by simp) ZU _ built_U0 HZE.out ?_; · rfl)
            | (with_reducible refine wpList_store_blkTo rfl 40 (.tmp 2) (.tmp 74) rfl rfl g2 ZU rfl rfl 40 rs2 HB2.out (by rw [HZS.out]; kernel_rfl) (by rw [HZS.out, HRZ2.out]) HZO.out ?_))
          have hs := below_row HBT.out HBT.out.size HG2.out ZU
          refine bodyPost_ret (v := .tuple #[.agg ZU, .bool false]) ?_ ?_ ?_
          · refine (results_cell_tmp14 (p := 2) (q := 3) (ty := 40) (by kernel_rfl) _ _ g2 40 _ (0, 0) _ _ ?_ ?_ (HB2.out.row ZU) Tryd.underlying40 rfl (by rw [HZS.out]; kernel_rfl))
            · rfl
            · rfl
          · rfl
          refine ⟨?_, hs⟩
          rw [HNU.out, ← HZE.out]
          rfl

end Go.Proofs.YtobealijkbnojaaDoor
